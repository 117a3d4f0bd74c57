/-
  WHAT THE CARDS OF record SHARE: the table of sums as the row lists it, a record by value as the row reads it.
-/
import Derived.Test.YtdonblfidohncaaGreatDoorCards
import Derived.Test.YtdonblfidohncaaGreatDoorTie
import Derived.Test.YtdonblfidohncaaGreatDoorMBase
import Derived.Test.YtdonblfidohncaaGreatDoorMRec
import Derived.Lib.LaidTab
import Derived.Lib.SmallJoins
namespace Go.Proofs.YtdonblfidohncaaGreatDoor.recd
open Go.ChangeShapes Go.WideShapes Go.ChangeAt Go.RowKit Go.Deep Go.Joins Go.Proofs.YtdonblfidohncaaGreatDoor.disk

theorem gTab : Tryz.prog.globalNamed "stillroom/crc.nibbles" = some 1 := by kernel_rfl
theorem gTabType : (Tryz.prog.globals[1]?).map (·.type) = some 171 := by kernel_rfl
theorem cellsTab : Tryz.prog.cellsOf 171 = 16 := by kernel_rfl
theorem cellsOne : Tryz.prog.cellsOf 22 = 1 := by kernel_rfl
theorem tabOf {W : World} (h : laidMetH Tryz.prog [("stillroom/crc.nibbles", Rows.laid_stillroom_crc_nibbles)] W) : crc.Tab W := by
  have t : Lib.TabIs Tryz.prog W "stillroom/crc.nibbles" .u32 crc.table := Lib.tabIs_of_head (rest := []) gTab gTabType Tryz.underlying171 Tryz.underlying22 cellsOne cellsTab h
  intro k hk
  exact t.cell gTab k (by simpa [crc.table] using hk)

theorem bounds_u8 {n : Int} (h : (Lit.int .u8 n).wf = true) : 0 ≤ n ∧ n ≤ 255 := by
  simp [Lit.wf, IntKind.min, IntKind.max, IntKind.signed, IntKind.bits] at h
  omega
theorem nat_u64 {n : Int} (h : (Lit.int .u64 n).wf = true) : 0 ≤ n := by
  simp [Lit.wf, IntKind.min, IntKind.max, IntKind.signed, IntKind.bits] at h
  omega
theorem bounds_u32 {n : Int} (h : (Lit.int .u32 n).wf = true) : 0 ≤ n ∧ n < 4294967296 := by
  simp [Lit.wf, IntKind.min, IntKind.max, IntKind.signed, IntKind.bits] at h
  omega
theorem recCells : Tryz.prog.cellsOf 40 = 6 := by kernel_rfl
set_option maxRecDepth 100000 in
/-- A record that came in. -/
theorem open_rec {H : Type} {enc : TypeId × Value → H} {w : World} {base bx : Nat} {spare : Nat → Bool} {held : Bool} {r : Reach} {v : Value} {d : DataW H} {p : List MemPlace}
    (hv : Value.okWide Tryz.prog w r bx 40 v) (h : DataW.Trod enc Tryz.prog w base spare held 40 v d p) : ∃ x : Rec, v = x.val ∧ x.Fit := by
  obtain ⟨cs, rfl, hsz⟩ := okWide_struct Tryz.underlying40 hv
  obtain ⟨l⟩ := cs
  match l, hsz.trans recCells with
  | [c0, c1, c2, c3, c4, c5], _ =>
    obtain ⟨fuel, hf⟩ := h
    obtain ⟨xs, n, _, hx, _, hlen, hg⟩ := DataW.trod_struct Tryz.underlying40 hf
    match xs, hlen with
    | [y0, y1, y2, y3, y4, y5], _ =>
      have h0 : DataW.trod enc Tryz.prog w base spare held n 3 [c0] = some y0 := by
        have e : Tryz.prog.cellsOf 3 = 1 := by kernel_rfl
        have := hg 0 _ rfl
        simpa [e, Value.cells] using this
      have h1 : DataW.trod enc Tryz.prog w base spare held n 22 [c1] = some y1 := by
        have e : Tryz.prog.cellsOf 22 = 1 := by kernel_rfl
        have := hg 1 _ rfl
        simpa [e, Value.cells] using this
      have h2 : DataW.trod enc Tryz.prog w base spare held n 38 [c2] = some y2 := by
        have e : Tryz.prog.cellsOf 38 = 1 := by kernel_rfl
        have := hg 2 _ rfl
        simpa [e, Value.cells] using this
      have h3 : DataW.trod enc Tryz.prog w base spare held n 38 [c3] = some y3 := by
        have e : Tryz.prog.cellsOf 38 = 1 := by kernel_rfl
        have := hg 3 _ rfl
        simpa [e, Value.cells] using this
      have h4 : DataW.trod enc Tryz.prog w base spare held n 38 [c4] = some y4 := by
        have e : Tryz.prog.cellsOf 38 = 1 := by kernel_rfl
        have := hg 4 _ rfl
        simpa [e, Value.cells] using this
      have h5 : DataW.trod enc Tryz.prog w base spare held n 9 [c5] = some y5 := by
        have e : Tryz.prog.cellsOf 9 = 1 := by kernel_rfl
        have := hg 5 _ rfl
        simpa [e, Value.cells] using this
      obtain ⟨n0, e0, _, b0⟩ := DataW.trod_int Tryz.underlying3 h0
      injection e0 with e0
      subst e0
      obtain ⟨n1, e1, _, b1⟩ := DataW.trod_int Tryz.underlying22 h1
      injection e1 with e1
      subst e1
      obtain ⟨n2, e2, _, b2⟩ := DataW.trod_int Tryz.underlying38 h2
      injection e2 with e2
      subst e2
      obtain ⟨n3, e3, _, b3⟩ := DataW.trod_int Tryz.underlying38 h3
      injection e3 with e3
      subst e3
      obtain ⟨n4, e4, _, b4⟩ := DataW.trod_int Tryz.underlying38 h4
      injection e4 with e4
      subst e4
      obtain ⟨sb, e5, _, b5⟩ := DataW.trod_string Tryz.underlying9 h5
      injection e5 with e5
      subst e5
      obtain ⟨t1, rfl⟩ := Int.eq_ofNat_of_zero_le (bounds_u32 b1).1
      obtain ⟨t2, rfl⟩ := Int.eq_ofNat_of_zero_le (nat_u64 b2)
      obtain ⟨t3, rfl⟩ := Int.eq_ofNat_of_zero_le (nat_u64 b3)
      obtain ⟨t4, rfl⟩ := Int.eq_ofNat_of_zero_le (nat_u64 b4)
      exact ⟨⟨n0, t1, t2, t3, t4, sb⟩, rfl, ⟨bounds_i64 b0, by have := (bounds_u32 b1).2; show t1 < 4294967296; omega, b5⟩⟩
end Go.Proofs.YtdonblfidohncaaGreatDoor.recd
