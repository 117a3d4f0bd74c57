/-
  SLICES OF RECORDS AND OF SLICES OF BYTES as a row reads them; CONTRACT of stillroomlaw6.Good: records that may be.
-/
import Derived.Test.YtodajceiadbpeaaDoorScFind
import Derived.Test.YtodajceiadbpeaaDoorRowIn
import Derived.Test.YtodajceiadbpeaaDoorRcLaw
import Derived.Test.YtodajceiadbpeaaDoorRcLawB
namespace Go.Proofs.YtodajceiadbpeaaDoor.scan
open Go.RowKit Go.Proofs.YtodajceiadbpeaaDoor.disk Go.Proofs.YtodajceiadbpeaaDoor.recd Go.Proofs.YtodajceiadbpeaaDoor.num
set_option linter.unusedVariables false

def fRec : Form Rec := { e := 32, s := 22, sz := 6, by_ := 56, cells := Rec.cells, zero := zrec, under := Tryd.underlying22, info := by kernel_rfl, zeros := rfl, some_ := by decide, small := by decide, length := fun _ => rfl, one := rec_one }

instance : Inhabited Rec := ⟨zeroRec⟩
/-- A slice of records that came in. -/
structure RecRow (w : World) (a : Option Addr) (len cap : Nat) (rs : Nat → Rec) : Prop where
  most : len ≤ 9223372036854775807
  cells : len = 0 ∨ ∃ b off, a = some ⟨b, off, none⟩ ∧ ∀ i, i < len → ∀ j v, ((rs i).cells)[j]? = some v → w.cell? ⟨b, off + i * 6 + j, none⟩ = some v
  fit : ∀ i, i < len → (rs i).Fit
theorem RecRow.later {w w' : World} {a : Option Addr} {len cap : Nat} {rs : Nat → Rec} (h : RecRow w a len cap rs) (hb : Below w.heap.size w w') : RecRow w' a len cap rs := by
  refine ⟨h.most, ?_, h.fit⟩
  rcases h.cells with h0 | ⟨b, off, e, hc⟩
  · exact .inl h0
  · refine .inr ⟨b, off, e, fun i hi j v hv => ?_⟩
    have := hc i hi j v hv
    exact (hb.cell (p := ⟨b, off + i * 6 + j, none⟩) (block_lt_of_cell this)).trans this

/-- What Good keeps: records that may be, none long. -/
def GoodR (r : Rec) : Prop := mayB r = true ∧ r.tenant < 4294967296 ∧ r.body.size ≤ 200
def GoodOut (w : World) (n : Nat) (e : Ending) (w' : World) : Prop := ∃ gs, MadeS fRec w gs e w' ∧ gs.length ≤ n ∧ ∀ r ∈ gs, GoodR r

theorem whole6 {W : World} {p : Nat} {v0 v1 v2 v3 v4 v5 : Value} (h : Whole W p 32 [v0, v1, v2, v3, v4, v5]) :
    W.cell? ⟨p, 0, none⟩ = some v0 ∧ W.cell? ⟨p, 1, none⟩ = some v1 ∧ W.cell? ⟨p, 2, none⟩ = some v2 ∧ W.cell? ⟨p, 3, none⟩ = some v3 ∧ W.cell? ⟨p, 4, none⟩ = some v4 ∧ W.cell? ⟨p, 5, none⟩ = some v5 :=
  ⟨h.at_ 0, h.at_ 1, h.at_ 2, h.at_ 3, h.at_ 4, h.at_ 5⟩

set_option maxRecDepth 100000 in
set_option maxHeartbeats 2000000 in
theorem Good_any (a : Option Addr) (len cap : Nat) (rs : Nat → Rec) (w : World) (hr : RecRow w a len cap rs) (n : Nat) (hn : n ≤ 100) :
    Calls Tryd.prog 8 #[.slice a len cap, .int .i64 (n : Int)] w (GoodOut w n) := by
  have HR := Lib.hid hr
  have hlm := hr.most
  clear hr
  go_enter Tryd.func8, Tryd.ntmps8
  go_wp2_with fail
  go_loopw [5, 6, 7] (fun v i _ wr => ∃ (gs : List Rec) (q : Nat), i = .int .i64 (q : Int) ∧ q ≤ len ∧ gs.length ≤ n ∧ (∀ r ∈ gs, GoodR r) ∧ GrowS fRec w gs v wr) (fun _ i _ _ => ((len : Int) - intOf i).toNat)
  case atStart => exact ⟨[], 0, rfl, Nat.zero_le _, Nat.zero_le _, (fun r hr => by cases hr), GrowS.start fRec w⟩
  case round =>
    obtain ⟨gs, q, rfl, hq, hgn, hgood, hg⟩ := hrel
    obtain ⟨av, cv, rfl⟩ : ∃ a c, u5 = .slice a gs.length c := by
      rcases hg.own.form with ⟨e, e2⟩ | ⟨g, cap, e, _⟩
      · subst e2; exact ⟨_, _, e⟩
      · exact ⟨_, _, e⟩
    obtain ⟨m, hm⟩ : ∃ m, gs.length = m := ⟨_, rfl⟩
    rw [hm] at hgn hg
    by_cases hql : q < len
    · have hqI : (q : Int) < (len : Int) := by omega
      by_cases hmn : m < n
      · have hmI : (m : Int) < (n : Int) := by omega
        obtain ⟨b, off, rfl, hcells⟩ : ∃ b off, a = some ⟨b, off, none⟩ ∧ ∀ i, i < len → ∀ j v, ((rs i).cells)[j]? = some v → wr.cell? ⟨b, off + i * 6 + j, none⟩ = some v := by
          rcases (HR.out.later hg.below).cells with h | h
          · omega
          · exact h
        have hfit := HR.out.fit q hql
        have hc := hcells q hql
        have CC := fun W => cutRec_any (rs q) 200 (by decide) hfit W
        have hcf : (cutR (rs q) 200).Fit := ⟨hfit.kind, hfit.tenant, by have := cutS_size (rs q).body 200; show (cutS (rs q).body 200).size ≤ maxLen; unfold maxLen; omega⟩
        have hgr : mayB (cutR (rs q) 200) = true → GoodR (cutR (rs q) 200) := fun h => ⟨h, hfit.tenant, by have := cutS_size (rs q).body 200; show (cutS (rs q).body 200).size ≤ 200; omega⟩
        obtain ⟨x, hx⟩ : ∃ x, rs q = x := ⟨_, rfl⟩
        obtain ⟨y, hy⟩ : ∃ y, cutR (rs q) 200 = y := ⟨_, rfl⟩
        rw [hy] at CC hcf hgr
        rw [hx] at hc CC
        clear hx hy hcells hfit
        have CM := fun W => rMay_any y W hcf
        obtain ⟨k, t, e, o, s, bd⟩ := x
        have c0 : wr.cell? ⟨b, off + q * 6, none⟩ = some (.int .i64 k) := hc 0 _ rfl
        have c1 : wr.cell? ⟨b, off + q * 6 + 1, none⟩ = some (.int .u32 (t : Int)) := hc 1 _ rfl
        have c2 : wr.cell? ⟨b, off + q * 6 + 2, none⟩ = some (.int .u64 (e : Int)) := hc 2 _ rfl
        have c3 : wr.cell? ⟨b, off + q * 6 + 3, none⟩ = some (.int .u64 (o : Int)) := hc 3 _ rfl
        have c4 : wr.cell? ⟨b, off + q * 6 + 4, none⟩ = some (.int .u64 (s : Int)) := hc 4 _ rfl
        have c5 : wr.cell? ⟨b, off + q * 6 + 5, none⟩ = some (.string bd) := hc 5 _ rfl
        obtain ⟨k2, t2, e2, o2, s2, b2⟩ := y
        unfold Rec.val at CC CM
        simp only at CC CM
        have HCC := Lib.hid CC
        have HCM := Lib.hid CM
        have HG := Lib.hid hg
        have HGR := Lib.hid hgr
        have HGD := Lib.hid hgood
        have HM := Lib.hid hm
        rw [hm]
        clear CC CM hg hgr hgood hc hcf hm
        go_wp2_with fail
        refine (HCC.out _).mono ?_
        rintro en w1 ⟨rfl, b1⟩
        clear c0 c1 c2 c3 c4 c5
        obtain ⟨p, hp⟩ : ∃ p, w1.heap.size = p := ⟨_, rfl⟩
        have wh : Whole (w1.alloc (.cells #[.int .i64 k2, .int .u32 (t2 : Int), .int .u64 (e2 : Int), .int .u64 (o2 : Int), .int .u64 (s2 : Int), .string b2] 32)) p 32 [.int .i64 k2, .int .u32 (t2 : Int), .int .u64 (e2 : Int), .int .u64 (o2 : Int), .int .u64 (s2 : Int), .string b2] := Whole.new_ hp.symm rfl
        have G1 := (HG.out.later b1).later (w1 := w1.alloc (.cells #[.int .i64 k2, .int .u32 (t2 : Int), .int .u64 (e2 : Int), .int .u64 (o2 : Int), .int .u64 (s2 : Int), .string b2] 32)) ((Below.refl _ _).alloc (Nat.le_refl _) _)
        have WH := Lib.hid wh
        have HP := Lib.hid hp
        have HG1 := Lib.hid G1
        clear b1 wh HG HCC G1
        go_wp2_with fail
        refine (HCM.out _).mono ?_
        rintro en w2 ⟨rfl, b2'⟩
        obtain ⟨z0, z1, z2, z3, z4, z5⟩ := whole6 (WH.out.kept b2')
        have G2 := HG1.out.later b2'
        obtain ⟨mb, hmb⟩ : ∃ mb, mayB ⟨k2, t2, e2, o2, s2, b2⟩ = mb := ⟨_, rfl⟩
        rw [hmb] at HGR ⊢
        cases mb with
        | true =>
          obtain ⟨v', w3, r3, g3⟩ := G2.put ⟨k2, t2, e2, o2, s2, b2⟩ w2.heap.size 1 rfl (by rw [HM.out]; omega)
          have fin : ∃ (gs : List Rec) (q2 : Nat), Value.int .i64 ((q : Int) + 1) = .int .i64 (q2 : Int) ∧ q2 ≤ len ∧ gs.length ≤ n ∧ (∀ r ∈ gs, GoodR r) ∧ GrowS fRec w gs v' w3 := by
            refine ⟨_, q + 1, by rw [Int.natCast_add]; rfl, by omega, by rw [List.length_append, HM.out]; simp; omega, ?_, g3⟩
            intro r hr
            rcases List.mem_append.1 hr with hr | hr
            · exact HGD.out r hr
            · rw [List.mem_singleton.1 hr]; exact HGR.out rfl
          have R3 := Lib.hid r3
          have FIN := Lib.hid fin
          clear r3 g3 fin G2 HG1 WH b2' HGD HGR HCM hmb
          go_wp2_with ((with_reducible show wpList _ _ _ (⟨some 30, _, _, _, _, _⟩ :: _) _ _); refine wpList_append_of 22 22 (.tmp 27) (.tmp 29) _ _ rfl rfl rfl rfl rfl R3.out ?_)
          refine ⟨FIN.out, ?_⟩
          show ((len : Int) - ((q : Int) + 1)).toNat < ((len : Int) - (q : Int)).toNat
          omega
        | false =>
          have fin : ∃ (gs : List Rec) (q2 : Nat), Value.int .i64 ((q : Int) + 1) = .int .i64 (q2 : Int) ∧ q2 ≤ len ∧ gs.length ≤ n ∧ (∀ r ∈ gs, GoodR r) ∧ GrowS fRec w gs (.slice av m cv) w2 := ⟨gs, q + 1, by rw [Int.natCast_add]; rfl, by omega, by rw [HM.out]; omega, HGD.out, G2⟩
          have FIN := Lib.hid fin
          clear fin G2 HG1 WH b2' HGD HGR HCM hmb z0 z1 z2 z3 z4 z5
          go_wp2_with fail
          refine ⟨FIN.out, ?_⟩
          show ((len : Int) - ((q : Int) + 1)).toNat < ((len : Int) - (q : Int)).toNat
          omega
      · have hmI : ¬ (m : Int) < (n : Int) := by omega
        have fin : GoodOut w n (.returned (.slice av m cv)) wr := ⟨gs, ⟨_, rfl, hg⟩, by omega, hgood⟩
        have FIN := Lib.hid fin
        clear fin hg hgood
        rw [hm]
        clear hm
        go_wp2_with fail
        go_ret
        exact FIN.out
    · have hqI : ¬ (q : Int) < (len : Int) := by omega
      have fin : GoodOut w n (.returned (.slice av m cv)) wr := ⟨gs, ⟨_, rfl, hg⟩, by omega, hgood⟩
      have FIN := Lib.hid fin
      clear fin hg hgood
      rw [hm]
      clear hm
      go_wp2_with fail
      go_ret
      exact FIN.out
end Go.Proofs.YtodajceiadbpeaaDoor.scan
