/-
  THE WALKS OF crc (P1.1): what each function of it answers.
-/
import Derived.Test.YtodajceiadbpeaaDoorRows
import Derived.Test.YtodajceiadbpeaaDoorCrcXor
import Derived.WalkKit
import Derived.WalkSpells
import Derived.WalkLawsBesides
import Derived.Outline
import Derived.LoopTactic
import Derived.Below
import Derived.Lib.Hide
namespace Go.Proofs.YtodajceiadbpeaaDoor.crc
open Go.RowKit

/-- The table's cells. -/
def Tab (w : World) : Prop := ∀ k, k < 16 → w.cell? ⟨0, k, none⟩ = some (.int .u32 (table.getD k 0))


theorem u32_xor_bv (x y : BitVec 32) : bits .xor .u32 (x.toNat : Int) (y.toNat : Int) = ((x ^^^ y).toNat : Int) := by
  rw [u32_xor_nat _ _ x.isLt y.isLt, BitVec.toNat_xor]
theorem u32_xor_byte (x : BitVec 32) (c : Int) (h : 0 ≤ c ∧ c < 256) : bits .xor .u32 (x.toNat : Int) c = ((x ^^^ BitVec.ofInt 32 c).toNat : Int) := by
  have e : c = ((BitVec.ofInt 32 c).toNat : Int) := by
    obtain ⟨n, rfl⟩ := Int.eq_ofNat_of_zero_le h.1
    rw [BitVec.ofInt_natCast, BitVec.toNat_ofNat, Nat.mod_eq_of_lt (by omega)]
  conv => lhs; rw [e]
  exact u32_xor_bv _ _
theorem u32_and15 (x : BitVec 32) : bits .and .u32 (x.toNat : Int) 15 = ((x.toNat % 16 : Nat) : Int) := by
  have := u32_and_nat x.toNat 15 x.isLt (by decide)
  rw [show ((15 : Nat) : Int) = 15 from rfl] at this
  rw [this]
  congr 1
  exact Nat.and_two_pow_sub_one_eq_mod x.toNat 4
theorem tab_at {w : World} (hT : Tab w) (x : BitVec 32) : ∃ T : BitVec 32, w.cell? ⟨0, x.toNat % 16, none⟩ = some (.int .u32 (T.toNat : Int)) ∧ T ^^^ (x >>> 4) = bits4 x := by
  have hk : x.toNat % 16 < 16 := Nat.mod_lt _ (by decide)
  refine ⟨BitVec.ofInt 32 (table.getD (x.toNat % 16) 0), ?_, nibble x⟩
  rw [hT _ hk]
  obtain ⟨h0, h1⟩ := table_small ⟨x.toNat % 16, hk⟩
  simp only at h0 h1
  obtain ⟨n, hn⟩ := Int.eq_ofNat_of_zero_le h0
  rw [hn] at h1 ⊢
  rw [BitVec.ofInt_natCast, BitVec.toNat_ofNat, Nat.mod_eq_of_lt (by omega)]

theorem u32_xor_sh (T x : BitVec 32) : bits .xor .u32 (T.toNat : Int) ((x.toNat : Int) / 16) = ((T ^^^ (x >>> 4)).toNat : Int) := by
  have e : (x.toNat : Int) / 16 = ((x >>> 4).toNat : Int) := by
    rw [BitVec.toNat_ushiftRight, Nat.shiftRight_eq_div_pow]; rfl
  exact (congrArg (bits .xor .u32 (T.toNat : Int)) e).trans (u32_xor_bv _ _)

theorem addByte_any (s : BitVec 32) (c : Int) (hc : 0 ≤ c ∧ c < 256) (w : World) (hT : Tab w) :
    Calls Tryd.prog 35 #[.int .u32 (s.toNat : Int), .int .u8 c] w fun e w' => e = .returned (.int .u32 ((step s c).toNat : Int)) ∧ w = w' := by
  have e1 := u32_xor_byte s c hc
  have HR : Hid (step s c = bits4 (bits4 (s ^^^ BitVec.ofInt 32 c))) := rfl
  generalize s ^^^ BitVec.ofInt 32 c = x at e1 HR
  obtain ⟨T1, c1, j1⟩ := tab_at hT x
  have e2 := u32_and15 x
  have e3 := u32_xor_sh T1 x
  rw [j1] at e3
  clear j1
  generalize bits4 x = y at e3 HR
  generalize hk1 : x.toNat % 16 = k1 at e2 c1
  have hk1' : k1 < 16 := by omega
  clear hk1
  obtain ⟨T2, c2, j2⟩ := tab_at hT y
  have e4 := u32_and15 y
  have e5 := u32_xor_sh T2 y
  rw [j2] at e5
  clear j2
  generalize bits4 y = z at e5 HR
  generalize hk2 : y.toNat % 16 = k2 at e4 c2
  have hk2' : k2 < 16 := by omega
  clear hk2
  go_enter Tryd.func35, Tryd.ntmps35
  go_wp2
  go_ret
  exact ⟨by rw [HR.out]; rfl, rfl⟩

/-- A list of bytes that a slice leads to: what may be read of it. -/
def Bytes (w : World) (a : Option Addr) (l : List Int) : Prop :=
  l = [] ∨ ∃ b off, a = some ⟨b, off, none⟩ ∧ ∀ i, i < l.length → w.cell? ⟨b, off + i, none⟩ = some (.int .u8 (l.getD i 0))
theorem not_u32 (x : BitVec 32) : bits .xor .u32 IntKind.u32.max (x.toNat : Int) = ((~~~ x).toNat : Int) := by
  have := u32_xor_bv (BitVec.allOnes 32) x
  rw [BitVec.allOnes_xor] at this
  exact this

theorem run_take (s : BitVec 32) (l : List Int) (k : Nat) (hk : k < l.length) : run s (l.take (k + 1)) = step (run s (l.take k)) (l.getD k 0) := by
  rw [List.take_succ_eq_append_getElem hk, run_snoc, List.getD_eq_getElem?_getD, List.getElem?_eq_getElem hk]; rfl

theorem ret_u32 {a b : BitVec 32} (h : a = b) : Ending.returned (.int .u32 (a.toNat : Int)) = .returned (.int .u32 (b.toNat : Int)) := by rw [h]

theorem more_any (s : BitVec 32) (a : Option Addr) (l : List Int) (cap : Nat) (w : World) (hT : Tab w) (hB : Bytes w a l) (hb : Byte l) (hl : l.length ≤ 9223372036854775807) :
    Calls Tryd.prog 33 #[.int .u32 (s.toNat : Int), .slice a l.length cap] w fun e w' => e = .returned (.int .u32 ((more s l).toNat : Int)) ∧ w = w' := by
  have e1 := not_u32 s
  have HM : Hid (more s l = ~~~ run (~~~ s) l) := rfl
  generalize ~~~ s = t at e1 HM
  rcases hB with rfl | ⟨b, off, rfl, hcell⟩
  · have e2 := not_u32 t
    have HM' : Hid (more s [] = ~~~ t) := HM.out
    clear HM
    generalize ~~~ t = q at e2 HM'
    go_enter Tryd.func33, Tryd.ntmps33
    go_wp2_with fail
    go_loop [0, 11] (fun s0 i => s0 = .int .u32 (t.toNat : Int) ∧ i = .int .i64 0) (fun _ i => 0 - (intOf i).toNat)
    case atStart => exact ⟨rfl, rfl⟩
    case round =>
      obtain ⟨rfl, rfl⟩ := hrel
      go_wp2
      go_ret
      exact ⟨by rw [HM'.out]; rfl, rfl⟩
  · generalize hn : l.length = n at hcell hl
    have HN := Lib.hid hn; clear hn
    have hat : ∀ k, k < n → 0 ≤ l.getD k 0 ∧ l.getD k 0 < 256 := fun k hk => hb.at (by rw [HN.out]; exact hk)
    have hst : ∀ k, k < n → run t (l.take (k + 1)) = step (run t (l.take k)) (l.getD k 0) := fun k hk => run_take t l k (by rw [HN.out]; exact hk)
    have hend : run t (l.take n) = run t l := by rw [← HN.out, List.take_length]
    have Hat := Lib.hid hat
    have Hst := Lib.hid hst
    have Hcell := Lib.hid hcell
    have Hend := Lib.hid hend
    clear hat hst hcell hend
    go_enter Tryd.func33, Tryd.ntmps33
    go_wp2_with fail
    go_loop [0, 11] (fun s0 i => ∃ k : Nat, k ≤ n ∧ i = .int .i64 k ∧ s0 = .int .u32 ((run t (l.take k)).toNat : Int)) (fun _ i => n - (intOf i).toNat)
    case atStart => exact ⟨0, Nat.zero_le _, rfl, rfl⟩
    case round =>
      obtain ⟨k, hk, rfl, rfl⟩ := hrel
      by_cases hlt : k < n
      · have hc := Hcell.out k hlt
        have hby := Hat.out k hlt
        have hs := Hst.out k hlt
        generalize l.getD k 0 = c at hc hby hs
        have HS := Lib.hid hs; clear hs
        generalize run t (l.take k) = r at HS
        go_wp2_with (go_at_call 35; refine (addByte_any r c hby w hT).mono ?_; rintro e w' ⟨rfl, rfl⟩)
        go_round
        case rel => exact ⟨k + 1, by omega, by go_num, by rw [HS.out]⟩
        case measure => simp [intOf]; omega
      · have hkn : k = n := by omega
        subst hkn
        have hE := Hend.out
        rw [hE]
        clear hE Hend Hst
        have e2 := not_u32 (run t l)
        generalize run t l = r at e2 HM
        generalize ~~~ r = q at e2 HM
        go_wp2
        go_ret
        exact ⟨by rw [HM.out]; rfl, rfl⟩

theorem sum_any (a : Option Addr) (l : List Int) (cap : Nat) (w : World) (hT : Tab w) (hB : Bytes w a l) (hb : Byte l) (hl : l.length ≤ 9223372036854775807) :
    Calls Tryd.prog 34 #[.slice a l.length cap] w fun e w' => e = .returned (.int .u32 ((sum l).toNat : Int)) ∧ w = w' := by
  have c := more_any 0#32 a l cap w hT hB hb hl
  rw [show (((0#32 : BitVec 32).toNat : Nat) : Int) = 0 from rfl, show more 0#32 l = sum l from rfl] at c
  generalize l.length = n at c
  have C := Lib.hid c; clear c
  go_enter Tryd.func34, Tryd.ntmps34
  go_wp2_with (go_at_call 33; refine C.out.mono ?_; rintro e w' ⟨rfl, rfl⟩)
  go_ret
  exact ⟨rfl, rfl⟩
end Go.Proofs.YtodajceiadbpeaaDoor.crc
