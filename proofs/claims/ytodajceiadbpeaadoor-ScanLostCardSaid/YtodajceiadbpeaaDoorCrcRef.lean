/-
  THE WALK OF THE REFERENCE's SUM (bit by bit): it answers what 'crc.Sum' does.
-/
import Derived.Test.YtodajceiadbpeaaDoorCrcShort
namespace Go.Proofs.YtodajceiadbpeaaDoor.crc
open Go.RowKit

def bitn : Nat → BitVec 32 → BitVec 32
  | 0, x => x
  | k + 1, x => bit (bitn k x)
theorem bitn_eight (x : BitVec 32) : bitn 8 x = bits8 x := rfl

theorem odd_of {x : BitVec 32} (h : x.getLsbD 0 = true) : (x.toNat : Int) % 2 = 1 := by
  have h' : x.toNat.testBit 0 = true := h
  rw [Nat.testBit_zero] at h'
  simp at h'; omega
theorem even_of {x : BitVec 32} (h : ¬ x.getLsbD 0 = true) : (x.toNat : Int) % 2 = 0 := by
  have h' : ¬ x.toNat.testBit 0 = true := h
  rw [Nat.testBit_zero] at h'
  simp at h'; omega
theorem half (x : BitVec 32) : (x.toNat : Int) / (2 : Int) = ((x >>> 1).toNat : Int) := by
  rw [BitVec.toNat_ushiftRight, Nat.shiftRight_eq_div_pow]; rfl
theorem half_xor (x : BitVec 32) : bits .xor .u32 ((x.toNat : Int) / 2) 2197175160 = (((x >>> 1) ^^^ poly).toNat : Int) :=
  (congrArg (fun t => bits .xor .u32 t 2197175160) (half x)).trans (u32_xor_bv (x >>> 1) poly)

theorem bit_odd {x : BitVec 32} (h : x.getLsbD 0 = true) : bit x = (x >>> 1) ^^^ poly := by
  unfold bit; rw [if_pos h]

theorem ref_any (a : Option Addr) (l : List Int) (cap : Nat) (w : World) (hB : Bytes w a l) (hb : Byte l) (hl : l.length ≤ 9223372036854775807) :
    Calls Tryd.prog 22 #[.slice a l.length cap] w fun e w' => e = .returned (.int .u32 ((sum l).toNat : Int)) ∧ w = w' := by
  have HM : Hid (sum l = ~~~ run 4294967295#32 l) := rfl
  rcases hB with rfl | ⟨b, off, rfl, hcell⟩
  · go_enter Tryd.func22, Tryd.ntmps22
    go_wp2_with fail
    go_loop [3, 4] (fun s0 i => s0 = .int .u32 4294967295 ∧ i = .int .i64 0) (fun _ i => 0 - (intOf i).toNat)
    case atStart => exact ⟨rfl, rfl⟩
    case round =>
      obtain ⟨rfl, rfl⟩ := hrel
      go_wp2
      go_ret
      exact ⟨by rw [HM.out]; rfl, rfl⟩
  · generalize hn : l.length = n at hcell hl
    have HN := Lib.hid hn; clear hn
    have hat : ∀ k, k < n → 0 ≤ l.getD k 0 ∧ l.getD k 0 < 256 := fun k hk => hb.at (by rw [HN.out]; exact hk)
    have hst : ∀ k, k < n → run 4294967295#32 (l.take (k + 1)) = step (run 4294967295#32 (l.take k)) (l.getD k 0) := fun k hk => run_take _ l k (by rw [HN.out]; exact hk)
    have hend : run 4294967295#32 (l.take n) = run 4294967295#32 l := by rw [← HN.out, List.take_length]
    have Hat := Lib.hid hat
    have Hst := Lib.hid hst
    have Hcell := Lib.hid hcell
    have Hend := Lib.hid hend
    clear hat hst hcell hend
    go_enter Tryd.func22, Tryd.ntmps22
    go_wp2_with fail
    go_loop [3, 4] (fun s0 i => ∃ k : Nat, k ≤ n ∧ i = .int .i64 k ∧ s0 = .int .u32 ((run 4294967295#32 (l.take k)).toNat : Int)) (fun _ i => n - (intOf i).toNat)
    case atStart => exact ⟨0, Nat.zero_le _, rfl, rfl⟩
    case round =>
      obtain ⟨k, hk, rfl, rfl⟩ := hrel
      by_cases hlt : k < n
      · have hc := Hcell.out k hlt
        have hby := Hat.out k hlt
        have hs := Hst.out k hlt
        generalize l.getD k 0 = c at hc hby hs
        generalize run 4294967295#32 (l.take k) = r at hs
        have hx := u32_xor_byte r c hby
        have HS : Hid (run 4294967295#32 (l.take (k + 1)) = bitn 8 (r ^^^ BitVec.ofInt 32 c)) := hs
        clear hs
        generalize r ^^^ BitVec.ofInt 32 c = x at hx HS
        go_wp2_with fail
        go_loop [3, 5] (fun s0 i => ∃ j : Nat, j ≤ 8 ∧ i = .int .i64 j ∧ s0 = .int .u32 ((bitn j x).toNat : Int)) (fun _ i => 8 - (intOf i).toNat)
        case atStart => exact ⟨0, Nat.zero_le _, rfl, rfl⟩
        case round =>
          obtain ⟨j, hj, rfl, rfl⟩ := hrel
          by_cases hlj : j < 8
          · have HB : Hid (bitn (j + 1) x = bit (bitn j x)) := rfl
            generalize bitn j x = y at HB
            by_cases hy : y.getLsbD 0 = true
            · have h1 := odd_of hy
              have h2 := half_xor y
              have HZ : Hid (bitn (j + 1) x = (y >>> 1) ^^^ poly) := by rw [HB.out]; exact bit_odd hy
              clear HB hy
              generalize (y >>> 1) ^^^ poly = z at h2 HZ
              go_wp2
              go_round
              case rel => exact ⟨j + 1, by omega, by go_num, by rw [HZ.out]⟩
              case measure => simp [intOf]; omega
            · have h1 := even_of hy
              have h2 := half y
              have HZ : Hid (bitn (j + 1) x = y >>> 1) := by rw [HB.out]; exact bit_even (by simpa using hy)
              clear HB hy
              generalize y >>> 1 = z at h2 HZ
              go_wp2
              go_round
              case rel => exact ⟨j + 1, by omega, by go_num, by rw [HZ.out]⟩
              case measure => simp [intOf]; omega
          · have hj8 : j = 8 := by omega
            subst hj8
            have hs := HS.out
            rw [← hs]
            go_wp2
            go_round
            case rel => exact ⟨k + 1, by omega, by go_num, rfl⟩
            case measure => simp [intOf]; omega
      · have hkn : k = n := by omega
        subst hkn
        have hE := Hend.out
        rw [hE]
        clear hE Hend Hst
        have e2 := not_u32 (run 4294967295#32 l)
        generalize run 4294967295#32 l = r at e2 HM
        generalize ~~~ r = q at e2 HM
        go_wp2
        go_ret
        exact ⟨by rw [HM.out]; rfl, rfl⟩
theorem ref_at (a : Option Addr) (l : List Int) (n cap : Nat) (w : World) (hn : l.length = n) (hm : n ≤ 9223372036854775807) (hB : Bytes w a l) (hb : Byte l) :
    Calls Tryd.prog 22 #[.slice a n cap] w fun e w' => e = .returned (.int .u32 ((sum l).toNat : Int)) ∧ w = w' := by
  subst hn; exact ref_any a l cap w hB hb hm
end Go.Proofs.YtodajceiadbpeaaDoor.crc
