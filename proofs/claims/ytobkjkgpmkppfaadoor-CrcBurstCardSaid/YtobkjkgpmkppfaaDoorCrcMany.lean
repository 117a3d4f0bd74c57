/-
  THE WALK OF 'CrcMany': a text that comes in any pieces has one sum.
-/
import Derived.Test.YtobkjkgpmkppfaaDoorCrcRef
namespace Go.Proofs.YtobkjkgpmkppfaaDoor.crc
open Go.RowKit

/-- A slice of bytes that came in: it reads as l. -/
structure Row (w : World) (a : Option Addr) (len cap : Nat) (l : List Int) : Prop where
  length : l.length = len
  le : len ≤ cap
  most : cap ≤ 9223372036854775807
  nil : a = none → len = 0 ∧ cap = 0
  bytes : Bytes w a l
  byte : Byte l

theorem Bytes.take {w : World} {a : Option Addr} {l : List Int} (h : Bytes w a l) (n : Nat) : Bytes w a (l.take n) := by
  rcases h with rfl | ⟨b, off, rfl, hc⟩
  · exact .inl (by simp)
  · refine .inr ⟨b, off, rfl, fun i hi => ?_⟩
    rw [List.length_take] at hi
    rw [hc i (by omega), List.getD_eq_getElem?_getD, List.getD_eq_getElem?_getD, List.getElem?_take_of_lt (by omega)]
theorem Bytes.drop {w : World} {b off : Nat} {l : List Int} (h : Bytes w (some ⟨b, off, none⟩) l) (n : Nat) : Bytes w (some ⟨b, off + n, none⟩) (l.drop n) := by
  rcases h with rfl | ⟨b', off', e, hc⟩
  · exact .inl (by simp)
  · obtain ⟨rfl, rfl⟩ : b = b' ∧ off = off' := by simpa using e
    refine .inr ⟨b, off + n, rfl, fun i hi => ?_⟩
    rw [List.length_drop] at hi
    rw [Nat.add_assoc, hc (n + i) (by omega), List.getD_eq_getElem?_getD, List.getD_eq_getElem?_getD, List.getElem?_drop]
theorem Byte.take {l : List Int} (h : Byte l) (n : Nat) : Byte (l.take n) := fun c hc => h c (List.mem_of_mem_take hc)
theorem Byte.drop {l : List Int} (h : Byte l) (n : Nat) : Byte (l.drop n) := fun c hc => h c (List.mem_of_mem_drop hc)
theorem Row.short {w : World} {a : Option Addr} {len cap : Nat} {l : List Int} (h : Row w a len cap l) (n : Nat) : Row w a (min len n) cap (l.take n) :=
  ⟨by rw [List.length_take, h.length]; omega, by have := h.le; omega, h.most, fun e => by have := h.nil e; omega, h.bytes.take n, h.byte.take n⟩
theorem Row.later {w w' : World} {a : Option Addr} {len cap : Nat} {l : List Int} (h : Row w a len cap l) (hb : Below w.heap.size w w') : Row w' a len cap l :=
  ⟨h.length, h.le, h.most, h.nil, h.bytes.later hb, h.byte⟩

theorem sum_at (a : Option Addr) (l : List Int) (n cap : Nat) (w : World) (hn : l.length = n) (hm : n ≤ 9223372036854775807) (hT : Tab w) (hB : Bytes w a l) (hb : Byte l) :
    Calls Tryd.prog 9 #[.slice a n cap] w fun e w' => e = .returned (.int .u32 ((sum l).toNat : Int)) ∧ w = w' := by
  subst hn; exact sum_any a l cap w hT hB hb hm
theorem more_at (s : BitVec 32) (a : Option Addr) (l : List Int) (n cap : Nat) (w : World) (hn : l.length = n) (hm : n ≤ 9223372036854775807) (hT : Tab w) (hB : Bytes w a l) (hb : Byte l) :
    Calls Tryd.prog 10 #[.int .u32 (s.toNat : Int), .slice a n cap] w fun e w' => e = .returned (.int .u32 ((more s l).toNat : Int)) ∧ w = w' := by
  subst hn; exact more_any s a l cap w hT hB hb hm

/-- A slice of numbers that came in. -/
structure Nums (w : World) (a : Option Addr) (len : Nat) (l : List Int) : Prop where
  length : l.length = len
  most : len ≤ 9223372036854775807
  cells : len = 0 ∨ ∃ b off, a = some ⟨b, off, none⟩ ∧ ∀ i, i < len → w.cell? ⟨b, off + i, none⟩ = some (.int .i64 (l.getD i 0))
  small : ∀ i, i < len → -9223372036854775808 ≤ l.getD i 0 ∧ l.getD i 0 ≤ 9223372036854775807

theorem lt_of_cell {w : World} {b o : Nat} {v : Value} (h : w.cell? ⟨b, o, none⟩ = some v) : b < w.heap.size := by
  rcases Nat.lt_or_ge b w.heap.size with h' | h'
  · exact h'
  · simp [World.cell?, Array.getElem?_eq_none h'] at h

theorem tmod40 (v : Int) : -40 < v.tmod 40 ∧ v.tmod 40 < 40 := by
  rcases Int.le_total 0 v with h | h
  · rw [Int.tmod_eq_emod_of_nonneg h]; omega
  · obtain ⟨n, rfl⟩ : ∃ n : Int, v = -n := ⟨-v, by omega⟩
    rw [Int.neg_tmod, Int.tmod_eq_emod_of_nonneg (by omega)]; omega
theorem sum_nil : sum [] = 0#32 := by decide
theorem more_to (l : List Int) (k n : Nat) : more (sum (l.take k)) ((l.drop k).take n) = sum (l.take (k + n)) := by
  rw [more_sum, List.take_add]

theorem many_any (a0 : Option Addr) (len0 cap0 : Nat) (l0 : List Int) (a1 : Option Addr) (len1 cap1 : Nat) (l1 : List Int) (w : World) (hT : Tab w)
    (h0 : Row w a0 len0 cap0 l0) (h1 : Nums w a1 len1 l1) :
    Calls Tryd.prog 3 #[.slice a0 len0 cap0, .slice a1 len1 cap1] w fun e w' => e = .returned (.bool true) ∧ Below w.heap.size w w' := by
  have HB := Lib.hid (begun_any w hT)
  have hm3 : min len0 300 ≤ 300 := by omega
  have hs := h0.short 300
  have HS := Lib.hid (fun w1 => short_any a0 len0 cap0 300 w1 h0.le h0.nil (by omega))
  clear h0
  generalize min len0 300 = m at hs HS hm3
  generalize l0.take 300 = l at hs
  have H0 := Lib.hid hs
  have H1 := Lib.hid h1
  have hmc := hs.le
  have hcm := hs.most
  clear hs h1
  go_enter Tryd.func3, Tryd.ntmps3
  go_wp2_with fail
  refine HB.out.mono ?_; rintro e w1 ⟨rfl, hb1⟩
  have HT1 := Lib.hid (hT.later hb1)
  have R0 := H0.out.later hb1
  have HB1 := Lib.hid hb1; clear hb1
  go_wp2_with fail
  refine (HS.out _).mono ?_; rintro e w2 ⟨rfl, rfl⟩
  go_wp2_with fail
  refine (sum_at none [] 0 0 _ rfl (by omega) HT1.out (.inl rfl) (by intro c hc; cases hc)).mono ?_; rintro e w2 ⟨rfl, rfl⟩
  have HR0 := Lib.hid R0; clear R0
  rw [show (((sum []).toNat : Nat) : Int) = 0 by decide]
  go_wp2_with fail
  rcases Nat.eq_zero_or_pos m with rfl | hpos
  · go_loop [6, 7, 8] (fun s0 t0 i => t0 = .int .i64 0 ∧ i = .int .i64 0 ∧ s0 = .int .u32 0) (fun _ t0 _ => 0 - (intOf t0).toNat)
    case atStart => exact ⟨rfl, rfl, rfl⟩
    case round =>
      obtain ⟨rfl, rfl, rfl⟩ := hrel
      go_wp2_with fail
      refine (sum_at _ l _ _ _ HR0.out.length (by omega) HT1.out HR0.out.bytes HR0.out.byte).mono ?_
      rintro e w' ⟨rfl, rfl⟩
      rw [show l = [] from List.eq_nil_of_length_eq_zero HR0.out.length, show (((sum []).toNat : Nat) : Int) = 0 by decide]
      go_wp2
      go_ret
      exact ⟨rfl, HB1.out⟩
  · obtain ⟨b, off, rfl⟩ : ∃ b off, a0 = some ⟨b, off, none⟩ := by
      rcases HR0.out.bytes with h | ⟨b, off, rfl, _⟩
      · have := HR0.out.length; rw [h] at this; simp at this; omega
      · exact ⟨b, off, rfl⟩
    go_loop [6, 7, 8] (fun s0 t0 i => ∃ k j : Nat, k ≤ m ∧ j ≤ k ∧ t0 = .int .i64 k ∧ i = .int .i64 j ∧ s0 = .int .u32 ((sum (l.take k)).toNat : Int)) (fun _ t0 _ => m - (intOf t0).toNat)
    case atStart => exact ⟨0, 0, by omega, by omega, rfl, rfl, by simp [sum_nil]⟩
    case round =>
      obtain ⟨k, j, hk, hj, rfl, rfl, rfl⟩ := hrel
      by_cases hlt : k < m
      · by_cases hjl : j < len1
        · obtain ⟨b', off', rfl, hcell⟩ : ∃ b off, a1 = some ⟨b, off, none⟩ ∧ w1.cell? ⟨b, off + j, none⟩ = some (.int .i64 (l1.getD j 0)) := by
            rcases H1.out.cells with h | ⟨b', off', rfl, hc⟩
            · omega
            · refine ⟨b', off', rfl, ?_⟩
              rw [HB1.out.cell (p := ⟨b', off' + j, none⟩) (lt_of_cell (hc j hjl))]; exact hc j hjl
          have hv := H1.out.small j hjl
          generalize l1.getD j 0 = v at hcell hv
          obtain ⟨q, hq, hq1, hq2⟩ : ∃ q, v.tmod 40 = q ∧ -40 < q ∧ q < 40 := ⟨_, rfl, (tmod40 v).1, (tmod40 v).2⟩
          obtain ⟨p, hp, hp2⟩ : ∃ p : Nat, (q + 40) % 40 = (p : Int) ∧ p < 40 := ⟨((q + 40) % 40).toNat, by omega, by omega⟩
          by_cases hto : k + (1 + p) < m
          · have hr := more_to l k (1 + p)
            have HR := Lib.hid hr; clear hr
            go_wp2_with fail
            refine (more_at (sum (l.take k)) _ ((l.drop k).take (1 + p)) _ _ _ (by rw [List.length_take, List.length_drop, HR0.out.length]; omega) (by omega) HT1.out ((HR0.out.bytes.drop k).take _) ((HR0.out.byte.drop k).take _)).mono ?_
            rintro e w' ⟨rfl, rfl⟩
            rw [HR.out]
            go_wp2_with fail
            refine (sum_at _ (l.take (k + (1 + p))) _ _ _ (by rw [List.length_take, HR0.out.length]; omega) (by omega) HT1.out (HR0.out.bytes.take _) (HR0.out.byte.take _)).mono ?_
            rintro e w' ⟨rfl, rfl⟩
            generalize hz : sum (l.take (k + (1 + p))) = z
            have HZ := Lib.hid hz; clear hz
            go_wp2
            go_round
            case rel => exact ⟨k + (1 + p), j + 1, by omega, by omega, by go_num, by go_num, by rw [HZ.out]⟩
            case measure => simp [intOf]; omega
          · go_wp2_with fail
            refine (more_at (sum (l.take k)) _ ((l.drop k).take (m - k)) _ _ _ (by rw [List.length_take, List.length_drop, HR0.out.length]; omega) (by omega) HT1.out ((HR0.out.bytes.drop k).take _) ((HR0.out.byte.drop k).take _)).mono ?_
            rintro e w' ⟨rfl, rfl⟩
            rw [more_to l k (m - k), show k + (m - k) = m by omega]
            go_wp2_with fail
            refine (sum_at _ (l.take m) _ _ _ (by rw [List.length_take, HR0.out.length]; omega) (by omega) HT1.out (HR0.out.bytes.take _) (HR0.out.byte.take _)).mono ?_
            rintro e w' ⟨rfl, rfl⟩
            generalize hz : sum (l.take m) = z
            have HZ := Lib.hid hz; clear hz
            go_wp2
            go_round
            case rel => exact ⟨m, j + 1, by omega, by omega, by go_num, by go_num, by rw [HZ.out]⟩
            case measure => simp [intOf]; omega
        · by_cases hto : k + 1 < m
          · have hr := more_to l k 1
            have HR := Lib.hid hr; clear hr
            go_wp2_with fail
            refine (more_at (sum (l.take k)) _ ((l.drop k).take 1) _ _ _ (by rw [List.length_take, List.length_drop, HR0.out.length]; omega) (by omega) HT1.out ((HR0.out.bytes.drop k).take _) ((HR0.out.byte.drop k).take _)).mono ?_
            rintro e w' ⟨rfl, rfl⟩
            rw [HR.out]
            go_wp2_with fail
            refine (sum_at _ (l.take (k + 1)) _ _ _ (by rw [List.length_take, HR0.out.length]; omega) (by omega) HT1.out (HR0.out.bytes.take _) (HR0.out.byte.take _)).mono ?_
            rintro e w' ⟨rfl, rfl⟩
            generalize hz : sum (l.take (k + 1)) = z
            have HZ := Lib.hid hz; clear hz
            go_wp2
            go_round
            case rel => exact ⟨k + 1, j + 1, by omega, by omega, by go_num, by go_num, by rw [HZ.out]⟩
            case measure => simp [intOf]; omega
          · go_wp2_with fail
            refine (more_at (sum (l.take k)) _ ((l.drop k).take (m - k)) _ _ _ (by rw [List.length_take, List.length_drop, HR0.out.length]; omega) (by omega) HT1.out ((HR0.out.bytes.drop k).take _) ((HR0.out.byte.drop k).take _)).mono ?_
            rintro e w' ⟨rfl, rfl⟩
            rw [more_to l k (m - k), show k + (m - k) = m by omega]
            go_wp2_with fail
            refine (sum_at _ (l.take m) _ _ _ (by rw [List.length_take, HR0.out.length]; omega) (by omega) HT1.out (HR0.out.bytes.take _) (HR0.out.byte.take _)).mono ?_
            rintro e w' ⟨rfl, rfl⟩
            generalize hz : sum (l.take m) = z
            have HZ := Lib.hid hz; clear hz
            go_wp2
            go_round
            case rel => exact ⟨m, j + 1, by omega, by omega, by go_num, by go_num, by rw [HZ.out]⟩
            case measure => simp [intOf]; omega
      · have hkm : k = m := by omega
        subst hkm
        rw [show l.take k = l by rw [← HR0.out.length]; exact List.take_length]
        go_wp2_with fail
        refine (sum_at _ l _ _ _ HR0.out.length (by omega) HT1.out HR0.out.bytes HR0.out.byte).mono ?_
        rintro e w' ⟨rfl, rfl⟩
        go_wp2
        go_ret
        exact ⟨rfl, HB1.out⟩
end Go.Proofs.YtobkjkgpmkppfaaDoor.crc
