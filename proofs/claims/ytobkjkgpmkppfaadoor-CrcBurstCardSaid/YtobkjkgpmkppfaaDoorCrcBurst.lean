/-
  THE WALK OF 'CrcBurst': up to four bytes behind one another that were changed change the sum.
-/
import Derived.Test.YtobkjkgpmkppfaaDoorCrcThree
import Derived.Test.YtobkjkgpmkppfaaDoorCrcMix
import Derived.Deep.AppendLies
namespace Go.Proofs.YtobkjkgpmkppfaaDoor.crc
open Go.RowKit

theorem burst_any (a0 : Option Addr) (len0 cap0 : Nat) (l0 : List Int) (n1 : Int) (a2 : Option Addr) (len2 cap2 : Nat) (l2 : List Int) (w : World) (hT : Tab w)
    (h0 : Row w a0 len0 cap0 l0) (hn1 : -9223372036854775808 ≤ n1 ∧ n1 ≤ 9223372036854775807) (h2 : Row w a2 len2 cap2 l2) :
    Calls Tryd.prog 5 #[.slice a0 len0 cap0, .int .i64 n1, .slice a2 len2 cap2] w fun e w' => e = .returned (.bool true) ∧ Below w.heap.size w w' := by
  have HB := Lib.hid (begun_any w hT)
  have hm0 : min len0 200 ≤ 200 := by omega
  have hm2 : min len2 4 ≤ 4 := by omega
  have hs0 := h0.short 200
  have hs2 := h2.short 4
  have HS0 := Lib.hid (fun w1 => short_any a0 len0 cap0 200 w1 h0.le h0.nil (by omega))
  have HS2 := Lib.hid (fun w1 => short_any a2 len2 cap2 4 w1 h2.le h2.nil (by omega))
  clear h0 h2
  generalize min len0 200 = m0 at hs0 HS0 hm0
  generalize l0.take 200 = k0 at hs0
  generalize min len2 4 = m2 at hs2 HS2 hm2
  generalize l2.take 4 = k2 at hs2
  have H0 := Lib.hid hs0
  have H2 := Lib.hid hs2
  clear hs0 hs2
  go_enter Tryd.func5, Tryd.ntmps5
  go_wp2_with fail
  refine HB.out.mono ?_; rintro e w1 ⟨rfl, hb1⟩
  have HB1 := Lib.hid hb1
  have HT1 := Lib.hid (hT.later hb1)
  have R0 := Lib.hid (H0.out.later hb1)
  have R2 := Lib.hid (H2.out.later hb1)
  clear hb1 H0 H2 HB hT
  go_wp2_with fail
  refine (HS0.out _).mono ?_; rintro e w' ⟨rfl, rfl⟩
  go_wp2_with fail
  refine (HS2.out _).mono ?_; rintro e w' ⟨rfl, rfl⟩
  clear HS0 HS2
  go_wp2_with fail
  go_loop [8, 9] (fun f i => ∃ k : Nat, k ≤ m2 ∧ i = .int .i64 k ∧ f = .bool (nz (k2.take k))) (fun _ i => m2 - (intOf i).toNat)
  case atStart => exact ⟨0, Nat.zero_le _, rfl, rfl⟩
  case round =>
    obtain ⟨k, hk, rfl, rfl⟩ := hrel
    by_cases hlt : k < m2
    · obtain ⟨b2, f2, rfl, c2⟩ := cell_of R2.out.bytes (i := k) (by have := R2.out.length; omega)
      have hst := nz_take k2 k (by have := R2.out.length; omega)
      have HST := Lib.hid hst
      clear hst
      generalize k2.getD k 0 = x at c2 HST
      cases hf : nz (k2.take k)
      · rw [hf] at HST
        cases hx : (x != 0)
        · rw [hx] at HST
          go_wp2
          go_round
          case rel => exact ⟨k + 1, by omega, by go_num, by rw [HST.out]; rfl⟩
          case measure => simp [intOf]; omega
        · rw [hx] at HST
          go_wp2
          go_round
          case rel => exact ⟨k + 1, by omega, by go_num, by rw [HST.out]; rfl⟩
          case measure => simp [intOf]; omega
      · rw [hf] at HST
        go_wp2
        go_round
        case rel => exact ⟨k + 1, by omega, by go_num, by rw [HST.out]; rfl⟩
        case measure => simp [intOf]; omega
    · have hkm : k = m2 := by omega
      subst hkm
      rw [show k2.take k = k2 by rw [← R2.out.length]; exact List.take_length]
      by_cases hneg : n1 < 0
      · have hd : decide (n1 < 0) = true := by simpa using hneg
        go_wp2
        go_ret
        exact ⟨rfl, HB1.out⟩
      · have hd : decide (n1 < 0) = false := by simpa using hneg
        by_cases hbig : (m0 : Int) - (k : Int) < n1
        · have hd2 : decide ((m0 : Int) - (k : Int) < n1) = true := by simpa using hbig
          go_wp2
          go_ret
          exact ⟨rfl, HB1.out⟩
        · have hd2 : decide ((m0 : Int) - (k : Int) < n1) = false := by simpa using hbig
          cases hf : nz k2
          · go_wp2
            go_ret
            exact ⟨rfl, HB1.out⟩
          · obtain ⟨p, rfl⟩ := Int.eq_ofNat_of_zero_le (show 0 ≤ n1 by omega)
            have hpk : p + k ≤ m0 := by omega
            obtain ⟨v2, w2, run2, own2, bel2, _⟩ := append_row (Own.none_ w1 w1.heap.size) a0 m0 cap0 k0 R0.out.bytes R0.out.length (fun e => (R0.out.nil e).2) (by simp; omega) (Nat.le_refl _)
            have hk2 : k2.length = k := R2.out.length
            have hkpos : 0 < k := by
              rcases Nat.eq_zero_or_pos k with h | h
              · rw [List.eq_nil_of_length_eq_zero (hk2.trans h)] at hf; cases hf
              · exact h
            obtain ⟨g, cap, hv⟩ : ∃ g cap, v2 = .slice (some ⟨g, 0, none⟩) m0 cap := by
              obtain ⟨g, cap, hv, _⟩ := World.ownsRow.form own2 (by simp [R0.out.length]; omega)
              exact ⟨g, cap, by simpa [R0.out.length] using hv⟩
            subst hv
            have hgb : w1.heap.size ≤ g := (World.ownsRow.lt own2 g rfl).1
            rw [List.nil_append] at own2
            have OWN2 := Lib.hid own2
            have BEL2 := Lib.hid bel2
            have RUN2 := Lib.hid run2
            have K2 := Lib.hid hk2
            have F2 := Lib.hid hf
            clear own2 bel2 run2 hk2
            go_wp2_with (first
              | (at_builtin; refine wpList_append_run (.const (.slice none 0 0)) (.tmp 48) _ _ rfl rfl rfl rfl rfl RUN2.out ?_)
              | fail)
            go_loopw [11] (fun i wr => ∃ j : Nat, j ≤ k ∧ i = .int .i64 j ∧ Own wr w1.heap.size (.slice (some ⟨g, 0, none⟩) m0 cap) (mix k0 k2 p j) ∧ Below w1.heap.size w1 wr) (fun i _ => k - (intOf i).toNat)
            case atStart => exact ⟨0, Nat.zero_le _, rfl, OWN2.out, BEL2.out⟩
            case round =>
              obtain ⟨j, hj, rfl, hown, hbel⟩ := hrel
              have hml : (mix k0 k2 p j).length = m0 := by rw [mix_length]; exact R0.out.length
              by_cases hlj : j < k
              · have R2' := R2.out.later hbel
                obtain ⟨b2, f2, rfl, c2⟩ := cell_of R2'.bytes (i := j) (by have := R2'.length; omega)
                have ho := hown.cell hml (p + j) (by omega)
                rw [mix_far k0 k2 p j (p + j) (Nat.le_refl _)] at ho
                have hf := hown.free hml (p + j)
                have hset := hown.set hml (p + j) (bx (k0.getD (p + j) 0) (k2.getD j 0))
                have hset' : Own (wr.setCell ⟨g, p + j, none⟩ (.int .u8 (bx (k0.getD (p + j) 0) (k2.getD j 0)))) w1.heap.size (.slice (some ⟨g, 0, none⟩) m0 cap) (mix k0 k2 p (j + 1)) := hset
                have hbel' := hbel.setCell (p := ⟨g, p + j, none⟩) hgb (.int .u8 (bx (k0.getD (p + j) 0) (k2.getD j 0)))
                clear hset R2' hown hbel hml
                generalize k0.getD (p + j) 0 = y at ho hset' hbel'
                generalize k2.getD j 0 = x at c2 hset' hbel'
                have hx : bits .xor .u8 y x = bx y x := rfl
                generalize bx y x = z at hx hset' hbel'
                have HSET := Lib.hid hset'
                have HBEL := Lib.hid hbel'
                clear hset' hbel'
                have hlt0 : p + j < m0 := by omega
                go_wp2
                go_region
                go_wp2
                go_roundw
                case rel => exact ⟨j + 1, by omega, by go_num, HSET.out, HBEL.out.drew⟩
                case measure => simp [intOf]; omega
              · have hjk : j = k := by omega
                subst hjk
                obtain ⟨_, _, e, _, _, _, hby⟩ := hown.form
                have hby' : Bytes wr (some ⟨g, 0, none⟩) (mix k0 k2 p j) := by
                  injection e with e1 e2 e3
                  rw [e1]; exact hby
                have R0' := R0.out.later hbel
                have HT' := HT1.out.later hbel
                have hfin : Below w.heap.size w wr := HB1.out.trans (hbel.mono HB1.out.size)
                have hne : sum k0 ≠ sum (mix k0 k2 p j) := by
                  have := mix_sum k0 k2 p (by rw [K2.out, R0'.length]; omega) (by rw [K2.out]; omega) R0'.byte R2.out.byte (nz_some F2.out)
                  rwa [K2.out] at this
                have C0 := Lib.hid (sum_at a0 k0 m0 cap0 wr R0'.length (by omega) HT' R0'.bytes R0'.byte)
                have C1 := Lib.hid (sum_at (some ⟨g, 0, none⟩) (mix k0 k2 p j) m0 cap wr hml (by omega) HT' hby' (mix_byte k0 k2 p j R0'.byte R2.out.byte (by rw [K2.out]; omega)))
                have HFIN := Lib.hid hfin
                clear e hby hby' R0' HT' hfin hown hbel hml
                generalize sum k0 = z0 at hne C0
                generalize sum (mix k0 k2 p j) = z1 at hne C1
                have hd : ((z0.toNat : Int) != (z1.toNat : Int)) = true := by
                  rw [bne_iff_ne]
                  intro h
                  exact hne (BitVec.eq_of_toNat_eq (by omega))
                clear hne
                go_wp2_with fail
                refine C0.out.mono ?_; rintro e w' ⟨rfl, rfl⟩
                go_wp2_with fail
                refine C1.out.mono ?_; rintro e w' ⟨rfl, rfl⟩
                go_wp2
                go_ret
                exact ⟨rfl, HFIN.out⟩
end Go.Proofs.YtobkjkgpmkppfaaDoor.crc
