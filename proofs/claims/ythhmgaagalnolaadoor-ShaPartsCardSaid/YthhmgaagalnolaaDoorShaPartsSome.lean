/-
  THE WALK OF "ShaParts", the text not empty.
-/
import Derived.Test.YthhmgaagalnolaaDoorShaShort
import Derived.Deep.RegionWith
namespace Go.Proofs.YthhmgaagalnolaaDoor.sha
open Go.RowKit

set_option maxRecDepth 100000 in
set_option maxHeartbeats 4000000 in
theorem parts_some (b0 o0 cap0 m : Nat) (k0 : List Int) (a1 : Option Addr) (len1 cap1 : Nat) (l1 : List Int) (len0 : Nat) (w : World) (hT : Tab w) (hlc : len0 ≤ cap0) (hm : m = min len0 300) (hm0 : 0 < m) (s0 : Row w (some ⟨b0, o0, none⟩) m cap0 k0) (h1 : Nums w a1 len1 l1) :
    Calls Tryd.prog 4 #[.slice (some ⟨b0, o0, none⟩) len0 cap0, .slice a1 len1 cap1] w fun e w' => e = .returned (.bool true) ∧ Below w.heap.size w w' := by
  have HB := Lib.hid (begun_any w hT)
  have HS := fun w1 => Lib.hid (short_any (some ⟨b0, o0, none⟩) len0 cap0 300 w1 hlc (fun e => by cases e) (by omega))
  rw [← hm] at HS
  have hm3 : m ≤ 300 := by omega
  have HT := Lib.hid hT
  have H1 := Lib.hid h1
  have hr0 := s0.le
  have hc0 := s0.most
  have hl1 := h1.most
  clear hT h1 hm
  go_enter Tryd.func4, Tryd.ntmps4
  go_wp2_with fail
  refine HB.out.mono ?_
  rintro e w1 ⟨rfl, hb1⟩
  have KB1 := Lib.hid hb1
  clear hb1 HB
  go_wp2_with fail
  refine (HS _).out.mono ?_
  rintro e w' ⟨rfl, rfl⟩
  clear HS
  go_wp2_with fail
  refine (new_any _).mono ?_
  rintro e w2 ⟨rfl, i2, h2⟩
  have kb2 := KB1.out.trans (h2.mono KB1.out.size)
  have KB2 := Lib.hid kb2
  have I2 := Lib.hid i2
  have hs2 := I2.out.lt
  have hg1 := (HT.out.later KB1.out).lt
  have hw1 := KB1.out.size
  clear h2 kb2 i2
  go_wp2_with fail
  go_loopw [7, 8, 9, 10] (fun t i _ _ wr => ∃ k p : Nat, k ≤ 12 ∧ p ≤ m ∧ t = .int .i64 p ∧ i = .int .i64 k ∧ IsHash wr w1.heap.size (k0.take p) ∧ Below w.heap.size w wr) (fun _ i _ _ _ => 12 - (intOf i).toNat)
  case atStart => exact ⟨0, 0, by omega, by omega, rfl, rfl, by rw [List.take_zero]; exact I2.out, KB2.out⟩
  case round =>
    obtain ⟨k, p, hk, hp, rfl, rfl, g0, hbel⟩ := hrel
    have G0 := Lib.hid g0
    have HBel := Lib.hid hbel
    have hwr := hbel.size
    have hgl := g0.lt
    clear g0 hbel
    obtain ⟨A2, hA2⟩ : ∃ A2, (if cap0 = p then some (⟨b0, o0, none⟩ : Addr) else some ⟨b0, o0 + p, none⟩) = A2 := ⟨_, rfl⟩
    have hl2 : ∀ r wx, Below w.heap.size w wx → Leads wx A2 ((k0.drop p).take r) := by
      intro r wx hb
      rw [← hA2]
      split
      · exact .inl (by rw [List.drop_eq_nil_of_le (by rw [s0.length]; omega)]; simp)
      · exact ((s0.bytes.later hb).drop p).take r
    have hP2 : ∀ r, Past w1.heap.size A2 ((k0.drop p).take r) := by
      intro r
      rw [← hA2]
      split
      · exact .inl (by rw [List.drop_eq_nil_of_le (by rw [s0.length]; omega)]; simp)
      · refine .inr fun b off e => ?_
        injection e with e; injection e with e1 e2
        rcases s0.bytes with h | ⟨b', off', e', hc⟩
        · have := s0.length; rw [h] at this; simp at this; omega
        · injection e' with e'; injection e' with e3 e4
          have := block_lt_of_cell (hc 0 (by rw [s0.length]; exact hm0))
          have h5 : b' < w.heap.size := this
          omega
    have HL2 := Lib.hid hl2
    have HP2 := Lib.hid hP2
    clear hl2 hP2
    by_cases hc : k < len1 ∧ k < 12
    · obtain ⟨hc1, hc2⟩ := hc
      obtain ⟨b1, o1, rfl, hcell⟩ : ∃ b off, a1 = some ⟨b, off, none⟩ ∧ wr.cell? ⟨b, off + k, none⟩ = some (.int .i64 (l1.getD k 0)) := by
        rcases H1.out.cells with h | ⟨b', off', rfl, hc⟩
        · omega
        · refine ⟨b', off', rfl, ?_⟩
          rw [HBel.out.cell (p := ⟨b', off' + k, none⟩) (block_lt_of_cell (hc k hc1))]; exact hc k hc1
      have hv := H1.out.small k hc1
      generalize l1.getD k 0 = v at hcell hv
      obtain ⟨q, hq, hq1, hq2⟩ : ∃ q, v.tmod 70 = q ∧ -70 < q ∧ q < 70 := ⟨_, rfl, (tmod70 v).1, (tmod70 v).2⟩
      obtain ⟨n, hn⟩ : ∃ n : Nat, n = q.natAbs := ⟨_, rfl⟩
      obtain ⟨z, hz⟩ : ∃ z, z = min m (p + n) := ⟨_, rfl⟩
      have hz1 : p ≤ z := by omega
      have hz2 : z ≤ m := by omega
      have HZ := Lib.hid hz
      have hn' : n < 70 := by omega
      clear hz
      by_cases hneg : q < 0
      · obtain rfl : q = -(n : Int) := by omega
        clear hn
        have hpl := HL2.out (z - p) wr HBel.out
        have hpp := HP2.out (z - p)
        have e0 : k0.take p ++ (k0.drop p).take (z - p) = k0.take z := by rw [← List.take_add, show p + (z - p) = z by omega]
        have W0 := Lib.hid (write_any w1.heap.size (k0.take p) A2 ((k0.drop p).take (z - p)) (z - p) (cap0 - p) wr (HT.out.later HBel.out) (by omega) G0.out hpl hpp ((s0.byte.drop p).take _) (by rw [List.length_take, List.length_drop, s0.length]; omega) (by omega) (by omega) (by rw [List.length_take]; omega))
        rw [e0] at W0
        have same0 := bytes_same (digest (k0.take z)) (digest_length _)
        have hng := noGuard
        clear e0 hpl hpp
        go_wp2_with (first
          | (refine wpList_min_run m (p + n) (.tmp 37) (.tmp 40) rfl rfl rfl rfl rfl ?_; rw [← HZ.out])
          | fail)
        refine W0.out.mono ?_
        rintro e w4 ⟨rfl, f0, f1⟩
        clear W0
        have kb4 := below_only HBel.out f1 (by omega) HBel.out.size
        have S0 := fun w5 (h : Below w.heap.size w w5) => ssum_any (some ⟨b0, o0, none⟩) (k0.take z) z cap0 w5 (HT.out.later h) ((s0.bytes.later h).take z) (s0.byte.take z) (by rw [List.length_take, s0.length]; omega) (by omega) hc0 (by omega)
        have F0 := Lib.hid f0
        have KB4 := Lib.hid kb4
        have HS0 := Lib.hid S0
        clear f0 f1 kb4 S0
        go_wp2_with fail
        go_region_with (first
          | (go_at_call 14; refine (hsum_any w1.heap.size (k0.take z) _ (HT.out.later (below_draws KB4.out 1)) (by exact F0.out) (by rw [List.length_take]; omega)).mono ?_; rintro e w5 ⟨rfl, h5⟩; have kb5 := (below_draws KB4.out 1).trans (h5.mono (by exact KB4.out.size)); have KB5 := Lib.hid kb5; have f5 := (show IsHash w4.drew w1.heap.size (k0.take z) from F0.out).kept h5; have F5 := Lib.hid f5; clear h5 kb5 f5)
          | (go_at_call 10; refine (HS0.out _ KB5.out).mono ?_; rintro e w6 ⟨rfl, h6⟩; have kb6 := KB5.out.trans (h6.mono KB5.out.size); have f6 := F5.out.kept h6; have KB6 := Lib.hid kb6; have F6 := Lib.hid f6; clear h6 kb6 f6))
        all_goals
          go_wp2
          exact ⟨⟨k + 1, z, by omega, by omega, rfl, by go_num, F6.out, KB6.out⟩, by simp [intOf]; omega⟩
      · obtain rfl : q = (n : Int) := by omega
        clear hn
        have hpl := HL2.out (z - p) wr HBel.out
        have hpp := HP2.out (z - p)
        have e0 : k0.take p ++ (k0.drop p).take (z - p) = k0.take z := by rw [← List.take_add, show p + (z - p) = z by omega]
        have W0 := Lib.hid (write_any w1.heap.size (k0.take p) A2 ((k0.drop p).take (z - p)) (z - p) (cap0 - p) wr (HT.out.later HBel.out) (by omega) G0.out hpl hpp ((s0.byte.drop p).take _) (by rw [List.length_take, List.length_drop, s0.length]; omega) (by omega) (by omega) (by rw [List.length_take]; omega))
        rw [e0] at W0
        have same0 := bytes_same (digest (k0.take z)) (digest_length _)
        have hng := noGuard
        clear e0 hpl hpp
        go_wp2_with (first
          | (refine wpList_min_run m (p + n) (.tmp 37) (.tmp 40) rfl rfl rfl rfl rfl ?_; rw [← HZ.out])
          | fail)
        refine W0.out.mono ?_
        rintro e w4 ⟨rfl, f0, f1⟩
        clear W0
        have kb4 := below_only HBel.out f1 (by omega) HBel.out.size
        have S0 := fun w5 (h : Below w.heap.size w w5) => ssum_any (some ⟨b0, o0, none⟩) (k0.take z) z cap0 w5 (HT.out.later h) ((s0.bytes.later h).take z) (s0.byte.take z) (by rw [List.length_take, s0.length]; omega) (by omega) hc0 (by omega)
        have F0 := Lib.hid f0
        have KB4 := Lib.hid kb4
        have HS0 := Lib.hid S0
        clear f0 f1 kb4 S0
        go_wp2_with fail
        go_region_with (first
          | (go_at_call 14; refine (hsum_any w1.heap.size (k0.take z) _ (HT.out.later (below_draws KB4.out 1)) (by exact F0.out) (by rw [List.length_take]; omega)).mono ?_; rintro e w5 ⟨rfl, h5⟩; have kb5 := (below_draws KB4.out 1).trans (h5.mono (by exact KB4.out.size)); have KB5 := Lib.hid kb5; have f5 := (show IsHash w4.drew w1.heap.size (k0.take z) from F0.out).kept h5; have F5 := Lib.hid f5; clear h5 kb5 f5)
          | (go_at_call 10; refine (HS0.out _ KB5.out).mono ?_; rintro e w6 ⟨rfl, h6⟩; have kb6 := KB5.out.trans (h6.mono KB5.out.size); have f6 := F5.out.kept h6; have KB6 := Lib.hid kb6; have F6 := Lib.hid f6; clear h6 kb6 f6))
        all_goals
          go_wp2
          exact ⟨⟨k + 1, z, by omega, by omega, rfl, by go_num, F6.out, KB6.out⟩, by simp [intOf]; omega⟩
    · have hpl := HL2.out (m - p) wr HBel.out
      have hpp := HP2.out (m - p)
      have hfull : (k0.drop p).take (m - p) = k0.drop p := List.take_of_length_le (by rw [List.length_drop, s0.length]; omega)
      rw [hfull] at hpl hpp
      have W0 := Lib.hid (write_any w1.heap.size (k0.take p) A2 (k0.drop p) (m - p) (cap0 - p) wr (HT.out.later HBel.out) (by omega) G0.out hpl hpp (s0.byte.drop p) (by rw [List.length_drop, s0.length]) (by omega) (by omega) (by rw [List.length_take]; omega))
      rw [List.take_append_drop] at W0
      have same0 := bytes_same (digest k0) (digest_length _)
      have hng := noGuard
      have S0 := fun w5 (h : Below w.heap.size w w5) => ssum_any (some ⟨b0, o0, none⟩) k0 m cap0 w5 (HT.out.later h) (s0.bytes.later h) s0.byte s0.length hr0 hc0 (by omega)
      have M0 := fun w5 (h : Below w.heap.size w w5) (g : IsHash w5 w1.heap.size k0) => hsum_any w1.heap.size k0 w5 (HT.out.later h) g (by rw [s0.length]; omega)
      have HS0 := Lib.hid S0
      have HM0 := Lib.hid M0
      clear hpl hpp hfull S0 M0
      rcases (show (k < len1 ∧ ¬ k < 12) ∨ ¬ k < len1 by omega) with ⟨hd1, hd2⟩ | hd1
      all_goals
        go_wp2_with fail
        refine W0.out.mono ?_
        rintro e w4 ⟨rfl, f0, f1⟩
        clear W0
        have kb4 := below_only HBel.out f1 (by omega) HBel.out.size
        have F0 := Lib.hid f0
        have KB4 := Lib.hid kb4
        clear f0 f1 kb4
        go_wp2_with fail
        refine (HM0.out _ KB4.out F0.out).mono ?_
        rintro e w5 ⟨rfl, h5⟩
        have kb5 := KB4.out.trans (h5.mono KB4.out.size)
        have f5 := F0.out.kept h5
        have KB5 := Lib.hid kb5
        have F5 := Lib.hid f5
        clear h5 kb5 f5
        go_wp2_with fail
        refine (HS0.out _ KB5.out).mono ?_
        rintro e w6 ⟨rfl, h6⟩
        have kb6 := KB5.out.trans (h6.mono KB5.out.size)
        have f6 := F5.out.kept h6
        have KB6 := Lib.hid kb6
        have F6 := Lib.hid f6
        clear h6 kb6 f6
        go_wp2_with fail
        refine (HM0.out _ KB6.out F6.out).mono ?_
        rintro e w7 ⟨rfl, h7⟩
        have kb7 := KB6.out.trans (h7.mono KB6.out.size)
        have KB7 := Lib.hid kb7
        clear h7 kb7
        go_wp2_with fail
        refine (HS0.out _ KB7.out).mono ?_
        rintro e w8 ⟨rfl, h8⟩
        have kb8 := KB7.out.trans (h8.mono KB7.out.size)
        have KB8 := Lib.hid kb8
        clear h8 kb8
        go_wp2
        go_ret
        exact ⟨rfl, KB8.out⟩
end Go.Proofs.YthhmgaagalnolaaDoor.sha
