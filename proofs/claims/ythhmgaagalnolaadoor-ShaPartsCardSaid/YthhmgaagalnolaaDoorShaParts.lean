/-
  THE WALK OF 'ShaParts': a digest of parts is that of the whole, at each part's end.
-/
import Derived.Test.YthhmgaagalnolaaDoorShaPartsSome
namespace Go.Proofs.YthhmgaagalnolaaDoor.sha
open Go.RowKit

set_option maxRecDepth 100000 in
set_option maxHeartbeats 4000000 in
theorem parts_none (a0 : Option Addr) (cap0 : Nat) (a1 : Option Addr) (len1 cap1 : Nat) (l1 : List Int) (w : World) (hT : Tab w) (h0 : Row w a0 0 cap0 []) (h1 : Nums w a1 len1 l1) :
    Calls Tryd.prog 4 #[.slice a0 0 cap0, .slice a1 len1 cap1] w fun e w' => e = .returned (.bool true) ∧ Below w.heap.size w w' := by
  have HB := Lib.hid (begun_any w hT)
  have HS := fun w1 => Lib.hid (short_any a0 0 cap0 300 w1 (by omega) h0.nil (by omega))
  have HT := Lib.hid hT
  have H1 := Lib.hid h1
  have hc0 := h0.most
  have hn0 := h0.nil
  have hl1 := h1.most
  clear hT h1 h0
  rw [show min 0 300 = 0 from rfl] at HS
  cases a0 with
  | none =>
    obtain rfl : cap0 = 0 := (hn0 rfl).2
    clear hn0
    go_enter Tryd.func4, Tryd.ntmps4
    go_wp2_with fail
    refine HB.out.mono ?_
    rintro e w1 ⟨rfl, hb1⟩
    have KB1 := Lib.hid hb1
    clear hb1 HB
    go_wp2_with fail
    refine (HS _).out.mono ?_
    rintro e w' ⟨rfl, rfl⟩
    clear HS
    go_wp2_with fail
    refine (new_any _).mono ?_
    rintro e w2 ⟨rfl, i2, h2⟩
    have kb2 := KB1.out.trans (h2.mono KB1.out.size)
    have KB2 := Lib.hid kb2
    have I2 := Lib.hid i2
    have hs2 := I2.out.lt
    have hg1 := (HT.out.later KB1.out).lt
    have hw1 := KB1.out.size
    clear h2 kb2 i2
    go_wp2_with fail
    go_loopw [7, 8, 9, 10] (fun t i _ _ wr => ∃ k : Nat, k ≤ 12 ∧ t = .int .i64 0 ∧ i = .int .i64 k ∧ IsHash wr w1.heap.size [] ∧ Below w.heap.size w wr) (fun _ i _ _ _ => 12 - (intOf i).toNat)
    case atStart => exact ⟨0, by omega, rfl, rfl, I2.out, KB2.out⟩
    case round =>
      obtain ⟨k, hk, rfl, rfl, g0, hbel⟩ := hrel
      have G0 := Lib.hid g0
      have HBel := Lib.hid hbel
      have hwr := hbel.size
      have hgl := g0.lt
      clear g0 hbel
      by_cases hc : k < len1 ∧ k < 12
      · obtain ⟨hc1, hc2⟩ := hc
        obtain ⟨b1, o1, rfl, hcell⟩ : ∃ b off, a1 = some ⟨b, off, none⟩ ∧ wr.cell? ⟨b, off + k, none⟩ = some (.int .i64 (l1.getD k 0)) := by
          rcases H1.out.cells with h | ⟨b', off', rfl, hc⟩
          · omega
          · refine ⟨b', off', rfl, ?_⟩
            rw [HBel.out.cell (p := ⟨b', off' + k, none⟩) (block_lt_of_cell (hc k hc1))]; exact hc k hc1
        have hv := H1.out.small k hc1
        generalize l1.getD k 0 = v at hcell hv
        obtain ⟨q, hq, hq1, hq2⟩ : ∃ q, v.tmod 70 = q ∧ -70 < q ∧ q < 70 := ⟨_, rfl, (tmod70 v).1, (tmod70 v).2⟩
        obtain ⟨n, hn⟩ : ∃ n : Nat, n = q.natAbs := ⟨_, rfl⟩
        have HZ : Hid (0 = min 0 (0 + n)) := by show 0 = min 0 (0 + n); omega
        have hn' : n < 70 := by omega
        by_cases hneg : q < 0
        · obtain rfl : q = -(n : Int) := by omega
          clear hn
          have W0 := Lib.hid (write_any w1.heap.size [] none [] 0 0 wr (HT.out.later HBel.out) (by omega) G0.out (.inl rfl) (.inl rfl) Byte.nil rfl (by omega) (by omega) (by simp))
          rw [List.append_nil] at W0
          have same0 := bytes_same (digest []) (digest_length _)
          have hng := noGuard
          go_wp2_with (first
            | (refine wpList_min_run 0 (0 + n) (.tmp 37) (.tmp 40) rfl rfl rfl rfl rfl ?_; rw [← HZ.out])
            | fail)
          refine W0.out.mono ?_
          rintro e w4 ⟨rfl, f0, f1⟩
          clear W0
          have kb4 := below_only HBel.out f1 (by omega) HBel.out.size
          have S0 := fun w5 (h : Below w.heap.size w w5) => ssum_any none [] 0 0 w5 (HT.out.later h) (.inl rfl) Byte.nil rfl (by omega) (by omega) (by omega)
          have F0 := Lib.hid f0
          have KB4 := Lib.hid kb4
          have HS0 := Lib.hid S0
          clear f0 f1 kb4 S0
          go_wp2_with fail
          go_region_with (first
            | (go_at_call 14; refine (hsum_any w1.heap.size [] _ (HT.out.later (below_draws KB4.out 1)) (by exact F0.out) (by simp)).mono ?_; rintro e w5 ⟨rfl, h5⟩; have kb5 := (below_draws KB4.out 1).trans (h5.mono (by exact KB4.out.size)); have KB5 := Lib.hid kb5; have f5 := (show IsHash w4.drew w1.heap.size [] from F0.out).kept h5; have F5 := Lib.hid f5; clear h5 kb5 f5)
            | (go_at_call 10; refine (HS0.out _ KB5.out).mono ?_; rintro e w6 ⟨rfl, h6⟩; have kb6 := KB5.out.trans (h6.mono KB5.out.size); have f6 := F5.out.kept h6; have KB6 := Lib.hid kb6; have F6 := Lib.hid f6; clear h6 kb6 f6))
          all_goals
            go_wp2
            exact ⟨⟨k + 1, by omega, rfl, by go_num, F6.out, KB6.out⟩, by simp [intOf]; omega⟩
        · obtain rfl : q = (n : Int) := by omega
          clear hn
          have W0 := Lib.hid (write_any w1.heap.size [] none [] 0 0 wr (HT.out.later HBel.out) (by omega) G0.out (.inl rfl) (.inl rfl) Byte.nil rfl (by omega) (by omega) (by simp))
          rw [List.append_nil] at W0
          have same0 := bytes_same (digest []) (digest_length _)
          have hng := noGuard
          go_wp2_with (first
            | (refine wpList_min_run 0 (0 + n) (.tmp 37) (.tmp 40) rfl rfl rfl rfl rfl ?_; rw [← HZ.out])
            | fail)
          refine W0.out.mono ?_
          rintro e w4 ⟨rfl, f0, f1⟩
          clear W0
          have kb4 := below_only HBel.out f1 (by omega) HBel.out.size
          have S0 := fun w5 (h : Below w.heap.size w w5) => ssum_any none [] 0 0 w5 (HT.out.later h) (.inl rfl) Byte.nil rfl (by omega) (by omega) (by omega)
          have F0 := Lib.hid f0
          have KB4 := Lib.hid kb4
          have HS0 := Lib.hid S0
          clear f0 f1 kb4 S0
          go_wp2_with fail
          go_region_with (first
            | (go_at_call 14; refine (hsum_any w1.heap.size [] _ (HT.out.later (below_draws KB4.out 1)) (by exact F0.out) (by simp)).mono ?_; rintro e w5 ⟨rfl, h5⟩; have kb5 := (below_draws KB4.out 1).trans (h5.mono (by exact KB4.out.size)); have KB5 := Lib.hid kb5; have f5 := (show IsHash w4.drew w1.heap.size [] from F0.out).kept h5; have F5 := Lib.hid f5; clear h5 kb5 f5)
            | (go_at_call 10; refine (HS0.out _ KB5.out).mono ?_; rintro e w6 ⟨rfl, h6⟩; have kb6 := KB5.out.trans (h6.mono KB5.out.size); have f6 := F5.out.kept h6; have KB6 := Lib.hid kb6; have F6 := Lib.hid f6; clear h6 kb6 f6))
          all_goals
            go_wp2
            exact ⟨⟨k + 1, by omega, rfl, by go_num, F6.out, KB6.out⟩, by simp [intOf]; omega⟩
      · have W0 := Lib.hid (write_any w1.heap.size [] none [] 0 0 wr (HT.out.later HBel.out) (by omega) G0.out (.inl rfl) (.inl rfl) Byte.nil rfl (by omega) (by omega) (by simp))
        rw [List.append_nil] at W0
        have same0 := bytes_same (digest []) (digest_length _)
        have hng := noGuard
        have S0 := fun w5 (h : Below w.heap.size w w5) => ssum_any none [] 0 0 w5 (HT.out.later h) (.inl rfl) Byte.nil rfl (by omega) (by omega) (by omega)
        have M0 := fun w5 (h : Below w.heap.size w w5) (g : IsHash w5 w1.heap.size []) => hsum_any w1.heap.size [] w5 (HT.out.later h) g (by simp)
        have HS0 := Lib.hid S0
        have HM0 := Lib.hid M0
        clear S0 M0
        rcases (show (k < len1 ∧ ¬ k < 12) ∨ ¬ k < len1 by omega) with ⟨hd1, hd2⟩ | hd1
        all_goals
          go_wp2_with fail
          refine W0.out.mono ?_
          rintro e w4 ⟨rfl, f0, f1⟩
          clear W0
          have kb4 := below_only HBel.out f1 (by omega) HBel.out.size
          have F0 := Lib.hid f0
          have KB4 := Lib.hid kb4
          clear f0 f1 kb4
          go_wp2_with fail
          refine (HM0.out _ KB4.out F0.out).mono ?_
          rintro e w5 ⟨rfl, h5⟩
          have kb5 := KB4.out.trans (h5.mono KB4.out.size)
          have f5 := F0.out.kept h5
          have KB5 := Lib.hid kb5
          have F5 := Lib.hid f5
          clear h5 kb5 f5
          go_wp2_with fail
          refine (HS0.out _ KB5.out).mono ?_
          rintro e w6 ⟨rfl, h6⟩
          have kb6 := KB5.out.trans (h6.mono KB5.out.size)
          have f6 := F5.out.kept h6
          have KB6 := Lib.hid kb6
          have F6 := Lib.hid f6
          clear h6 kb6 f6
          go_wp2_with fail
          refine (HM0.out _ KB6.out F6.out).mono ?_
          rintro e w7 ⟨rfl, h7⟩
          have kb7 := KB6.out.trans (h7.mono KB6.out.size)
          have KB7 := Lib.hid kb7
          clear h7 kb7
          go_wp2_with fail
          refine (HS0.out _ KB7.out).mono ?_
          rintro e w8 ⟨rfl, h8⟩
          have kb8 := KB7.out.trans (h8.mono KB7.out.size)
          have KB8 := Lib.hid kb8
          clear h8 kb8
          go_wp2
          go_ret
          exact ⟨rfl, KB8.out⟩
  | some x0 =>
    clear hn0
    go_enter Tryd.func4, Tryd.ntmps4
    go_wp2_with fail
    refine HB.out.mono ?_
    rintro e w1 ⟨rfl, hb1⟩
    have KB1 := Lib.hid hb1
    clear hb1 HB
    go_wp2_with fail
    refine (HS _).out.mono ?_
    rintro e w' ⟨rfl, rfl⟩
    clear HS
    go_wp2_with fail
    refine (new_any _).mono ?_
    rintro e w2 ⟨rfl, i2, h2⟩
    have kb2 := KB1.out.trans (h2.mono KB1.out.size)
    have KB2 := Lib.hid kb2
    have I2 := Lib.hid i2
    have hs2 := I2.out.lt
    have hg1 := (HT.out.later KB1.out).lt
    have hw1 := KB1.out.size
    clear h2 kb2 i2
    go_wp2_with fail
    go_loopw [7, 8, 9, 10] (fun t i _ _ wr => ∃ k : Nat, k ≤ 12 ∧ t = .int .i64 0 ∧ i = .int .i64 k ∧ IsHash wr w1.heap.size [] ∧ Below w.heap.size w wr) (fun _ i _ _ _ => 12 - (intOf i).toNat)
    case atStart => exact ⟨0, by omega, rfl, rfl, I2.out, KB2.out⟩
    case round =>
      obtain ⟨k, hk, rfl, rfl, g0, hbel⟩ := hrel
      have G0 := Lib.hid g0
      have HBel := Lib.hid hbel
      have hwr := hbel.size
      have hgl := g0.lt
      clear g0 hbel
      by_cases hc : k < len1 ∧ k < 12
      · obtain ⟨hc1, hc2⟩ := hc
        obtain ⟨b1, o1, rfl, hcell⟩ : ∃ b off, a1 = some ⟨b, off, none⟩ ∧ wr.cell? ⟨b, off + k, none⟩ = some (.int .i64 (l1.getD k 0)) := by
          rcases H1.out.cells with h | ⟨b', off', rfl, hc⟩
          · omega
          · refine ⟨b', off', rfl, ?_⟩
            rw [HBel.out.cell (p := ⟨b', off' + k, none⟩) (block_lt_of_cell (hc k hc1))]; exact hc k hc1
        have hv := H1.out.small k hc1
        generalize l1.getD k 0 = v at hcell hv
        obtain ⟨q, hq, hq1, hq2⟩ : ∃ q, v.tmod 70 = q ∧ -70 < q ∧ q < 70 := ⟨_, rfl, (tmod70 v).1, (tmod70 v).2⟩
        obtain ⟨n, hn⟩ : ∃ n : Nat, n = q.natAbs := ⟨_, rfl⟩
        have HZ : Hid (0 = min 0 (0 + n)) := by show 0 = min 0 (0 + n); omega
        have hn' : n < 70 := by omega
        by_cases hneg : q < 0
        · obtain rfl : q = -(n : Int) := by omega
          clear hn
          have W0 := Lib.hid (write_any w1.heap.size [] (some x0) [] 0 cap0 wr (HT.out.later HBel.out) (by omega) G0.out (.inl rfl) (.inl rfl) Byte.nil rfl (by omega) (by omega) (by simp))
          rw [List.append_nil] at W0
          have same0 := bytes_same (digest []) (digest_length _)
          have hng := noGuard
          go_wp2_with (first
            | (refine wpList_min_run 0 (0 + n) (.tmp 37) (.tmp 40) rfl rfl rfl rfl rfl ?_; rw [← HZ.out])
            | fail)
          refine W0.out.mono ?_
          rintro e w4 ⟨rfl, f0, f1⟩
          clear W0
          have kb4 := below_only HBel.out f1 (by omega) HBel.out.size
          have S0 := fun w5 (h : Below w.heap.size w w5) => ssum_any (some x0) [] 0 cap0 w5 (HT.out.later h) (.inl rfl) Byte.nil rfl (by omega) (by omega) (by omega)
          have F0 := Lib.hid f0
          have KB4 := Lib.hid kb4
          have HS0 := Lib.hid S0
          clear f0 f1 kb4 S0
          go_wp2_with fail
          go_region_with (first
            | (go_at_call 14; refine (hsum_any w1.heap.size [] _ (HT.out.later (below_draws KB4.out 1)) (by exact F0.out) (by simp)).mono ?_; rintro e w5 ⟨rfl, h5⟩; have kb5 := (below_draws KB4.out 1).trans (h5.mono (by exact KB4.out.size)); have KB5 := Lib.hid kb5; have f5 := (show IsHash w4.drew w1.heap.size [] from F0.out).kept h5; have F5 := Lib.hid f5; clear h5 kb5 f5)
            | (go_at_call 10; refine (HS0.out _ KB5.out).mono ?_; rintro e w6 ⟨rfl, h6⟩; have kb6 := KB5.out.trans (h6.mono KB5.out.size); have f6 := F5.out.kept h6; have KB6 := Lib.hid kb6; have F6 := Lib.hid f6; clear h6 kb6 f6))
          all_goals
            go_wp2
            exact ⟨⟨k + 1, by omega, rfl, by go_num, F6.out, KB6.out⟩, by simp [intOf]; omega⟩
        · obtain rfl : q = (n : Int) := by omega
          clear hn
          have W0 := Lib.hid (write_any w1.heap.size [] (some x0) [] 0 cap0 wr (HT.out.later HBel.out) (by omega) G0.out (.inl rfl) (.inl rfl) Byte.nil rfl (by omega) (by omega) (by simp))
          rw [List.append_nil] at W0
          have same0 := bytes_same (digest []) (digest_length _)
          have hng := noGuard
          go_wp2_with (first
            | (refine wpList_min_run 0 (0 + n) (.tmp 37) (.tmp 40) rfl rfl rfl rfl rfl ?_; rw [← HZ.out])
            | fail)
          refine W0.out.mono ?_
          rintro e w4 ⟨rfl, f0, f1⟩
          clear W0
          have kb4 := below_only HBel.out f1 (by omega) HBel.out.size
          have S0 := fun w5 (h : Below w.heap.size w w5) => ssum_any (some x0) [] 0 cap0 w5 (HT.out.later h) (.inl rfl) Byte.nil rfl (by omega) (by omega) (by omega)
          have F0 := Lib.hid f0
          have KB4 := Lib.hid kb4
          have HS0 := Lib.hid S0
          clear f0 f1 kb4 S0
          go_wp2_with fail
          go_region_with (first
            | (go_at_call 14; refine (hsum_any w1.heap.size [] _ (HT.out.later (below_draws KB4.out 1)) (by exact F0.out) (by simp)).mono ?_; rintro e w5 ⟨rfl, h5⟩; have kb5 := (below_draws KB4.out 1).trans (h5.mono (by exact KB4.out.size)); have KB5 := Lib.hid kb5; have f5 := (show IsHash w4.drew w1.heap.size [] from F0.out).kept h5; have F5 := Lib.hid f5; clear h5 kb5 f5)
            | (go_at_call 10; refine (HS0.out _ KB5.out).mono ?_; rintro e w6 ⟨rfl, h6⟩; have kb6 := KB5.out.trans (h6.mono KB5.out.size); have f6 := F5.out.kept h6; have KB6 := Lib.hid kb6; have F6 := Lib.hid f6; clear h6 kb6 f6))
          all_goals
            go_wp2
            exact ⟨⟨k + 1, by omega, rfl, by go_num, F6.out, KB6.out⟩, by simp [intOf]; omega⟩
      · have W0 := Lib.hid (write_any w1.heap.size [] (some x0) [] 0 cap0 wr (HT.out.later HBel.out) (by omega) G0.out (.inl rfl) (.inl rfl) Byte.nil rfl (by omega) (by omega) (by simp))
        rw [List.append_nil] at W0
        have same0 := bytes_same (digest []) (digest_length _)
        have hng := noGuard
        have S0 := fun w5 (h : Below w.heap.size w w5) => ssum_any (some x0) [] 0 cap0 w5 (HT.out.later h) (.inl rfl) Byte.nil rfl (by omega) (by omega) (by omega)
        have M0 := fun w5 (h : Below w.heap.size w w5) (g : IsHash w5 w1.heap.size []) => hsum_any w1.heap.size [] w5 (HT.out.later h) g (by simp)
        have HS0 := Lib.hid S0
        have HM0 := Lib.hid M0
        clear S0 M0
        rcases (show (k < len1 ∧ ¬ k < 12) ∨ ¬ k < len1 by omega) with ⟨hd1, hd2⟩ | hd1
        all_goals
          go_wp2_with fail
          refine W0.out.mono ?_
          rintro e w4 ⟨rfl, f0, f1⟩
          clear W0
          have kb4 := below_only HBel.out f1 (by omega) HBel.out.size
          have F0 := Lib.hid f0
          have KB4 := Lib.hid kb4
          clear f0 f1 kb4
          go_wp2_with fail
          refine (HM0.out _ KB4.out F0.out).mono ?_
          rintro e w5 ⟨rfl, h5⟩
          have kb5 := KB4.out.trans (h5.mono KB4.out.size)
          have f5 := F0.out.kept h5
          have KB5 := Lib.hid kb5
          have F5 := Lib.hid f5
          clear h5 kb5 f5
          go_wp2_with fail
          refine (HS0.out _ KB5.out).mono ?_
          rintro e w6 ⟨rfl, h6⟩
          have kb6 := KB5.out.trans (h6.mono KB5.out.size)
          have f6 := F5.out.kept h6
          have KB6 := Lib.hid kb6
          have F6 := Lib.hid f6
          clear h6 kb6 f6
          go_wp2_with fail
          refine (HM0.out _ KB6.out F6.out).mono ?_
          rintro e w7 ⟨rfl, h7⟩
          have kb7 := KB6.out.trans (h7.mono KB6.out.size)
          have KB7 := Lib.hid kb7
          clear h7 kb7
          go_wp2_with fail
          refine (HS0.out _ KB7.out).mono ?_
          rintro e w8 ⟨rfl, h8⟩
          have kb8 := KB7.out.trans (h8.mono KB7.out.size)
          have KB8 := Lib.hid kb8
          clear h8 kb8
          go_wp2
          go_ret
          exact ⟨rfl, KB8.out⟩

theorem parts_any (a0 : Option Addr) (len0 cap0 : Nat) (l0 : List Int) (a1 : Option Addr) (len1 cap1 : Nat) (l1 : List Int) (w : World) (hT : Tab w) (h0 : Row w a0 len0 cap0 l0) (h1 : Nums w a1 len1 l1) :
    Calls Tryd.prog 4 #[.slice a0 len0 cap0, .slice a1 len1 cap1] w fun e w' => e = .returned (.bool true) ∧ Below w.heap.size w w' := by
  by_cases hz : len0 = 0
  · subst hz
    have hl : l0 = [] := List.eq_nil_of_length_eq_zero h0.length
    subst hl
    exact parts_none a0 cap0 a1 len1 cap1 l1 w hT h0 h1
  · have hs := h0.short 300
    obtain ⟨b0, o0, rfl⟩ : ∃ b off, a0 = some ⟨b, off, none⟩ := by
      rcases h0.bytes with h | ⟨b, off, rfl, _⟩
      · have := h0.length; rw [h] at this; simp at this; omega
      · exact ⟨b, off, rfl⟩
    exact parts_some b0 o0 cap0 _ _ a1 len1 cap1 l1 len0 w hT h0.le rfl (by omega) hs h1
end Go.Proofs.YthhmgaagalnolaaDoor.sha
