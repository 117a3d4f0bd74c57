/-
  THE WALK OF 'ShaTwo', one of four cases: which of the two texts is cut.
-/
import Derived.Test.YthhmgaagalnolaaDoorShaTwoParts
namespace Go.Proofs.YthhmgaagalnolaaDoor.sha
open Go.RowKit

set_option maxRecDepth 100000 in
set_option maxHeartbeats 4000000 in
theorem twoSS (a0 : Option Addr) (len0 cap0 : Nat) (l0 : List Int) (a1 : Option Addr) (len1 cap1 : Nat) (l1 : List Int) (w : World) (hT : Tab w) (h0 : Row w a0 len0 cap0 l0) (h1 : Row w a1 len1 cap1 l1) (c0 : ¬ 200 < len0) (c1 : ¬ 200 < len1) :
    Calls Tryd.prog 7 #[.slice a0 len0 cap0, .slice a1 len1 cap1] w fun e w' => e = .returned (.bool true) ∧ Below w.heap.size w w' := by
  have HB := Lib.hid (begun_any w hT)
  have HT := Lib.hid hT
  clear hT
  have s0 := h0
  generalize l0 = k0 at s0
  clear h0
  have s1 := h1
  generalize l1 = k1 at s1
  clear h1
  go_enter Tryd.func7, Tryd.ntmps7
  go_wp2_with fail
  refine HB.out.mono ?_
  rintro e w1 ⟨rfl, hb1⟩
  have KB1 := Lib.hid hb1
  clear hb1 HB
  go_wp2_with fail
  have hr0 := s0.le
  have hr1 := s1.le
  have hc0 := s0.most
  have hc1 := s1.most
  have r0' := s0
  have r1' := s1
  clear s0 s1
  refine (new_any _).mono ?_
  rintro e w2 ⟨rfl, i2, h2⟩
  have kb2 := KB1.out.trans (h2.mono KB1.out.size)
  have KB2 := Lib.hid kb2
  have I2 := Lib.hid i2
  have hs2 := I2.out.lt
  clear h2 kb2 i2
  go_wp2_with fail
  refine (new_any _).mono ?_
  rintro e w3 ⟨rfl, i3, h3⟩
  have kb3 := KB2.out.trans (h3.mono KB2.out.size)
  have i2' := I2.out.kept h3
  have hgh := h3.size
  have KB3 := Lib.hid kb3
  have I2' := Lib.hid i2'
  have I3 := Lib.hid i3
  have hs3 := I3.out.lt
  have hg1 := (HT.out.later KB1.out).lt
  have hw1 := KB1.out.size
  clear h3 kb3 i3 i2'
  go_wp2_with fail
  go_loopw [8] (fun i wr => ∃ k : Nat, k ≤ 200 ∧ i = .int .i64 k ∧ IsHash wr w1.heap.size (k0.take k) ∧ IsHash wr w2.heap.size (k1.take k) ∧ Below w.heap.size w wr) (fun i _ => 200 - (intOf i).toNat)
  case atStart => exact ⟨0, by omega, rfl, by rw [List.take_zero]; exact I2'.out, by rw [List.take_zero]; exact I3.out, KB3.out⟩
  case round =>
    obtain ⟨k, hk, rfl, g0, g1, hbel⟩ := hrel
    have G0 := Lib.hid g0
    have G1 := Lib.hid g1
    have HBel := Lib.hid hbel
    have hwr := hbel.size
    have hl0 := G0.out.lt
    have hl1 := G1.out.lt
    clear g0 g1 hbel
    by_cases a0c : k < len0
    · obtain ⟨b0, o0, rfl, x0, p0⟩ := r0'.piece HBel.out k a0c w1.heap.size (by omega)
      have n0 : ¬ cap0 = k := by omega
      have e0 := take_next k0 k (by rw [r0'.length]; exact a0c)
      have W0 := Lib.hid (write_any w1.heap.size (k0.take k) (some ⟨b0, o0 + k, none⟩) [k0.getD k 0] 1 (cap0 - k) wr (HT.out.later HBel.out) (by omega) G0.out x0 p0 (r0'.byte.one (by rw [r0'.length]; exact a0c)) rfl (by omega) (by omega) (by rw [List.length_take]; simp; omega))
      rw [← e0] at W0
      clear x0 p0 e0
      by_cases a1c : k < len1
      · go_wp2_with fail
        refine W0.out.mono ?_
        rintro e w4 ⟨rfl, f0, f1⟩
        clear W0
        have kb4 := below_only HBel.out f1 (by omega) HBel.out.size
        have g1' : IsHash w4 w2.heap.size (k1.take k) := G1.out.apart f1 (by omega)
        obtain ⟨b1, o1, rfl, x1, p1⟩ := r1'.piece kb4 k a1c w2.heap.size (by omega)
        have n1 : ¬ cap1 = k := by omega
        have e1 := take_next k1 k (by rw [r1'.length]; exact a1c)
        have W1 := Lib.hid (write_any w2.heap.size (k1.take k) (some ⟨b1, o1 + k, none⟩) [k1.getD k 0] 1 (cap1 - k) w4 (HT.out.later kb4) (by omega) g1' x1 p1 (r1'.byte.one (by rw [r1'.length]; exact a1c)) rfl (by omega) (by omega) (by rw [List.length_take]; simp; omega))
        rw [← e1] at W1
        have F0 := Lib.hid f0
        have KB4 := Lib.hid kb4
        clear f0 f1 kb4 g1' x1 p1 e1
        go_wp2_with fail
        refine W1.out.mono ?_
        rintro e w5 ⟨rfl, f2, f3⟩
        clear W1
        have kb5 := below_only KB4.out f3 (by omega) KB4.out.size
        have g0' : IsHash w5 w1.heap.size (k0.take (k + 1)) := F0.out.apart f3 (by omega)
        have F2 := Lib.hid f2
        have F0' := Lib.hid g0'
        have KB5 := Lib.hid kb5
        clear f2 f3 kb5 g0'
        go_wp2_with fail
        exact ⟨⟨k + 1, by omega, by go_num, F0'.out, F2.out, KB5.out⟩, by simp [intOf]; omega⟩
      · have e1 := take_same k1 k (by rw [r1'.length]; omega)
        go_wp2_with fail
        refine W0.out.mono ?_
        rintro e w4 ⟨rfl, f0, f1⟩
        clear W0
        have kb4 := below_only HBel.out f1 (by omega) HBel.out.size
        have g1' : IsHash w4 w2.heap.size (k1.take (k + 1)) := by rw [← e1]; exact G1.out.apart f1 (by omega)
        have F0 := Lib.hid f0
        have F1 := Lib.hid g1'
        have KB4 := Lib.hid kb4
        clear f0 f1 kb4 g1' e1
        go_wp2_with fail
        exact ⟨⟨k + 1, by omega, by go_num, F0.out, F1.out, KB4.out⟩, by simp [intOf]; omega⟩
    · by_cases a1c : k < len1
      · have e0 := take_same k0 k (by rw [r0'.length]; omega)
        obtain ⟨b1, o1, rfl, x1, p1⟩ := r1'.piece HBel.out k a1c w2.heap.size (by omega)
        have n1 : ¬ cap1 = k := by omega
        have e1 := take_next k1 k (by rw [r1'.length]; exact a1c)
        have W1 := Lib.hid (write_any w2.heap.size (k1.take k) (some ⟨b1, o1 + k, none⟩) [k1.getD k 0] 1 (cap1 - k) wr (HT.out.later HBel.out) (by omega) G1.out x1 p1 (r1'.byte.one (by rw [r1'.length]; exact a1c)) rfl (by omega) (by omega) (by rw [List.length_take]; simp; omega))
        rw [← e1] at W1
        clear x1 p1 e1
        go_wp2_with fail
        refine W1.out.mono ?_
        rintro e w4 ⟨rfl, f0, f1⟩
        clear W1
        have kb4 := below_only HBel.out f1 (by omega) HBel.out.size
        have g1' : IsHash w4 w1.heap.size (k0.take (k + 1)) := by rw [← e0]; exact G0.out.apart f1 (by omega)
        have F0 := Lib.hid f0
        have F1 := Lib.hid g1'
        have KB4 := Lib.hid kb4
        clear f0 f1 kb4 g1' e0
        go_wp2_with fail
        exact ⟨⟨k + 1, by omega, by go_num, F1.out, F0.out, KB4.out⟩, by simp [intOf]; omega⟩
      · have t0 : k0.take k = k0 := List.take_of_length_le (by rw [r0'.length]; omega)
        have t1 : k1.take k = k1 := List.take_of_length_le (by rw [r1'.length]; omega)
        have C0 := hsum_any w1.heap.size k0 wr (HT.out.later HBel.out) (by have := G0.out; rwa [t0] at this) (by rw [r0'.length]; omega)
        have G1' : Hid (IsHash wr w2.heap.size k1) := by show IsHash _ _ _; have := G1.out; rwa [t1] at this
        have C0' := Lib.hid C0
        have same0 := bytes_same (digest k0) (digest_length k0)
        have same1 := bytes_same (digest k1) (digest_length k1)
        have hng := noGuard
        clear t0 t1 C0
        go_wp2_with fail
        refine C0'.out.mono ?_
        rintro e w4 ⟨rfl, h4⟩
        have kb4 := HBel.out.trans (h4.mono HBel.out.size)
        have g4 := G1'.out.kept h4
        have KB4 := Lib.hid kb4
        have G4 := Lib.hid g4
        clear h4 kb4 g4 C0'
        go_wp2_with fail
        refine (ssum_any a0 k0 len0 cap0 w4 (HT.out.later KB4.out) (r0'.later KB4.out).bytes r0'.byte r0'.length r0'.le r0'.most (by omega)).mono ?_
        rintro e w5 ⟨rfl, h5⟩
        have kb5 := KB4.out.trans (h5.mono KB4.out.size)
        have g5 := G4.out.kept h5
        have KB5 := Lib.hid kb5
        have G5 := Lib.hid g5
        clear h5 kb5 g5
        go_wp2_with fail
        refine (hsum_any w2.heap.size k1 w5 (HT.out.later KB5.out) G5.out (by rw [r1'.length]; omega)).mono ?_
        rintro e w6 ⟨rfl, h6⟩
        have kb6 := KB5.out.trans (h6.mono KB5.out.size)
        have KB6 := Lib.hid kb6
        clear h6 kb6
        go_wp2_with fail
        refine (ssum_any a1 k1 len1 cap1 w6 (HT.out.later KB6.out) (r1'.later KB6.out).bytes r1'.byte r1'.length r1'.le r1'.most (by omega)).mono ?_
        rintro e w7 ⟨rfl, h7⟩
        have kb7 := KB6.out.trans (h7.mono KB6.out.size)
        have KB7 := Lib.hid kb7
        clear h7 kb7
        go_wp2
        go_ret
        exact ⟨rfl, KB7.out⟩
end Go.Proofs.YthhmgaagalnolaaDoor.sha
