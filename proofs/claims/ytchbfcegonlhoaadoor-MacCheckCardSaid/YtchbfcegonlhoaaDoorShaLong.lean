/-
  THE WALK OF 'ShaLong': texts of any length of one byte.
-/
import Derived.Test.YtchbfcegonlhoaaDoorShaShort
import Derived.Test.YtchbfcegonlhoaaDoorRefTake
namespace Go.Proofs.YtchbfcegonlhoaaDoor.sha
open Go.RowKit

theorem bounds_u8 {n : Int} (h : (Lit.int .u8 n).wf = true) : 0 ≤ n ∧ n ≤ 255 := by
  simp [Lit.wf, IntKind.min, IntKind.max, IntKind.signed, IntKind.bits] at h
  omega

/-- k bytes x, and noughts behind them, n in all. -/
def filledB (n k : Nat) (x : Int) : List Int := List.replicate k x ++ List.replicate (n - k) 0
theorem filledB_length {n k : Nat} (x : Int) (h : k ≤ n) : (filledB n k x).length = n := by simp [filledB]; omega
theorem filledB_set {n k : Nat} (x : Int) (h : k < n) : (filledB n k x).set k x = filledB n (k + 1) x := by
  unfold filledB
  rw [List.set_append_right _ _ (by simp), List.length_replicate, Nat.sub_self, show n - k = (n - (k + 1)) + 1 by omega, List.replicate_succ, List.set_cons_zero, List.replicate_succ', List.append_assoc]
  rfl
theorem filledB_full (n : Nat) (x : Int) : filledB n n x = List.replicate n x := by simp [filledB]
theorem Byte.many {x : Int} (h : 0 ≤ x ∧ x ≤ 255) (n : Nat) : Byte (List.replicate n x) := fun c hc => by rw [List.eq_of_mem_replicate hc]; omega

set_option maxRecDepth 100000 in
set_option maxHeartbeats 2000000 in
theorem shaLong_any (m x : Int) (w : World) (hT : Tab w) (hm : -9223372036854775808 ≤ m ∧ m ≤ 9223372036854775807) (hx : 0 ≤ x ∧ x ≤ 255) :
    Calls Tryd.prog 4 #[.int .i64 m, .int .u8 x] w fun e w' => e = .returned (.bool true) ∧ Below w.heap.size w w' := by
  have HB := Lib.hid (begun_any w hT)
  have HT := Lib.hid hT
  clear hT
  by_cases hc : 0 ≤ m ∧ m ≤ 300
  · obtain ⟨n, rfl⟩ : ∃ n : Nat, m = (n : Int) := ⟨m.toNat, by omega⟩
    have hn : n ≤ 300 := by omega
    have c1 : ¬ (n : Int) < 0 := by omega
    have c2 : ¬ (300 : Int) < (n : Int) := by omega
    clear hc
    go_enter Tryd.func4, Tryd.ntmps4
    go_wp2_with fail
    refine HB.out.mono ?_
    rintro e w1 ⟨rfl, hb1⟩
    obtain ⟨w2, hmk, own2, bel2⟩ := run_make_bytes w1 n (by omega)
    have kb2 := hb1.trans (bel2.mono hb1.size)
    have Own2 := Lib.hid own2
    have KB2 := Lib.hid kb2
    have hw1 := hb1.size
    clear own2 bel2 kb2 hb1 HB
    go_wp2_with fail
    clear hmk
    go_loopw [7] (fun i wr => ∃ k : Nat, k ≤ n ∧ i = .int .i64 k ∧ Own wr w1.heap.size (.slice (some ⟨w1.heap.size, 0, none⟩) n n) (filledB n k x) ∧ Below w.heap.size w wr) (fun i _ => n - (intOf i).toNat)
    case atStart => exact ⟨0, by omega, rfl, by simpa [filledB] using Own2.out, KB2.out⟩
    case round =>
      obtain ⟨k, hk, rfl, hown, hbel⟩ := hrel
      by_cases hlt : k < n
      · have hcl := hown.cell (filledB_length x hk) k hlt
        have hfr := hown.free (filledB_length x hk) k
        generalize (filledB n k x).getD k 0 = z at hcl
        have hset := hown.set (filledB_length x hk) k x
        rw [filledB_set x hlt] at hset
        have HSET := Lib.hid hset
        have HBel := Lib.hid hbel
        clear hset hown hbel
        go_wp2_with fail
        exact ⟨⟨k + 1, by omega, by go_num, HSET.out, HBel.out.setCell hw1 _⟩, by simp [intOf]; omega⟩
      · obtain rfl : k = n := by omega
        rw [filledB_full] at hown
        obtain ⟨A, c, hv, f1, f2, f3, f4, _, _⟩ := hown.form
        rw [List.length_replicate] at hv f1 f3
        injection hv with hA _ hcc
        subst hA
        subst hcc
        have same0 := bytes_same (digest (List.replicate k x)) (digest_length _)
        have hng := noGuard
        have HLD := Lib.hid f4
        have HBel := Lib.hid hbel
        have HBY := Lib.hid (Byte.many hx k)
        have HLN := Lib.hid (show (List.replicate k x).length = k from List.length_replicate)
        clear f3 f4 hown hbel
        go_wp2_with fail
        refine (ssum_any _ (List.replicate k x) k k wr (HT.out.later HBel.out) HLD.out HBY.out HLN.out (Nat.le_refl _) f2 (by omega)).mono ?_
        rintro e w4 ⟨rfl, h4⟩
        have kb4 := HBel.out.trans (h4.mono HBel.out.size)
        have ld4 := HLD.out.later h4
        have KB4 := Lib.hid kb4
        have LD4 := Lib.hid ld4
        clear h4 kb4 ld4
        go_wp2_with fail
        refine (rDigest_any _ (List.replicate k x) k k w4 LD4.out HBY.out HLN.out (fun e => by cases e) (by omega)).mono ?_
        rintro e w5 ⟨rfl, h5⟩
        have kb5 := KB4.out.trans (h5.mono KB4.out.size)
        have KB5 := Lib.hid kb5
        clear h5 kb5
        go_wp2
        go_ret
        exact ⟨rfl, KB5.out⟩
  · rcases (show m < 0 ∨ (¬ m < 0 ∧ 300 < m) by omega) with c1 | ⟨c1, c2⟩
    all_goals
      clear hc
      go_enter Tryd.func4, Tryd.ntmps4
      go_wp2_with fail
      refine HB.out.mono ?_
      rintro e w1 ⟨rfl, hb1⟩
      have KB1 := Lib.hid hb1
      clear hb1 HB
      go_wp2
      go_ret
      exact ⟨rfl, KB1.out⟩
end Go.Proofs.YtchbfcegonlhoaaDoor.sha
