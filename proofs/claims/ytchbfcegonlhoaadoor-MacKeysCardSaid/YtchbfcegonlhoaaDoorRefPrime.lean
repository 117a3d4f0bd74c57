/-
  THE WALKS OF the reference's 'prime' and 'first': the first 64 primes.
-/
import Derived.Test.YtchbfcegonlhoaaDoorRows
import Derived.Test.YtchbfcegonlhoaaDoorOwn
import Derived.WalkKit
import Derived.WalkSpells
import Derived.WalkLawsBesides
import Derived.Outline
import Derived.LoopTactic
import Derived.Below
import Derived.Lib.Hide
namespace Go.Proofs.YtchbfcegonlhoaaDoor.sha
open Go.RowKit

def divides (n k : Nat) : Bool := decide (2 ≤ k) && decide (k * k ≤ n) && decide (n % k = 0)
def prm (n : Nat) : Bool := decide (1 < n) && !(List.range 21).any (divides n)
theorem prm_false {n k : Nat} (hk : 2 ≤ k) (h1 : k * k ≤ n) (h2 : n % k = 0) (hn : n ≤ 400) : prm n = false := by
  have hk21 : k < 21 := by
    refine Nat.lt_of_not_le fun h => ?_
    have : 21 * 21 ≤ k * k := Nat.mul_le_mul h h
    omega
  have : (List.range 21).any (divides n) = true := List.any_eq_true.2 ⟨k, List.mem_range.2 hk21, by simp [divides, hk, h1, h2]⟩
  simp [prm, this]
theorem prm_true {n k : Nat} (h1 : ∀ j, 2 ≤ j → j < k → ¬ (j * j ≤ n ∧ n % j = 0)) (hk : n < k * k) (hn : 1 < n) : prm n = true := by
  have : (List.range 21).any (divides n) = false := by
    rw [List.any_eq_false]
    intro j _
    simp only [divides, Bool.and_eq_true, decide_eq_true_eq, not_and]
    intro hj hz
    rcases Nat.lt_or_ge j k with h | h
    · exact h1 j hj.1 h ⟨hj.2, hz⟩
    · have := Nat.mul_le_mul h h; omega
  simp [prm, this, hn]
set_option maxHeartbeats 400000 in
theorem prime_any (n : Nat) (hn : n ≤ 400) (hn2 : 2 ≤ n) (w : World) :
    Calls Tryd.prog 32 #[.int .i64 (n : Int)] w fun e w' => e = .returned (.bool (prm n)) ∧ w = w' := by
  obtain ⟨b, hb⟩ : ∃ b, prm n = b := ⟨_, rfl⟩
  have HB := Lib.hid hb
  clear hb
  go_enter Tryd.func32, Tryd.ntmps32
  go_wp2_with fail
  go_loop [3] (fun i => ∃ k : Nat, 2 ≤ k ∧ k ≤ 21 ∧ i = .int .i64 k ∧ ∀ j, 2 ≤ j → j < k → ¬ (j * j ≤ n ∧ n % j = 0)) (fun i => 30 - (intOf i).toNat)
  case atStart => exact ⟨2, by omega, by omega, rfl, by intro j h1 h2; omega⟩
  case round =>
    obtain ⟨k, hk2, hk21, rfl, hall⟩ := hrel
    have HA := Lib.hid hall
    clear hall
    have hkk : k * k ≤ 441 := Nat.mul_le_mul hk21 hk21
    have hkz : ((k : Int) * (k : Int)) = ((k * k : Nat) : Int) := by simp
    have hkb : 0 ≤ ((k : Int) * (k : Int)) ∧ ((k : Int) * (k : Int)) ≤ 441 := by rw [hkz]; omega
    by_cases hc : k * k ≤ n
    · have ht : decide ((k : Int) * (k : Int) ≤ (n : Int)) = true := by rw [decide_eq_true_iff, hkz]; omega
      by_cases hd : n % k = 0
      · have hd2 : (((n : Int) % (k : Int)) == 0) = true := by rw [beq_iff_eq]; omega
        have hp := prm_false hk2 hc hd hn
        have HP := Lib.hid hp
        clear hp hkz hc hd
        go_wp2
        go_ret
        exact ⟨by rw [HP.out]; rfl, rfl⟩
      · have hd2 : (((n : Int) % (k : Int)) == 0) = false := by rw [beq_eq_false_iff_ne]; omega
        have hk20 : k ≤ 20 := by
          refine Nat.le_of_not_lt fun h => ?_
          have : 21 * 21 ≤ k * k := Nat.mul_le_mul h h
          omega
        have hnew : ∀ j, 2 ≤ j → j < k + 1 → ¬ (j * j ≤ n ∧ n % j = 0) := by
          intro j h1 h2
          rcases Nat.lt_or_ge j k with h | h
          · exact HA.out j h1 h
          · obtain rfl : j = k := by omega
            exact fun h => hd h.2
        have HN := Lib.hid hnew
        clear hnew hkz hc hd
        go_wp2
        go_round
        case rel => exact ⟨k + 1, by omega, by omega, by go_num, HN.out⟩
        case measure => simp [intOf]; omega
    · have ht : decide ((k : Int) * (k : Int) ≤ (n : Int)) = false := by rw [decide_eq_false_iff_not, hkz]; omega
      have hp := prm_true HA.out (by omega) (by omega)
      have HP := Lib.hid hp
      have hn1 : decide ((1 : Int) < (n : Int)) = true := by rw [decide_eq_true_iff]; omega
      clear hp hkz hc
      go_wp2
      go_ret
      exact ⟨by rw [HP.out]; rfl, rfl⟩
end Go.Proofs.YtchbfcegonlhoaaDoor.sha
