/-
  THE WALK OF 'stillroomlaw1.Short'.
-/
import Derived.Test.YtchbfcegonlhoaaDoorShaTwoParts
namespace Go.Proofs.YtchbfcegonlhoaaDoor.sha
open Go.RowKit
theorem short_any (a : Option Addr) (len cap n : Nat) (w : World) (hlc : len ≤ cap) (ha : a = none → len = 0 ∧ cap = 0) (hn : n ≤ 1000) :
    Calls Tryd.prog 9 #[.slice a len cap, .int .i64 n] w fun e w' => e = .returned (.slice a (min len n) cap) ∧ w = w' := by
  by_cases h : n < len
  · rw [show min len n = n by omega]
    cases a with
    | none => have := ha rfl; omega
    | some x =>
      clear ha
      have h1 : (n : Int) < (len : Int) := by omega
      go_enter Tryd.func9, Tryd.ntmps9
      go_wp2
      go_ret
      exact ⟨rfl, rfl⟩
  · rw [show min len n = len by omega]
    have h1 : ¬ (n : Int) < (len : Int) := by omega
    clear ha
    go_enter Tryd.func9, Tryd.ntmps9
    go_wp2
    go_ret
    exact ⟨rfl, rfl⟩
theorem tmod70 (v : Int) : -70 < v.tmod 70 ∧ v.tmod 70 < 70 := by
  rcases Int.le_total 0 v with h | h
  · rw [Int.tmod_eq_emod_of_nonneg h]; omega
  · obtain ⟨n, rfl⟩ : ∃ n : Int, v = -n := ⟨-v, by omega⟩
    rw [Int.neg_tmod, Int.tmod_eq_emod_of_nonneg (by omega)]; omega
end Go.Proofs.YtchbfcegonlhoaaDoor.sha
