/-
  MATHEMATICS of a torn write: what a crash leaves, byte by byte.
-/
import Derived.Test.YtfkiifcglgnakaaDkRows
namespace Go.Proofs.Ytfkiifcglgnakaa.disk
open Go.RowKit Go.Maps

/-- The numbers from a on, m of them. -/
def upFrom (a : Nat) : Nat → List Nat
  | 0 => []
  | m + 1 => a :: upFrom (a + 1) m
theorem upFrom_snoc : ∀ (m a : Nat), upFrom a (m + 1) = upFrom a m ++ [a + m]
  | 0, a => rfl
  | m + 1, a => by
    have ih := upFrom_snoc m (a + 1)
    rw [upFrom, ih, upFrom, List.cons_append, show a + 1 + m = a + (m + 1) by omega]
theorem mem_upFrom : ∀ (m a x : Nat), x ∈ upFrom a m → a ≤ x ∧ x < a + m
  | 0, _, _, h => by cases h
  | m + 1, a, x, h => by
    rw [upFrom] at h
    rcases List.mem_cons.1 h with rfl | h
    · omega
    · have := mem_upFrom m (a + 1) x h; omega
theorem sins_last (s : Nat) : ∀ l : List Nat, (∀ x ∈ l, x < s) → sins s l = l ++ [s]
  | [], _ => rfl
  | x :: r, h => by
    have hx := h x (by simp)
    unfold sins
    rw [if_neg (by omega), sins_last s r fun y hy => h y (by simp [hy])]
    rfl
theorem marks_upFrom (a : Nat) : ∀ k, marks [] a k = upFrom a k
  | 0 => rfl
  | k + 1 => by
    rw [marks, marks_upFrom a k, upFrom_snoc, sput]
    have hf : (upFrom a k).filter (fun x => !(x == a + k)) = upFrom a k := by
      rw [List.filter_eq_self]
      intro x hx
      have := mem_upFrom k a x hx
      have : ¬ x = a + k := by omega
      simp [this]
    rw [hf, sins_last _ _ fun x hx => by have := mem_upFrom k a x hx; omega]

theorem getD_laid' (l part : List Int) (p i : Nat) : (laidL l p part).getD i 0 = if p ≤ i ∧ i < p + part.length then part.getD (i - p) 0 else l.getD i 0 := by
  by_cases hp : part = []
  · subst hp
    rw [laidL_nil, if_neg]
    rintro ⟨h1, h2⟩
    have h2 : i < p + 0 := h2
    omega
  · rw [getD_laid _ _ _ _ hp]
    by_cases h1 : i < p
    · rw [if_pos h1, if_neg (by omega)]
    · rw [if_neg h1]
      by_cases h2 : i < p + part.length
      · rw [if_pos h2, if_pos (by omega)]
      · rw [if_neg h2, if_neg (by omega)]
theorem getD_first (A : FileA) (s t i : Nat) (h : s * 64 ≤ i) (h2 : i < s * 64 + (firstL A s t).length) : (firstL A s t).getD (i - s * 64) 0 = A.now.getD i 0 ∧ i < s * 64 + t := by
  have hl := firstL_length A s t
  have ht : i - s * 64 < t := by omega
  refine ⟨?_, by omega⟩
  unfold firstL
  rw [List.getD_eq_getElem?_getD, List.getElem?_take_of_lt ht, List.getElem?_drop, List.getD_eq_getElem?_getD, show s * 64 + (i - s * 64) = i by omega]

/-- BYTE BY BYTE: of dirty sectors that follow one another each leaves so many first bytes as are taken. -/
theorem leaveL_at (A : FileA) (keep : List Bool) (torn : Int) (i : Nat) (hi : i < A.now.length) : ∀ (m s k : Nat) (b : List Int), (leaveL A keep torn k (upFrom s m) b).getD i 0 =
    if s ≤ i / 64 ∧ i / 64 < s + m ∧ i % 64 < takes keep torn (k + (i / 64 - s)) then A.now.getD i 0 else b.getD i 0
  | 0, s, k, b => by
    rw [upFrom, leaveL, if_neg (by omega)]
  | m + 1, s, k, b => by
    rw [upFrom, leaveL, leaveL_at A keep torn i hi m (s + 1) (k + 1), getD_laid']
    have hd := Nat.div_add_mod i 64
    have hm := Nat.mod_lt i (show 0 < 64 by omega)
    have htk := takes_le keep torn k
    have hfl := firstL_length A s (takes keep torn k)
    generalize hq : i / 64 = q at *
    generalize hr : i % 64 = r at *
    by_cases e : q = s
    · subst e
      rw [if_neg (by omega), show k + (q - q) = k by omega]
      by_cases h1 : r < takes keep torn k
      · rw [if_pos (by omega), if_pos (by omega)]
        exact (getD_first A q _ i (by omega) (by omega)).1
      · rw [if_neg (by omega), if_neg (by omega)]
    · have hno : ¬ (s * 64 ≤ i ∧ i < s * 64 + (firstL A s (takes keep torn k)).length) := by omega
      rw [if_neg hno]
      by_cases h2 : s + 1 ≤ q ∧ q < s + 1 + m ∧ r < takes keep torn (k + 1 + (q - (s + 1)))
      · rw [if_pos h2, if_pos ⟨by omega, by omega, by rw [show k + (q - s) = k + 1 + (q - (s + 1)) by omega]; exact h2.2.2⟩]
      · rw [if_neg h2, if_neg]
        rintro ⟨h3, h4, h5⟩
        exact h2 ⟨by omega, by omega, by rw [show k + 1 + (q - (s + 1)) = k + (q - s) by omega]; exact h5⟩
theorem leaveL_le (A : FileA) (keep : List Bool) (torn : Int) : ∀ (m s k : Nat) (b : List Int), b.length ≤ A.now.length → (∀ x ∈ upFrom s m, x * 64 ≤ A.now.length) → b.length ≤ (leaveL A keep torn k (upFrom s m) b).length ∧ (leaveL A keep torn k (upFrom s m) b).length ≤ A.now.length
  | 0, _, _, b, hb, _ => ⟨Nat.le_refl _, hb⟩
  | m + 1, s, k, b, hb, hs => by
    rw [upFrom, leaveL]
    have h1 := laid_first_le (k := takes keep torn k) hb (hs s (by rw [upFrom]; simp))
    have h2 := leaveL_le A keep torn m (s + 1) (k + 1) _ h1 fun x hx => hs x (by rw [upFrom]; simp [hx])
    refine ⟨Nat.le_trans ?_ h2.1, h2.2⟩
    by_cases hp : firstL A s (takes keep torn k) = []
    · rw [hp, laidL_nil]; exact Nat.le_refl _
    · rw [laidL_length _ _ _ hp]; omega
/-- What a crash leaves of a file that was synced and then written to once. -/
theorem torn_left (old part : List Int) (q : Nat) (keep : List Bool) (torn : Int) :
    old.length ≤ (leftL (FileA.write ⟨old, old, []⟩ q part) keep torn).length ∧ (leftL (FileA.write ⟨old, old, []⟩ q part) keep torn).length ≤ (FileA.write ⟨old, old, []⟩ q part).now.length ∧
      ∀ i, i < (FileA.write ⟨old, old, []⟩ q part).now.length → (leftL (FileA.write ⟨old, old, []⟩ q part) keep torn).getD i 0 =
        if (0 < part.length ∧ q / 64 ≤ i / 64 ∧ i / 64 ≤ (q + part.length - 1) / 64) ∧ i % 64 < takes keep torn (i / 64 - q / 64) then (FileA.write ⟨old, old, []⟩ q part).now.getD i 0 else old.getD i 0 := by
  by_cases hp : part = []
  · subst hp
    have e : FileA.write ⟨old, old, []⟩ q [] = ⟨old, old, []⟩ := by unfold FileA.write; rw [if_pos rfl]
    rw [e]
    refine ⟨Nat.le_refl _, Nat.le_refl _, fun i _ => ?_⟩
    rw [if_neg (by rintro ⟨⟨h, _⟩, _⟩; cases h)]
    rfl
  · have hl : 0 < part.length := List.length_pos_iff.2 hp
    have e : FileA.write ⟨old, old, []⟩ q part = ⟨laidL old q part, old, upFrom (q / 64) ((q + part.length - 1) / 64 + 1 - q / 64)⟩ := by
      unfold FileA.write
      rw [if_neg hp, marks_upFrom]
    have hn : (laidL old q part).length = max old.length (q + part.length) := laidL_length _ _ _ hp
    rw [e]
    unfold leftL
    obtain ⟨h1, h2⟩ := leaveL_le ⟨laidL old q part, old, upFrom (q / 64) ((q + part.length - 1) / 64 + 1 - q / 64)⟩ keep torn ((q + part.length - 1) / 64 + 1 - q / 64) (q / 64) 0 old (by show old.length ≤ (laidL old q part).length; omega) (fun x hx => by
      have := mem_upFrom _ _ _ hx
      show x * 64 ≤ (laidL old q part).length
      omega)
    refine ⟨h1, h2, fun i hi => ?_⟩
    rw [leaveL_at _ keep torn i hi]
    have e2 : (q / 64 ≤ i / 64 ∧ i / 64 < q / 64 + ((q + part.length - 1) / 64 + 1 - q / 64) ∧ i % 64 < takes keep torn (0 + (i / 64 - q / 64))) ↔ ((0 < part.length ∧ q / 64 ≤ i / 64 ∧ i / 64 ≤ (q + part.length - 1) / 64) ∧ i % 64 < takes keep torn (i / 64 - q / 64)) := by
      rw [Nat.zero_add]
      constructor
      · rintro ⟨a, b, c⟩
        exact ⟨⟨hl, a, by omega⟩, c⟩
      · rintro ⟨⟨_, a, b⟩, c⟩
        exact ⟨a, by omega, c⟩
    simp only [e2]
end Go.Proofs.Ytfkiifcglgnakaa.disk
