/-
  PLAIN MATHEMATICS OF NUMBERS AS BYTES (P4.1): the lowest bytes of a number, the highest first; the number that bytes hold. No program stands in it.
-/
import Derived.Laws.BitsAllLaws
namespace Go.Proofs.YtodajceiadbpeaaDoor.num

/-- The k lowest bytes of n, the highest first. -/
def be (n : Nat) : Nat → List Int
  | 0 => []
  | k + 1 => be (n / 256) k ++ [((n % 256 : Nat) : Int)]
theorem be_length : ∀ (k n : Nat), (be n k).length = k
  | 0, _ => rfl
  | k + 1, n => by rw [be, List.length_append, be_length k]; rfl
theorem be_byte : ∀ (k n : Nat), ∀ c ∈ be n k, 0 ≤ c ∧ c < 256
  | 0, _, _, h => by cases h
  | k + 1, n, c, h => by
    rw [be] at h
    rcases List.mem_append.1 h with h | h
    · exact be_byte k _ c h
    · have := List.mem_singleton.1 h; omega
theorem be_cons : ∀ (k n : Nat), be n (k + 1) = ((n / 256 ^ k % 256 : Nat) : Int) :: be n k
  | 0, n => by simp [be]
  | k + 1, n => by
    rw [be, be_cons k, be, List.cons_append, Nat.div_div_eq_div_mul, Nat.pow_succ, Nat.mul_comm 256]
theorem be_take (n : Nat) : ∀ (k j : Nat), j < k → (be n k).take (j + 1) = (be n k).take j ++ [((n / 256 ^ (k - 1 - j) % 256 : Nat) : Int)]
  | 0, _, h => by omega
  | k + 1, 0, _ => by rw [be_cons]; simp
  | k + 1, j + 1, h => by
    rw [be_cons, List.take_succ_cons, be_take n k j (by omega), List.take_succ_cons, List.cons_append, show k + 1 - 1 - (j + 1) = k - 1 - j by omega]
/-- The number that bytes hold. -/
def valN (a : Nat) (l : List Int) : Nat := l.foldl (fun a c => a * 256 + c.toNat) a
def val (l : List Int) : Nat := valN 0 l
theorem valN_snoc (a : Nat) (l : List Int) (c : Int) : valN a (l ++ [c]) = valN a l * 256 + c.toNat := by simp [valN]
theorem val_snoc (l : List Int) (c : Int) : val (l ++ [c]) = val l * 256 + c.toNat := valN_snoc 0 l c
theorem val_take (l : List Int) (k : Nat) (h : k < l.length) : val (l.take (k + 1)) = val (l.take k) * 256 + (l.getD k 0).toNat := by
  rw [List.take_succ_eq_append_getElem h, val_snoc, List.getD_eq_getElem?_getD, List.getElem?_eq_getElem h]; rfl
theorem val_lt : ∀ (k : Nat) (l : List Int), l.length = k → (∀ c ∈ l, 0 ≤ c ∧ c < 256) → val l < 256 ^ k := by
  intro k
  induction k with
  | zero =>
    intro l h _
    obtain rfl := List.eq_nil_of_length_eq_zero h
    decide
  | succ k ih =>
    intro l h hb
    have hne : l ≠ [] := by intro e; subst e; cases h
    rw [← List.dropLast_concat_getLast hne, val_snoc]
    have h1 := ih l.dropLast (by rw [List.length_dropLast, h]; rfl) fun c hc => hb c (List.dropLast_subset _ hc)
    have h2 := hb _ (List.getLast_mem hne)
    rw [Nat.pow_succ]
    omega
theorem val_be : ∀ (k n : Nat), n < 256 ^ k → val (be n k) = n
  | 0, n, h => by
    obtain rfl : n = 0 := by simpa using h
    rfl
  | k + 1, n, h => by
    rw [be, val_snoc, val_be k (n / 256) (by rw [Nat.pow_succ] at h; exact Nat.div_lt_of_lt_mul (by omega))]
    omega
theorem be_val : ∀ (k : Nat) (l : List Int), l.length = k → (∀ c ∈ l, 0 ≤ c ∧ c < 256) → be (val l) k = l := by
  intro k
  induction k with
  | zero =>
    intro l h _
    obtain rfl := List.eq_nil_of_length_eq_zero h
    rfl
  | succ k ih =>
    intro l h hb
    have hne : l ≠ [] := by intro e; subst e; cases h
    rw [← List.dropLast_concat_getLast hne]
    have h1 := ih l.dropLast (by rw [List.length_dropLast, h]; rfl) fun c hc => hb c (List.dropLast_subset _ hc)
    have h2 := hb _ (List.getLast_mem hne)
    rw [val_snoc, be]
    have e1 : (val l.dropLast * 256 + (l.getLast hne).toNat) / 256 = val l.dropLast := by omega
    have e2 : (((val l.dropLast * 256 + (l.getLast hne).toNat) % 256 : Nat) : Int) = l.getLast hne := by omega
    rw [e1, e2, h1]
/-- What Put has laid behind j rounds. -/
def under (n k j : Nat) : List Int := List.replicate (k - j) 0 ++ be n j
theorem under_length (n k j : Nat) (h : j ≤ k) : (under n k j).length = k := by rw [under, List.length_append, List.length_replicate, be_length]; omega
theorem under_zero (n k : Nat) : under n k 0 = List.replicate k 0 := by simp [under, be]
theorem under_all (n k : Nat) : under n k k = be n k := by simp [under]
theorem under_set (n k j : Nat) (h : j < k) : (under n k j).set (k - 1 - j) ((n / 256 ^ j % 256 : Nat) : Int) = under n k (j + 1) := by
  have e : k - j = (k - 1 - j) + 1 := by omega
  rw [under, e, List.replicate_succ', List.append_assoc, List.set_append_right _ _ (by rw [List.length_replicate]; exact Nat.le_refl _), List.length_replicate, Nat.sub_self]
  rw [under, be_cons, show k - (j + 1) = k - 1 - j by omega]
  rfl
end Go.Proofs.YtodajceiadbpeaaDoor.num
