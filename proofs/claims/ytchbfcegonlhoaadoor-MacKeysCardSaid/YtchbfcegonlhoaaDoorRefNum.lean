/-
  PLAIN MATHEMATICS: numbers as digits of 16 bits, and roots by halving. No program.
-/
import Derived.Test.YtchbfcegonlhoaaDoorShaMath
namespace Go.Proofs.YtchbfcegonlhoaaDoor.sha

def val : List Int → Int
  | [] => 0
  | d :: r => d + 65536 * val r
def Dig (l : List Int) : Prop := ∀ c ∈ l, 0 ≤ c ∧ c < 65536
def Pos (l : List Int) : Prop := ∀ c ∈ l, 0 ≤ c
theorem Dig.pos {l : List Int} (h : Dig l) : Pos l := fun c hc => (h c hc).1
theorem Dig.at {l : List Int} (h : Dig l) {i : Nat} (hi : i < l.length) : 0 ≤ l.getD i 0 ∧ l.getD i 0 < 65536 := by
  rw [List.getD_eq_getElem?_getD, List.getElem?_eq_getElem hi]; exact h _ (List.getElem_mem hi)
theorem Pos.at {l : List Int} (h : Pos l) {i : Nat} (hi : i < l.length) : 0 ≤ l.getD i 0 := by
  rw [List.getD_eq_getElem?_getD, List.getElem?_eq_getElem hi]; exact h _ (List.getElem_mem hi)
theorem Dig.take {l : List Int} (h : Dig l) (n : Nat) : Dig (l.take n) := fun c hc => h c (List.mem_of_mem_take hc)
theorem Dig.append {l m : List Int} (h : Dig l) (k : Dig m) : Dig (l ++ m) := fun c hc => by
  rcases List.mem_append.1 hc with hc | hc
  · exact h c hc
  · exact k c hc
theorem Dig.zeros (n : Nat) : Dig (List.replicate n 0) := fun c hc => by rw [List.eq_of_mem_replicate hc]; omega

theorem pw_pos (n : Nat) : (0 : Int) < 65536 ^ n := Int.pow_pos (by omega)
theorem val_append (l m : List Int) : val (l ++ m) = val l + 65536 ^ l.length * val m := by
  induction l with
  | nil => simp [val]
  | cons d r ih =>
    rw [List.cons_append, val, ih, val, List.length_cons, Int.pow_succ, Int.mul_add, Int.mul_comm (65536 ^ r.length) 65536, Int.mul_assoc, Int.add_assoc]
theorem val_zeros (n : Nat) : val (List.replicate n 0) = 0 := by
  induction n with
  | zero => rfl
  | succ n ih => rw [List.replicate_succ, val, ih]; rfl
theorem val_nonneg {l : List Int} (h : Pos l) : 0 ≤ val l := by
  induction l with
  | nil => exact Int.le_refl 0
  | cons d r ih =>
    have h1 := h d List.mem_cons_self
    have h2 := ih (fun c hc => h c (List.mem_cons_of_mem _ hc))
    rw [val]; omega
theorem val_lt {l : List Int} (h : Dig l) : val l < 65536 ^ l.length := by
  induction l with
  | nil => simp [val]
  | cons d r ih =>
    have h1 := h d List.mem_cons_self
    have h2 := ih (fun c hc => h c (List.mem_cons_of_mem _ hc))
    rw [val, List.length_cons, Int.pow_succ]; omega
theorem val_set {l : List Int} {i : Nat} (d : Int) (hi : i < l.length) : val (l.set i d) = val l + (d - l.getD i 0) * 65536 ^ i := by
  induction l generalizing i with
  | nil => simp at hi
  | cons c r ih =>
    cases i with
    | zero => simp [val]; omega
    | succ i =>
      have h := ih (i := i) (by simpa using hi)
      rw [List.set_cons_succ, val, h, val, List.getD_cons_succ, Int.pow_succ, Int.mul_add, ← Int.mul_assoc 65536, Int.mul_comm 65536 (d - r.getD i 0), Int.mul_assoc (d - r.getD i 0), Int.mul_comm 65536 (65536 ^ i), Int.add_assoc]
theorem val_ge {l : List Int} (h : Pos l) {i : Nat} (hi : i < l.length) : l.getD i 0 * 65536 ^ i ≤ val l := by
  induction l generalizing i with
  | nil => simp at hi
  | cons c r ih =>
    have h0 := h c List.mem_cons_self
    have hr : Pos r := fun d hd => h d (List.mem_cons_of_mem _ hd)
    cases i with
    | zero => have := val_nonneg hr; simp [val]; omega
    | succ i =>
      have h1 := ih hr (i := i) (by simpa using hi)
      rw [val, List.getD_cons_succ, Int.pow_succ, ← Int.mul_assoc]
      omega
theorem val_snoc (l : List Int) (d : Int) : val (l ++ [d]) = val l + d * 65536 ^ l.length := by
  rw [val_append, val, val, Int.mul_comm]; simp
theorem val_take_succ (l : List Int) (i : Nat) (h : i < l.length) : val (l.take (i + 1)) = val (l.take i) + l.getD i 0 * 65536 ^ i := by
  rw [List.take_succ_eq_append_getElem h, val_snoc, List.length_take, Nat.min_eq_left (by omega), List.getD_eq_getElem?_getD, List.getElem?_eq_getElem h]; rfl

/-- Two numbers of one length of which the digits from i + 1 on are the same. -/
theorem val_cmp {x y : List Int} (hx : Dig x) (hy : Dig y) (hl : x.length = y.length) {i : Nat} (hi : i < x.length) (hd : x.drop (i + 1) = y.drop (i + 1)) :
    (x.getD i 0 < y.getD i 0 → val x ≤ val y) ∧ (y.getD i 0 < x.getD i 0 → val y < val x) := by
  have ex : val x = val (x.take (i + 1)) + 65536 ^ (i + 1) * val (x.drop (i + 1)) := by
    conv => lhs; rw [← List.take_append_drop (i + 1) x]
    rw [val_append, List.length_take, Nat.min_eq_left (by omega)]
  have ey : val y = val (y.take (i + 1)) + 65536 ^ (i + 1) * val (y.drop (i + 1)) := by
    conv => lhs; rw [← List.take_append_drop (i + 1) y]
    rw [val_append, List.length_take, Nat.min_eq_left (by omega)]
  rw [val_take_succ x i hi] at ex
  rw [val_take_succ y i (by omega)] at ey
  rw [hd] at ex
  have bx := val_lt (hx.take i)
  have by' := val_lt (hy.take i)
  have px := val_nonneg (hx.take i).pos
  have py := val_nonneg (hy.take i).pos
  rw [List.length_take, Nat.min_eq_left (by omega)] at bx by'
  have hp := pw_pos i
  generalize x.getD i 0 = a at *
  generalize y.getD i 0 = b at *
  generalize (65536 : Int) ^ i = P at *
  generalize (65536 : Int) ^ (i + 1) * val (y.drop (i + 1)) = D at *
  constructor
  · intro h
    have : (a + 1) * P ≤ b * P := Int.mul_le_mul_of_nonneg_right (by omega) (by omega)
    rw [Int.add_mul, Int.one_mul] at this
    omega
  · intro h
    have : (b + 1) * P ≤ a * P := Int.mul_le_mul_of_nonneg_right (by omega) (by omega)
    rw [Int.add_mul, Int.one_mul] at this
    omega

/-! Roots by halving. -/
def fits (n k m : Nat) : Bool := decide (m ^ k ≤ n * 2 ^ (32 * k))
def bis (n k : Nat) : Nat → Nat → Nat → Nat
  | 0, lo, _ => lo
  | f + 1, lo, hi => if lo + 1 < hi then (if fits n k ((lo + hi) / 2) then bis n k f ((lo + hi) / 2) hi else bis n k f lo ((lo + hi) / 2)) else lo
def rootN (n k : Nat) : Nat := bis n k 40 0 137438953472
end Go.Proofs.YtchbfcegonlhoaaDoor.sha
