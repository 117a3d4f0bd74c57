/-
  PLAIN MATHEMATICS: a text of which some bytes behind one another are changed, one by one.
-/
import Derived.Test.YtobkjkgpmkppfaaDoorCrcXor
namespace Go.Proofs.YtobkjkgpmkppfaaDoor.crc

def mix (l x : List Int) (p : Nat) : Nat → List Int
  | 0 => l
  | i + 1 => (mix l x p i).set (p + i) (bx (l.getD (p + i) 0) (x.getD i 0))
theorem mix_length (l x : List Int) (p i : Nat) : (mix l x p i).length = l.length := by
  induction i with
  | zero => rfl
  | succ i ih => simp [mix, ih]
theorem mix_get (l x : List Int) (p i j : Nat) : (mix l x p i)[j]? = if p ≤ j ∧ j < p + i ∧ j < l.length then some (bx (l.getD j 0) (x.getD (j - p) 0)) else l[j]? := by
  induction i with
  | zero => rw [if_neg (by omega)]; rfl
  | succ i ih =>
    rw [mix, List.getElem?_set, mix_length, ih]
    by_cases h1 : p + i = j
    · subst h1
      rw [if_pos rfl]
      by_cases h2 : p + i < l.length
      · rw [if_pos h2, if_pos (by omega), show p + i - p = i by omega]
      · rw [if_neg h2, if_neg (by omega), List.getElem?_eq_none (by omega)]
    · rw [if_neg h1]
      by_cases h2 : p ≤ j ∧ j < p + i ∧ j < l.length
      · rw [if_pos h2, if_pos (by omega)]
      · rw [if_neg h2, if_neg (by omega)]
theorem mix_far (l x : List Int) (p i j : Nat) (h : p + i ≤ j) : (mix l x p i).getD j 0 = l.getD j 0 := by
  rw [List.getD_eq_getElem?_getD, List.getD_eq_getElem?_getD, mix_get, if_neg (by omega)]
theorem mix_all (l x : List Int) (p : Nat) (h : p + x.length ≤ l.length) :
    mix l x p x.length = l.take p ++ List.zipWith bx ((l.drop p).take x.length) x ++ l.drop (p + x.length) := by
  apply List.ext_getElem?
  intro j
  have hz : (List.zipWith bx ((l.drop p).take x.length) x).length = x.length := by
    rw [List.length_zipWith, List.length_take, List.length_drop]; omega
  have ht : (l.take p).length = p := by rw [List.length_take]; omega
  rw [mix_get]
  by_cases h1 : j < p
  · rw [if_neg (by omega), List.append_assoc, List.getElem?_append_left (by omega), List.getElem?_take_of_lt h1]
  · by_cases h2 : j < p + x.length
    · rw [if_pos (by omega), List.getElem?_append_left (by rw [List.length_append, ht, hz]; omega), List.getElem?_append_right (by omega), ht, List.getElem?_zipWith,
        List.getElem?_take_of_lt (by omega), List.getElem?_drop, show p + (j - p) = j by omega, List.getElem?_eq_getElem (show j < l.length by omega), List.getElem?_eq_getElem (show j - p < x.length by omega),
        List.getD_eq_getElem?_getD, List.getD_eq_getElem?_getD, List.getElem?_eq_getElem (show j < l.length by omega), List.getElem?_eq_getElem (show j - p < x.length by omega)]
      rfl
    · rw [if_neg (by omega), List.getElem?_append_right (by rw [List.length_append, ht, hz]; omega), List.length_append, ht, hz, List.getElem?_drop]
      congr 1; omega
theorem mix_sum (l x : List Int) (p : Nat) (h : p + x.length ≤ l.length) (h4 : x.length ≤ 4) (hl : Byte l) (hx : Byte x) (hne : ∃ c ∈ x, c ≠ 0) : sum l ≠ sum (mix l x p x.length) := by
  rw [mix_all l x p h]
  have e : l = l.take p ++ (l.drop p).take x.length ++ l.drop (p + x.length) := by
    rw [List.append_assoc, ← List.drop_drop, List.take_append_drop, List.take_append_drop]
  have hq : Byte ((l.drop p).take x.length) := fun c hc => hl c (List.mem_of_mem_drop (List.mem_of_mem_take hc))
  conv => lhs; rw [e]
  exact sum_burst _ _ _ _ hq hx (by rw [List.length_take, List.length_drop]; omega) h4 hne
theorem mix_byte (l x : List Int) (p i : Nat) (hl : Byte l) (hx : Byte x) (hi : i ≤ x.length) : Byte (mix l x p i) := by
  intro c hc
  obtain ⟨j, hj⟩ := List.mem_iff_getElem?.1 hc
  rw [mix_get] at hj
  split at hj
  · rename_i h
    obtain rfl := Option.some.inj hj
    exact bx_byte (hl.at h.2.2) (hx.at (by omega))
  · exact hl c (List.mem_of_getElem? hj)

/-- Is some byte not nought? -/
def nz (x : List Int) : Bool := x.any (fun c => c != 0)
theorem nz_take (x : List Int) (i : Nat) (hi : i < x.length) : nz (x.take (i + 1)) = (nz (x.take i) || (x.getD i 0 != 0)) := by
  unfold nz
  rw [List.take_succ_eq_append_getElem hi, List.any_append, List.getD_eq_getElem?_getD, List.getElem?_eq_getElem hi]
  simp
theorem nz_some {x : List Int} (h : nz x = true) : ∃ c ∈ x, c ≠ 0 := by
  unfold nz at h
  rw [List.any_eq_true] at h
  obtain ⟨c, hc, h0⟩ := h
  exact ⟨c, hc, by simpa using h0⟩
end Go.Proofs.YtobkjkgpmkppfaaDoor.crc
