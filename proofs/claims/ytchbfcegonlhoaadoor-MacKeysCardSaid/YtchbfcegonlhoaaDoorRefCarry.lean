/-
  PLAIN MATHEMATICS: a product digit by digit, and its carries. No program.
-/
import Derived.Test.YtchbfcegonlhoaaDoorRefNum
namespace Go.Proofs.YtchbfcegonlhoaaDoor.sha

theorem getD_set (l : List Int) (i x : Nat) (c : Int) (hi : i < l.length) : (l.set i c).getD x 0 = if x = i then c else l.getD x 0 := by
  by_cases h : x = i
  · subst h
    rw [if_pos rfl, List.getD_eq_getElem?_getD, List.getElem?_set_self hi]; rfl
  · rw [if_neg h, List.getD_eq_getElem?_getD, List.getElem?_set_ne (fun e => h e.symm), List.getD_eq_getElem?_getD]
theorem pos_of {l : List Int} (h : ∀ x, x < l.length → 0 ≤ l.getD x 0) : Pos l := by
  intro c hc
  obtain ⟨x, hx, rfl⟩ := List.getElem_of_mem hc
  have := h x hx
  rwa [List.getD_eq_getElem?_getD, List.getElem?_eq_getElem hx] at this
theorem dig_of {l : List Int} (h : ∀ x, x < l.length → 0 ≤ l.getD x 0 ∧ l.getD x 0 < 65536) : Dig l := by
  intro c hc
  obtain ⟨x, hx, rfl⟩ := List.getElem_of_mem hc
  have := h x hx
  rwa [List.getD_eq_getElem?_getD, List.getElem?_eq_getElem hx] at this

/-- All digits but the one at j are small. -/
structure Near (l : List Int) (j : Nat) : Prop where
  pos : ∀ x, x < l.length → 0 ≤ l.getD x 0
  small : ∀ x, x < l.length → x ≠ j → l.getD x 0 < 65536
  most : l.getD j 0 ≤ 8589934592
theorem near_of {l : List Int} (h : Dig l) {i : Nat} (hi : i < l.length) {c : Int} (hc : 0 ≤ c ∧ c ≤ 8589934592) : Near (l.set i c) i := by
  refine ⟨fun x hx => ?_, fun x hx hne => ?_, ?_⟩
  · rw [List.length_set] at hx
    rw [getD_set l i x c hi]; split
    · omega
    · exact (h.at hx).1
  · rw [List.length_set] at hx
    rw [getD_set l i x c hi, if_neg hne]; exact (h.at hx).2
  · rw [getD_set l i i c hi, if_pos rfl]; exact hc.2
theorem Near.dig {l : List Int} {j : Nat} (h : Near l j) (hj : l.getD j 0 ≤ 65535) : Dig l := by
  refine dig_of fun x hx => ⟨h.pos x hx, ?_⟩
  by_cases e : x = j
  · subst e; omega
  · exact h.small x hx e
def carried (l : List Int) (j : Nat) : List Int := (l.set (j + 1) (l.getD (j + 1) 0 + l.getD j 0 / 65536)).set j (l.getD j 0 % 65536)
theorem carried_length (l : List Int) (j : Nat) : (carried l j).length = l.length := by simp [carried]
theorem carried_at (l : List Int) (j x : Nat) (hj : j + 1 < l.length) : (carried l j).getD x 0 = if x = j then l.getD j 0 % 65536 else if x = j + 1 then l.getD (j + 1) 0 + l.getD j 0 / 65536 else l.getD x 0 := by
  rw [carried, getD_set _ j x _ (by rw [List.length_set]; omega), getD_set l (j + 1) x _ hj]
theorem Near.step {l : List Int} {j : Nat} (h : Near l j) (hj : j + 1 < l.length) : Near (carried l j) (j + 1) := by
  have p0 := h.pos j (by omega)
  have p1 := h.pos (j + 1) hj
  have s1 := h.small (j + 1) hj (by omega)
  have m := h.most
  refine ⟨fun x hx => ?_, fun x hx hne => ?_, ?_⟩
  · rw [carried_length] at hx
    rw [carried_at l j x hj]; split
    · omega
    · split
      · omega
      · exact h.pos x hx
  · rw [carried_length] at hx
    rw [carried_at l j x hj]; split
    · omega
    · exact h.small x hx (by assumption)
  · rw [carried_at l j (j + 1) hj, if_neg (by omega), if_pos rfl]; omega
theorem carried_val (l : List Int) (j : Nat) (hj : j + 1 < l.length) : val (carried l j) = val l := by
  have e : (l.set (j + 1) (l.getD (j + 1) 0 + l.getD j 0 / 65536)).getD j 0 = l.getD j 0 := by rw [getD_set l (j + 1) j _ hj, if_neg (by omega)]
  rw [carried, val_set _ (by rw [List.length_set]; omega), e, val_set _ hj, Int.pow_succ]
  generalize l.getD j 0 = a
  generalize l.getD (j + 1) 0 = b
  generalize (65536 : Int) ^ j = P
  have h1 : (b + a / 65536 - b) * (P * 65536) = a / 65536 * 65536 * P := by rw [show b + a / 65536 - b = a / 65536 by omega, Int.mul_comm P 65536, Int.mul_assoc]
  rw [h1, Int.add_assoc, ← Int.add_mul, show a / 65536 * 65536 + (a % 65536 - a) = 0 by omega, Int.zero_mul, Int.add_zero]
/-- A digit that must be carried is not the last but one. -/
theorem carry_room {l : List Int} {j s : Nat} (h : Near l j) (hj : j < l.length) (hb : 65535 < l.getD j 0) (hv : val l < 65536 ^ s) : j + 1 < s := by
  refine Nat.lt_of_not_le fun hs => ?_
  have h1 := val_ge (pos_of h.pos) hj
  have h2 : 65536 * (65536 : Int) ^ j ≤ l.getD j 0 * 65536 ^ j := Int.mul_le_mul_of_nonneg_right (by omega) (Int.le_of_lt (pw_pos j))
  have h3 : (65536 : Int) ^ s ≤ 65536 ^ (j + 1) := by
    obtain ⟨m, hm⟩ : ∃ m, j + 1 = s + m := ⟨j + 1 - s, by omega⟩
    rw [hm, Int.pow_add]
    have := pw_pos m
    have h4 : (65536 : Int) ^ s * 1 ≤ 65536 ^ s * 65536 ^ m := Int.mul_le_mul_of_nonneg_left (by omega) (Int.le_of_lt (pw_pos s))
    omega
  rw [Int.pow_succ, Int.mul_comm] at h3
  omega
/-- What stands behind so many digits of both. -/
def part (la lb : List Int) (i k : Nat) : Int := val (la.take i) * val lb + la.getD i 0 * 65536 ^ i * val (lb.take k)
theorem part_zero (la lb : List Int) (i : Nat) : part la lb i 0 = val (la.take i) * val lb := by simp [part, val]
theorem part_full (la lb : List Int) (i : Nat) (hi : i < la.length) : part la lb i lb.length = val (la.take (i + 1)) * val lb := by
  rw [part, List.take_length, val_take_succ la i hi, Int.add_mul]
theorem part_succ (la lb : List Int) (i k : Nat) (hk : k < lb.length) : part la lb i (k + 1) = part la lb i k + la.getD i 0 * lb.getD k 0 * 65536 ^ (i + k) := by
  rw [part, part, val_take_succ lb k hk, Int.mul_add, ← Int.add_assoc, Int.pow_add]
  congr 1
  rw [Int.mul_assoc, Int.mul_assoc, ← Int.mul_assoc (65536 ^ i), Int.mul_comm (65536 ^ i) (lb.getD k 0), Int.mul_assoc]
theorem part_lt {la lb : List Int} (ha : Dig la) (hb : Dig lb) {i k : Nat} (hi : i < la.length) : part la lb i k < 65536 ^ (la.length + lb.length) := by
  have b1 := val_nonneg (hb.take k).pos
  have b2 : val (lb.take k) ≤ val lb := by
    conv => rhs; rw [← List.take_append_drop k lb]
    rw [val_append]
    have : 0 ≤ val (lb.drop k) := val_nonneg (fun c hc => (hb c (List.mem_of_mem_drop hc)).1)
    have := Int.mul_nonneg (Int.le_of_lt (pw_pos (lb.take k).length)) this
    omega
  have a0 := ha.at hi
  have p0 : 0 ≤ la.getD i 0 * 65536 ^ i := Int.mul_nonneg a0.1 (Int.le_of_lt (pw_pos i))
  have h1 : part la lb i k ≤ val (la.take (i + 1)) * val lb := by
    rw [part, val_take_succ la i hi, Int.add_mul]
    have := Int.mul_le_mul_of_nonneg_left b2 p0
    omega
  have h2 := val_lt (ha.take (i + 1))
  rw [List.length_take, Nat.min_eq_left (by omega)] at h2
  have h3 := val_lt hb
  have h4 := val_nonneg (ha.take (i + 1)).pos
  have h5 := val_nonneg hb.pos
  have h6 : val (la.take (i + 1)) * val lb ≤ (65536 ^ (i + 1) - 1) * val lb := Int.mul_le_mul_of_nonneg_right (by omega) h5
  have hp := pw_pos (i + 1)
  have h7 : (65536 ^ (i + 1) - 1) * val lb ≤ (65536 ^ (i + 1) - 1) * (65536 ^ lb.length - 1) := Int.mul_le_mul_of_nonneg_left (by omega) (by omega)
  have hq := pw_pos lb.length
  have h8 : (65536 ^ (i + 1) - 1) * (65536 ^ lb.length - 1) < (65536 : Int) ^ (i + 1) * 65536 ^ lb.length := by
    rw [Int.sub_mul, Int.mul_sub, Int.one_mul, Int.mul_one]; omega
  have h9 : (65536 : Int) ^ (i + 1) * 65536 ^ lb.length ≤ 65536 ^ (la.length + lb.length) := by
    obtain ⟨m, hm⟩ : ∃ m, la.length + lb.length = (i + 1 + lb.length) + m := ⟨la.length - (i + 1), by omega⟩
    rw [hm, Int.pow_add _ (i + 1 + lb.length), Int.pow_add _ (i + 1)]
    have := pw_pos m
    have hx : (65536 : Int) ^ (i + 1) * 65536 ^ lb.length * 1 ≤ 65536 ^ (i + 1) * 65536 ^ lb.length * 65536 ^ m := Int.mul_le_mul_of_nonneg_left (show (1 : Int) ≤ 65536 ^ m by omega) (Int.le_of_lt (Int.mul_pos hp hq))
    omega
  omega
end Go.Proofs.YtchbfcegonlhoaaDoor.sha
