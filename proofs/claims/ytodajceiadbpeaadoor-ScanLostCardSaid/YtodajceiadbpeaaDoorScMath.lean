/-
  PLAIN MATHEMATICS OF A SCAN (P7.1): which records stand among bytes, and which at their front. No program stands in it.
-/
import Derived.Test.YtodajceiadbpeaaDoorRcSpMath
namespace Go.Proofs.YtodajceiadbpeaaDoor.scan
open Go.Proofs.YtodajceiadbpeaaDoor.recd Go.Proofs.YtodajceiadbpeaaDoor.disk

/-- A record and its place. -/
structure Fd where
  at_ : Nat
  r : Rec
deriving DecidableEq

theorem dec_ok {l : List Int} (h : (dec l).2.2 = 0) : 39 ≤ (dec l).2.1 ∧ (dec l).2.1 ≤ l.length ∧ (dec l).2.1 = 39 + (dec l).1.body.size ∧ (dec l).1.body.size ≤ 1000 := by
  unfold dec at h ⊢
  split at h
  · cases h
  · rename_i h1
    rw [if_neg h1]
    split at h
    · cases h
    · rename_i h2
      rw [if_neg h2]
      split at h
      · cases h
      · rename_i h3
        rw [if_neg h3]
        split at h
        · cases h
        · rename_i h4
          rw [if_neg h4]
          split at h
          · cases h
          · rename_i h5
            rw [if_neg h5]
            refine ⟨by show 39 ≤ 39 + lenOf l; omega, by show 39 + lenOf l ≤ _; omega, ?_, ?_⟩
            · show 39 + lenOf l = 39 + (str (sub l 39 (39 + lenOf l))).size
              rw [str_size, sub_length _ _ _ (by omega)]
              omega
            · show (str (sub l 39 (39 + lenOf l))).size ≤ 1000
              rw [str_size, sub_length _ _ _ (by omega)]
              omega
theorem dec_short {l : List Int} (h : l.length = 0) : (dec l).2.2 ≠ 0 := fun e => by
  have := dec_ok e
  omega
theorem dec_body (l : List Int) : (dec l).1.body.size ≤ 1000 := by
  by_cases h : (dec l).2.2 = 0
  · exact (dec_ok h).2.2.2
  · unfold dec at h ⊢
    split
    · exact Nat.zero_le _
    · rename_i h1
      rw [if_neg h1] at h
      split
      · exact Nat.zero_le _
      · rename_i h2
        rw [if_neg h2] at h
        split
        · exact Nat.zero_le _
        · rename_i h3
          rw [if_neg h3] at h
          split
          · exact Nat.zero_le _
          · rename_i h4
            rw [if_neg h4] at h
            split
            · exact Nat.zero_le _
            · rename_i h5
              rw [if_neg h5] at h
              exact absurd rfl h

/-- What All finds from place 'p' on, in so many steps at most. -/
def allF (b : List Int) : Nat → Nat → List Fd
  | 0, _ => []
  | k + 1, p => if p < b.length then
      if (dec (b.drop p)).2.2 = 0 then ⟨p, (dec (b.drop p)).1⟩ :: allF b k (p + (dec (b.drop p)).2.1) else allF b k (p + 1)
    else []
theorem allF_more (b : List Int) : ∀ (k j p : Nat), b.length ≤ p + k → k ≤ j → allF b j p = allF b k p
  | 0, 0, p, _, _ => rfl
  | 0, j + 1, p, h, _ => by
    unfold allF
    rw [if_neg (by omega)]
  | k + 1, 0, p, _, h => by omega
  | k + 1, j + 1, p, h1, h2 => by
    unfold allF
    by_cases hp : p < b.length
    · rw [if_pos hp, if_pos hp]
      by_cases hd : (dec (b.drop p)).2.2 = 0
      · have := dec_ok hd
        rw [if_pos hd, if_pos hd, allF_more b k j _ (by omega) (by omega)]
      · rw [if_neg hd, if_neg hd, allF_more b k j _ (by omega) (by omega)]
    · rw [if_neg hp, if_neg hp]
/-- What All finds from place 'p' on. -/
def rest (b : List Int) (p : Nat) : List Fd := allF b (b.length - p) p
theorem rest_end {b : List Int} {p : Nat} (h : b.length ≤ p) : rest b p = [] := by
  unfold rest
  rw [show b.length - p = 0 by omega]
  rfl
theorem rest_ok {b : List Int} {p : Nat} (h : p < b.length) (hd : (dec (b.drop p)).2.2 = 0) : rest b p = ⟨p, (dec (b.drop p)).1⟩ :: rest b (p + (dec (b.drop p)).2.1) := by
  have := dec_ok hd
  unfold rest
  rw [show b.length - p = (b.length - p - 1) + 1 by omega, allF, if_pos h, if_pos hd, allF_more b (b.length - (p + (dec (b.drop p)).2.1)) _ _ (by omega) (by omega)]
theorem rest_no {b : List Int} {p : Nat} (h : p < b.length) (hd : (dec (b.drop p)).2.2 ≠ 0) : rest b p = rest b (p + 1) := by
  unfold rest
  rw [show b.length - p = (b.length - (p + 1)) + 1 by omega, allF, if_pos h, if_neg hd]

/-- What Front finds from place 'p' on, in so many steps at most, and where it ends. -/
def frontF (b : List Int) : Nat → Nat → List Fd × Nat
  | 0, p => ([], p)
  | k + 1, p => if (dec (b.drop p)).2.2 = 0 then (⟨p, (dec (b.drop p)).1⟩ :: (frontF b k (p + (dec (b.drop p)).2.1)).1, (frontF b k (p + (dec (b.drop p)).2.1)).2) else ([], p)
theorem frontF_more (b : List Int) : ∀ (k j p : Nat), b.length ≤ p + k → k ≤ j → frontF b j p = frontF b k p
  | 0, 0, p, _, _ => rfl
  | 0, j + 1, p, h, _ => by
    unfold frontF
    rw [if_neg (dec_short (by rw [List.length_drop]; omega))]
  | k + 1, 0, p, _, h => by omega
  | k + 1, j + 1, p, h1, h2 => by
    unfold frontF
    by_cases hd : (dec (b.drop p)).2.2 = 0
    · have := dec_ok hd
      rw [if_pos hd, if_pos hd, frontF_more b k j _ (by omega) (by omega)]
    · rw [if_neg hd, if_neg hd]
def front (b : List Int) (p : Nat) : List Fd × Nat := frontF b (b.length - p) p
theorem front_ok {b : List Int} {p : Nat} (hd : (dec (b.drop p)).2.2 = 0) : front b p = (⟨p, (dec (b.drop p)).1⟩ :: (front b (p + (dec (b.drop p)).2.1)).1, (front b (p + (dec (b.drop p)).2.1)).2) := by
  have := dec_ok hd
  rw [List.length_drop] at this
  unfold front
  rw [show b.length - p = (b.length - p - 1) + 1 by omega, frontF, if_pos hd, frontF_more b (b.length - (p + (dec (b.drop p)).2.1)) _ _ (by omega) (by omega)]
theorem front_no {b : List Int} {p : Nat} (hd : (dec (b.drop p)).2.2 ≠ 0) : front b p = ([], p) := by
  unfold front
  cases b.length - p with
  | zero => rfl
  | succ k => rw [frontF, if_neg hd]

/-- How far a list of finds reaches: each takes 39 bytes at least. -/
theorem allF_small (b : List Int) : ∀ (k p : Nat), (allF b k p).length ≤ b.length - p
  | 0, p => Nat.zero_le _
  | k + 1, p => by
    unfold allF
    split
    · rename_i hp
      split
      · rename_i hd
        have := dec_ok hd
        have := allF_small b k (p + (dec (b.drop p)).2.1)
        rw [List.length_cons]
        omega
      · have := allF_small b k (p + 1)
        omega
    · exact Nat.zero_le _
theorem rest_small (b : List Int) (p : Nat) : (rest b p).length ≤ b.length - p := allF_small b _ p
theorem frontF_small (b : List Int) : ∀ (k p : Nat), (frontF b k p).1.length ≤ b.length - p
  | 0, p => Nat.zero_le _
  | k + 1, p => by
    unfold frontF
    split
    · rename_i hd
      have := dec_ok hd
      rw [List.length_drop] at this
      have := frontF_small b k (p + (dec (b.drop p)).2.1)
      show (_ :: _).length ≤ _
      rw [List.length_cons]
      omega
    · exact Nat.zero_le _
theorem front_small (b : List Int) (p : Nat) : (front b p).1.length ≤ b.length - p := frontF_small b _ p
theorem allF_body (b : List Int) : ∀ (k p : Nat), ∀ x ∈ allF b k p, x.r.body.size ≤ 1000 ∧ x.at_ < b.length
  | 0, p, x, hx => by cases hx
  | k + 1, p, x, hx => by
    unfold allF at hx
    split at hx
    · rename_i hp
      split at hx
      · rcases List.mem_cons.1 hx with rfl | hx
        · exact ⟨dec_body _, hp⟩
        · exact allF_body b k _ x hx
      · exact allF_body b k _ x hx
    · cases hx
theorem rest_body {b : List Int} {p : Nat} {x : Fd} (hx : x ∈ rest b p) : x.r.body.size ≤ 1000 ∧ x.at_ < b.length := allF_body b _ p x hx
theorem frontF_body (b : List Int) : ∀ (k p : Nat), ∀ x ∈ (frontF b k p).1, x.r.body.size ≤ 1000 ∧ x.at_ < b.length
  | 0, p, x, hx => by cases hx
  | k + 1, p, x, hx => by
    unfold frontF at hx
    split at hx
    · rename_i hd
      have := dec_ok hd
      rw [List.length_drop] at this
      rcases List.mem_cons.1 hx with rfl | hx
      · exact ⟨dec_body _, by show p < b.length; omega⟩
      · exact frontF_body b k _ x hx
    · cases hx
theorem front_body {b : List Int} {p : Nat} {x : Fd} (hx : x ∈ (front b p).1) : x.r.body.size ≤ 1000 ∧ x.at_ < b.length := frontF_body b _ p x hx
theorem frontF_end (b : List Int) : ∀ (k p : Nat), p ≤ b.length → p ≤ (frontF b k p).2 ∧ (frontF b k p).2 ≤ b.length
  | 0, p, h => ⟨Nat.le_refl _, h⟩
  | k + 1, p, h => by
    unfold frontF
    split
    · rename_i hd
      have := dec_ok hd
      rw [List.length_drop] at this
      have := frontF_end b k (p + (dec (b.drop p)).2.1) (by omega)
      exact ⟨by show p ≤ (frontF b k (p + (dec (b.drop p)).2.1)).2; omega, this.2⟩
    · exact ⟨Nat.le_refl _, h⟩
theorem front_end {b : List Int} {p : Nat} (h : p ≤ b.length) : p ≤ (front b p).2 ∧ (front b p).2 ≤ b.length := frontF_end b _ p h
end Go.Proofs.YtodajceiadbpeaaDoor.scan
