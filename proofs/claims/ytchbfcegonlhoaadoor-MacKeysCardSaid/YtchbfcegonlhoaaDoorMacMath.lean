/-
  HMAC AS PLAIN MATHEMATICS: a key as a block, the block padded, the tag.
-/
import Derived.Test.YtchbfcegonlhoaaDoorShaSum
import Derived.Test.YtchbfcegonlhoaaDoorOwn
import Derived.Laws.BitsAllLaws
namespace Go.Proofs.YtchbfcegonlhoaaDoor.sha
open Go.RowKit

/-- Two bytes' exclusive or. -/
def xb (c p : Int) : Int := bits .xor .u8 c p
theorem xb_byte {c p : Int} (hc : 0 ≤ c ∧ c < 256) (hp : 0 ≤ p ∧ p < 256) : 0 ≤ xb c p ∧ xb c p < 256 := by
  unfold xb
  obtain ⟨A, rfl⟩ := Int.eq_ofNat_of_zero_le hc.1
  obtain ⟨B, rfl⟩ := Int.eq_ofNat_of_zero_le hp.1
  have h := u8_xor_nat A B (by omega) (by omega)
  have hx : A ^^^ B < 2 ^ 8 := Nat.xor_lt_two_pow (by omega) (by omega)
  rw [h]
  omega
theorem xb_self {c : Int} (hc : 0 ≤ c ∧ c < 256) : xb c c = 0 := by
  unfold xb
  obtain ⟨A, rfl⟩ := Int.eq_ofNat_of_zero_le hc.1
  have h := u8_xor_nat A A (by omega) (by omega)
  rw [h, Nat.xor_self]; rfl
theorem xb_zero {c p : Int} (hc : 0 ≤ c ∧ c < 256) (hp : 0 ≤ p ∧ p < 256) (h : xb c p = 0) : c = p := by
  unfold xb at h
  obtain ⟨A, rfl⟩ := Int.eq_ofNat_of_zero_le hc.1
  obtain ⟨B, rfl⟩ := Int.eq_ofNat_of_zero_le hp.1
  rw [u8_xor_nat A B (by omega) (by omega)] at h
  have h0 : A ^^^ B = 0 := by omega
  have h2 : A ^^^ (A ^^^ B) = A ^^^ 0 := by rw [h0]
  rw [← Nat.xor_assoc, Nat.xor_self, Nat.zero_xor, Nat.xor_zero] at h2
  rw [h2]
/-- Two bytes' or. -/
def ob (c p : Int) : Int := bits .or .u8 c p
theorem ob_byte {c p : Int} (hc : 0 ≤ c ∧ c < 256) (hp : 0 ≤ p ∧ p < 256) : 0 ≤ ob c p ∧ ob c p < 256 := by
  unfold ob
  rw [u8_or c p hc.1 hc.2 hp.1 hp.2]
  have hx : c.toNat ||| p.toNat < 2 ^ 8 := Nat.or_lt_two_pow (by omega) (by omega)
  omega
theorem ob_zero {c p : Int} (hc : 0 ≤ c ∧ c < 256) (hp : 0 ≤ p ∧ p < 256) : ob c p = 0 ↔ c = 0 ∧ p = 0 := by
  unfold ob
  rw [u8_or c p hc.1 hc.2 hp.1 hp.2]
  have h : (c.toNat ||| p.toNat = 0) ↔ (c.toNat = 0 ∧ p.toNat = 0) := Nat.or_eq_zero_iff
  omega

theorem digest_byte (t : List Int) : Byte (digest t) := by
  intro c hc
  unfold digest out at hc
  simp only [List.mem_flatMap] at hc
  obtain ⟨x, _, hx⟩ := hc
  unfold four at hx
  simp only [List.mem_cons, List.not_mem_nil, or_false] at hx
  rcases hx with rfl | rfl | rfl | rfl <;> omega

/-- A key that is not too long. -/
def key0 (K : List Int) : List Int := if 64 < K.length then digest K else K
/-- A list with noughts behind it: n in all. -/
def onto (L : List Int) (n : Nat) : List Int := L ++ List.replicate (n - L.length) 0
def block (K : List Int) : List Int := onto (key0 K) 64
def xored (L : List Int) (p : Int) : List Int := L.map fun c => xb c p
def tagOf (K b : List Int) : List Int := digest (xored (block K) 92 ++ digest (xored (block K) 54 ++ b))

theorem key0_length (K : List Int) : (key0 K).length ≤ 64 := by
  unfold key0; split
  · rw [digest_length]; omega
  · omega
theorem onto_length {L : List Int} {n : Nat} (h : L.length ≤ n) : (onto L n).length = n := by simp [onto]; omega
theorem block_length (K : List Int) : (block K).length = 64 := onto_length (key0_length K)
theorem Byte.onto {L : List Int} (h : Byte L) (n : Nat) : Byte (onto L n) := h.append (Byte.zeros _)
theorem key0_byte {K : List Int} (h : Byte K) : Byte (key0 K) := by
  unfold key0; split
  · exact digest_byte K
  · exact h
theorem block_byte {K : List Int} (h : Byte K) : Byte (block K) := (key0_byte h).onto 64
theorem xored_length (L : List Int) (p : Int) : (xored L p).length = L.length := by simp [xored]
theorem xored_byte {L : List Int} {p : Int} (h : Byte L) (hp : 0 ≤ p ∧ p < 256) : Byte (xored L p) := by
  intro c hc
  simp only [xored, List.mem_map] at hc
  obtain ⟨x, hx, rfl⟩ := hc
  exact xb_byte (h x hx) hp
theorem tagOf_length (K b : List Int) : (tagOf K b).length = 32 := digest_length _
theorem tagOf_byte (K b : List Int) : Byte (tagOf K b) := digest_byte _
theorem block_long {K : List Int} (h : 64 < K.length) : block K = onto (digest K) 64 := by unfold block key0; rw [if_pos h]
theorem block_short {K : List Int} (h : ¬ 64 < K.length) : block K = onto K 64 := by unfold block key0; rw [if_neg h]

theorem getD_get {L : List Int} {k : Nat} (h : k < L.length) : L.getD k 0 = L[k] := by rw [List.getD_eq_getElem?_getD, List.getElem?_eq_getElem h]; rfl
theorem xored_next {L : List Int} {k : Nat} (p : Int) (h : k < L.length) : xored (L.take (k + 1)) p = xored (L.take k) p ++ [xb (L.getD k 0) p] := by
  rw [List.take_succ_eq_append_getElem h, getD_get h]
  simp only [xored, List.map_append, List.map_cons, List.map_nil]

/-- The first k are done. -/
def partly (L : List Int) (p : Int) (k : Nat) : List Int := xored (L.take k) p ++ L.drop k
theorem partly_zero (L : List Int) (p : Int) : partly L p 0 = L := by simp [partly, xored]
theorem partly_full {L : List Int} {n : Nat} (p : Int) (h : L.length = n) : partly L p n = xored L p := by simp [partly, ← h]
theorem partly_length {L : List Int} {n k : Nat} (p : Int) (h : L.length = n) (hk : k ≤ n) : (partly L p k).length = n := by simp [partly, xored]; omega
theorem partly_at {L : List Int} {k : Nat} (p : Int) (h : k < L.length) : (partly L p k).getD k 0 = L.getD k 0 := by
  have h1 : (xored (L.take k) p).length = k := by rw [xored_length, List.length_take]; omega
  rw [List.getD_eq_getElem?_getD, List.getD_eq_getElem?_getD, partly, List.getElem?_append_right (by omega), h1, Nat.sub_self, List.getElem?_drop, Nat.add_zero]
theorem partly_set {L : List Int} {k : Nat} (p : Int) (h : k < L.length) : (partly L p k).set k (xb (L.getD k 0) p) = partly L p (k + 1) := by
  have h1 : (xored (L.take k) p).length = k := by rw [xored_length, List.length_take]; omega
  unfold partly
  rw [List.set_append_right _ _ (by omega), h1, Nat.sub_self, List.drop_eq_getElem_cons h, List.set_cons_zero, xored_next p h, List.append_assoc]
  rfl

/-- The first k are laid, noughts behind them: n in all. -/
def laidX (L : List Int) (p : Int) (n k : Nat) : List Int := xored (L.take k) p ++ List.replicate (n - k) 0
theorem laidX_zero (L : List Int) (p : Int) (n : Nat) : laidX L p n 0 = List.replicate n 0 := by simp [laidX, xored]
theorem laidX_full {L : List Int} {n : Nat} (p : Int) (h : L.length = n) : laidX L p n n = xored L p := by simp [laidX, ← h]
theorem laidX_length {L : List Int} {n k : Nat} (p : Int) (h : L.length = n) (hk : k ≤ n) : (laidX L p n k).length = n := by simp [laidX, xored]; omega
theorem laidX_set {L : List Int} {n k : Nat} (p : Int) (hL : L.length = n) (h : k < n) : (laidX L p n k).set k (xb (L.getD k 0) p) = laidX L p n (k + 1) := by
  have h1 : (xored (L.take k) p).length = k := by rw [xored_length, List.length_take]; omega
  have hk : k < L.length := by omega
  unfold laidX
  rw [List.set_append_right _ _ (by omega), h1, Nat.sub_self, show n - k = (n - (k + 1)) + 1 by omega, List.replicate_succ, List.set_cons_zero, xored_next p hk, List.append_assoc]
  rfl
theorem onto_low {L : List Int} {n k : Nat} (h : k < L.length) : (onto L n).getD k 0 = L.getD k 0 := by
  simp [onto, List.getD_eq_getElem?_getD, List.getElem?_append_left h]
theorem onto_high {L : List Int} {n k : Nat} (h : L.length ≤ k) : (onto L n).getD k 0 = 0 := by
  rw [List.getD_eq_getElem?_getD, onto, List.getElem?_append_right h]
  by_cases hk : k - L.length < n - L.length
  · simp [hk]
  · simp [hk]

/-- Two lists of bytes differ: the or of their bytes' exclusive ors, so far. -/
def apartB (A B : List Int) : Nat → Int
  | 0 => 0
  | k + 1 => ob (apartB A B k) (xb (A.getD k 0) (B.getD k 0))
theorem apartB_byte {A B : List Int} (hA : Byte A) (hB : Byte B) : ∀ k, k ≤ A.length → k ≤ B.length → 0 ≤ apartB A B k ∧ apartB A B k < 256
  | 0, _, _ => by simp [apartB]
  | k + 1, h1, h2 => ob_byte (apartB_byte hA hB k (by omega) (by omega)) (xb_byte (hA.at (by omega)) (hB.at (by omega)))
theorem apartB_zero {A B : List Int} (hA : Byte A) (hB : Byte B) : ∀ k, k ≤ A.length → k ≤ B.length → (apartB A B k = 0 ↔ A.take k = B.take k)
  | 0, _, _ => by simp [apartB]
  | k + 1, h1, h2 => by
    have ih := apartB_zero hA hB k (by omega) (by omega)
    have a := hA.at (i := k) (by omega)
    have b := hB.at (i := k) (by omega)
    rw [apartB, ob_zero (apartB_byte hA hB k (by omega) (by omega)) (xb_byte a b), ih, List.take_succ_eq_append_getElem (by omega), List.take_succ_eq_append_getElem (by omega)]
    rw [getD_get (L := A) (by omega)] at a ⊢
    rw [getD_get (L := B) (by omega)] at b ⊢
    constructor
    · rintro ⟨h, hx⟩
      rw [h, xb_zero a b hx]
    · intro h
      have h' := List.append_inj h (by rw [List.length_take, List.length_take]; omega)
      have e : A[k]'(by omega) = B[k]'(by omega) := by simpa using h'.2
      exact ⟨h'.1, by rw [e]; exact xb_self b⟩
theorem apartB_all {A B : List Int} {n : Nat} (hA : Byte A) (hB : Byte B) (h1 : A.length = n) (h2 : B.length = n) : apartB A B n = 0 ↔ A = B := by
  rw [apartB_zero hA hB n (by omega) (by omega), List.take_of_length_le (by omega), List.take_of_length_le (by omega)]
end Go.Proofs.YtchbfcegonlhoaaDoor.sha
