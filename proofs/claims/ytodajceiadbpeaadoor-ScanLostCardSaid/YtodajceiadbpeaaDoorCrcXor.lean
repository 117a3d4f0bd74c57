/-
  PLAIN MATHEMATICS: the sum of texts that are put upon one another by exclusive or; a text of at most four bytes that is not all nought moves every sum.
-/
import Derived.Test.YtodajceiadbpeaaDoorCrcMath
namespace Go.Proofs.YtodajceiadbpeaaDoor.crc

def bx (x y : Int) : Int := bits .xor .u8 x y
theorem bx_byte {x y : Int} (hx : 0 ≤ x ∧ x < 256) (hy : 0 ≤ y ∧ y < 256) : 0 ≤ bx x y ∧ bx x y < 256 := by
  unfold bx
  rw [u8_xor x y hx.1 hx.2 hy.1 hy.2]
  have : x.toNat ^^^ y.toNat < 2 ^ 8 := Nat.xor_lt_two_pow (by omega) (by omega)
  omega
theorem bx_bv {x y : Int} (hx : 0 ≤ x ∧ x < 256) (hy : 0 ≤ y ∧ y < 256) : BitVec.ofInt 32 (bx x y) = BitVec.ofInt 32 x ^^^ BitVec.ofInt 32 y := by
  unfold bx
  rw [u8_xor x y hx.1 hx.2 hy.1 hy.2]
  obtain ⟨m, rfl⟩ := Int.eq_ofNat_of_zero_le hx.1
  obtain ⟨n, rfl⟩ := Int.eq_ofNat_of_zero_le hy.1
  simp only [BitVec.ofInt_natCast, Int.toNat_natCast]
  apply BitVec.eq_of_toNat_eq
  have : m ^^^ n < 2 ^ 8 := Nat.xor_lt_two_pow (by omega) (by omega)
  rw [BitVec.toNat_xor, BitVec.toNat_ofNat, BitVec.toNat_ofNat, BitVec.toNat_ofNat, Nat.mod_eq_of_lt (by omega), Nat.mod_eq_of_lt (by omega), Nat.mod_eq_of_lt (by omega)]

def Byte (l : List Int) : Prop := ∀ c ∈ l, 0 ≤ c ∧ c < 256
theorem Byte.at {l : List Int} (h : Byte l) {i : Nat} (hi : i < l.length) : 0 ≤ l.getD i 0 ∧ l.getD i 0 < 256 := by
  rw [List.getD_eq_getElem?_getD, List.getElem?_eq_getElem hi]; exact h _ (List.getElem_mem hi)
theorem Byte.tail {c : Int} {l : List Int} (h : Byte (c :: l)) : Byte l := fun d hd => h d (List.mem_cons_of_mem _ hd)
theorem Byte.head {c : Int} {l : List Int} (h : Byte (c :: l)) : 0 ≤ c ∧ c < 256 := h c List.mem_cons_self
theorem Byte.zip {a b : List Int} (ha : Byte a) (hb : Byte b) : Byte (List.zipWith bx a b) := by
  induction a generalizing b with
  | nil => intro c hc; simp at hc
  | cons x a ih =>
    cases b with
    | nil => intro c hc; simp at hc
    | cons y b =>
      intro c hc
      simp only [List.zipWith_cons_cons, List.mem_cons] at hc
      rcases hc with rfl | hc
      · exact bx_byte ha.head hb.head
      · exact ih ha.tail hb.tail c hc

theorem step_xor (s t : BitVec 32) {x y : Int} (hx : 0 ≤ x ∧ x < 256) (hy : 0 ≤ y ∧ y < 256) : step (s ^^^ t) (bx x y) = step s x ^^^ step t y := by
  unfold step
  rw [bx_bv hx hy, ← bits8_xor]
  congr 1; ac_rfl
theorem run_zip (a b : List Int) (s t : BitVec 32) (ha : Byte a) (hb : Byte b) (hl : a.length = b.length) : run (s ^^^ t) (List.zipWith bx a b) = run s a ^^^ run t b := by
  induction a generalizing b s t with
  | nil =>
    cases b with
    | nil => rfl
    | cons y b => simp at hl
  | cons x a ih =>
    cases b with
    | nil => simp at hl
    | cons y b =>
      simp only [List.zipWith_cons_cons, run, List.foldl_cons]
      rw [step_xor s t ha.head hb.head]
      exact ih b (step s x) (step t y) ha.tail hb.tail (by simpa using hl)
theorem not_three (p q r : BitVec 32) : ~~~ (p ^^^ q ^^^ r) = ~~~ p ^^^ ~~~ q ^^^ ~~~ r := by
  apply BitVec.eq_of_getLsbD_eq
  intro i hi
  simp only [BitVec.getLsbD_not, BitVec.getLsbD_xor, hi, decide_true, Bool.true_and]
  cases p.getLsbD i <;> cases q.getLsbD i <;> cases r.getLsbD i <;> rfl
/-- Three texts of one length. -/
theorem sum_three (a b c : List Int) (ha : Byte a) (hb : Byte b) (hc : Byte c) (h1 : a.length = b.length) (h2 : b.length = c.length) :
    sum (List.zipWith bx (List.zipWith bx a b) c) = sum a ^^^ sum b ^^^ sum c := by
  unfold sum more
  rw [← not_three]
  congr 1
  have e : ~~~ (0#32) = (~~~ 0#32 ^^^ ~~~ 0#32) ^^^ ~~~ 0#32 := by decide
  conv => lhs; rw [e]
  rw [run_zip _ _ _ _ (ha.zip hb) hc (by rw [List.length_zipWith]; omega), run_zip _ _ _ _ ha hb h1]

/-! A text of at most four bytes. -/
theorem low_bits {v : BitVec 32} (h : v.toNat < 2 ^ 24) : bits8 (v <<< 8) = v := by
  unfold bits8
  rw [bits4_low (x := v <<< 8) (by simp) (by simp) (by simp) (by simp)]
  have e : v <<< 8 >>> 4 = v <<< 4 := by
    apply BitVec.eq_of_toNat_eq
    rw [BitVec.toNat_ushiftRight, BitVec.toNat_shiftLeft, BitVec.toNat_shiftLeft, Nat.shiftLeft_eq, Nat.shiftLeft_eq, Nat.shiftRight_eq_div_pow]
    omega
  rw [e, bits4_low (x := v <<< 4) (by simp) (by simp) (by simp) (by simp)]
  apply BitVec.eq_of_toNat_eq
  rw [BitVec.toNat_ushiftRight, BitVec.toNat_shiftLeft, Nat.shiftLeft_eq, Nat.shiftRight_eq_div_pow]
  omega
theorem bits8_inj {x y : BitVec 32} (h : bits8 x = bits8 y) : x = y := by
  have h1 : bits8 (x ^^^ y) = 0#32 := by rw [bits8_xor, h]; simp
  have h2 := bits8_zero h1
  have h3 : x ^^^ y ^^^ y = y := by rw [h2]; simp
  rwa [BitVec.xor_assoc, BitVec.xor_self, BitVec.xor_zero] at h3
theorem toNat_byte {c : Int} (h : 0 ≤ c ∧ c < 256) : ((BitVec.ofInt 32 c).toNat : Int) = c := by
  obtain ⟨n, rfl⟩ := Int.eq_ofNat_of_zero_le h.1
  rw [BitVec.ofInt_natCast, BitVec.toNat_ofNat, Nat.mod_eq_of_lt (by omega)]

/-- By the text's end: what is left in the register is small only if all was nought. -/
theorem small_run : ∀ (k : Nat) (x : List Int) (v : BitVec 32), x.length = k → k ≤ 4 → Byte x → run 0#32 x = v → v.toNat < 2 ^ (8 * (4 - k)) → (∀ c ∈ x, c = 0) ∧ v = 0#32 := by
  intro k
  induction k with
  | zero =>
    intro x v hx _ _ hr _
    obtain rfl : x = [] := List.eq_nil_of_length_eq_zero hx
    exact ⟨by simp, hr.symm⟩
  | succ k ih =>
    intro x v hx hk hb hr hv
    obtain ⟨y, c, rfl⟩ : ∃ y c, x = y ++ [c] := by
      rcases List.eq_nil_or_concat x with rfl | ⟨y, c, rfl⟩
      · simp at hx
      · exact ⟨y, c, by simp⟩
    have hy : y.length = k := by simpa using hx
    have hbc : 0 ≤ c ∧ c < 256 := hb c (by simp)
    have hby : Byte y := fun d hd => hb d (by simp [hd])
    have hv24 : v.toNat < 2 ^ 24 := Nat.lt_of_lt_of_le hv (Nat.pow_le_pow_right (by decide) (by omega))
    rw [run_snoc] at hr
    unfold step at hr
    have h1 := bits8_inj (hr.trans (low_bits hv24).symm)
    have h2 : run 0#32 y = v <<< 8 ^^^ BitVec.ofInt 32 c := by
      rw [← h1, BitVec.xor_assoc, BitVec.xor_self, BitVec.xor_zero]
    have hc8 : (BitVec.ofInt 32 c).toNat < 2 ^ 8 := by have := toNat_byte hbc; omega
    have hsh : (v <<< 8).toNat = v.toNat * 256 := by
      rw [BitVec.toNat_shiftLeft, Nat.shiftLeft_eq]; omega
    have hlt : (v <<< 8 ^^^ BitVec.ofInt 32 c).toNat < 2 ^ (8 * (4 - k)) := by
      rw [BitVec.toNat_xor]
      apply Nat.xor_lt_two_pow
      · rw [hsh]
        have e : 2 ^ (8 * (4 - k)) = 2 ^ (8 * (4 - (k + 1))) * 256 := by
          rw [show 8 * (4 - k) = 8 * (4 - (k + 1)) + 8 by omega, Nat.pow_add]
        omega
      · exact Nat.lt_of_lt_of_le hc8 (Nat.pow_le_pow_right (by decide) (by omega))
    obtain ⟨h3, h4⟩ := ih y _ hy (by omega) hby h2 hlt
    have h5 : v <<< 8 = BitVec.ofInt 32 c := by
      have : v <<< 8 ^^^ BitVec.ofInt 32 c ^^^ BitVec.ofInt 32 c = BitVec.ofInt 32 c := by rw [h4]; simp
      rwa [BitVec.xor_assoc, BitVec.xor_self, BitVec.xor_zero] at this
    have h6 := congrArg BitVec.toNat h5
    rw [hsh] at h6
    have h7 := toNat_byte hbc
    refine ⟨fun d hd => ?_, ?_⟩
    · rcases List.mem_append.1 hd with hd | hd
      · exact h3 d hd
      · obtain rfl : d = c := by simpa using hd
        omega
    · apply BitVec.eq_of_toNat_eq
      simp; omega
theorem run_four {x : List Int} (hk : x.length ≤ 4) (hb : Byte x) (h : run 0#32 x = 0#32) : ∀ c ∈ x, c = 0 :=
  (small_run x.length x 0#32 rfl hk hb h (by simp [Nat.pow_pos])).1

def times8 : Nat → BitVec 32 → BitVec 32
  | 0, d => d
  | n + 1, d => times8 n (bits8 d)
theorem times8_zero (n : Nat) {d : BitVec 32} (h : times8 n d = 0#32) : d = 0#32 := by
  induction n generalizing d with
  | zero => exact h
  | succ n ih => exact bits8_zero (ih h)
theorem run_apart (r : List Int) (s d : BitVec 32) : run (s ^^^ d) r = run s r ^^^ times8 r.length d := by
  induction r generalizing s d with
  | nil => rfl
  | cons c r ih =>
    show run (step (s ^^^ d) c) r = run (step s c) r ^^^ times8 r.length (bits8 d)
    rw [← ih]
    congr 1
    unfold step
    rw [← bits8_xor]; congr 1; ac_rfl
/-- A burst of at most four bytes, not all of them nought, changes the sum. -/
theorem sum_burst (p q x r : List Int) (hq : Byte q) (hx : Byte x) (hl : q.length = x.length) (h4 : x.length ≤ 4) (hne : ∃ c ∈ x, c ≠ 0) :
    sum (p ++ q ++ r) ≠ sum (p ++ List.zipWith bx q x ++ r) := by
  intro h
  unfold sum more at h
  have h1 : run (~~~ 0#32) (p ++ q ++ r) = run (~~~ 0#32) (p ++ List.zipWith bx q x ++ r) := by
    have := congrArg (fun v : BitVec 32 => ~~~ v) h
    simpa using this
  simp only [run, List.foldl_append] at h1
  have e : List.foldl step (List.foldl step (~~~ 0#32) p) (List.zipWith bx q x) = run (List.foldl step (~~~ 0#32) p) q ^^^ run 0#32 x := by
    have := run_zip q x (List.foldl step (~~~ 0#32) p) 0#32 hq hx hl
    rwa [BitVec.xor_zero] at this
  rw [e] at h1
  have h2 := run_apart r (run (List.foldl step (~~~ 0#32) p) q) (run 0#32 x)
  unfold run at h2 h1
  rw [h2] at h1
  have h3 : times8 r.length (List.foldl step 0#32 x) = 0#32 := by
    have := congrArg (fun v => List.foldl step (List.foldl step (List.foldl step (~~~ 0#32) p) q) r ^^^ v) h1
    simpa [← BitVec.xor_assoc] using this.symm
  obtain ⟨c, hc, hc0⟩ := hne
  exact hc0 (run_four h4 hx (times8_zero _ h3) c hc)
end Go.Proofs.YtodajceiadbpeaaDoor.crc
