/-
  PLAIN MATHEMATICS OF SUMS (P1.1): a sum's register as 32 bits, one step a bit; it is linear, and takes nothing but nought to nought. No program stands in it.
-/
import Derived.Laws.BitsAllLaws
namespace Go.Proofs.YtodajceiadbpeaaDoor.crc

/-- Castagnoli's polynomial, turned. -/
def poly : BitVec 32 := 0x82f63b78#32
/-- One bit of a text. -/
def bit (x : BitVec 32) : BitVec 32 := (x >>> 1) ^^^ (if x.getLsbD 0 then poly else 0#32)
def bits4 (x : BitVec 32) : BitVec 32 := bit (bit (bit (bit x)))
def bits8 (x : BitVec 32) : BitVec 32 := bits4 (bits4 x)

theorem bit_xor (x y : BitVec 32) : bit (x ^^^ y) = bit x ^^^ bit y := by
  unfold bit
  rw [BitVec.ushiftRight_xor_distrib, BitVec.getLsbD_xor]
  cases x.getLsbD 0 <;> cases y.getLsbD 0 <;> simp
  · ac_rfl
  · ac_rfl
  · have : ∀ a b p : BitVec 32, a ^^^ b = a ^^^ p ^^^ (b ^^^ p) := by
      intro a b p
      have e : a ^^^ p ^^^ (b ^^^ p) = a ^^^ b ^^^ (p ^^^ p) := by ac_rfl
      rw [e]; simp
    exact this _ _ _
theorem bits4_xor (x y : BitVec 32) : bits4 (x ^^^ y) = bits4 x ^^^ bits4 y := by simp only [bits4, bit_xor]
theorem bits8_xor (x y : BitVec 32) : bits8 (x ^^^ y) = bits8 x ^^^ bits8 y := by simp only [bits8, bits4_xor]

theorem bit_zero {x : BitVec 32} (h : bit x = 0#32) : x = 0#32 := by
  unfold bit at h
  by_cases hx : x.getLsbD 0 = true
  · rw [if_pos hx] at h
    have := congrArg (fun v : BitVec 32 => v.getLsbD 31) h
    simp [poly] at this
  · rw [if_neg hx] at h
    simp at hx
    apply BitVec.eq_of_getLsbD_eq
    intro i hi
    cases i with
    | zero => simpa using hx
    | succ k =>
      have := congrArg (fun v : BitVec 32 => v.getLsbD k) h
      simp at this
      simp [Nat.add_comm] at this ⊢
      exact this
theorem bits8_zero {x : BitVec 32} (h : bits8 x = 0#32) : x = 0#32 :=
  bit_zero (bit_zero (bit_zero (bit_zero (bit_zero (bit_zero (bit_zero (bit_zero h)))))))
theorem bits8_nought : bits8 0#32 = 0#32 := by decide

theorem bit_even {x : BitVec 32} (h : x.getLsbD 0 = false) : bit x = x >>> 1 := by
  unfold bit; rw [h]; simp
theorem bits4_low {x : BitVec 32} (h0 : x.getLsbD 0 = false) (h1 : x.getLsbD 1 = false) (h2 : x.getLsbD 2 = false) (h3 : x.getLsbD 3 = false) : bits4 x = x >>> 4 := by
  unfold bits4
  rw [bit_even h0, bit_even (x := x >>> 1) (by simpa using h1), bit_even (x := x >>> 1 >>> 1) (by simpa [← BitVec.shiftRight_add] using h2),
    bit_even (x := x >>> 1 >>> 1 >>> 1) (by simpa [← BitVec.shiftRight_add] using h3)]
  simp [← BitVec.shiftRight_add]

/-- What each value of four bits does. -/
def table : List Int := [0, 274646895, 549293790, 820201905, 1098587580, 1361435347, 1640403810, 1905808397, 2197175160, 2460548119, 2722870694, 2987750089, 3280807620, 3553878443, 3811616794, 4084100981]

theorem table_four : ∀ i : Fin 16, BitVec.ofInt 32 (table.getD i.val 0) = bits4 (BitVec.ofNat 32 i.val) := by decide
theorem table_small : ∀ i : Fin 16, 0 ≤ table.getD i.val 0 ∧ table.getD i.val 0 < 4294967296 := by decide

theorem split4 (x : BitVec 32) : x = BitVec.ofNat 32 (x.toNat % 16) ^^^ ((x >>> 4) <<< 4) := by
  apply BitVec.eq_of_getLsbD_eq
  intro i hi
  have e : (16 : Nat) = 2 ^ 4 := rfl
  have ht : x.toNat.testBit i = x.getLsbD i := rfl
  rw [BitVec.getLsbD_xor, BitVec.getLsbD_ofNat, e, Nat.testBit_mod_two_pow, BitVec.getLsbD_shiftLeft, BitVec.getLsbD_ushiftRight, ht]
  by_cases h : i < 4
  · simp [h, hi]
  · have hk : 4 + (i - 4) = i := by omega
    rw [hk]; simp [h, hi]

theorem nibble (x : BitVec 32) : BitVec.ofInt 32 (table.getD (x.toNat % 16) 0) ^^^ (x >>> 4) = bits4 x := by
  have h := table_four ⟨x.toNat % 16, Nat.mod_lt _ (by decide)⟩
  simp only at h
  rw [h]
  conv => rhs; rw [split4 x, bits4_xor]
  rw [bits4_low (x := (x >>> 4) <<< 4) (by simp) (by simp) (by simp) (by simp)]
  congr 1
  apply BitVec.eq_of_getLsbD_eq
  intro i hi
  simp [BitVec.getLsbD_shiftLeft, BitVec.getLsbD_ushiftRight]
  intro hb
  have := BitVec.lt_of_getLsbD hb
  omega

/-- A byte is taken in. -/
def step (s : BitVec 32) (c : Int) : BitVec 32 := bits8 (s ^^^ BitVec.ofInt 32 c)
def run (s : BitVec 32) (l : List Int) : BitVec 32 := l.foldl step s
/-- What 'More' answers, and 'Sum'. -/
def more (s : BitVec 32) (l : List Int) : BitVec 32 := ~~~ run (~~~ s) l
def sum (l : List Int) : BitVec 32 := more 0#32 l

theorem more_append (s : BitVec 32) (a b : List Int) : more (more s a) b = more s (a ++ b) := by
  simp [more, run, List.foldl_append]
theorem more_sum (a b : List Int) : more (sum a) b = sum (a ++ b) := more_append _ _ _
theorem run_snoc (s : BitVec 32) (a : List Int) (c : Int) : run s (a ++ [c]) = step (run s a) c := by
  simp [run, List.foldl_append]

end Go.Proofs.YtodajceiadbpeaaDoor.crc
