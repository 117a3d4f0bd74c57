/-
  PLAIN MATHEMATICS OF DIGESTS (P2.1): words of 32 bits as numbers of the walk ('W'), turning, the schedule of a block, a round, a block. No program stands in it.
-/
import Derived.Laws.BitsAllLaws
import Derived.Laws.Bits64b
namespace Go.Proofs.YtchbfcegonlhoaaDoor.sha

/-- A word as the walk's number: not reducible, so that the walk takes it as it stands. -/
def W (x : BitVec 32) : Int := (x.toNat : Int)
theorem W_lt (x : BitVec 32) : 0 ≤ W x ∧ W x < 4294967296 := by unfold W; have := x.isLt; omega
theorem W_inj {x y : BitVec 32} (h : W x = W y) : x = y := by unfold W at h; exact BitVec.eq_of_toNat_eq (by omega)
theorem W_xor (x y : BitVec 32) : bits .xor .u32 (W x) (W y) = W (x ^^^ y) := by
  unfold W; rw [u32_xor_nat _ _ x.isLt y.isLt, BitVec.toNat_xor]
theorem W_and (x y : BitVec 32) : bits .and .u32 (W x) (W y) = W (x &&& y) := by
  unfold W; rw [u32_and_nat _ _ x.isLt y.isLt, BitVec.toNat_and]
theorem W_or (x y : BitVec 32) : bits .or .u32 (W x) (W y) = W (x ||| y) := by
  unfold W; rw [u32_or_nat _ _ x.isLt y.isLt, BitVec.toNat_or]
theorem W_not (x : BitVec 32) : bits .xor .u32 IntKind.u32.max (W x) = W (~~~ x) := by
  have h := W_xor (BitVec.allOnes 32) x
  rw [BitVec.allOnes_xor] at h
  exact h
theorem W_add (x y : BitVec 32) : (W x + W y) % 4294967296 = W (x + y) := by
  unfold W; rw [BitVec.toNat_add]; have := x.isLt; have := y.isLt; omega
theorem W_shr (x : BitVec 32) (k : Nat) : W x / ((2 ^ k : Nat) : Int) = W (x >>> k) := by
  unfold W; rw [BitVec.toNat_ushiftRight, Nat.shiftRight_eq_div_pow]; rfl
theorem W_shl (x : BitVec 32) (k : Nat) : W x * ((2 ^ k : Nat) : Int) % 4294967296 = W (x <<< k) := by
  unfold W; rw [BitVec.toNat_shiftLeft, Nat.shiftLeft_eq]; rfl

/-- x, turned right by k bits. -/
def rotr (x : BitVec 32) (k : Nat) : BitVec 32 := x <<< (32 - k) ||| x >>> k
theorem W_rot (x : BitVec 32) (k : Nat) : bits .or .u32 (W x * ((2 ^ (32 - k) : Nat) : Int) % 4294967296) (W x / ((2 ^ k : Nat) : Int)) = W (rotr x k) := by
  rw [W_shr, W_shl, W_or]; rfl
theorem W_rot' (x : BitVec 32) (k : Nat) : bits .or .u32 (W x / ((2 ^ k : Nat) : Int)) (W x * ((2 ^ (32 - k) : Nat) : Int) % 4294967296) = W (rotr x k) := by
  rw [W_shr, W_shl, W_or, BitVec.or_comm]; rfl

def tri (x : BitVec 32) (i j k : Nat) : BitVec 32 := rotr x i ^^^ rotr x j ^^^ rotr x k
def near (x : BitVec 32) : BitVec 32 := rotr x 17 ^^^ rotr x 19 ^^^ x >>> 10
def far (x : BitVec 32) : BitVec 32 := rotr x 7 ^^^ rotr x 18 ^^^ x >>> 3

/-- Four bytes as a word. -/
def word (a b c d : Int) : BitVec 32 := BitVec.ofInt 32 (a * 16777216 + b * 65536 + c * 256 + d)
theorem W_word {a b c d : Int} (ha : 0 ≤ a ∧ a < 256) (hb : 0 ≤ b ∧ b < 256) (hc : 0 ≤ c ∧ c < 256) (hd : 0 ≤ d ∧ d < 256) : W (word a b c d) = a * 16777216 + b * 65536 + c * 256 + d := by
  unfold W word; rw [BitVec.toNat_ofInt]; omega
theorem or_join {x y m : Int} (i : Nat) (hm : m = ((2 ^ i : Nat) : Int)) (hx : 0 ≤ x ∧ x < 4294967296) (hx0 : x % m = 0) (hy : 0 ≤ y ∧ y < m) (hm2 : m ≤ 4294967296) : bits .or .u32 x y = x + y := by
  obtain ⟨p, rfl⟩ := Int.eq_ofNat_of_zero_le hx.1
  obtain ⟨q, rfl⟩ := Int.eq_ofNat_of_zero_le hy.1
  subst hm
  rw [u32_or_nat p q (by omega) (by omega), nat_join i p q (by exact_mod_cast hx0) (by omega)]; omega

/-! The schedule: 64 words, sixteen of the block, each other by those ahead of it. -/
def nextWord (l : List (BitVec 32)) : BitVec 32 :=
  l.getD (l.length - 16) 0 + far (l.getD (l.length - 15) 0) + l.getD (l.length - 7) 0 + near (l.getD (l.length - 2) 0)
def spreadN (l : List (BitVec 32)) : Nat → List (BitVec 32)
  | 0 => l
  | n + 1 => spreadN l n ++ [nextWord (spreadN l n)]
theorem spreadN_length (l : List (BitVec 32)) (n : Nat) : (spreadN l n).length = l.length + n := by
  induction n with
  | zero => rfl
  | succ n ih => rw [spreadN, List.length_append, ih]; rfl

/-- The first n words of a block. -/
def firstN (b : List Int) (n : Nat) : List (BitVec 32) := (List.range n).map fun i => word (b.getD (4 * i) 0) (b.getD (4 * i + 1) 0) (b.getD (4 * i + 2) 0) (b.getD (4 * i + 3) 0)
theorem firstN_length (b : List Int) (n : Nat) : (firstN b n).length = n := by simp [firstN]
theorem firstN_succ (b : List Int) (n : Nat) : firstN b (n + 1) = firstN b n ++ [word (b.getD (4 * n) 0) (b.getD (4 * n + 1) 0) (b.getD (4 * n + 2) 0) (b.getD (4 * n + 3) 0)] := by
  simp [firstN, List.range_succ]
def sched (b : List Int) : List (BitVec 32) := spreadN (firstN b 16) 48
theorem sched_length (b : List Int) : (sched b).length = 64 := by rw [sched, spreadN_length, firstN_length]

structure St where
  a : BitVec 32
  b : BitVec 32
  c : BitVec 32
  d : BitVec 32
  e : BitVec 32
  f : BitVec 32
  g : BitVec 32
  h : BitVec 32
def St.list (s : St) : List (BitVec 32) := [s.a, s.b, s.c, s.d, s.e, s.f, s.g, s.h]
def choice (e f g : BitVec 32) : BitVec 32 := e &&& f ^^^ ~~~ e &&& g
def most (a b c : BitVec 32) : BitVec 32 := a &&& b ^^^ a &&& c ^^^ b &&& c
def rnd (s : St) (k x : BitVec 32) : St :=
  let t := s.h + tri s.e 6 11 25 + choice s.e s.f s.g + k + x
  let u := tri s.a 2 13 22 + most s.a s.b s.c
  ⟨t + u, s.a, s.b, s.c, s.d + t, s.e, s.f, s.g⟩
def rnds (ks xs : List (BitVec 32)) (s : St) : Nat → St
  | 0 => s
  | n + 1 => rnd (rnds ks xs s n) (ks.getD n 0) (xs.getD n 0)
def St.plus (s t : St) : St := ⟨s.a + t.a, s.b + t.b, s.c + t.c, s.d + t.d, s.e + t.e, s.f + t.f, s.g + t.g, s.h + t.h⟩

def roundNums : List Int := [1116352408, 1899447441, 3049323471, 3921009573, 961987163, 1508970993, 2453635748, 2870763221, 3624381080, 310598401, 607225278, 1426881987, 1925078388, 2162078206, 2614888103, 3248222580, 3835390401, 4022224774, 264347078, 604807628, 770255983, 1249150122, 1555081692, 1996064986, 2554220882, 2821834349, 2952996808, 3210313671, 3336571891, 3584528711, 113926993, 338241895, 666307205, 773529912, 1294757372, 1396182291, 1695183700, 1986661051, 2177026350, 2456956037, 2730485921, 2820302411, 3259730800, 3345764771, 3516065817, 3600352804, 4094571909, 275423344, 430227734, 506948616, 659060556, 883997877, 958139571, 1322822218, 1537002063, 1747873779, 1955562222, 2024104815, 2227730452, 2361852424, 2428436474, 2756734187, 3204031479, 3329325298]
def roundWords : List (BitVec 32) := roundNums.map (BitVec.ofInt 32)
theorem roundWords_at : ∀ i : Fin 64, W (roundWords.getD i.val 0) = roundNums.getD i.val 0 := by decide +kernel

def init : St := ⟨1779033703#32, 3144134277#32, 1013904242#32, 2773480762#32, 1359893119#32, 2600822924#32, 528734635#32, 1541459225#32⟩
/-- One block taken into a state. -/
def mixed (s : St) (b : List Int) : St := s.plus (rnds roundWords (sched b) s 64)

/-- The state behind the first q whole blocks of a text. -/
def stAt (t : List Int) : Nat → St
  | 0 => init
  | q + 1 => mixed (stAt t q) ((t.drop (64 * q)).take 64)
theorem stAt_append (t u : List Int) (q : Nat) (h : 64 * q ≤ t.length) : stAt (t ++ u) q = stAt t q := by
  induction q with
  | zero => rfl
  | succ q ih =>
    rw [stAt, stAt, ih (by omega)]
    congr 1
    rw [List.drop_append_of_le_length (by omega), List.take_append_of_le_length (by rw [List.length_drop]; omega)]

/-- A number's eight bytes, the highest first. -/
def eight (n : Int) : List Int := [n / 72057594037927936 % 256, n / 281474976710656 % 256, n / 1099511627776 % 256, n / 4294967296 % 256, n / 16777216 % 256, n / 65536 % 256, n / 256 % 256, n % 256]
/-- What is laid behind a text of n bytes. -/
def pad (n : Nat) : List Int := 128 :: (List.replicate ((119 - n % 64) % 64) 0 ++ eight ((n : Int) * 8))
theorem pad_length (n : Nat) : (pad n).length = 9 + (119 - n % 64) % 64 := by simp [pad, eight]; omega
theorem pad_whole (n : Nat) : (n + (pad n).length) % 64 = 0 := by rw [pad_length]; omega
def four (x : BitVec 32) : List Int := [W x / 16777216 % 256, W x / 65536 % 256, W x / 256 % 256, W x % 256]
def out (s : St) : List Int := s.list.flatMap four
def padded (t : List Int) : List Int := t ++ pad t.length
/-- SHA-256. -/
def digest (t : List Int) : List Int := out (stAt (padded t) ((padded t).length / 64))
end Go.Proofs.YtchbfcegonlhoaaDoor.sha
