/-
  PLAIN MATHEMATICS OF TENANTS AS BYTES (P10.1): which tenants may be, their bytes, what bytes tell. No program stands in it.
-/
import Derived.Test.YtpgclhpobijdeaaDoorMBase
namespace Go.Proofs.YtpgclhpobijdeaaDoor.man
open Go.Proofs.YtpgclhpobijdeaaDoor.num
set_option linter.unusedVariables false

/-- A tenant. -/
structure Ten where
  id : Nat
  epoch : Nat
  quota : Int
  nobj : Nat
  nseg : Int
  segs : List Int
deriving DecidableEq
def zeroTen : Ten := ⟨0, 0, 0, 0, 0, []⟩
instance : Inhabited Ten := ⟨zeroTen⟩
/-- What the types of its numbers allow. -/
structure Ten.Fit (t : Ten) : Prop where
  id : t.id < 4294967296
  epoch : t.epoch < 18446744073709551616
  quota : -9223372036854775808 ≤ t.quota ∧ t.quota ≤ 9223372036854775807
  nobj : t.nobj < 18446744073709551616
  nseg : -9223372036854775808 ≤ t.nseg ∧ t.nseg ≤ 9223372036854775807
  segs : ∀ s ∈ t.segs, -9223372036854775808 ≤ s ∧ s ≤ 9223372036854775807

def headB (t : Ten) : Bool := decide (1 ≤ t.epoch ∧ t.epoch ≤ 1099511627776 ∧ 1 ≤ t.nobj ∧ t.nobj ≤ 1099511627776 ∧ 1000 ≤ t.quota ∧ t.quota ≤ 65536 ∧ 1 ≤ t.nseg ∧ t.nseg ≤ 1099511627776 ∧ t.segs.length ≤ 60)
/-- Segments behind 'last', rising, below 'n'. -/
def segsB (n : Int) : Int → List Int → Bool
  | _, [] => true
  | last, s :: l => decide (last < s ∧ s < n) && segsB n s l
def oneB (t : Ten) : Bool := headB t && segsB t.nseg 0 t.segs
/-- Tenants behind 'last', by their numbers rising. -/
def riseB : Int → List Ten → Bool
  | _, [] => true
  | last, t :: l => decide (last < (t.id : Int)) && oneB t && riseB t.id l
def mayB (l : List Ten) : Bool := decide (l.length ≤ 6) && riseB (-1) l

theorem segsB_mem {n : Int} : ∀ {l : List Int} {last : Int}, segsB n last l = true → ∀ s ∈ l, last < s ∧ s < n
  | [], _, _, s, hs => by cases hs
  | x :: l, last, h, s, hs => by
    simp only [segsB, Bool.and_eq_true, decide_eq_true_eq] at h
    rcases List.mem_cons.1 hs with rfl | hs
    · exact h.1
    · have := segsB_mem h.2 s hs; omega
theorem riseB_mem : ∀ {l : List Ten} {last : Int}, riseB last l = true → ∀ t ∈ l, last < (t.id : Int) ∧ oneB t = true
  | [], _, _, s, hs => by cases hs
  | x :: l, last, h, s, hs => by
    simp only [riseB, Bool.and_eq_true, decide_eq_true_eq] at h
    rcases List.mem_cons.1 hs with rfl | hs
    · exact h.1
    · have := riseB_mem h.2 s hs; exact ⟨by omega, this.2⟩
theorem mayB_len {l : List Ten} (h : mayB l = true) : l.length ≤ 6 := by
  simp only [mayB, Bool.and_eq_true, decide_eq_true_eq] at h; exact h.1
theorem mayB_rise {l : List Ten} (h : mayB l = true) : riseB (-1) l = true := by
  simp only [mayB, Bool.and_eq_true, decide_eq_true_eq] at h; exact h.2

/-- Numbers of six bytes. -/
def nums (l : List Int) : List Int := l.flatMap fun s => be s.toNat 6
def encT (t : Ten) : List Int := be t.id 6 ++ be t.epoch 6 ++ be t.quota.toNat 6 ++ be t.nobj 6 ++ be t.nseg.toNat 6 ++ be t.segs.length 6 ++ nums t.segs
def markL : List Int := [109, 97, 110, 58]
def enc (l : List Ten) : List Int := markL ++ be l.length 6 ++ l.flatMap encT
def encO (l : List Ten) : List Int := if mayB l = true then enc l else []

theorem nums_length : ∀ l : List Int, (nums l).length = 6 * l.length
  | [] => rfl
  | s :: l => by rw [nums, List.flatMap_cons, List.length_append, be_length, List.length_cons]; have := nums_length l; unfold nums at this; omega
theorem encT_length (t : Ten) : (encT t).length = 36 + 6 * t.segs.length := by
  simp only [encT, List.length_append, be_length, nums_length]
theorem byte_app {a b : List Int} (ha : ∀ c ∈ a, 0 ≤ c ∧ c < 256) (hb : ∀ c ∈ b, 0 ≤ c ∧ c < 256) : ∀ c ∈ a ++ b, 0 ≤ c ∧ c < 256 := fun c hc => (List.mem_append.1 hc).elim (ha c) (hb c)
theorem nums_byte (l : List Int) : ∀ c ∈ nums l, 0 ≤ c ∧ c < 256 := fun c hc => by
  obtain ⟨s, _, h⟩ := List.mem_flatMap.1 hc
  exact be_byte _ _ c h
theorem encT_byte (t : Ten) : ∀ c ∈ encT t, 0 ≤ c ∧ c < 256 :=
  byte_app (byte_app (byte_app (byte_app (byte_app (byte_app (be_byte _ _) (be_byte _ _)) (be_byte _ _)) (be_byte _ _)) (be_byte _ _)) (be_byte _ _)) (nums_byte _)
theorem mark_byte : ∀ c ∈ markL, 0 ≤ c ∧ c < 256 := by decide
theorem enc_byte (l : List Ten) : ∀ c ∈ enc l, 0 ≤ c ∧ c < 256 := byte_app (byte_app mark_byte (be_byte _ _)) fun c hc => by
  obtain ⟨s, _, h⟩ := List.mem_flatMap.1 hc
  exact encT_byte _ c h
theorem encs_length : ∀ {l : List Ten}, (∀ t ∈ l, t.segs.length ≤ 60) → (l.flatMap encT).length ≤ 396 * l.length
  | [], _ => Nat.le_refl _
  | t :: l, h => by
    rw [List.flatMap_cons, List.length_append, encT_length, List.length_cons]
    have h1 := h t (List.mem_cons_self ..)
    have h2 := encs_length (l := l) fun t ht => h t (List.mem_cons_of_mem _ ht)
    omega
theorem oneB_head {t : Ten} (h : oneB t = true) : 1 ≤ t.epoch ∧ t.epoch ≤ 1099511627776 ∧ 1 ≤ t.nobj ∧ t.nobj ≤ 1099511627776 ∧ 1000 ≤ t.quota ∧ t.quota ≤ 65536 ∧ 1 ≤ t.nseg ∧ t.nseg ≤ 1099511627776 ∧ t.segs.length ≤ 60 := by
  simp only [oneB, headB, Bool.and_eq_true, decide_eq_true_eq] at h; exact h.1
theorem oneB_segs {t : Ten} (h : oneB t = true) : ∀ s ∈ t.segs, 1 ≤ s ∧ s < 1099511627776 := fun s hs => by
  have h1 := oneB_head h
  simp only [oneB, Bool.and_eq_true] at h
  have := segsB_mem h.2 s hs
  omega
theorem mayB_one {l : List Ten} (h : mayB l = true) : ∀ t ∈ l, oneB t = true := fun t ht => (riseB_mem (mayB_rise h) t ht).2
theorem enc_length {l : List Ten} (h : mayB l = true) : (enc l).length ≤ 2400 := by
  have h1 := mayB_len h
  have h2 := encs_length (l := l) fun t ht => (oneB_head (mayB_one h t ht)).2.2.2.2.2.2.2.2
  simp only [enc, List.length_append, be_length, markL, List.length_cons, List.length_nil]
  omega
theorem encO_length (l : List Ten) : (encO l).length ≤ 2400 := by
  unfold encO; split
  · next h => exact enc_length h
  · simp
theorem encO_byte (l : List Ten) : ∀ c ∈ encO l, 0 ≤ c ∧ c < 256 := by
  unfold encO; split
  · exact enc_byte l
  · intro c hc; cases hc

/-- The number ahead; what is behind it. -/
def rd (b : List Int) : Nat := val (b.take 6)
def segsOf : Nat → List Int → List Int
  | 0, _ => []
  | n + 1, b => (rd b : Int) :: segsOf n (b.drop 6)
def cnt (b : List Int) : Nat := min (rd (b.drop 30)) 60
/-- The tenant that bytes tell; what is behind it. -/
def tenOf (b : List Int) : Ten := ⟨rd b % 4294967296, rd (b.drop 6), (rd (b.drop 12) : Int), rd (b.drop 18), (rd (b.drop 24) : Int), segsOf (cnt b) (b.drop 36)⟩
def tensOf : Nat → List Int → List Ten
  | 0, _ => []
  | n + 1, b => tenOf b :: tensOf n (b.drop (36 + 6 * cnt b))
def parse (b : List Int) : List Ten := tensOf (min (rd (b.drop 4)) 6) (b.drop 10)
def decT (b : List Int) : Option (List Ten) := if encO (parse b) = b then some (parse b) else none

theorem segsOf_length : ∀ n b, (segsOf n b).length = n
  | 0, _ => rfl
  | n + 1, b => by rw [segsOf, List.length_cons, segsOf_length]
theorem tensOf_length : ∀ n b, (tensOf n b).length = n
  | 0, _ => rfl
  | n + 1, b => by rw [tensOf, List.length_cons, tensOf_length]
theorem rd_be (n : Nat) (b : List Int) (h : n < 281474976710656) : rd (be n 6 ++ b) = n := by
  rw [rd, List.take_append_of_le_length (by rw [be_length]; omega), List.take_of_length_le (by rw [be_length]; omega), val_be 6 n (by rw [show (256 : Nat) ^ 6 = 281474976710656 by decide]; exact h)]
theorem drop_be (n : Nat) (b : List Int) : (be n 6 ++ b).drop 6 = b := by
  rw [List.drop_append_of_le_length (by rw [be_length]; omega), List.drop_of_length_le (by rw [be_length]; omega), List.nil_append]
theorem segsOf_nums : ∀ (l : List Int) (b : List Int), (∀ s ∈ l, 0 ≤ s ∧ s < 281474976710656) → segsOf l.length (nums l ++ b) = l ∧ (nums l ++ b).drop (6 * l.length) = b
  | [], b, _ => ⟨rfl, by simp [nums]⟩
  | s :: l, b, h => by
    have hs := h s (List.mem_cons_self ..)
    have e : nums (s :: l) ++ b = be s.toNat 6 ++ (nums l ++ b) := by simp [nums, List.flatMap_cons, List.append_assoc]
    obtain ⟨h1, h2⟩ := segsOf_nums l b fun s hs => h s (List.mem_cons_of_mem _ hs)
    rw [e, List.length_cons, segsOf, rd_be _ _ (by omega), drop_be, h1, show 6 * (l.length + 1) = 6 + 6 * l.length by omega, ← List.drop_drop, drop_be, h2]
    exact ⟨by rw [Int.toNat_of_nonneg hs.1], rfl⟩
theorem tenOf_enc {t : Ten} (hf : t.Fit) (h : oneB t = true) (b : List Int) : tenOf (encT t ++ b) = t ∧ (encT t ++ b).drop (36 + 6 * cnt (encT t ++ b)) = b := by
  have hh := oneB_head h
  have hs := oneB_segs h
  obtain ⟨id, ep, qu, nx, ns, sg⟩ := t
  simp only at hh hs
  have hid := hf.id
  simp only at hid
  have e : encT ⟨id, ep, qu, nx, ns, sg⟩ ++ b = be id 6 ++ (be ep 6 ++ (be qu.toNat 6 ++ (be nx 6 ++ (be ns.toNat 6 ++ (be sg.length 6 ++ (nums sg ++ b)))))) := by simp [encT, List.append_assoc]
  rw [e]
  obtain ⟨g1, g2⟩ := segsOf_nums sg b fun s hs' => by have := hs s hs'; omega
  have d : ∀ (n : Nat) (x : List Int) (m : Nat), (be n 6 ++ x).drop (6 + m) = x.drop m := fun n x m => by rw [← List.drop_drop, drop_be]
  have c : cnt (be id 6 ++ (be ep 6 ++ (be qu.toNat 6 ++ (be nx 6 ++ (be ns.toNat 6 ++ (be sg.length 6 ++ (nums sg ++ b))))))) = sg.length := by
    rw [cnt, show 30 = 6 + (6 + (6 + (6 + (6 + 0)))) from rfl, d, d, d, d, d, List.drop_zero, rd_be _ _ (by omega)]
    omega
  rw [tenOf, c, show 36 = 6 + (6 + (6 + (6 + (6 + (6 + 0))))) from rfl, Nat.add_assoc, Nat.add_assoc, Nat.add_assoc, Nat.add_assoc, Nat.add_assoc, Nat.add_assoc]
  simp only [Nat.zero_add]
  refine ⟨?_, by rw [d, d, d, d, d, d, g2]⟩
  rw [d, d, d, d, d, d, List.drop_zero]
  rw [rd_be _ _ (by omega), show 24 = 6 + (6 + (6 + (6 + 0))) from rfl, show 18 = 6 + (6 + (6 + 0)) from rfl, show 12 = 6 + (6 + 0) from rfl]
  simp only [d, drop_be, List.drop_zero]
  rw [rd_be _ _ (by omega), rd_be _ _ (by omega), rd_be _ _ (by omega), rd_be _ _ (by omega), g1]
  rw [Nat.mod_eq_of_lt hid, Int.toNat_of_nonneg (by omega), Int.toNat_of_nonneg (by omega)]
theorem tensOf_enc : ∀ (l : List Ten), (∀ t ∈ l, t.Fit) → (∀ t ∈ l, oneB t = true) → tensOf l.length (l.flatMap encT) = l
  | [], _, _ => rfl
  | t :: l, hf, h => by
    obtain ⟨h1, h2⟩ := tenOf_enc (hf t (List.mem_cons_self ..)) (h t (List.mem_cons_self ..)) (l.flatMap encT)
    rw [List.flatMap_cons, List.length_cons, tensOf, h1, h2, tensOf_enc l (fun t ht => hf t (List.mem_cons_of_mem _ ht)) (fun t ht => h t (List.mem_cons_of_mem _ ht))]
theorem parse_enc {l : List Ten} (hf : ∀ t ∈ l, t.Fit) (h : mayB l = true) : parse (enc l) = l := by
  have hl := mayB_len h
  have e : (enc l).drop 4 = be l.length 6 ++ l.flatMap encT := by rw [enc, List.append_assoc]; rfl
  have e2 : (enc l).drop 10 = l.flatMap encT := by rw [show 10 = 4 + 6 from rfl, ← List.drop_drop, e, drop_be]
  rw [parse, e, e2, rd_be _ _ (by omega), Nat.min_eq_left hl, tensOf_enc l hf (mayB_one h)]
theorem decT_enc {l : List Ten} (hf : ∀ t ∈ l, t.Fit) (h : mayB l = true) : decT (enc l) = some l := by
  rw [decT, parse_enc hf h, encO, if_pos h, if_pos rfl]
theorem decT_some {b : List Int} {l : List Ten} (h : decT b = some l) : mayB l = true ∧ enc l = b ∧ parse b = l := by
  unfold decT at h
  split at h
  · next he =>
    injection h with h
    rw [h] at he
    by_cases hm : mayB l = true
    · rw [encO, if_pos hm] at he
      exact ⟨hm, he, h⟩
    · rw [encO, if_neg hm] at he
      rw [← he] at h
      subst h
      exact absurd (by decide) hm
  · cases h
theorem rd_lt {b : List Int} (h : ∀ c ∈ b, 0 ≤ c ∧ c < 256) : rd b < 281474976710656 := by
  have h1 := val_lt _ (b.take 6) rfl fun c hc => h c (List.mem_of_mem_take hc)
  have h2 : 256 ^ (b.take 6).length ≤ 256 ^ 6 := Nat.pow_le_pow_right (by decide) (by rw [List.length_take]; omega)
  rw [show (256 : Nat) ^ 6 = 281474976710656 by decide] at h2
  unfold rd
  omega
theorem drop_byte {b : List Int} (h : ∀ c ∈ b, 0 ≤ c ∧ c < 256) (n : Nat) : ∀ c ∈ b.drop n, 0 ≤ c ∧ c < 256 := fun c hc => h c (List.mem_of_mem_drop hc)
theorem segsOf_small : ∀ (n : Nat) (b : List Int), (∀ c ∈ b, 0 ≤ c ∧ c < 256) → ∀ s ∈ segsOf n b, 0 ≤ s ∧ s < 281474976710656
  | 0, _, _, s, h => by cases h
  | n + 1, b, hb, s, h => by
    rcases List.mem_cons.1 h with rfl | h
    · have := rd_lt hb; omega
    · exact segsOf_small n _ (drop_byte hb 6) s h
theorem tenOf_fit {b : List Int} (h : ∀ c ∈ b, 0 ≤ c ∧ c < 256) : (tenOf b).Fit := by
  have := rd_lt (drop_byte h 6)
  have := rd_lt (drop_byte h 12)
  have := rd_lt (drop_byte h 18)
  have := rd_lt (drop_byte h 24)
  refine ⟨Nat.mod_lt _ (by decide), ?_, ?_, ?_, ?_, fun s hs => ?_⟩
  · show rd _ < _; omega
  · show _ ≤ (rd _ : Int) ∧ (rd _ : Int) ≤ _; omega
  · show rd _ < _; omega
  · show _ ≤ (rd _ : Int) ∧ (rd _ : Int) ≤ _; omega
  · have := segsOf_small _ _ (drop_byte h 36) s hs; omega
theorem tensOf_fit : ∀ (n : Nat) (b : List Int), (∀ c ∈ b, 0 ≤ c ∧ c < 256) → ∀ t ∈ tensOf n b, t.Fit
  | 0, _, _, t, h => by cases h
  | n + 1, b, hb, t, h => by
    rcases List.mem_cons.1 h with rfl | h
    · exact tenOf_fit hb
    · exact tensOf_fit n _ (drop_byte hb _) t h
theorem parse_fit {b : List Int} (h : ∀ c ∈ b, 0 ≤ c ∧ c < 256) : ∀ t ∈ parse b, t.Fit := tensOf_fit _ _ (drop_byte h 10)
theorem parse_len (b : List Int) : (parse b).length ≤ 6 := by rw [parse, tensOf_length]; omega
end Go.Proofs.YtpgclhpobijdeaaDoor.man
