/-
  PLAIN MATHEMATICS OF SLOTS BEHIND A CRASH (P9.1, K1).
-/
import Derived.Test.YtdonblfidohncaaGreatDoorSlBegun
import Derived.Test.YtdonblfidohncaaGreatDoorSgMixed
import Derived.Test.YtdonblfidohncaaGreatDoorSgAllM2
namespace Go.Proofs.YtdonblfidohncaaGreatDoor.slots
open Go.RowKit Go.Proofs.YtdonblfidohncaaGreatDoor.disk Go.Proofs.YtdonblfidohncaaGreatDoor.recd Go.Proofs.YtdonblfidohncaaGreatDoor.num Go.Proofs.YtdonblfidohncaaGreatDoor.scan
set_option linter.unusedVariables false

/-- Where P holds, the bytes are o's. -/
def Stays (P : Nat → Prop) (o b : List Int) : Prop := b.length = o.length ∧ ∀ i, i < o.length → P i → b.getD i 0 = o.getD i 0
theorem Stays.laid {P : Nat → Prop} {o b : List Int} (h : Stays P o b) (A : FileA) (hn : Stays P o A.now) (s n : Nat) : Stays P o (laidL b (s * 64) (firstL A s n)) := by
  by_cases hp : firstL A s n = []
  · rw [hp, laidL_nil]; exact h
  · have hfl : (firstL A s n).length ≤ A.now.length - s * 64 := by unfold firstL; rw [List.length_take, List.length_drop]; omega
    have hpos : 0 < (firstL A s n).length := List.length_pos_iff.2 hp
    refine ⟨by rw [laidL_length _ _ _ hp]; have := h.1; have := hn.1; omega, fun i hi hP => ?_⟩
    rw [getD_laid _ _ _ _ hp]
    by_cases h1 : i < s * 64
    · rw [if_pos h1]; exact h.2 i hi hP
    · rw [if_neg h1]
      by_cases h2 : i < s * 64 + (firstL A s n).length
      · rw [if_pos h2]
        have h3 : i - s * 64 < n := by
          unfold firstL at h2
          rw [List.length_take] at h2
          omega
        unfold firstL
        rw [List.getD_eq_getElem?_getD, List.getElem?_take_of_lt h3, List.getElem?_drop, show s * 64 + (i - s * 64) = i by omega, ← List.getD_eq_getElem?_getD]
        exact hn.2 i hi hP
      · rw [if_neg h2]; exact h.2 i hi hP
theorem Stays.leave {P : Nat → Prop} {o : List Int} (A : FileA) (hn : Stays P o A.now) (keep : List Bool) (torn : Int) : ∀ (ds : List Nat) (k : Nat) (b : List Int), Stays P o b → Stays P o (leaveL A keep torn k ds b)
  | [], _, _, h => h
  | s :: r, k, b, h => Stays.leave A hn keep torn r (k + 1) _ (h.laid A hn s _)
theorem left_stays {P : Nat → Prop} {A : FileA} (h : Stays P A.old A.now) (keep : List Bool) (torn : Int) : Stays P A.old (leftL A keep torn) :=
  Stays.leave A h keep torn _ _ _ ⟨rfl, fun _ _ _ => rfl⟩
/-- Which bytes a slot has. -/
def inSlot (k i : Nat) : Prop := if k = 0 then i < 4096 else 4096 ≤ i
theorem stays_slot {o b : List Int} (ho : o.length = 8192) {k : Nat} (h : Stays (inSlot k) o b) : slotAt b k = slotAt o k := by
  have hb := h.1
  unfold slotAt
  split
  · rename_i hk
    refine List.ext_getElem (by rw [List.length_take, List.length_take]; omega) fun i h1 h2 => ?_
    rw [List.length_take] at h1 h2
    have h3 := h.2 i (by omega) (by unfold inSlot; rw [if_pos hk]; omega)
    rw [List.getD_eq_getElem?_getD, List.getD_eq_getElem?_getD, List.getElem?_eq_getElem (by omega), List.getElem?_eq_getElem (by omega)] at h3
    rw [List.getElem_take, List.getElem_take]
    exact h3
  · rename_i hk
    refine List.ext_getElem (by rw [List.length_drop, List.length_drop]; omega) fun i h1 h2 => ?_
    rw [List.length_drop] at h1 h2
    have h3 := h.2 (4096 + i) (by omega) (by unfold inSlot; rw [if_neg hk]; omega)
    rw [List.getD_eq_getElem?_getD, List.getD_eq_getElem?_getD, List.getElem?_eq_getElem (by omega), List.getElem?_eq_getElem (by omega)] at h3
    rw [List.getElem_drop, List.getElem_drop]
    exact h3
theorem slot_stays {o b : List Int} (ho : o.length = 8192) (hb : b.length = 8192) {k : Nat} (h : slotAt b k = slotAt o k) : Stays (inSlot k) o b := by
  refine ⟨by omega, fun i hi hP => ?_⟩
  unfold slotAt at h
  unfold inSlot at hP
  split at h
  · rename_i hk
    rw [if_pos hk] at hP
    have := congrArg (fun l => l.getD i 0) h
    simp only [List.getD_eq_getElem?_getD, List.getElem?_take_of_lt hP] at this
    rw [List.getD_eq_getElem?_getD, List.getD_eq_getElem?_getD]
    exact this
  · rename_i hk
    rw [if_neg hk] at hP
    have := congrArg (fun l => l.getD (i - 4096) 0) h
    simp only [List.getD_eq_getElem?_getD, List.getElem?_drop, show 4096 + (i - 4096) = i by omega] at this
    rw [List.getD_eq_getElem?_getD, List.getD_eq_getElem?_getD]
    exact this
/-- A slot as the reference tells it. -/
theorem slotF_of {l : List Int} (hl : 4096 ≤ l.length) {t : Nat} {x : List Int} (h : slotD l = some (t, x)) : slotF l = 16 + x.length := by
  unfold slotD at h
  split at h
  · cases h
  · rename_i h1
    split at h
    · cases h
    · rename_i h2
      injection h with h
      injection h with h3 h4
      have hx : x.length = val (recd.sub l 8 12) := by rw [← h4, sub_length _ _ _ (by omega)]; omega
      unfold recd.sumOf at h2
      unfold slotF
      rw [if_neg (by omega), if_neg (by omega), if_neg h2, hx]
/-- What stands in a file where a slot begins. -/
theorem stands_slot {P : List Int} (hP : P.length = 8192) {k : Nat} (hk : k ≤ 1) {t : Nat} {x : List Int} (ht : t < 18446744073709551616) (hx : x.length ≤ 4080) (h : standsAt P (k * 4096) (slotE t x)) : slotD (slotAt P k) = some (t, x) := by
  have h2 := h.2
  rw [slotE_length] at h2
  refine slotD_begins ht hx ?_
  unfold slotAt
  split
  · rename_i h0
    subst h0
    rw [Nat.zero_mul, List.drop_zero] at h2
    rw [List.take_take, Nat.min_eq_left (by omega)]
    exact h2
  · obtain rfl : k = 1 := by omega
    rw [Nat.one_mul] at h2
    exact h2
/-- A SLOT THAT IS WHOLE BEHIND A CRASH stood there before it, in what was written or in what was synced. -/
theorem crash_slot {S1 S3 : St} {nm1 nm3 : Nm} {b1 b3 : Nat} {N O : List Int} (e1 : S1.now = [(nm1, b1)]) (f1 : (S1.file b1).now = N) (e3 : S3.now = [(nm3, b3)]) (f3 : (S3.file b3).now = O) (hN : N.length = 8192) (hO : O.length = 8192)
    (C : List Int) (hC : C.length = 8192) (hb : Byte C) (hok : FileOk S1 S3 C) {k : Nat} (hk : k ≤ 1) {t : Nat} {x : List Int} (h : slotD (slotAt C k) = some (t, x)) : slotD (slotAt N k) = some (t, x) ∨ slotD (slotAt O k) = some (t, x) := by
  have hd : slotD (C.drop (k * 4096)) = some (t, x) := by
    unfold slotAt at h
    split at h
    · rename_i h0
      subst h0
      rw [slotD_take _ _ (Nat.le_refl _)] at h
      rw [Nat.zero_mul, List.drop_zero]
      exact h
    · obtain rfl : k = 1 := by omega
      exact h
  have hl : 4096 ≤ (C.drop (k * 4096)).length := by rw [List.length_drop]; omega
  obtain ⟨h1, h2, h3, _⟩ := slotD_some (hb.drop _) hl hd
  have hF := slotF_of hl hd
  rcases hok.2 (k * 4096) (by omega) (by omega) (by omega) with h4 | h4
  · rw [hF, h1] at h4
    have := had_one e1 h4
    rw [f1] at this
    exact .inl (stands_slot hN hk h3 h2 this)
  · rw [hF, h1] at h4
    have := had_one e3 h4
    rw [f3] at this
    exact .inr (stands_slot hO hk h3 h2 this)
/-- A file at the end: one slot has this text, synced; the other an elder one, or the next. -/
structure EndSt (A : FileA) (k T : Nat) (x nx : List Int) : Prop where
  lnow : A.now.length = 8192
  lold : A.old.length = 8192
  k1 : k ≤ 1
  this : slotD (slotAt A.old k) = some (T, x)
  same : slotAt A.now k = slotAt A.old k
  now : ∀ t y, slotD (slotAt A.now (1 - k)) = some (t, y) → t < T ∨ (T < t ∧ y = nx)
  old : ∀ t y, slotD (slotAt A.old (1 - k)) = some (t, y) → t < T
theorem EndSt.clean {A : FileA} {k T tr : Nat} {x nx : List Int} (h : Keeps A.now k T x tr) (hs : Strict A k T) (hc : A = ⟨A.now, A.now, []⟩) : EndSt A k T x nx := by
  have e : A.old = A.now := by rw [hc]
  exact ⟨h.len, by rw [e]; exact h.len, h.k1, by rw [e]; exact h.this, by rw [e], fun t y hd => .inl (hs t y hd), fun t y hd => hs t y (by rw [← e]; exact hd)⟩
theorem EndSt.written {A A' : FileA} {k T : Nat} {x l : List Int} (h : Keeps A.now k T x T) (hs : Strict A k T) (hc : A = ⟨A.now, A.now, []⟩) (hl : l.length ≤ 4080) (hb : Byte l) (hT : T + 1 < 18446744073709551616) (e1 : A'.now = saved A.now k T l) (e2 : A'.old = A.old) : EndSt A' k T x l := by
  have e : A.old = A.now := by rw [hc]
  have hel := slotE_length (T + 1) l
  have hk := h.k1
  obtain ⟨s1, s2, s3⟩ := splice_slot h.len (k := 1 - k) (by omega) (e := slotE (T + 1) l) (by omega)
  rw [show 1 - (1 - k) = k by omega] at s3
  refine ⟨by rw [e1]; exact s1, by rw [e2, e]; exact h.len, hk, by rw [e2, e]; exact h.this, by rw [e1, e2, e]; exact s3, fun t y hd => ?_, fun t y hd => hs t y (by rw [← e, ← e2]; exact hd)⟩
  right
  rw [e1] at hd
  unfold saved at hd
  rw [s2, slotD_enc hT hl] at hd
  injection hd with hd
  injection hd with h3 h4
  exact ⟨by omega, h4.symm⟩
/-- WHAT IS TOLD BEHIND THE CRASH: the text that was saved last, or the one under way. -/
theorem end_told {A : FileA} {k T : Nat} {x nx : List Int} (h : EndSt A k T x nx) {S1 S3 : St} {nm1 nm3 : Nm} {b1 b3 : Nat} (e1 : S1.now = [(nm1, b1)]) (f1 : (S1.file b1).now = A.now) (e3 : S3.now = [(nm3, b3)]) (f3 : (S3.file b3).now = A.old)
    (keep : List Bool) (torn : Int) (hb : Byte (leftL A keep torn)) (hok : FileOk S1 S3 (leftL A keep torn)) : (leftL A keep torn).length = 8192 ∧ ∃ t y kk, openD (leftL A keep torn) = some (t, y, kk) ∧ (y = x ∨ y = nx) := by
  have hst := left_stays (slot_stays h.lold h.lnow h.same) keep torn
  have hC : (leftL A keep torn).length = 8192 := by rw [hst.1, h.lold]
  have hsl := stays_slot h.lold hst
  have hk := h.k1
  have ho : ∀ t y, slotD (slotAt (leftL A keep torn) (1 - k)) = some (t, y) → t < T ∨ (T < t ∧ y = nx) := fun t y hd => by
    rcases crash_slot e1 f1 e3 f3 h.lnow h.lold _ hC hb hok (k := 1 - k) (by omega) hd with h2 | h2
    · exact h.now t y h2
    · exact .inl (h.old t y h2)
  refine ⟨hC, ?_⟩
  have hth : slotD (slotAt (leftL A keep torn) k) = some (T, x) := by rw [hsl]; exact h.this
  generalize leftL A keep torn = C at hth ho
  rcases Nat.lt_or_ge 0 k with h0 | h0
  · obtain rfl : k = 1 := by omega
    have hth' : slotD (C.drop 4096) = some (T, x) := hth
    have ho' : ∀ t y, slotD (C.take 4096) = some (t, y) → t < T ∨ (T < t ∧ y = nx) := ho
    unfold openD
    rw [hth']
    cases h2 : slotD (C.take 4096) with
    | none => exact ⟨_, _, _, rfl, .inl rfl⟩
    | some a =>
      simp only
      split
      · exact ⟨_, _, _, rfl, .inl rfl⟩
      · rename_i hn
        rcases ho' a.1 a.2 h2 with h3 | ⟨_, h4⟩
        · exact absurd h3 hn
        · exact ⟨_, _, _, rfl, .inr h4⟩
  · obtain rfl : k = 0 := by omega
    have hth' : slotD (C.take 4096) = some (T, x) := hth
    have ho' : ∀ t y, slotD (C.drop 4096) = some (t, y) → t < T ∨ (T < t ∧ y = nx) := ho
    unfold openD
    rw [hth']
    cases h2 : slotD (C.drop 4096) with
    | none => exact ⟨_, _, _, rfl, .inl rfl⟩
    | some a =>
      simp only
      split
      · rename_i hn
        rcases ho' a.1 a.2 h2 with h3 | ⟨_, h4⟩
        · omega
        · exact ⟨_, _, _, rfl, .inr h4⟩
      · exact ⟨_, _, _, rfl, .inl rfl⟩
end Go.Proofs.YtdonblfidohncaaGreatDoor.slots
