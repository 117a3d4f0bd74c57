/-
  PLAIN MATHEMATICS OF 'stillroomlaw8.SegmentAll' (K1): what a crash leaves of a file that only grew; the records at its front, when each of them was somebody's.
-/
import Derived.Test.YtdonblfidohncaaGreatDoorSgMath2
import Derived.Test.YtdonblfidohncaaGreatDoorSgHad
namespace Go.Proofs.YtdonblfidohncaaGreatDoor.scan
open Go.Proofs.YtdonblfidohncaaGreatDoor.recd Go.Proofs.YtdonblfidohncaaGreatDoor.disk
set_option linter.unusedVariables false

/-- The first bytes are these. -/
def Begin (o b : List Int) : Prop := o.length ≤ b.length ∧ ∀ i, i < o.length → b.getD i 0 = o.getD i 0
theorem Begin.append (o y : List Int) : Begin o (o ++ y) := ⟨by rw [List.length_append]; omega, fun i hi => by
  rw [List.getD_eq_getElem?_getD, List.getElem?_append_left hi, List.getD_eq_getElem?_getD]⟩
theorem Begin.rest {o b : List Int} (h : Begin o b) : ∃ y, b = o ++ y := by
  refine ⟨b.drop o.length, ?_⟩
  have e : b.take o.length = o := by
    refine List.ext_getElem (by rw [List.length_take]; have := h.1; omega) fun i h1 h2 => ?_
    have h3 := h.2 i h2
    have h4 : i < b.length := Nat.lt_of_lt_of_le h2 h.1
    rw [List.getD_eq_getElem?_getD, List.getD_eq_getElem?_getD, List.getElem?_eq_getElem h4, List.getElem?_eq_getElem h2] at h3
    rw [List.getElem_take]
    exact h3
  have := List.take_append_drop o.length b
  rw [e] at this
  exact this.symm
theorem Begin.laid {o b : List Int} (h : Begin o b) (A : FileA) (hn : Begin o A.now) (s n : Nat) : Begin o (laidL b (s * 64) (firstL A s n)) := by
  by_cases hp : firstL A s n = []
  · rw [hp, laidL_nil]; exact h
  · refine ⟨by rw [laidL_length _ _ _ hp]; have := h.1; omega, fun i hi => ?_⟩
    rw [getD_laid _ _ _ _ hp]
    by_cases h1 : i < s * 64
    · rw [if_pos h1]; exact h.2 i hi
    · rw [if_neg h1]
      by_cases h2 : i < s * 64 + (firstL A s n).length
      · rw [if_pos h2]
        have h3 : i - s * 64 < n := by
          unfold firstL at h2
          rw [List.length_take] at h2
          omega
        unfold firstL
        rw [List.getD_eq_getElem?_getD, List.getElem?_take_of_lt h3, List.getElem?_drop, show s * 64 + (i - s * 64) = i by omega, ← List.getD_eq_getElem?_getD]
        exact hn.2 i hi
      · rw [if_neg h2]; exact h.2 i hi
theorem Begin.leave {o : List Int} (A : FileA) (hn : Begin o A.now) (keep : List Bool) (torn : Int) : ∀ (ds : List Nat) (k : Nat) (b : List Int), Begin o b → Begin o (leaveL A keep torn k ds b)
  | [], _, _, h => h
  | s :: r, k, b, h => Begin.leave A hn keep torn r (k + 1) _ (h.laid A hn s _)
/-- What is left of a file that only grew begins with what was synced. -/
theorem left_begin {A : FileA} {y : List Int} (h : A.now = A.old ++ y) (keep : List Bool) (torn : Int) : ∃ z, leftL A keep torn = A.old ++ z :=
  Begin.rest (Begin.leave A (by rw [h]; exact Begin.append _ _) keep torn _ _ _ ⟨Nat.le_refl _, fun _ _ => rfl⟩)

theorem stands_front {P N y : List Int} {ad : Nat} {x : List Int} (h : standsAt P ad x) (e : N = P ++ y) : standsAt N ad x := by
  subst e
  refine ⟨by rw [List.length_append]; have := h.1; omega, ?_⟩
  rw [List.drop_append_of_le_length (by have := h.1; omega), List.take_append_of_le_length (by rw [List.length_drop]; have := h.1; omega)]
  exact h.2
/-- ALL THAT STANDS AT THE FRONT OF A FILE IS, AS FAR AS IT REACHES, WHAT STOOD THERE, when each record of it stood at its place. -/
theorem front_was (L : List Int) (hL : Byte L) : ∀ (l : List Rec) (P : List Int), (∀ r ∈ l, Fine r) → (∀ x ∈ (front L P.length).1, standsAt (P ++ cat l) x.at_ (encL x.r)) → (front L P.length).1 = (finds P.length l).take (front L P.length).1.length
  | l, P, hl, hx => by
    by_cases hd : (dec (L.drop P.length)).2.2 = 0
    · have hf := front_ok hd
      have hfull := dec_full (hL.drop _) hd
      have hok := dec_ok hd
      obtain ⟨r, hr⟩ : ∃ r, (dec (L.drop P.length)).1 = r := ⟨_, rfl⟩
      rw [hr] at hf hfull hok
      have hxr := hx ⟨P.length, r⟩ (by rw [hf]; exact List.mem_cons_self)
      have hen := encL_length r
      cases l with
      | nil =>
        have := hxr.1
        simp [cat, hen] at this
        omega
      | cons r0 l' =>
        have h2 := hxr.2
        rw [List.drop_left, cat_cons] at h2
        have hdec : dec (encL r0 ++ cat l') = (r, 39 + r.body.size, 0) := by
          rw [← List.take_append_drop (encL r).length (encL r0 ++ cat l'), h2]
          exact dec_enc_app ⟨hfull.1, hfull.2.2⟩ _
        have hr0 := hl r0 List.mem_cons_self
        rw [dec_enc_app hr0] at hdec
        obtain rfl : r0 = r := by injection hdec
        have hlen : P.length + (dec (L.drop P.length)).2.1 = (P ++ encL r0).length := by rw [List.length_append, hen, hok.2.2.1]
        rw [hlen] at hf
        have ih := front_was L hL l' (P ++ encL r0) (fun x hx' => hl x (List.mem_cons_of_mem _ hx')) (fun x hx' => by
          have := hx x (by rw [hf]; exact List.mem_cons_of_mem _ hx')
          rw [cat_cons, ← List.append_assoc] at this
          exact this)
        rw [hf]
        obtain ⟨F, hF⟩ : ∃ F, (front L (P ++ encL r0).length).1 = F := ⟨_, rfl⟩
        rw [hF] at ih
        simp only [hF]
        rw [finds, List.length_cons, List.take_succ_cons]
        have e2 : P.length + (39 + r0.body.size) = (P ++ encL r0).length := by rw [List.length_append, hen]
        first
          | rw [e2]
          | rw [show P.length + (encL r0).length = (P ++ encL r0).length by rw [List.length_append]]
        exact congrArg _ ih
    · rw [front_no hd]
      simp
/-- .. and it reaches as far as what is there to its end. -/
theorem front_least (gs : List Rec) (y : List Int) (h : ∀ r ∈ gs, Fine r) : gs.length ≤ (front (cat gs ++ y) 0).1.length := by
  have := front_cat gs [] y h
  rw [List.nil_append, List.length_nil] at this
  rw [this, List.length_append, finds_length]
  omega
end Go.Proofs.YtdonblfidohncaaGreatDoor.scan
