/-
  PLAIN MATHEMATICS OF SEGMENTS (P8.1): what a file of records tells.
-/
import Derived.Test.YtdonblfidohncaaGreatDoorSgRead
import Derived.Test.YtdonblfidohncaaGreatDoorSgApp
import Derived.Test.YtdonblfidohncaaGreatDoorScLostM
namespace Go.Proofs.YtdonblfidohncaaGreatDoor.scan
open Go.Proofs.YtdonblfidohncaaGreatDoor.recd Go.Proofs.YtdonblfidohncaaGreatDoor.disk
set_option linter.unusedVariables false

theorem encs_cat : ∀ {gs : List Rec}, (∀ r ∈ gs, mayB r = true) → encs gs = cat gs
  | [], _ => rfl
  | r :: gs, h => by
    rw [encs_cons, cat_cons, encs_cat fun x hx => h x (List.mem_cons_of_mem _ hx), enc, if_pos (h r List.mem_cons_self)]
theorem placesF_at : ∀ (N : Nat) (gs : List Rec) (i : Nat) (h : i < gs.length) (hm : ∀ r ∈ gs, mayB r = true) (h2 : i < (placesF N gs).length), (placesF N gs)[i] = N + pos gs i
  | N, r :: gs, 0, h, hm, h2 => rfl
  | N, r :: gs, i + 1, h, hm, h2 => by
    have h3 : i < gs.length := by simpa using h
    have e : (enc r).length = (encL r).length := by rw [enc, if_pos (hm r List.mem_cons_self)]
    have e2 : pos (r :: gs) (i + 1) = (encL r).length + pos gs i := by
      unfold pos
      rw [List.take_succ_cons, cat_cons, List.length_append]
    have := placesF_at (N + (enc r).length) gs i h3 (fun x hx => hm x (List.mem_cons_of_mem _ hx)) (by rw [placesF_length]; exact h3)
    show (placesF (N + (enc r).length) gs)[i]'(by rw [placesF_length]; exact h3) = _
    rw [this, e2, e, Nat.add_assoc]
theorem drop_pos (P : List Int) (gs : List Rec) (T : List Int) (k : Nat) (h : k < gs.length) : (P ++ (cat gs ++ T)).drop (P.length + pos gs k) = encL gs[k] ++ (cat (gs.drop (k + 1)) ++ T) := by
  rw [List.drop_append, List.drop_of_length_le (by omega), List.nil_append, Nat.add_sub_cancel_left]
  have e : cat gs = cat (gs.take k) ++ (encL gs[k] ++ cat (gs.drop (k + 1))) := by
    rw [← cat_cons, ← cat_append, List.getElem_cons_drop, List.take_append_drop]
  unfold pos
  rw [e, List.append_assoc, List.append_assoc, List.drop_left']
  rfl
/-- A record that stands in a file is read at its place. -/
theorem readS_at (t : Nat) (P : List Int) (gs : List Rec) (T : List Int) (k : Nat) (h : k < gs.length) (hf : Fine gs[k]) (ht : gs[k].tenant = t) : readS t (P ++ (cat gs ++ T)) ((P.length + pos gs k : Nat) : Int) = (gs[k], 0) := by
  have hd := drop_pos P gs T k h
  have hl : 39 + gs[k].body.size ≤ (P ++ (cat gs ++ T)).length - (P.length + pos gs k) := by
    rw [← List.length_drop, hd, List.length_append, encL_length]
    omega
  have hb : gs[k].body.size ≤ 1000 := by
    have := hf.1
    unfold mayB at this
    simp at this
    omega
  have key : dec (((P ++ (cat gs ++ T)).drop (P.length + pos gs k)).take (min 1039 ((P ++ (cat gs ++ T)).length - (P.length + pos gs k)))) = (gs[k], 39 + gs[k].body.size, 0) := by
    rw [hd, List.take_append, List.take_of_length_le (by rw [encL_length]; omega)]
    exact dec_enc_app hf _
  unfold readS
  rw [if_neg (by omega), Int.toNat_natCast, key, if_pos ⟨rfl, ht⟩]
/-- A file of records of one tenant tells them all. -/
theorem front_all (gs : List Rec) (hg : ∀ r ∈ gs, Fine r) : front (cat gs) 0 = (finds 0 gs, (cat gs).length) := by
  have := front_cat gs [] [] hg
  rw [List.nil_append, List.append_nil] at this
  rw [show (0 : Nat) = ([] : List Int).length from rfl, this]
  have e : front (cat gs) (([] : List Int).length + (cat gs).length) = ([], (cat gs).length) := by
    rw [List.length_nil, Nat.zero_add]
    exact front_no (by rw [List.drop_length]; exact dec_short rfl)
  rw [e, List.append_nil]
theorem finds_mem : ∀ {p : Nat} {gs : List Rec} {x : Fd}, x ∈ finds p gs → x.r ∈ gs
  | p, [], x, h => by cases h
  | p, r :: gs, x, h => by
    rw [finds] at h
    rcases List.mem_cons.1 h with rfl | h
    · exact List.mem_cons_self
    · exact List.mem_cons_of_mem _ (finds_mem h)
theorem segF_all (t : Nat) (gs : List Rec) (hg : ∀ r ∈ gs, Fine r) (ht : ∀ r ∈ gs, r.tenant = t) : segF t (cat gs) = (finds 0 gs, (cat gs).length) := by
  rw [segF, front_all gs hg]
  exact ownOf_all fun x hx => ht _ (finds_mem hx)
end Go.Proofs.YtdonblfidohncaaGreatDoor.scan
