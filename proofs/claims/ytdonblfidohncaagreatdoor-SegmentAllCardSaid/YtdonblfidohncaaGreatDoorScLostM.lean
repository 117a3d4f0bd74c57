/-
  PLAIN MATHEMATICS OF A SCAN OVER RECORDS ONE BEHIND THE OTHER, of which one was spoilt. No program stands in it.
-/
import Derived.Test.YtdonblfidohncaaGreatDoorMScan
import Derived.Test.YtdonblfidohncaaGreatDoorMRDec
namespace Go.Proofs.YtdonblfidohncaaGreatDoor.scan
open Go.Proofs.YtdonblfidohncaaGreatDoor.recd Go.Proofs.YtdonblfidohncaaGreatDoor.disk Go.Proofs.YtdonblfidohncaaGreatDoor.num

/-- What GoodR asks, without memory. -/
def Fine (r : Rec) : Prop := mayB r = true ∧ r.tenant < 4294967296

/-- Bytes behind a whole record say nothing of it. -/
theorem dec_app (l t : List Int) (h : 39 ≤ l.length) (h2 : 39 + lenOf l ≤ l.length) : dec (l ++ t) = dec l := by
  have hs : ∀ p q, q ≤ l.length → sub (l ++ t) p q = sub l p q := fun p q hq => sub_front l t p q hq
  have e1 : lenOf (l ++ t) = lenOf l := by unfold lenOf; rw [hs 31 35 (by omega)]
  have e2 : headOf (l ++ t) = headOf l := by unfold headOf; rw [hs 2 3 (by omega), hs 3 7 (by omega), hs 7 15 (by omega), hs 15 23 (by omega), hs 23 31 (by omega)]
  have e3 : begB (l ++ t) = begB l := by
    rw [begB_two (l := l ++ t) (by rw [List.length_append]; omega), begB_two (l := l) (by omega)]
    have g : ∀ i, i < 39 → (l ++ t).getD i 0 = l.getD i 0 := fun i hi => by
      rw [List.getD_eq_getElem?_getD, List.getD_eq_getElem?_getD, List.getElem?_append_left (by omega)]
    rw [g 0 (by omega), g 1 (by omega), g 2 (by omega), decide_eq_false (show ¬ (l ++ t).length ≤ 2 by rw [List.length_append]; omega), decide_eq_false (show ¬ l.length ≤ 2 by omega)]
  have n1 : ¬ (l ++ t).length < 39 := by rw [List.length_append]; omega
  have n2 : ¬ l.length < 39 := by omega
  have n3 : ¬ (l ++ t).length < 39 + lenOf l := by rw [List.length_append]; omega
  have n4 : ¬ l.length < 39 + lenOf l := by omega
  unfold dec
  rw [e1, e2, e3, hs 0 35 (by omega), hs 39 (39 + lenOf l) (by omega), hs 35 39 (by omega), if_neg n1, if_neg n2, if_neg n3, if_neg n4]
theorem dec_enc_app {r : Rec} (h : Fine r) (t : List Int) : dec (encL r ++ t) = (r, 39 + r.body.size, 0) := by
  have hl := encL_length r
  rw [dec_app (encL r) t (by omega) (by rw [len_enc r h.1]; omega), dec_enc r h.1 h.2]
theorem dec_spoilt_app {r : Rec} (h : Fine r) (k : Nat) (hk : k < (encL r).length) (hno : ¬ (31 ≤ k ∧ k < 35)) (y : Int) (hy : 0 ≤ y ∧ y < 256) (hne : y ≠ (encL r).getD k 0) (t : List Int) : (dec ((encL r).set k y ++ t)).2.2 ≠ 0 := by
  have hl := encL_length r
  have e : lenOf ((encL r).set k y) = r.body.size := by
    unfold lenOf
    rw [sub_set_out _ _ _ _ _ (by omega)]
    exact len_enc r h.1
  rw [dec_app _ t (by rw [List.length_set]; omega) (by rw [e, List.length_set]; omega), dec_spoilt r h.1 h.2 k hk hno y hy hne]
  decide

/-- Records one behind the other. -/
def cat (gs : List Rec) : List Int := gs.flatMap encL
theorem cat_cons (r : Rec) (gs : List Rec) : cat (r :: gs) = encL r ++ cat gs := rfl
theorem cat_append (a b : List Rec) : cat (a ++ b) = cat a ++ cat b := List.flatMap_append ..
theorem cat_one (r : Rec) : cat [r] = encL r := by simp [cat]
theorem cat_byte : ∀ gs : List Rec, Byte (cat gs)
  | [] => Byte.nil
  | r :: gs => by rw [cat_cons]; exact (encL_byte r).append (cat_byte gs)
/-- Where record k begins. -/
def pos (gs : List Rec) (k : Nat) : Nat := (cat (gs.take k)).length
theorem pos_zero (gs : List Rec) : pos gs 0 = 0 := rfl
theorem take_snoc (gs : List Rec) (k : Nat) (h : k < gs.length) : gs.take (k + 1) = gs.take k ++ [gs[k]] := by
  rw [List.take_add_one, List.getElem?_eq_getElem h]; rfl
theorem pos_succ (gs : List Rec) (k : Nat) (h : k < gs.length) : pos gs (k + 1) = pos gs k + (39 + gs[k].body.size) := by
  unfold pos
  rw [take_snoc gs k h, cat_append, List.length_append, cat_one, encL_length]
theorem pos_all (gs : List Rec) {k : Nat} (h : gs.length ≤ k) : pos gs k = (cat gs).length := by unfold pos; rw [List.take_of_length_le h]
theorem pos_le (gs : List Rec) : ∀ (k : Nat), k ≤ gs.length → k * 39 ≤ pos gs k
  | 0, _ => Nat.zero_le _
  | k + 1, h => by
    have := pos_le gs k (by omega)
    rw [pos_succ gs k (by omega)]
    omega

/-- The finds of records one behind the other. -/
def finds : Nat → List Rec → List Fd
  | _, [] => []
  | p, r :: gs => ⟨p, r⟩ :: finds (p + (39 + r.body.size)) gs
theorem finds_length : ∀ (p : Nat) (gs : List Rec), (finds p gs).length = gs.length
  | _, [] => rfl
  | p, r :: gs => by show (_ :: finds _ gs).length = _; rw [List.length_cons, finds_length, List.length_cons]
theorem finds_at : ∀ (p : Nat) (gs : List Rec) (i : Nat) (h : i < gs.length) (h2 : i < (finds p gs).length), (finds p gs)[i] = ⟨p + pos gs i, gs[i]⟩
  | p, r :: gs, 0, _, _ => by show (⟨p, r⟩ : Fd) = ⟨p + 0, r⟩; rfl
  | p, r :: gs, i + 1, h, h2 => by
    have h3 : i < gs.length := by simpa using h
    have := finds_at (p + (39 + r.body.size)) gs i h3 (by rw [finds_length]; exact h3)
    show (finds (p + (39 + r.body.size)) gs)[i]'_ = _
    rw [this]
    have e : pos (r :: gs) (i + 1) = 39 + r.body.size + pos gs i := by
      unfold pos
      rw [List.take_succ_cons, cat_cons, List.length_append, encL_length]
    rw [e]
    show (⟨p + (39 + r.body.size) + pos gs i, gs[i]⟩ : Fd) = ⟨p + (39 + r.body.size + pos gs i), gs[i]⟩
    rw [Nat.add_assoc]

theorem rest_cat : ∀ (gs : List Rec) (P T : List Int), (∀ r ∈ gs, Fine r) → rest (P ++ (cat gs ++ T)) P.length = finds P.length gs ++ rest (P ++ (cat gs ++ T)) (P.length + (cat gs).length)
  | [], P, T, _ => rfl
  | r :: gs, P, T, h => by
    have hr := h r List.mem_cons_self
    have hl := encL_length r
    have e : P ++ (cat (r :: gs) ++ T) = (P ++ encL r) ++ (cat gs ++ T) := by rw [cat_cons]; simp only [List.append_assoc]
    have ed : (P ++ (cat (r :: gs) ++ T)).drop P.length = encL r ++ (cat gs ++ T) := by rw [List.drop_left, cat_cons, List.append_assoc]
    have hd := dec_enc_app hr (cat gs ++ T)
    rw [rest_ok (by rw [cat_cons]; simp only [List.length_append]; omega) (by rw [ed, hd]), ed, hd]
    have ih := rest_cat gs (P ++ encL r) T (fun x hx => h x (List.mem_cons_of_mem _ hx))
    rw [List.length_append, hl] at ih
    show _ :: rest (P ++ (cat (r :: gs) ++ T)) (P.length + (39 + r.body.size)) = _
    rw [e, ih, cat_cons, List.length_append, hl, Nat.add_assoc]
    rfl
theorem front_cat : ∀ (gs : List Rec) (P T : List Int), (∀ r ∈ gs, Fine r) → front (P ++ (cat gs ++ T)) P.length = (finds P.length gs ++ (front (P ++ (cat gs ++ T)) (P.length + (cat gs).length)).1, (front (P ++ (cat gs ++ T)) (P.length + (cat gs).length)).2)
  | [], P, T, _ => rfl
  | r :: gs, P, T, h => by
    have hr := h r List.mem_cons_self
    have hl := encL_length r
    have e : P ++ (cat (r :: gs) ++ T) = (P ++ encL r) ++ (cat gs ++ T) := by rw [cat_cons]; simp only [List.append_assoc]
    have ed : (P ++ (cat (r :: gs) ++ T)).drop P.length = encL r ++ (cat gs ++ T) := by rw [List.drop_left, cat_cons, List.append_assoc]
    have hd := dec_enc_app hr (cat gs ++ T)
    rw [front_ok (by rw [ed, hd]), ed, hd]
    have ih := front_cat gs (P ++ encL r) T (fun x hx => h x (List.mem_cons_of_mem _ hx))
    rw [List.length_append, hl] at ih
    show (_ :: (front (P ++ (cat (r :: gs) ++ T)) (P.length + (39 + r.body.size))).1, (front (P ++ (cat (r :: gs) ++ T)) (P.length + (39 + r.body.size))).2) = _
    rw [e, ih, cat_cons, List.length_append, hl, Nat.add_assoc]
    rfl

/-- Where no mark stands nothing is found. -/
theorem dec_nomark {l : List Int} (h : ¬ (l.getD 0 0 = 83 ∧ 1 < l.length ∧ l.getD 1 0 = 82)) : (dec l).2.2 ≠ 0 := fun e => by
  have ok := dec_ok e
  have hb : begB l = true := by
    cases hb : begB l
    · unfold dec at e
      rw [if_pos hb] at e
      cases e
    · rfl
  rw [begB_two (by omega)] at hb
  simp only [Bool.and_eq_true, decide_eq_true_eq] at hb
  exact h ⟨hb.1.1, by omega, hb.1.2⟩
theorem rest_skip (b : List Int) (hi : Nat) (hh : hi ≤ b.length) : ∀ (k lo : Nat), lo + k = hi → (∀ j, lo ≤ j → j < hi → (dec (b.drop j)).2.2 ≠ 0) → rest b lo = rest b hi
  | 0, lo, e, _ => by rw [show hi = lo by omega]
  | k + 1, lo, e, h => by
    rw [rest_no (by omega) (h lo (Nat.le_refl _) (by omega))]
    exact rest_skip b hi hh k (lo + 1) (by omega) (fun j h1 h2 => h j (by omega) h2)

/-- No mark stands from lo on up to hi. -/
def NoMark (b : List Int) (lo hi : Nat) : Prop := ∀ j, lo ≤ j → j < hi → ¬ (b.getD j 0 = 83 ∧ j + 1 < b.length ∧ b.getD (j + 1) 0 = 82)
theorem getD_drop (b : List Int) (j i : Nat) : (b.drop j).getD i 0 = b.getD (j + i) 0 := by
  rw [List.getD_eq_getElem?_getD, List.getD_eq_getElem?_getD, List.getElem?_drop]

/-- ONE SPOILT: what stands at the front, what is found. -/
theorem lost (gs : List Rec) (hg : ∀ r ∈ gs, Fine r) (p : Nat) (hp : p < gs.length) (off : Nat) (ho : off < 39 + gs[p].body.size) (hno : ¬ (31 ≤ off ∧ off < 35)) (y : Int) (hy : 0 ≤ y ∧ y < 256) (hne : y ≠ (cat gs).getD (pos gs p + off) 0) :
    front ((cat gs).set (pos gs p + off) y) 0 = (finds 0 (gs.take p), pos gs p) ∧
    (NoMark ((cat gs).set (pos gs p + off) y) (pos gs p + 1) (pos gs (p + 1)) → rest ((cat gs).set (pos gs p + off) y) 0 = finds 0 (gs.take p) ++ finds (pos gs (p + 1)) (gs.drop (p + 1))) := by
  have hr := hg gs[p] (List.getElem_mem hp)
  have hl := encL_length gs[p]
  have eg : gs = gs.take p ++ gs[p] :: gs.drop (p + 1) := by rw [← List.drop_eq_getElem_cons hp, List.take_append_drop]
  obtain ⟨A, hA⟩ : ∃ A, cat (gs.take p) = A := ⟨_, rfl⟩
  obtain ⟨C, hC⟩ : ∃ C, cat (gs.drop (p + 1)) = C := ⟨_, rfl⟩
  have ea : pos gs p = A.length := by unfold pos; rw [hA]
  have ec : cat gs = A ++ (encL gs[p] ++ C) := by
    conv => lhs; rw [eg]
    rw [cat_append, cat_cons, hA, hC]
  have es : (cat gs).set (pos gs p + off) y = A ++ ((encL gs[p]).set off y ++ C) := by
    rw [ec, ea, List.set_append_right _ _ (by omega), Nat.add_sub_cancel_left, List.set_append_left _ _ (by omega)]
  have hne2 : y ≠ (encL gs[p]).getD off 0 := by
    rw [ec, ea, List.getD_eq_getElem?_getD, List.getElem?_append_right (by omega), Nat.add_sub_cancel_left, List.getElem?_append_left (by omega), ← List.getD_eq_getElem?_getD] at hne
    exact hne
  have hsp := dec_spoilt_app hr off (by omega) hno y hy hne2 C
  obtain ⟨S, hS⟩ : ∃ S, (encL gs[p]).set off y = S := ⟨_, rfl⟩
  have hSl : S.length = 39 + gs[p].body.size := by rw [← hS, List.length_set, hl]
  rw [hS] at es hsp
  rw [es]
  have hat : (A ++ (S ++ C)).drop A.length = S ++ C := List.drop_left
  have ht : ∀ r ∈ gs.take p, Fine r := fun r h => hg r (List.mem_of_mem_take h)
  have hd : ∀ r ∈ gs.drop (p + 1), Fine r := fun r h => hg r (List.mem_of_mem_drop h)
  have f1 := front_cat (gs.take p) [] (S ++ C) ht
  have r1 := rest_cat (gs.take p) [] (S ++ C) ht
  rw [hA] at f1 r1
  have ez : ([] : List Int).length + A.length = A.length := Nat.zero_add _
  rw [ez] at f1 r1
  refine ⟨?_, fun hm => ?_⟩
  · have := front_no (b := A ++ (S ++ C)) (p := A.length) (by rw [hat]; exact hsp)
    rw [ea]
    show front (A ++ (S ++ C)) 0 = _
    have f2 : front (A ++ (S ++ C)) 0 = _ := f1
    rw [f2]
    show (finds 0 (gs.take p) ++ (front (A ++ (S ++ C)) A.length).1, (front (A ++ (S ++ C)) A.length).2) = _
    rw [this, List.append_nil]
  · have e1 : pos gs (p + 1) = A.length + S.length := by rw [pos_succ gs p hp, ea, hSl]
    rw [e1] at hm ⊢
    rw [ea] at hm
    have hskip := rest_skip (A ++ (S ++ C)) (A.length + S.length) (by simp only [List.length_append]; omega) S.length A.length rfl (fun j h1 h2 => by
      by_cases hj : j = A.length
      · rw [hj, hat]; exact hsp
      · refine dec_nomark ?_
        have := hm j (by omega) h2
        rw [getD_drop, getD_drop, List.length_drop]
        rintro ⟨q1, q2, q3⟩
        exact this ⟨q1, by omega, q3⟩)
    have r2 : rest (A ++ (S ++ C)) 0 = finds 0 (gs.take p) ++ rest (A ++ (S ++ C)) A.length := r1
    have r3 := rest_cat (gs.drop (p + 1)) (A ++ S) [] hd
    rw [hC, List.append_nil, List.length_append] at r3
    have r4 : rest ((A ++ S) ++ C) (A.length + S.length + C.length) = [] := rest_end (by simp only [List.length_append]; omega)
    rw [r4, List.append_nil, List.append_assoc] at r3
    rw [r2, hskip, r3]
/-- .. find by find. -/
theorem lost_at (gs : List Rec) (p : Nat) (hp : p < gs.length) : (finds 0 (gs.take p) ++ finds (pos gs (p + 1)) (gs.drop (p + 1))).length = gs.length - 1 ∧
    ∀ (i k : Nat) (hk : k < gs.length) (h : i < (finds 0 (gs.take p) ++ finds (pos gs (p + 1)) (gs.drop (p + 1))).length), (i < p ∧ k = i ∨ p ≤ i ∧ k = i + 1) → (finds 0 (gs.take p) ++ finds (pos gs (p + 1)) (gs.drop (p + 1)))[i] = ⟨pos gs k, gs[k]⟩ := by
  have l1 : (finds 0 (gs.take p)).length = p := by rw [finds_length, List.length_take]; omega
  have l2 : (finds (pos gs (p + 1)) (gs.drop (p + 1))).length = gs.length - (p + 1) := by rw [finds_length, List.length_drop]
  refine ⟨by rw [List.length_append, l1, l2]; omega, fun i k hk h hc => ?_⟩
  rcases hc with ⟨h1, rfl⟩ | ⟨h1, rfl⟩
  · rw [List.getElem_append_left (by omega), finds_at 0 (gs.take p) k (by rw [List.length_take]; omega)]
    have e : pos (gs.take p) k = pos gs k := by unfold pos; rw [List.take_take, Nat.min_eq_left (by omega)]
    rw [e, Nat.zero_add, List.getElem_take]
  · rw [List.getElem_append_right (by omega), finds_at (pos gs (p + 1)) (gs.drop (p + 1)) _ (by rw [List.length_drop]; omega)]
    have e : pos gs (p + 1) + pos (gs.drop (p + 1)) (i - (finds 0 (gs.take p)).length) = pos gs (i + 1) := by
      rw [l1]
      unfold pos
      have : gs.take (i + 1) = gs.take (p + 1) ++ (gs.drop (p + 1)).take (i - p) := by
        rw [show i + 1 = (p + 1) + (i - p) by omega, List.take_add]
      rw [this, cat_append, List.length_append]
    rw [e]
    congr 1
    rw [List.getElem_drop]
    congr 1
    omega
end Go.Proofs.YtdonblfidohncaaGreatDoor.scan
