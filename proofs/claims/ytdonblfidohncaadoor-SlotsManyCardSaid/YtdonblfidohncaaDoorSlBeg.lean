/-
  CONTRACT of stillroomlaw9.begun: two texts.
-/
import Derived.Test.YtdonblfidohncaaDoorSlBegun
import Derived.Test.YtdonblfidohncaaDoorMBase
import Derived.Lib.SlBytesConst
namespace Go.Proofs.YtdonblfidohncaaDoor.slots
open Go.RowKit Go.Proofs.YtdonblfidohncaaDoor.disk Go.Proofs.YtdonblfidohncaaDoor.recd Go.Proofs.YtdonblfidohncaaDoor.num
set_option linter.unusedVariables false

/-- New bytes. -/
theorem text_new (w : World) (cs : Array Value) (fr : Nat × Nat) (l : List Int) (h : cs = (u8s l).toArray) : Leads (w.alloc (.cells cs 5 fr)) (some ⟨w.heap.size, 0, none⟩) l ∧ Below w.heap.size w (w.alloc (.cells cs 5 fr)) := by
  subst h
  exact ⟨leads_cells (heap_alloc_new w _), (Below.refl _ _).alloc (Nat.le_refl _) _⟩
theorem new_lt (w : World) (o : Obj) : w.heap.size < (w.alloc o).heap.size := by simp
/-- What Create leaves on a new disk that is not told to fail. -/
def Made1 (W : World) (X : Nat → Prop) (w : World) (p : Nat) (x : List Int) (e : Ending) (w' : World) : Prop :=
  Kept X w w' ∧ ∃ s tv b S' A, e = .returned (.tuple #[.pointer (some ⟨s, 0, none⟩), .int .i64 0]) ∧ Slot W X w' s p aB tv x 1 0 1 S' 9 b A (-1) ∧ Strict A 0 1 ∧ A = ⟨A.now, A.now, []⟩
theorem make_one {W : World} {X : Nat → Prop} {w : World} {p : Nat} {x : List Int} (hx : x.length ≤ 4080) (hb : Byte x) {e : Ending} {w' : World} (h : MakeOut W X w p (-1) x (splice (List.replicate 8192 0) 0 (slotE 1 x)) e w') : Made1 W X w p x e w' := by
  obtain ⟨h1, S', ⟨s, tv, b, h2, h3⟩ | ⟨_, h2, _⟩⟩ := h
  · exact ⟨h1, s, tv, b, S', _, h2, h3, (keeps_first hx hb).2, rfl⟩
  · exact absurd rfl h2

def oneL : List Int := [111, 110, 101]
def twoL : List Int := [116, 119, 111]
theorem oneByte : Byte oneL := by intro c hc; simp [oneL] at hc; rcases hc with rfl | rfl | rfl <;> omega
theorem twoByte : Byte twoL := by intro c hc; simp [twoL] at hc; rcases hc with rfl | rfl | rfl <;> omega
theorem str_two : disk.str twoL = ⟨#[116, 119, 111]⟩ := by rfl

set_option maxRecDepth 100000 in
set_option maxHeartbeats 1000000 in
theorem begun9 (w : World) (hT : crc.Tab w) : Calls Tryd.prog 8 #[] w fun e w' => e = .returned (.bool true) ∧ Below w.heap.size w w' := by
  have HT := Lib.hid hT
  have kc := fun (w : World) (C : Array Value) (n c : Nat) => Lib.run_convert_bytes_const (P := Tryd.prog) w 33 5 C n c Tryd.underlying33 Tryd.underlying5
  clear hT
  go_enter Tryd.func8, Tryd.ntmps8
  go_wp2_with fail
  refine (new_any w 100000).mono ?_
  rintro e w1 ho
  obtain ⟨p, rfl, h1, _⟩ := held_new (W := w) (X := fun _ => False) (fun _ e => e.elim) (Below.refl _ _) ho
  have H1 := Lib.hid h1
  clear ho h1
  obtain ⟨l2, b2⟩ := text_new w1 #[.int .u8 111, .int .u8 110, .int .u8 101] (3, 4) oneL rfl
  have hlt2 := new_lt w1 (.cells #[.int .u8 111, .int .u8 110, .int .u8 101] 5 (3, 4))
  have h2 : Held w (fun k => k = w1.heap.size) (w1.alloc (.cells #[.int .u8 111, .int .u8 110, .int .u8 101] 5 (3, 4))) p (start (-1)) 0 := (H1.out.mine b2).fewer fun k hk => .inr (by subst hk; exact ⟨Nat.le_refl _, hlt2⟩)
  have C2 := Lib.hid ((make_any _ p (-1) h2 (HT.out) (some ⟨w1.heap.size, 0, none⟩) 3 3 oneL l2 oneByte rfl (by omega) (fun e => by cases e) (fun g off e _ => .inl (by injection e with e; injection e with e; exact e.symm))).mono fun e w' => make_one (by decide) oneByte)
  clear l2 b2 hlt2 h2
  go_wp2_with fail
  refine C2.out.mono ?_
  rintro e w3 ⟨_, s, tv, b, S', A, rfl, sl3, st3, _⟩
  have sl3 := sl3.fewer (E' := fun _ => False) fun j e => e.elim
  obtain ⟨l4, b4⟩ := text_new w3 #[.int .u8 116, .int .u8 119, .int .u8 111] (3, 4) twoL rfl
  have hlt4 := new_lt w3 (.cells #[.int .u8 116, .int .u8 119, .int .u8 111] 5 (3, 4))
  have C3 := Lib.hid (save_slot (sl3.mine b4) (by omega) HT.out (some ⟨w3.heap.size, 0, none⟩) 3 3 twoL l4 twoByte rfl (by omega) (by omega) (fun e => by cases e) (fun g off e _ => .inl (.inr (by injection e with e; injection e with e; subst e; exact ⟨Nat.le_refl _, hlt4⟩))) (by omega))
  clear sl3 st3 l4 b4 hlt4 C2
  go_wp2_with fail
  refine C3.out.mono ?_
  rintro e w5 ⟨_, c, tv', x', t', k', S2, A2, f2, rfl, sl5, hc⟩
  rcases hc with ⟨h0, _⟩ | ⟨_, h0, _⟩ | ⟨_, _, rfl, hA2, hf2, rfl, rfl, rfl, st5⟩
  · cases h0
  · cases h0
  have C5 := Lib.hid (open_slot (E := Hold s tv' fun _ => False) ((sl5.fewer (E' := fun _ => False) fun j e => e.elim).held) sl5.lone sl5.keeps st5 (by omega) (by omega) HT.out)
  have SL5 := Lib.hid (sl5.fewer (E' := fun _ => False) fun j e => e.elim)
  clear sl5 st5 hA2 hf2 C3
  go_wp2_with fail
  refine C5.out.mono ?_
  rintro e w6 ⟨s6, tv6, S6, rfl, sl6, k6⟩
  have s5' := SL5.out.at_.kept (X := Hold s tv' fun _ => False) (.inl (.inl rfl)) (fun g hg => .inl (.inr hg)) k6
  have CT := Lib.hid (text_any sl6.at_)
  have SA6 := Lib.hid sl6.at_
  have SB6 := Lib.hid s5'
  have H6 := Lib.hid sl6.held.below
  clear sl6 k6 s5' C5
  go_wp2_with fail
  refine CT.out.mono ?_
  rintro e w7 ⟨v7, rfl, o7, n7, b7⟩
  obtain ⟨a7, cp7, rfl, _, _, _, l7, _⟩ := o7.form
  have rs := disk.run_str l7 twoByte cp7
  rw [str_two] at rs
  have CU := Lib.hid (turn_any (SA6.out.later b7))
  have CV := Lib.hid (turn_any (SB6.out.later b7))
  have B7 := Lib.hid (H6.out.trans (b7.mono H6.out.size))
  have rs' : (convert 33 9 (.slice a7 twoL.length cp7)).run Tryd.prog w7 = .ok (.string ⟨#[116, 119, 111]⟩) w7 := rs
  clear o7 n7 b7 l7 rs CT
  go_wp2_with fail
  refine CU.out.mono ?_
  rintro e w8 ⟨rfl, rfl⟩
  go_wp2_with fail
  refine CV.out.mono ?_
  rintro e w8 ⟨rfl, rfl⟩
  go_wp2_with fail
  go_ret
  exact ⟨rfl, B7.out⟩
end Go.Proofs.YtdonblfidohncaaDoor.slots
