/-
  CONTRACT of stillroomlaw5.begun.
-/
import Derived.Test.YtpbffjpghnijkaaDkOne
import Derived.Lib.SlBytesConst
import Derived.Laws.IdiomStrings
namespace Go.Proofs.Ytpbffjpghnijkaa.disk
open Go.RowKit Go.Maps

theorem leads_cells {w : World} {g : Nat} {t : TypeId} {fr : Nat × Nat} {l : List Int} (h : w.heap[g]? = some (.cells (u8s l).toArray t fr)) : Leads w (some ⟨g, 0, none⟩) l := by
  refine .inr ⟨g, 0, rfl, fun i hi => ?_⟩
  rw [Nat.zero_add, cell_of_row w g i _ _ fr h]
  simp [u8s, List.getElem?_map, List.getElem?_eq_getElem hi, List.getD_eq_getElem?_getD]
/-- Bytes that a law lays. -/
theorem given_cells {R : Nat → Prop} {w : World} {g : Nat} {t : TypeId} {fr : Nat × Nat} {l : List Int} (h : w.heap[g]? = some (.cells (u8s l).toArray t fr)) (hb : Byte l) (hR : ¬ R g) (hm : l.length ≤ 100000000) : Given R w (some ⟨g, 0, none⟩) l.length l :=
  ⟨leads_cells h, rfl, hb, fun b off e _ => by
    obtain ⟨rfl, _⟩ : g = b ∧ 0 = off := by simpa using e
    exact hR, hm⟩
theorem Held.past {W : World} {X : Nat → Prop} {w : World} {p n : Nat} {S : St} (_ : Held W X w p S n) : ¬ Free W.heap.size X w w.heap.size := fun e => Nat.lt_irrefl _ e.2.1
/-- A text of Go's, laid, and written. -/
theorem Held.text {W : World} {X : Nat → Prop} {w : World} {p n : Nat} {S : St} (h : Held W X w p S n) (l : List Int) (t : TypeId) (fr : Nat × Nat) (hb : Byte l) (hm : l.length ≤ 100000000) (hn : n ≤ 10000000) (s : ByteArray) (hs : s.size ≤ maxLen) (at_ : Int) (c : Nat) :
    Calls Try.prog 14 #[.pointer (some ⟨p, 0, none⟩), .string s, .int .i64 at_, .slice (some ⟨w.heap.size, 0, none⟩) l.length c] (w.alloc (.cells (u8s l).toArray t fr)) fun e w' => e = .returned (.int .i64 (S.write s.data.toList at_ l).1) ∧ Held W X w' p (S.write s.data.toList at_ l).2 (n + 2) ∧ Kept X w w' := by
  have b1 : Below w.heap.size w (w.alloc (.cells (u8s l).toArray t fr)) := (Below.refl _ _).alloc (Nat.le_refl _) _
  have h1 := h.mine b1
  have hg : Given (Free W.heap.size (fun k => X k ∨ (w.heap.size ≤ k ∧ k < (w.alloc (.cells (u8s l).toArray t fr)).heap.size)) (w.alloc (.cells (u8s l).toArray t fr))) (w.alloc (.cells (u8s l).toArray t fr)) (some ⟨w.heap.size, 0, none⟩) l.length l :=
    given_cells (t := t) (fr := fr) (heap_alloc_new w _) hb (fun e => e.2.2 (.inr ⟨Nat.le_refl _, by simp⟩)) hm
  refine (writes_any _ p S n h1.disk hn s hs at_ _ l.length c l hg).mono ?_
  intro e w' ho
  obtain ⟨e1, h2, k2⟩ := h1.out ho
  exact ⟨e1, h2.fewer fun k hk => .inl hk, fun k hk => (k2 k (.inl hk)).trans (b1.block k (h.user k hk))⟩

/-- A text of bytes. -/
def str (l : List Int) : ByteArray := ⟨(l.map fun c => UInt8.ofNat c.toNat).toArray⟩
theorem run_str {w : World} {a : Option Addr} {l : List Int} (h : Leads w a l) (hb : Byte l) (c : Nat) : (convert 22 9 (.slice a l.length c)).run Try.prog w = .ok (.string (str l)) w := by
  rcases h with rfl | ⟨b, off, rfl, hc⟩
  · cases a with
    | none =>
      rw [run_convert_bytes_string w _ _ 5 _ _ c Try.underlying22 Try.underlying5 Try.underlying9]
      simp [Conv.bytesToString, str]
      rfl
    | some a => exact run_convert_bytes_back w 22 9 5 a c [] Try.underlying22 Try.underlying5 Try.underlying9 fun j hj => by cases hj
  · have := run_convert_bytes_back w 22 9 5 ⟨b, off, none⟩ c (l.map fun c => UInt8.ofNat c.toNat) Try.underlying22 Try.underlying5 Try.underlying9 fun j hj => by
      rw [List.length_map] at hj
      have hc' := hc j hj
      have hbj := hb.at hj
      rw [Addr.add_mid, hc']
      rw [List.getD_eq_getElem?_getD, List.getElem?_eq_getElem hj, Option.getD_some] at hbj ⊢
      rw [List.getElem_map]
      have e : ((UInt8.ofNat l[j].toNat).toNat : Int) = l[j] := by
        rw [UInt8.toNat_ofNat']
        omega
      rw [e]
    rw [List.length_map] at this
    exact this

/-- A crash, in a law. -/
theorem Held.crash {W : World} {X : Nat → Prop} {w : World} {p n : Nat} {S : St} (h : Held W X w p S n) (hn : n ≤ 10000000) (m : Int) (ka : Option Addr) (kn kc : Nat) (keep : List Bool) (hk : Bools w ka kn keep) (torn : Int) :
    Calls Try.prog 19 #[.pointer (some ⟨p, 0, none⟩), .int .i64 m, .slice ka kn kc, .int .i64 torn] w fun e w' => ∃ p' S', e = .returned (.pointer (some ⟨p', 0, none⟩)) ∧ Held w (fun _ => False) w' p' S' (2 * n) ∧
      (S'.room = S.room ∧ S'.fail = -1 ∧ S'.calls = 0 ∧ S'.reads = 0 ∧ S'.wait = [] ∧ S'.synced = S'.now) ∧ Built S' S.file keep torn (S.leftDir (min m.toNat S.wait.length)) := by
  refine (crash_any w p S n h.disk hn m ka kn kc keep hk torn).mono ?_
  rintro e w' ⟨p', S', rfl, h1, h2, h3, h4⟩
  exact ⟨p', S', rfl, ⟨h1.mono fun k hk hr => ⟨hr, hk, fun e => e⟩, h2, fun k e => e.elim⟩, h3, h4⟩
/-- The disk later on, when none of its blocks has turned. -/
theorem Held.later {W : World} {X : Nat → Prop} {w w' : World} {p n : Nat} {S : St} (h : Held W X w p S n) (hb : Below w.heap.size w w') : Held W X w' p S n := (h.mine hb).fewer fun _ hk => .inl hk
theorem bools_cells {w : World} {g : Nat} {t : TypeId} {fr : Nat × Nat} {l : List Bool} (h : w.heap[g]? = some (.cells (l.map Value.bool).toArray t fr)) (hm : l.length ≤ 9223372036854775807) : Bools w (some ⟨g, 0, none⟩) l.length l :=
  ⟨rfl, hm, .inr ⟨g, 0, rfl, fun i hi => by
    rw [Nat.zero_add, cell_of_row w g i _ _ fr h]
    simp [List.getElem?_map, List.getElem?_eq_getElem hi, List.getD_eq_getElem?_getD]⟩⟩
theorem bools_nil (w : World) : Bools w none 0 [] := ⟨rfl, by omega, .inl rfl⟩

instance (l : List Int) : Decidable (Byte l) := inferInstanceAs (Decidable (∀ c ∈ l, 0 ≤ c ∧ c < 256))
def aName : Nm := [97]
theorem aData : (⟨#[97]⟩ : ByteArray).data.toList = aName := rfl
theorem aGood : isNameB aName = true := by decide

set_option maxRecDepth 100000 in
set_option maxHeartbeats 1000000 in
theorem begun_any (w : World) : Calls Try.prog 10 #[] w fun e w' => e = .returned (.bool true) ∧ Below w.heap.size w w' := by
  have kc := fun (w : World) (C : Array Value) (n c : Nat) => Lib.run_convert_bytes_const (P := Try.prog) w 22 5 C n c Try.underlying22 Try.underlying5
  have B0 : Hid (Below w.heap.size w w) := Below.refl _ _
  go_enter Try.func10, Try.ntmps10
  go_wp2_with fail
  refine (new_any w 1000).mono ?_
  rintro e w1 ho
  obtain ⟨p, rfl, h1, _⟩ := held_new (W := w) (X := fun _ => False) (fun _ e => e.elim) B0.out ho
  have H1 := Lib.hid h1
  clear ho h1
  go_wp2_with fail
  refine (create_any w1 p _ 0 H1.out.disk (by omega) ⟨#[97]⟩ (by decide)).mono ?_
  rintro e w2 ⟨b, _, _, _, ho⟩
  rw [aData, One.create aGood] at ho
  obtain ⟨rfl, h2, _⟩ := H1.out.out ho
  have H2 := Lib.hid h2
  clear ho h2
  go_wp2_with fail
  refine (H2.out.text [120, 121, 122] 5 (3, 4) (by decide) (by decide) (by omega) ⟨#[97]⟩ (by decide) ((0 : Nat) : Int) 3).mono ?_
  rintro e w3 ⟨he, h3, _⟩
  rw [aData, One.write 0 _ (by decide) (by decide) (by decide)] at he h3
  subst he
  have H3 := Lib.hid h3
  clear h3
  go_wp2_with fail
  refine (dirty_any w3 p _ _ H3.out.disk (by omega)).mono ?_
  rintro e w4 ⟨rfl, b4⟩
  rw [One.dirty]
  have h4 := (H3.out.mine b4).fewer (Y := fun _ => False) fun _ e => e.elim
  have H4 := Lib.hid h4
  clear b4 h4
  go_wp2_with fail
  have b5 : Below w4.heap.size w4 (w4.alloc (.cells #[.bool true] 4)) := (Below.refl _ _).alloc (Nat.le_refl _) _
  have hbo : Bools (w4.alloc (.cells #[.bool true] 4)) (some ⟨w4.heap.size, 0, none⟩) 1 [true] := bools_cells (l := [true]) (heap_alloc_new w4 _) (by decide)
  have H5 := Lib.hid (H4.out.later b5)
  have HBO := Lib.hid hbo
  clear hbo b5
  generalize w4.alloc (.cells #[.bool true] 4) = w5 at H5 HBO ⊢
  refine (H5.out.crash (by omega) 1 _ 1 1 [true] HBO.out (-1)).mono ?_
  rintro e w6 ⟨p6, S6, rfl, h6, _, hbl⟩
  have hl1 : (One (within 1000) aName b (FileA.write ⟨[], [], []⟩ 0 [120, 121, 122]) [] [⟨some b, [], aName⟩] (less (-1)) (1 + 1) 0).leftDir (min (1 : Int).toNat 1) = [(aName, b)] := One.left_made aGood 0
  rw [show (One (within 1000) aName b (FileA.write ⟨[], [], []⟩ 0 [120, 121, 122]) [] [⟨some b, [], aName⟩] (less (-1)) (1 + 1) 0).wait.length = 1 from rfl, hl1] at hbl
  obtain ⟨b6, _, hd6, hf6⟩ := hbl.one
  rw [One.file] at hf6
  have e6 : leftL (FileA.write ⟨[], [], []⟩ 0 [120, 121, 122]) [true] (-1) = [120, 121, 122] := by decide
  rw [e6] at hf6
  have H6 := Lib.hid h6
  have HD6 := Lib.hid hd6
  have HF6 := Lib.hid hf6
  clear h6 hbl hl1 hd6 hf6 e6
  go_wp2_with fail
  refine (read_good w6 p6 S6 _ H6.out.disk ⟨#[97]⟩ (by decide) 0 3 b6 HD6.out (by rw [HF6.out]; decide) (by omega)).mono ?_
  rintro e w7 ho
  obtain ⟨v7, rfl, o7, _, h7, _⟩ := H6.out.read ho
  rw [HF6.out] at o7
  have o7' : Own w7 v7 [120, 121, 122] := o7
  obtain ⟨a7, c7, e7, _, _, _, l7, _⟩ := o7'.form
  subst e7
  have hst : (convert 22 9 (.slice a7 3 c7)).run Try.prog w7 = .ok (.string ⟨#[120, 121, 122]⟩) w7 := run_str l7 (by decide) c7
  have H7 := Lib.hid (H5.out.later h7.below)
  clear ho o7 o7' h7 l7
  go_wp2_with fail
  refine (H7.out.crash (by omega) 0 none 0 0 [] (bools_nil w7) (-1)).mono ?_
  rintro e w8 ⟨p8, S8, rfl, h8, _, hbl⟩
  rw [show min (0 : Int).toNat (One (within 1000) aName b (FileA.write ⟨[], [], []⟩ 0 [120, 121, 122]) [] [⟨some b, [], aName⟩] (less (-1)) (1 + 1) 0).wait.length = 0 from rfl, One.left_zero] at hbl
  have hz8 : S8.size aName = -1 := by rw [St.size, hbl.none]; rfl
  have H8 := Lib.hid h8
  have H78 := Lib.hid (H7.out.later h8.below)
  clear h8 hbl hst
  go_wp2_with fail
  refine (size_any w8 p8 S8 _ H8.out.disk ⟨#[97]⟩ (by decide)).mono ?_
  rintro e w9 ⟨rfl, rfl⟩
  rw [aData, hz8]
  clear hz8
  go_wp2_with fail
  refine (H78.out.crash (by omega) 1 none 0 0 [] (bools_nil w8) (-1)).mono ?_
  rintro e w9 ⟨p9, S9, rfl, h9, _, hbl⟩
  have hl1 : (One (within 1000) aName b (FileA.write ⟨[], [], []⟩ 0 [120, 121, 122]) [] [⟨some b, [], aName⟩] (less (-1)) (1 + 1) 0).leftDir (min (1 : Int).toNat 1) = [(aName, b)] := One.left_made aGood 0
  rw [show (One (within 1000) aName b (FileA.write ⟨[], [], []⟩ 0 [120, 121, 122]) [] [⟨some b, [], aName⟩] (less (-1)) (1 + 1) 0).wait.length = 1 from rfl, hl1] at hbl
  obtain ⟨b9, _, hd9, hf9⟩ := hbl.one
  rw [One.file, show leftL (FileA.write ⟨[], [], []⟩ 0 [120, 121, 122]) [] (-1) = [] from by decide] at hf9
  have hz9 : S9.size aName = 0 := by
    unfold St.size
    rw [hd9]
    simp only [hf9]
    rfl
  have H9 := Lib.hid h9
  have H79 := Lib.hid (H78.out.later h9.below)
  clear h9 hbl hl1 hd9 hf9
  go_wp2_with fail
  refine (size_any w9 p9 S9 _ H9.out.disk ⟨#[97]⟩ (by decide)).mono ?_
  rintro e w10 ⟨rfl, rfl⟩
  rw [aData, hz9]
  clear hz9
  go_wp2_with fail
  refine (calls_any w9 p _ _ H79.out.disk).mono ?_
  rintro e w10 ⟨rfl, rfl⟩
  rw [show (One (within 1000) aName b (FileA.write ⟨[], [], []⟩ 0 [120, 121, 122]) [] [⟨some b, [], aName⟩] (less (-1)) (1 + 1) 0).calls = 2 from rfl]
  go_wp2_with fail
  go_ret
  exact ⟨rfl, H79.out.below⟩
end Go.Proofs.Ytpbffjpghnijkaa.disk
