/-
  WHAT THE STATEMENTS OF SEGMENTS LEAN ON: records that are handed in; a new segment on a new disk (P8.1).
-/
import Derived.Test.YtdonblfidohncaaGreatDoorSgOpen
import Derived.Test.YtdonblfidohncaaGreatDoorSgReadIn
import Derived.Test.YtdonblfidohncaaGreatDoorSgMath
import Derived.Test.YtdonblfidohncaaGreatDoorMDkC

namespace Go.Proofs.YtdonblfidohncaaGreatDoor.scan
open Go.RowKit Go.Proofs.YtdonblfidohncaaGreatDoor.disk Go.Proofs.YtdonblfidohncaaGreatDoor.recd Go.Proofs.YtdonblfidohncaaGreatDoor.seg
set_option linter.unusedVariables false

/-- Records that a law lays. -/
theorem recs_cells {w : World} {g cap : Nat} {l : List Rec} {t : TypeId} {fr : Nat × Nat} (h : w.heap[g]? = some (.cells (flat fRec l).toArray t fr)) (hf : ∀ r ∈ l, r.Fit) (hm : l.length ≤ 9223372036854775807) : RecRow w (some ⟨g, 0, none⟩) l.length cap (fun i => l.getD i zeroRec) := by
  refine ⟨hm, .inr ⟨g, 0, rfl, fun i hi j v hv => ?_⟩, fun i hi => ?_⟩
  · have e : l.getD i zeroRec = l[i] := by rw [List.getD_eq_getElem?_getD, List.getElem?_eq_getElem hi]; rfl
    have hj : j < 6 := by
      have := (List.getElem?_eq_some_iff.1 hv).1
      simpa [Rec.cells] using this
    rw [Nat.zero_add, cell_of_row w g _ _ _ fr h, List.getElem?_toArray]
    exact (flat_at fRec l i j hi hj).trans (by rw [← e]; exact hv)
  · have e : l.getD i zeroRec = l[i] := by rw [List.getD_eq_getElem?_getD, List.getElem?_eq_getElem hi]; rfl
    show Rec.Fit (l.getD i zeroRec)
    rw [e]; exact hf _ (List.getElem_mem hi)
/-- Records of the law's own. -/
theorem recs_own {w : World} {v : Value} {l : List Rec} (h : OwnS fRec w v l) (hf : ∀ r ∈ l, r.Fit) : ∃ a cap, v = .slice a l.length cap ∧ RecRow w a l.length cap (fun i => l.getD i zeroRec) := by
  have fit : ∀ i, i < l.length → Rec.Fit (l.getD i zeroRec) := fun i hi => by
    have e : l.getD i zeroRec = l[i] := by rw [List.getD_eq_getElem?_getD, List.getElem?_eq_getElem hi]; rfl
    rw [e]; exact hf _ (List.getElem_mem hi)
  rcases h.form with ⟨rfl, rfl⟩ | ⟨g, cap, rfl, h1, h2, h3, h4⟩
  · exact ⟨none, 0, rfl, ⟨by simp, .inl rfl, fit⟩⟩
  · refine ⟨_, cap, rfl, ⟨by omega, .inr ⟨g, 0, rfl, fun i hi j v hv => ?_⟩, fit⟩⟩
    have e : l.getD i zeroRec = l[i] := by rw [List.getD_eq_getElem?_getD, List.getElem?_eq_getElem hi]; rfl
    have hj : j < 6 := by
      have := (List.getElem?_eq_some_iff.1 hv).1
      simpa [Rec.cells] using this
    have := h4 i hi j hj
    rw [Nat.zero_add]
    exact this.trans (by rw [← e]; exact hv)
theorem recsTo_list (l : List Rec) : recsTo (fun i => l.getD i zeroRec) l.length = l := by
  unfold recsTo
  apply List.ext_getElem
  · simp
  · intro i h1 h2
    simp [List.getD_eq_getElem?_getD, List.getElem?_eq_getElem h2]
theorem allOf_list (t : Nat) (l : List Rec) : AllOf t l.length (fun i => l.getD i zeroRec) ↔ l ≠ [] ∧ ∀ r ∈ l, OneOf t r := by
  have e : ∀ i (hi : i < l.length), l.getD i zeroRec = l[i] := fun i hi => by rw [List.getD_eq_getElem?_getD, List.getElem?_eq_getElem hi]; rfl
  constructor
  · rintro ⟨h0, h⟩
    refine ⟨(fun e => by rw [e] at h0; cases h0), fun r hr => ?_⟩
    obtain ⟨i, hi, rfl⟩ := List.getElem_of_mem hr
    have : OneOf t (l.getD i zeroRec) := h i hi
    rwa [e i hi] at this
  · rintro ⟨h0, h⟩
    refine ⟨List.length_pos_iff.2 h0, fun i hi => ?_⟩
    show OneOf t (l.getD i zeroRec)
    rw [e i hi]; exact h _ (List.getElem_mem hi)

/-! a new segment on a new disk -/
/-- A segment's file on a disk of its own. -/
def SegSt (room : Int) (t m b : Nat) (A : FileA) (f c r : Int) : St := One room (nameL t m) b A [(nameL t m, b)] [] f c r
theorem SegSt.look {room : Int} {t m b : Nat} {A : FileA} {f c r : Int} : dlook (nameB t m).data.toList (SegSt room t m b A f c r).now = some b := by rw [nameB_data]; exact One.look
theorem SegSt.look' {room : Int} {t m b : Nat} {A : FileA} {f c r : Int} : dlook (nameL t m) (SegSt room t m b A f c r).now = some b := One.look
theorem SegSt.file {room : Int} {t m b : Nat} {A : FileA} {f c r : Int} : (SegSt room t m b A f c r).file b = A := One.file
theorem segcreate_new {W : World} {X : Nat → Prop} (hT : Tabs W) (w : World) (p : Nat) (room : Int) (h : Held W X w p (St.new room) 0) (t m : Nat) (ht : t < 4294967296) (hm : m ≤ 1099511627776) :
    Calls Tryz.prog 8 #[.pointer (some ⟨p, 0, none⟩), .int .u32 (t : Int), .int .i64 (m : Int)] w fun e w' => ∃ b, SegOut W X w p (SegSt (within room) t m b ⟨[], [], []⟩ (-1) 2 0) 3 (nameB t m) t true e w' := by
  have hg := nameL_good ht hm
  have e2 : ∀ b, ((St.new room).create (nameL t m) b).2.syncDir = (0, SegSt (within room) t m b ⟨[], [], []⟩ (-1) 2 0) := fun b => by
    rw [One.create hg, One.syncDir (by omega)]
    rfl
  refine (segcreate_good hT w p (St.new room) 0 h (by omega) t m ht hm rfl (fun b => by rw [One.create hg]) (fun b => by rw [e2 b])).mono ?_
  rintro e w' ⟨b, _, ho⟩
  rw [e2 b] at ho
  exact ⟨b, ho⟩
/-- Bytes are appended to the file. -/
theorem SegSt.write {room : Int} {t m b : Nat} {A : FileA} {f c r : Int} (part : List Int) (h0 : f ≠ 0) (h2 : ((A.now.length + part.length : Nat) : Int) ≤ room) :
    (SegSt room t m b A f c r).write (nameB t m).data.toList (A.now.length : Int) part = (0, SegSt room t m b (A.write A.now.length part) (less f) (c + 1) r) := by
  rw [nameB_data]
  exact One.write _ part h0 (Nat.le_refl _) h2
theorem SegSt.write_fails {room : Int} {t m b : Nat} {A : FileA} {c r : Int} (at_ : Int) (part : List Int) :
    (SegSt room t m b A 0 c r).write (nameB t m).data.toList at_ part = (3, SegSt room t m b A (-1) (c + 1) r) := by
  rw [nameB_data]
  exact One.write_fails _ part
theorem SegSt.sync {room : Int} {t m b : Nat} {A : FileA} {f c r : Int} (h0 : f ≠ 0) : (SegSt room t m b A f c r).sync (nameB t m).data.toList = (0, SegSt room t m b ⟨A.now, A.now, []⟩ (less f) (c + 1) r) := by
  rw [nameB_data]
  exact One.sync h0
theorem SegSt.size {room : Int} {t m b : Nat} {A : FileA} {f c r : Int} : (SegSt room t m b A f c r).size (nameB t m).data.toList = A.now.length := by
  rw [nameB_data]
  exact One.size

/-! Append, on a segment of its own disk -/
def AppGood (W : World) (X : Nat → Prop) (w : World) (p : Nat) (S' : St) (n' : Nat) (places : List Nat) (e : Ending) (w' : World) : Prop :=
  ∃ v, e = .returned (.tuple #[v, .int .i64 0]) ∧ OwnS fInt w' v places ∧ (∀ g, v.ownBlock = some g → w.heap.size ≤ g) ∧ Held W (fun k => X k ∨ v.ownBlock = some k) w' p S' n' ∧ Kept X w w'
section
variable {W : World} {X : Nat → Prop} {w : World} {p n s : Nat} {room : Int} {t m b : Nat} {A : FileA} {f c r : Int}
theorem segapp_row (hT : Tabs W) (h : Held W X w p (SegSt room t m b A f c r) n) (hn : n ≤ 1000000) (hs : SegAt w s p (nameB t m) t true) (hX : X s) (l : List Rec) (hl : l ≠ []) (ho : ∀ x ∈ l, OneOf t x) (hlen : l.length ≤ 90000) (a : Option Addr) (cap : Nat) (hr : RecRow w a l.length cap (fun i => l.getD i zeroRec))
    (h0 : f ≠ 0) (hroom : ((A.now.length + (cat l).length : Nat) : Int) ≤ room) :
    Calls Tryz.prog 10 #[.pointer (some ⟨s, 0, none⟩), .slice a l.length cap] w (AppGood W X w p (SegSt room t m b (A.write A.now.length (cat l)) (less f) (c + 1) r) (n + 2) (placesF A.now.length l)) := by
  have hy := (allOf_list t l).2 ⟨hl, ho⟩
  have ha := append_any w p _ n h hn hT.crc s (nameB t m) t hs hX b SegSt.look a l.length cap _ hr hy hlen
  rw [SegSt.file, recsTo_list, encs_cat fun x hx => (ho x hx).2, SegSt.write (cat l) h0 hroom] at ha
  refine ha.mono ?_
  rintro e w' (⟨_, v, h1, h2, h3, h4, h5⟩ | ⟨h1, _⟩)
  · exact ⟨v, h1, h2, h3, h4, h5⟩
  · exact absurd rfl h1
theorem segapp_row_fails (hT : Tabs W) (h : Held W X w p (SegSt room t m b A 0 c r) n) (hn : n ≤ 1000000) (hs : SegAt w s p (nameB t m) t true) (hX : X s) (l : List Rec) (hl : l ≠ []) (ho : ∀ x ∈ l, OneOf t x) (hlen : l.length ≤ 90000) (a : Option Addr) (cap : Nat) (hr : RecRow w a l.length cap (fun i => l.getD i zeroRec)) :
    Calls Tryz.prog 10 #[.pointer (some ⟨s, 0, none⟩), .slice a l.length cap] w fun e w' => e = .returned (.tuple #[.slice none 0 0, .int .i64 3]) ∧ Held W X w' p (SegSt room t m b A (-1) (c + 1) r) (n + 2) ∧ Kept X w w' := by
  have hy := (allOf_list t l).2 ⟨hl, ho⟩
  have ha := append_any w p _ n h hn hT.crc s (nameB t m) t hs hX b SegSt.look a l.length cap _ hr hy hlen
  rw [SegSt.write_fails] at ha
  refine ha.mono ?_
  rintro e w' (⟨h1, _⟩ | ⟨_, h1, h2, h3⟩)
  · cases h1
  · exact ⟨h1, h2, h3⟩
theorem laid_below (cells : Array Value) (T : TypeId) : Below w.heap.size w (w.alloc (.cells cells T)) := (Below.refl _ _).alloc (Nat.le_refl _) _
theorem segapp_cells (hT : Tabs W) (h : Held W X w p (SegSt room t m b A f c r) n) (hn : n ≤ 1000000) (hs : SegAt w s p (nameB t m) t true) (hX : X s) (l : List Rec) (hl : l ≠ []) (ho : ∀ x ∈ l, OneOf t x) (hf : ∀ x ∈ l, x.Fit) (hlen : l.length ≤ 90000) (k cap : Nat) (hk : l.length = k) (cells : Array Value) (hc : cells = (flat fRec l).toArray)
    (h0 : f ≠ 0) (hroom : ((A.now.length + (cat l).length : Nat) : Int) ≤ room) :
    Calls Tryz.prog 10 #[.pointer (some ⟨s, 0, none⟩), .slice (some ⟨w.heap.size, 0, none⟩) k cap] (w.alloc (.cells cells 40)) (AppGood W X w p (SegSt room t m b (A.write A.now.length (cat l)) (less f) (c + 1) r) (n + 2) (placesF A.now.length l)) := by
  subst hk
  have b1 := laid_below (w := w) cells 40
  have hr : RecRow (w.alloc (.cells cells 40)) (some ⟨w.heap.size, 0, none⟩) l.length cap (fun i => l.getD i zeroRec) := recs_cells (t := 40) (fr := (0, 0)) (by rw [← hc]; exact heap_alloc_new w _) hf (by omega)
  refine (segapp_row hT (h.later b1) hn (hs.later b1) hX l hl ho hlen _ cap hr h0 hroom).mono ?_
  rintro e w' ⟨v, h1, h2, h3, h4, h5⟩
  exact ⟨v, h1, h2, fun g hg => Nat.le_trans b1.size (h3 g hg), h4, fun j hj => (h5 j hj).trans (b1.block j (h.user j hj))⟩
theorem segapp_cells_fails (hT : Tabs W) (h : Held W X w p (SegSt room t m b A 0 c r) n) (hn : n ≤ 1000000) (hs : SegAt w s p (nameB t m) t true) (hX : X s) (l : List Rec) (hl : l ≠ []) (ho : ∀ x ∈ l, OneOf t x) (hf : ∀ x ∈ l, x.Fit) (hlen : l.length ≤ 90000) (k cap : Nat) (hk : l.length = k) (cells : Array Value) (hc : cells = (flat fRec l).toArray) :
    Calls Tryz.prog 10 #[.pointer (some ⟨s, 0, none⟩), .slice (some ⟨w.heap.size, 0, none⟩) k cap] (w.alloc (.cells cells 40)) fun e w' => e = .returned (.tuple #[.slice none 0 0, .int .i64 3]) ∧ Held W X w' p (SegSt room t m b A (-1) (c + 1) r) (n + 2) ∧ Kept X w w' := by
  subst hk
  have b1 := laid_below (w := w) cells 40
  have hr : RecRow (w.alloc (.cells cells 40)) (some ⟨w.heap.size, 0, none⟩) l.length cap (fun i => l.getD i zeroRec) := recs_cells (t := 40) (fr := (0, 0)) (by rw [← hc]; exact heap_alloc_new w _) hf (by omega)
  refine (segapp_row_fails hT (h.later b1) hn (hs.later b1) hX l hl ho hlen _ cap hr).mono ?_
  rintro e w' ⟨h1, h2, h3⟩
  exact ⟨h1, h2, fun j hj => (h3 j hj).trans (b1.block j (h.user j hj))⟩
theorem SegSt.reads (k : Int) : { SegSt room t m b A f c r with reads := (SegSt room t m b A f c r).reads + k } = SegSt room t m b A f c (r + k) := rfl
theorem segread_seg (hT : Tabs W) (h : Held W X w p (SegSt room t m b A f c r) n) (hn : n ≤ 100000000) {wh : Bool} (hs : SegAt w s p (nameB t m) t wh) (hX : X s) (k : Nat) (hk : k < A.now.length) :
    Calls Tryz.prog 27 #[.pointer (some ⟨s, 0, none⟩), .int .i64 (k : Int)] w (ReadSOut W X w p (SegSt room t m b A f c (r + ((min 1039 (A.now.length - k) : Nat) : Int))) (n + 1) (readS t A.now (k : Int))) := by
  have := segread_in w p _ n h hn hT.crc s (nameB t m) t wh hs hX b SegSt.look k (by rw [SegSt.file]; exact hk)
  rw [SegSt.reads, SegSt.file] at this
  exact this
theorem segread_out (h : Held W X w p (SegSt room t m b A f c r) n) {wh : Bool} (hs : SegAt w s p (nameB t m) t wh) (hX : X s) (a : Int) (ha : a < 0 ∨ (A.now.length : Int) ≤ a) :
    Calls Tryz.prog 27 #[.pointer (some ⟨s, 0, none⟩), .int .i64 a] w (ReadSOut W X w p (SegSt room t m b A f c r) n (zeroRec, 6)) :=
  segread_range w p _ n h s (nameB t m) t wh hs hX b SegSt.look a (by rw [SegSt.file]; exact ha)
theorem segrecords (hT : Tabs W) (h : Held W X w p (SegSt room t m b A f c r) n) (hn : n ≤ 100000000) {wh : Bool} (hs : SegAt w s p (nameB t m) t wh) (hX : X s) :
    Calls Tryz.prog 18 #[.pointer (some ⟨s, 0, none⟩)] w (RecsOut W X w p (SegSt room t m b A f c (r + (A.now.length : Int))) (n + 1) (segF t A.now).1) := by
  have := records_any w p _ n h hn hT.crc s (nameB t m) t wh hs hX b SegSt.look
  rw [SegSt.file, SegSt.reads] at this
  exact this
theorem segsize (h : Held W X w p (SegSt room t m b A f c r) n) {wh : Bool} (hs : SegAt w s p (nameB t m) t wh) :
    Calls Tryz.prog 12 #[.pointer (some ⟨s, 0, none⟩)] w fun e w' => e = .returned (.int .i64 (A.now.length : Int)) ∧ ∃ q, w.drewN q = w' := by
  have := segsize_any w p _ n h.disk s (nameB t m) t wh hs
  rw [SegSt.size] at this
  exact this
theorem segsync (h : Held W X w p (SegSt room t m b A f c r) n) (hn : n ≤ 100000000) {wh : Bool} (hs : SegAt w s p (nameB t m) t wh) (h0 : f ≠ 0) :
    Calls Tryz.prog 11 #[.pointer (some ⟨s, 0, none⟩)] w fun e w' => e = .returned (.int .i64 0) ∧ Held W X w' p (SegSt room t m b ⟨A.now, A.now, []⟩ (less f) (c + 1) r) (n + 2) ∧ Kept X w w' := by
  have := segsync_any w p _ n h hn s (nameB t m) t wh hs
  rw [SegSt.sync h0] at this
  exact this
end
end Go.Proofs.YtdonblfidohncaaGreatDoor.scan
