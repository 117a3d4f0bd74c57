/-
  JOINED: DkFile DkWrite DkSync DkDir.
-/
import Derived.Test.YtpgclhpobijdeaaDoorMBase
import Derived.Maps.RangeWalk
import Derived.Maps.Ext
import Derived.BigQuiet
import Derived.Deep.QuietTactic
import Derived.Deep.Light
import Derived.Deep.RegionLaw
import Derived.Deep.RegionWith
import Derived.Deep.RegionHeld3
import Derived.StillTailTactics
import Derived.Maps.OwnOps
import Derived.StringKeys
import Derived.Sort.KeysCollected
/-
  A FILE OF THE DISK: its bytes now and as synced, its dirty sectors; contracts of first, newFile, write.
-/





namespace Go.Proofs.YtpgclhpobijdeaaDoor.disk
open Go.RowKit Go.Maps

/-! dirty sectors: a rising list -/
def sins (s : Nat) : List Nat → List Nat
  | [] => [s]
  | x :: r => if s < x then s :: x :: r else x :: sins s r
def sput (s : Nat) (l : List Nat) : List Nat := sins s (l.filter fun x => !(x == s))
def secs (l : List Nat) : DataW Unit := .map (l.map fun (s : Nat) => (Lit.int .i64 (s : Int), DataW.agg []))

theorem secs_insert (s : Nat) : ∀ l : List Nat, DataW.insert (Lit.int .i64 (s : Int), (DataW.agg [] : DataW Unit)) (l.map fun (s : Nat) => (Lit.int .i64 (s : Int), DataW.agg [])) = (sins s l).map fun (s : Nat) => (Lit.int .i64 (s : Int), DataW.agg [])
  | [] => rfl
  | x :: r => by
    rw [List.map_cons, DataW.insert]
    have e : (Lit.int .i64 (s : Int)).before (Lit.int .i64 (x : Int)) = decide (s < x) := by simp [Lit.before]
    rw [e]
    unfold sins
    by_cases h : s < x
    · simp [h]
    · simp [h, secs_insert s r]
theorem secs_put (s : Nat) (l : List Nat) : (secs l).put (.int .i64 (s : Int)) (.agg []) = secs (sput s l) := by
  show DataW.map (DataW.insert (Lit.int .i64 (s : Int), DataW.agg []) ((l.map fun (s : Nat) => (Lit.int .i64 (s : Int), (DataW.agg [] : DataW Unit))).filter fun p => !p.1.sameKey (.int .i64 (s : Int)))) = _
  have e : ((l.map fun (s : Nat) => (Lit.int .i64 (s : Int), (DataW.agg [] : DataW Unit))).filter fun p => !p.1.sameKey (.int .i64 (s : Int))) = (l.filter fun x => !(x == s)).map fun (s : Nat) => (Lit.int .i64 (s : Int), DataW.agg []) := by
    rw [List.filter_map]
    congr 1
    apply List.filter_congr
    intro x _
    by_cases h : x = s
    · subst h; simp [Lit.sameKey, Function.comp]
    · have h' : ¬ (x : Int) = (s : Int) := by omega
      simp [Lit.sameKey, Function.comp, h, h']
  rw [e, secs_insert]
  rfl
theorem secs_size (l : List Nat) : Maps.size (secs l) = l.length := by simp [secs, Maps.size]
theorem mem_sins (s x : Nat) : ∀ l : List Nat, x ∈ sins s l ↔ x = s ∨ x ∈ l
  | [] => by simp [sins]
  | y :: r => by
    unfold sins
    split
    · simp
    · simp only [List.mem_cons, mem_sins s x r]
      constructor
      · rintro (h | h | h)
        · exact .inr (.inl h)
        · exact .inl h
        · exact .inr (.inr h)
      · rintro (h | h | h)
        · exact .inr (.inl h)
        · exact .inl h
        · exact .inr (.inr h)
theorem mem_sput (s x : Nat) (l : List Nat) : x ∈ sput s l ↔ x = s ∨ x ∈ l := by
  rw [sput, mem_sins, List.mem_filter]
  by_cases h : x = s <;> simp [h]
theorem sins_length (s : Nat) : ∀ l : List Nat, (sins s l).length = l.length + 1
  | [] => rfl
  | y :: r => by
    unfold sins
    split
    · simp
    · simp [sins_length s r]
theorem sput_length (s : Nat) (l : List Nat) : (sput s l).length ≤ l.length + 1 := by
  rw [sput, sins_length]
  have := List.length_filter_le (fun x => !(x == s)) l
  omega
def Rising (l : List Nat) : Prop := l.Pairwise (· < ·)
theorem sins_rising (s : Nat) : ∀ l : List Nat, Rising l → s ∉ l → Rising (sins s l)
  | [], _, _ => List.pairwise_singleton _ _
  | y :: r, h, hs => by
    obtain ⟨h1, h2⟩ := List.pairwise_cons.1 h
    have hne : s ≠ y ∧ s ∉ r := by simpa using hs
    unfold sins
    split
    · rename_i hlt
      refine List.pairwise_cons.2 ⟨fun x hx => ?_, h⟩
      rcases List.mem_cons.1 hx with rfl | hx
      · exact hlt
      · exact Nat.lt_trans hlt (h1 x hx)
    · refine List.pairwise_cons.2 ⟨fun x hx => ?_, sins_rising s r h2 hne.2⟩
      rcases (mem_sins s x r).1 hx with rfl | hx
      · have := hne.1; omega
      · exact h1 x hx
theorem sput_rising (s : Nat) (l : List Nat) (h : Rising l) : Rising (sput s l) :=
  sins_rising s _ (h.filter _) (by simp)
/-- The sectors from a on, k of them, marked. -/
def marks (l : List Nat) (a : Nat) : Nat → List Nat
  | 0 => l
  | k + 1 => sput (a + k) (marks l a k)
theorem mem_marks (l : List Nat) (a x : Nat) : ∀ k, x ∈ marks l a k ↔ x ∈ l ∨ (a ≤ x ∧ x < a + k)
  | 0 => by simp [marks]; omega
  | k + 1 => by
    rw [marks, mem_sput, mem_marks l a x k]
    constructor
    · rintro (h | h | h)
      · exact .inr (by omega)
      · exact .inl h
      · exact .inr (by omega)
    · rintro (h | h)
      · exact .inr (.inl h)
      · by_cases e : x = a + k
        · exact .inl e
        · exact .inr (.inr (by omega))
theorem marks_rising (l : List Nat) (a : Nat) (h : Rising l) : ∀ k, Rising (marks l a k)
  | 0 => h
  | k + 1 => sput_rising _ _ (marks_rising l a h k)
theorem rising_length_from : ∀ (l : List Nat) (a n : Nat), Rising l → (∀ x ∈ l, a ≤ x ∧ x < n) → l.length ≤ n - a
  | [], _, _, _, _ => by simp
  | y :: r, a, n, h, hn => by
    obtain ⟨h1, h2⟩ := List.pairwise_cons.1 h
    have hy := hn y (by simp)
    have := rising_length_from r (y + 1) n h2 fun x hx => ⟨h1 x hx, (hn x (by simp [hx])).2⟩
    rw [List.length_cons]
    omega
theorem rising_length {l : List Nat} {n : Nat} (h : Rising l) (hn : ∀ x ∈ l, x < n) : l.length ≤ n := by
  have := rising_length_from l 0 n h fun x hx => ⟨Nat.zero_le _, hn x hx⟩
  omega

/-! a file -/
structure FileA where
  now : List Int
  old : List Int
  dirty : List Nat

/-- What holds of every file. -/
structure FileA.Fit (A : FileA) : Prop where
  most : A.now.length ≤ 4194304
  le : A.old.length ≤ A.now.length
  bnow : Byte A.now
  bold : Byte A.old
  rising : Rising A.dirty
  inside : ∀ s ∈ A.dirty, s * 64 < A.now.length
  clean : ∀ i, i < A.now.length → i / 64 ∉ A.dirty → i < A.old.length ∧ A.old.getD i 0 = A.now.getD i 0

theorem FileA.Fit.few {A : FileA} (h : A.Fit) : A.dirty.length ≤ 65536 :=
  rising_length h.rising fun s hs => by have := h.inside s hs; have := h.most; omega

/-- The file at block b, what it holds in memory laid open. -/
structure FileAt (C : Nat → Prop) (w : World) (b : Nat) (A : FileA) (vn vs : Value) (dm : Nat) : Prop where
  cells : Whole w b 106 [vn, vs, .map (some dm)]
  now : Own w vn A.now
  old : Own w vs A.old
  dirty : ∃ n, w.ownsMap Tryd.prog 3 unitElem dm n (secs A.dirty)
  inb : C b
  ind : C dm
  inn : ∀ g, vn.ownBlock = some g → C g ∧ g ≠ b
  ins : ∀ g, vs.ownBlock = some g → C g ∧ g ≠ b ∧ vn.ownBlock ≠ some g
  fit : A.Fit
/-- The file at block b. -/
def IsFile (C : Nat → Prop) (w : World) (b : Nat) (A : FileA) : Prop := ∃ vn vs dm, FileAt C w b A vn vs dm

theorem owns_tight {H : Type} {P : Program} {k : TypeId} {R : Value → Option (DataW H × List MemPlace)} {w : World} {b n : Nat} {D : DataW H} (h : w.ownsMap P k R b n D) : w.ownsMap P k R b (Maps.size D) D := by
  obtain ⟨es, clock, hb, F, hs, rfl⟩ := h
  exact ⟨es, clock, hb, F, by simp [Maps.size, length_sorted], rfl⟩

section
variable {C C' : Nat → Prop} {w w' : World} {b : Nat} {A : FileA} {vn vs : Value} {dm : Nat}
theorem FileAt.map (h : FileAt C w b A vn vs dm) : w.ownsMap Tryd.prog 3 unitElem dm A.dirty.length (secs A.dirty) := by
  obtain ⟨n, hn⟩ := h.dirty
  have := owns_tight hn
  rwa [secs_size] at this
theorem FileAt.mono (h : FileAt C w b A vn vs dm) (hC : ∀ k, k < w.heap.size → C k → C' k) : FileAt C' w b A vn vs dm :=
  ⟨h.cells, h.now, h.old, h.dirty, hC b h.cells.lt h.inb, hC dm h.map.lt h.ind, fun g hg => ⟨hC g (h.now.lt hg) (h.inn g hg).1, (h.inn g hg).2⟩, fun g hg => ⟨hC g (h.old.lt hg) (h.ins g hg).1, (h.ins g hg).2⟩, h.fit⟩
theorem FileAt.same (h : FileAt C w b A vn vs dm) (e : ∀ k, k < w.heap.size → C k → w'.heap[k]? = w.heap[k]?) : FileAt C w' b A vn vs dm :=
  ⟨Whole.same h.cells (e b h.cells.lt h.inb), h.now.same fun g hg => e g (h.now.lt hg) (h.inn g hg).1, h.old.same fun g hg => e g (h.old.lt hg) (h.ins g hg).1, h.dirty.elim fun n hn => ⟨n, map_same hn (e dm h.map.lt h.ind)⟩, h.inb, h.ind, h.inn, h.ins, h.fit⟩
theorem IsFile.mono (h : IsFile C w b A) (hC : ∀ k, k < w.heap.size → C k → C' k) : IsFile C' w b A := by
  obtain ⟨vn, vs, dm, h⟩ := h; exact ⟨vn, vs, dm, h.mono hC⟩
theorem IsFile.same (h : IsFile C w b A) (e : ∀ k, k < w.heap.size → C k → w'.heap[k]? = w.heap[k]?) : IsFile C w' b A := by
  obtain ⟨vn, vs, dm, h⟩ := h; exact ⟨vn, vs, dm, h.same e⟩
theorem IsFile.turned {R : Nat → Prop} (h : IsFile C w b A) (t : Turn R w w') (hR : ∀ k, C k → ¬ R k) : IsFile C w' b A := h.same fun k hk hc => t.block k hk (hR k hc)
theorem IsFile.lt (h : IsFile C w b A) : b < w.heap.size := by obtain ⟨vn, vs, dm, h⟩ := h; exact h.cells.lt
theorem IsFile.in_ (h : IsFile C w b A) : C b := by obtain ⟨vn, vs, dm, h⟩ := h; exact h.inb
theorem IsFile.fit (h : IsFile C w b A) : A.Fit := by obtain ⟨vn, vs, dm, h⟩ := h; exact h.fit
theorem FileAt.cell0 (h : FileAt C w b A vn vs dm) : w.cell? ⟨b, 0, none⟩ = some vn := by rw [h.cells.at_]; rfl
theorem FileAt.cell1 (h : FileAt C w b A vn vs dm) : w.cell? ⟨b, 1, none⟩ = some vs := by rw [h.cells.at_]; rfl
theorem FileAt.cell2 (h : FileAt C w b A vn vs dm) : w.cell? ⟨b, 2, none⟩ = some (.map (some dm)) := by rw [h.cells.at_]; rfl
end

/-- The first n bytes of a sector, as they are now. -/
def firstL (A : FileA) (s n : Nat) : List Int := (A.now.drop (s * 64)).take n

theorem run_min (w : World) (a b : Nat) : (Builtin.min_ #[3, 3] 3 #[.int .i64 (a : Int), .int .i64 (b : Int)]).run Tryd.prog w = .ok (.int .i64 ((min a b : Nat) : Int)) w := by
  have e : ((min a b : Nat) : Int) = if (b : Int) < (a : Int) then (b : Int) else (a : Int) := by split <;> omega
  rw [e]
  by_cases h : (b : Int) < (a : Int) <;> simp [Builtin.min_, Builtin.min2, h]

/-- What 'first' answers with. -/
def FirstOut (w : World) (vn : Value) (l : List Int) (e : Ending) (w' : World) : Prop :=
  ∃ a m c q, e = .returned (.slice a m c) ∧ w' = w.drewN q ∧ Leads w a l ∧ l.length = m ∧ ∀ g, vn.ownBlock ≠ some g → Past g a l

theorem leads_mul {s : Nat} : ((s : Int) * 64) = ((s * 64 : Nat) : Int) := by omega

set_option maxRecDepth 100000 in
set_option maxHeartbeats 1000000 in
theorem first_any (w : World) (b : Nat) (A : FileA) (vn : Value) (c0 : w.cell? ⟨b, 0, none⟩ = some vn) (hv : Own w vn A.now) (hmost : A.now.length ≤ 4194304) (s n : Nat) (hs : s * 64 ≤ A.now.length) (hn : n ≤ 64) :
    Calls Tryd.prog 72 #[.pointer (some ⟨b, 0, none⟩), .int .i64 (s : Int), .int .i64 (n : Int)] w (FirstOut w vn (firstL A s n)) := by
  obtain ⟨a, cap, rfl, h1, h2, h3, h4, h5⟩ := hv.form
  obtain ⟨m, hm⟩ : ∃ m, A.now.length = m := ⟨_, rfl⟩
  rw [hm] at h1 hs hmost c0 ⊢
  have hq := run_cut a m cap (s * 64) (min (s * 64 + n) m) (by omega) (by omega)
  have hmin := fun w => run_min w (s * 64 + n) m
  have e1 : ((s * 64 + n : Nat) : Int) = (s : Int) * 64 + (n : Int) := by omega
  have e2 : ((s * 64 : Nat) : Int) = (s : Int) * 64 := by omega
  rw [e1] at hmin
  rw [e2] at hq
  have hout : ∀ q, FirstOut w (.slice a m cap) (firstL A s n) (.returned (.slice (cutAt a cap (s * 64)) (min (s * 64 + n) m - s * 64) (cap - s * 64))) (w.drewN q) := by
    intro q
    have hl := leads_cut (cap := cap) h4 (s * 64) (min (s * 64 + n) m) (by omega) (by omega) (by omega)
    have e : firstL A s n = (A.now.drop (s * 64)).take (min (s * 64 + n) m - s * 64) := by
      unfold firstL
      rw [List.take_eq_take_iff, List.length_drop, hm]
      omega
    rw [e]
    refine ⟨_, _, _, q, rfl, rfl, hl, ?_, fun g hg => ?_⟩
    · rw [List.length_take, List.length_drop, hm]; omega
    · rcases h5 with rfl | ⟨g', rfl, hg', _⟩
      · have := h3 rfl
        refine .inl ?_
        have : A.now = [] := List.eq_nil_of_length_eq_zero (by omega)
        rw [this]; simp
      · rw [hm] at hg'
        refine .inr fun b' off hb => ?_
        unfold cutAt at hb
        have : g' = b' := by
          split at hb
          · simp at hb; exact hb.1
          · simp [Addr.add_mid] at hb; exact hb.1
        subst this
        intro e; subst e; exact hg hg'
  have HO := Lib.hid hout
  have hsl2 : (s : Int) ≤ 65536 := by omega
  clear hout h3 h4 h5 hm hv e1 e2
  go_enter Tryd.func72, Tryd.ntmps72
  go_wp2_with fail
  go_quiet (fail)
  go_wp2
  go_ret
  exact HO.out _

/-- What 'newFile' answers with. -/
def NewFileOut (C : Nat → Prop) (w : World) (l : List Int) (e : Ending) (w' : World) : Prop :=
  ∃ b, e = .returned (.pointer (some ⟨b, 0, none⟩)) ∧ w.heap.size ≤ b ∧ IsFile (fun k => C k ∨ w.heap.size ≤ k) w' b ⟨l, l, []⟩ ∧ Below w.heap.size w w'

theorem fit_new {l : List Int} (hl : l.length ≤ 4194304) (hb : Byte l) : FileA.Fit ⟨l, l, []⟩ :=
  ⟨hl, Nat.le_refl _, hb, hb, List.Pairwise.nil, (fun s hs => by cases hs), fun i hi _ => ⟨hi, rfl⟩⟩

/-- The blocks of a new file. -/
theorem new_file {C : Nat → Prop} {w w1 : World} {v v2 : Value} {l : List Int} (hv : Own w v l) (hC : ∀ g, v.ownBlock = some g → C g) (hl : l.length ≤ 4194304) (hb : Byte l) (h2 : Own w1 v2 l) (hn : ∀ g, v2.ownBlock = some g → w.heap.size ≤ g) (hbel : Below w.heap.size w w1) :
    IsFile (fun k => C k ∨ w.heap.size ≤ k) ((w1.alloc (.map #[] 0)).alloc (.cells #[v, v2, .map (some w1.heap.size)] 106)) (w1.heap.size + 1) ⟨l, l, []⟩ ∧ Below w.heap.size w ((w1.alloc (.map #[] 0)).alloc (.cells #[v, v2, .map (some w1.heap.size)] 106)) := by
  have b1 : Below w1.heap.size w1 ((w1.alloc (.map #[] 0)).alloc (.cells #[v, v2, .map (some w1.heap.size)] 106)) := ((Below.refl _ _).alloc (Nat.le_refl _) _).alloc (by simp) _
  have v1 := (hv.later hbel).later b1
  have w2 := h2.later b1
  have hs := hbel.size
  refine ⟨⟨v, v2, w1.heap.size, ⟨Whole.new_ (by simp) rfl, v1, w2, ⟨0, World.ownsMap.alloc (World.ownsMap_made _ _ _ _) _⟩, .inr (by omega), .inr (by omega), fun g hg => ⟨.inl (hC g hg), ?_⟩, fun g hg => ⟨.inr (hn g hg), ?_, ?_⟩, fit_new hl hb⟩⟩, hbel.trans (b1.mono hs)⟩
  · have := (hv.later hbel).lt hg; omega
  · have := h2.lt hg; omega
  · intro e; have := hv.lt e; have := hn g hg; omega

set_option maxRecDepth 100000 in
set_option maxHeartbeats 1000000 in
theorem newFile_any {C : Nat → Prop} (w : World) (v : Value) (l : List Int) (hv : Own w v l) (hC : ∀ g, v.ownBlock = some g → C g) (hl : l.length ≤ 4194304) (hb : Byte l) :
    Calls Tryd.prog 38 #[v] w (NewFileOut C w l) := by
  obtain ⟨a, cap, rfl, h1, h2, h3, h4, h5⟩ := hv.form
  obtain ⟨n, hn⟩ : ∃ n, l.length = n := ⟨_, rfl⟩
  have hmm := @run_makeMap Tryd.prog
  cases a with
  | none =>
    have hz := h3 rfl
    obtain rfl : l = [] := List.eq_nil_of_length_eq_zero hz.1
    obtain rfl : cap = 0 := hz.2
    have K := Lib.hid (fun w1 (h2 : Own w1 (.slice none 0 0) []) hb1 => new_file (w1 := w1) hv hC hl hb h2 (fun g hg => by simp [Value.ownBlock] at hg) hb1)
    have HO := Lib.hid (Own.none_ w)
    clear hv hC h1 h2 h3 h4 h5 hl hb hz hn
    go_enter Tryd.func38, Tryd.ntmps38
    go_wp2_with fail
    refine (clone_nil _ _ _).mono ?_
    rintro e w1 ⟨rfl, rfl⟩
    go_wp2
    go_ret
    obtain ⟨k1, k2⟩ := K.out w HO.out (Below.refl _ _)
    exact ⟨_, rfl, by simp, k1, k2⟩
  | some ad =>
    rw [hn] at hv h1 hl ⊢
    have K := Lib.hid (fun w1 v2 (h2 : Own w1 v2 l) hb1 hb2 => new_file (w1 := w1) hv hC (by omega) hb h2 hb1 hb2)
    have HN := Lib.hid hn
    have HL := Lib.hid h4
    clear hv hC h2 h3 h4 h5 hb hn
    go_enter Tryd.func38, Tryd.ntmps38
    go_wp2_with fail
    refine (clone_some ad n cap l w HN.out HL.out (by omega)).mono ?_
    rintro e w1 ⟨v2, rfl, o2, b2, b3⟩
    obtain ⟨k1, k2⟩ := K.out w1 v2 o2 b2 b3
    have hs1 := b3.size
    obtain ⟨a2, c2, rfl, _⟩ := o2.form
    have K1 := Lib.hid k1
    have K2 := Lib.hid k2
    clear K k1 k2 o2 b2 b3
    go_wp2
    go_ret
    exact ⟨_, rfl, by omega, K1.out, K2.out⟩
end Go.Proofs.YtpgclhpobijdeaaDoor.disk
/-
  CONTRACT of (*disk.file).write.
-/


namespace Go.Proofs.YtpgclhpobijdeaaDoor.disk
open Go.RowKit Go.Maps

theorem getD_splice (l part : List Int) (p i : Nat) (h : p + part.length ≤ l.length) : (splice l p part).getD i 0 = if i < p then l.getD i 0 else if i < p + part.length then part.getD (i - p) 0 else l.getD i 0 := by
  unfold Go.splice
  simp only [List.getD_eq_getElem?_getD]
  by_cases h1 : i < p
  · rw [if_pos h1, List.getElem?_append_left (by rw [List.length_take]; omega), List.getElem?_take_of_lt h1]
  · rw [if_neg h1, List.getElem?_append_right (by rw [List.length_take]; omega), List.length_take, Nat.min_eq_left (by omega)]
    by_cases h2 : i < p + part.length
    · rw [if_pos h2, List.getElem?_append_left (by omega)]
    · rw [if_neg h2, List.getElem?_append_right (by omega), List.getElem?_drop]
      congr 2; omega
theorem getD_zeros (l : List Int) (n i : Nat) : (l ++ List.replicate n 0).getD i 0 = l.getD i 0 := by
  simp only [List.getD_eq_getElem?_getD]
  by_cases h : i < l.length
  · rw [List.getElem?_append_left h]
  · rw [List.getElem?_append_right (by omega), List.getElem?_replicate, List.getElem?_eq_none (by omega)]
    split <;> rfl
theorem getD_laid (l part : List Int) (p i : Nat) (hp : part ≠ []) : (laidL l p part).getD i 0 = if i < p then l.getD i 0 else if i < p + part.length then part.getD (i - p) 0 else l.getD i 0 := by
  rw [laidL, if_neg hp, getD_splice _ _ _ _ (by rw [List.length_append, List.length_replicate]; omega), getD_zeros]

/-- A file written to. -/
def FileA.write (A : FileA) (p : Nat) (part : List Int) : FileA :=
  if part = [] then A else ⟨laidL A.now p part, A.old, marks A.dirty (p / 64) ((p + part.length - 1) / 64 + 1 - p / 64)⟩

theorem FileA.Fit.write {A : FileA} (h : A.Fit) {p : Nat} {part : List Int} (hb : Byte part) (hp : p ≤ A.now.length) (hm : p + part.length ≤ 4194304) : (A.write p part).Fit := by
  unfold FileA.write
  by_cases hne : part = []
  · rw [if_pos hne]; exact h
  · rw [if_neg hne]
    have hlen := laidL_length A.now p part hne
    have hpos : 0 < part.length := List.length_pos_iff.2 hne
    refine ⟨?_, ?_, h.bnow.laid hb p, h.bold, marks_rising _ _ h.rising _, ?_, ?_⟩
    · show (laidL A.now p part).length ≤ _
      have := h.most; omega
    · show A.old.length ≤ (laidL A.now p part).length
      have := h.le; omega
    · intro s hs
      show s * 64 < (laidL A.now p part).length
      rcases (mem_marks _ _ _ _).1 hs with hs | hs
      · have := h.inside s hs; omega
      · omega
    · intro i hi hn
      have hi' : i < (laidL A.now p part).length := hi
      have hn' : ¬ (i / 64 ∈ A.dirty ∨ (p / 64 ≤ i / 64 ∧ i / 64 < p / 64 + ((p + part.length - 1) / 64 + 1 - p / 64))) := fun e => hn ((mem_marks _ _ _ _).2 e)
      have h1 : i / 64 ∉ A.dirty := fun e => hn' (.inl e)
      have h2 : ¬ (p ≤ i ∧ i < p + part.length) := fun e => hn' (.inr (by omega))
      obtain ⟨k1, k2⟩ := h.clean i (by omega) h1
      refine ⟨k1, ?_⟩
      show A.old.getD i 0 = (laidL A.now p part).getD i 0
      rw [getD_laid _ _ _ _ hne, k2]
      by_cases h3 : i < p
      · rw [if_pos h3]
      · rw [if_neg h3, if_neg (by omega)]

theorem intLaw : Keyed Tryd.prog 3 := int_keyed Tryd.underlying3
theorem secKey (s : Nat) (h : s ≤ 100000000) : keyOf Tryd.prog 3 (.int .i64 (s : Int)) = some (.int .i64 (s : Int)) := keyOf_int_mk Tryd.underlying3 (WalkArith.wf_i64 (by omega))

/-- On the way: the sectors from q on up to j are marked, nothing else has turned. -/
def Marking (w2 : World) (dm : Nat) (l : List Nat) (q j : Nat) (wr : World) : Prop :=
  ∃ n, n ≤ 65536 + j ∧ wr.ownsMap Tryd.prog 3 unitElem dm n (secs (marks l q (j - q))) ∧ w2.grownBy wr (some dm)

/-- What 'write' leaves. -/
def WriteOut (C : Nat → Prop) (w : World) (b : Nat) (A : FileA) (e : Ending) (w' : World) : Prop :=
  e = .returned (.tuple #[]) ∧ IsFile (fun k => C k ∨ w.heap.size ≤ k) w' b A ∧ Turn C w w'

set_option maxRecDepth 100000 in
set_option maxHeartbeats 1000000 in
theorem write_some {C : Nat → Prop} (w : World) (b : Nat) (A : FileA) (h : IsFile C w b A) (p : Nat) (ad : Option Addr) (m mcap : Nat) (part : List Int) (hl : Leads w ad part) (hps : ∀ g, C g → Past g ad part) (hm : part.length = m) (hb : Byte part) (hp : p ≤ A.now.length) (hmax : p + m ≤ 4194304) (h0 : 0 < m) :
    Calls Tryd.prog 64 #[.pointer (some ⟨b, 0, none⟩), .int .i64 (p : Int), .slice ad m mcap] w (WriteOut C w b (A.write p part)) := by
  obtain ⟨vn, vs, dm, h⟩ := h
  have hfit := h.fit.write hb hp (by rw [hm]; exact hmax)
  have hmost := h.fit.most
  have hmap := h.map
  have hfew := h.fit.few
  have hdb := map_ne_whole hmap h.cells
  have hne : part ≠ [] := by intro e; subst e; simp at hm; omega
  -- laid, and the store
  have cL := laid_any vn A.now p ad m mcap part w h.now hl (fun g hg => hps g (h.inn g hg).1) hm (by omega) (by omega)
  have after : ∀ w1 v', Own w1 v' (laidL A.now p part) → w.grownBy w1 vn.ownBlock → (v'.ownBlock = vn.ownBlock ∨ ∃ g, v'.ownBlock = some g ∧ w.heap.size ≤ g) →
      Hid (Whole w1 b 106 [vn, vs, .map (some dm)] ∧ Turn C w (w1.setCell ⟨b, 0, none⟩ v') ∧ Whole (w1.setCell ⟨b, 0, none⟩ v') b 106 [v', vs, .map (some dm)] ∧ (w1.setCell ⟨b, 0, none⟩ v').ownsMap Tryd.prog 3 unitElem dm A.dirty.length (secs A.dirty) ∧
        Own (w1.setCell ⟨b, 0, none⟩ v') v' (laidL A.now p part) ∧ Own (w1.setCell ⟨b, 0, none⟩ v') vs A.old ∧ (∀ g, v'.ownBlock = some g → (C g ∨ w.heap.size ≤ g) ∧ g ≠ b ∧ vs.ownBlock ≠ some g)) := by
    intro w1 v' o1 g1 hv'
    have t1 : Turn C w w1 := Turn.of_row g1 fun g hg => (h.inn g hg).1
    have t2 : Turn C w (w1.setCell ⟨b, 0, none⟩ v') := t1.setCell 0 v' (.inl h.inb)
    have hbv : some b ≠ vn.ownBlock := fun e => (h.inn b e.symm).2 rfl
    have wh1 : Whole w1 b 106 [vn, vs, .map (some dm)] := Whole.same h.cells (g1.block b h.cells.lt hbv)
    have hv2 : ∀ g, v'.ownBlock = some g → (C g ∨ w.heap.size ≤ g) ∧ g ≠ b ∧ vs.ownBlock ≠ some g := by
      intro g hg
      rcases hv' with hv' | ⟨g', hg', hsz⟩
      · rw [hv'] at hg
        exact ⟨.inl (h.inn g hg).1, (h.inn g hg).2, fun e => (h.ins g e).2.2 hg⟩
      · rw [hg] at hg'
        injection hg' with hg'
        subst hg'
        refine ⟨.inr hsz, ?_, fun e => ?_⟩
        · have := h.cells.lt; omega
        · have := h.old.lt e; omega
    have hmb : some dm ≠ vn.ownBlock := fun e => map_ne_row hmap h.now e.symm rfl
    have e1 : w1.heap[dm]? = w.heap[dm]? := g1.block dm hmap.lt hmb
    have es : ∀ k, k ≠ b → (w1.setCell ⟨b, 0, none⟩ v').heap[k]? = w1.heap[k]? := fun k hk => heap_setCell_other w1 ⟨b, 0, none⟩ k v' hk
    refine show _ from ⟨wh1, t2, wh1.put 0 v', map_same hmap ((es dm hdb).trans e1), o1.same fun g hg => es g (hv2 g hg).2.1, h.old.same fun g hg => ?_, hv2⟩
    rw [es g (h.ins g hg).2.1]
    exact g1.block g (h.old.lt hg) fun e => (h.ins g hg).2.2 e.symm
  have CL := Lib.hid cL
  have AF := Lib.hid after
  have hA : A.write p part = ⟨laidL A.now p part, A.old, marks A.dirty (p / 64) ((p + m - 1) / 64 + 1 - p / 64)⟩ := by rw [FileA.write, if_neg hne, hm]
  rw [hA] at hfit ⊢
  have FIT := Lib.hid hfit
  have hsz := h.cells.lt
  have hinb := h.inb
  have hind := h.ind
  have hins := h.ins
  have hc0 := h.cell0
  have hcw := h.cells
  have hnl : A.now.length ≤ 4194304 := hmost
  obtain ⟨a, cap, rfl, h1, h2, h3, h4, h5⟩ := h.now.form
  have HX := Lib.hid (show True ∧ C b ∧ C dm ∧ (∀ g, vs.ownBlock = some g → C g ∧ g ≠ b ∧ (Value.slice a A.now.length cap).ownBlock ≠ some g) from ⟨trivial, hinb, hind, hins⟩)
  have HCW := Lib.hid hcw
  have c0 : ((m : Int) == 0) = false := by rw [beq_eq_false_iff_ne]; omega
  have hpl : (p : Int) ≤ 4194304 := by omega
  have hml : (m : Int) ≤ 4194304 := by omega
  clear h hl hps hb hA hfit hinb hind hins hcw cL after hmap h3 h4 h5 h1 h2 hne hm hmost
  go_enter Tryd.func64, Tryd.ntmps64
  go_wp2_with fail
  refine CL.out.mono ?_
  rintro e w1 ⟨v', rfl, o1, g1, hv'⟩
  have K := AF.out w1 v' o1 g1 hv'
  obtain ⟨wh1, K⟩ := K.out
  obtain ⟨L, hL⟩ : ∃ L, laidL A.now p part = L := ⟨_, rfl⟩
  rw [hL] at o1 K FIT ⊢
  have HLL := Lib.hid hL
  obtain ⟨a', cap', rfl, _⟩ := o1.form
  obtain ⟨N, hN⟩ : ∃ N, L.length = N := ⟨_, rfl⟩
  rw [hN] at K ⊢
  have HK := Lib.hid K
  have d0 : w1.cell? ⟨b, 0, none⟩ = some (.slice a A.now.length cap) := by rw [wh1.at_]; rfl
  have f0 := wh1.free 0
  clear CL AF HCW wh1 o1 g1 hv' K hL hN hc0
  go_wp2_with fail
  clear d0 f0
  generalize w1.setCell ⟨b, 0, none⟩ (.slice a' N cap') = w2 at HK ⊢
  obtain ⟨k1, k2, k3, k4⟩ := HK.out
  have K1 := Lib.hid k1
  have K2 := Lib.hid k2
  have K3 := Lib.hid k3
  have K4 := Lib.hid k4
  have hz1 : p / 64 ≤ (p + m - 1) / 64 := by omega
  have hz2 : (p + m - 1) / 64 ≤ 65535 := by omega
  have hez : ((p : Int) + (m : Int) - 1) / 64 = (((p + m - 1) / 64 : Nat) : Int) := by omega
  have heq : (p : Int) / 64 = ((p / 64 : Nat) : Int) := by omega
  generalize hz : (p + m - 1) / 64 = z at hz1 hz2 hez FIT ⊢
  generalize hq : p / 64 = q at hz1 heq FIT ⊢
  have HEZ := Lib.hid hez
  have HEQ := Lib.hid heq
  clear HK k1 k2 k3 k4 hez heq hz hq
  go_loopw [6] (fun i wr => ∃ j, q ≤ j ∧ j ≤ z + 1 ∧ i = .int .i64 (j : Int) ∧ Marking w2 dm A.dirty q j wr) (fun i _ => z + 1 - (intOf i).toNat)
  case atStart => exact ⟨q, Nat.le_refl _, by omega, by rw [HEQ.out], A.dirty.length, by omega, by rw [Nat.sub_self]; exact K3.out, World.grownBy.refl _ _⟩
  case round =>
    obtain ⟨j, hj1, hj2, rfl, n, hn, ho, hg⟩ := hrel
    have hwb : Whole wr b 106 [.slice a' N cap', vs, .map (some dm)] := K2.out.grown hg (fun e => hdb (by injection e with e; exact e.symm))
    have d2 : wr.cell? ⟨b, 2, none⟩ = some (.map (some dm)) := by rw [hwb.at_]; rfl
    have HO := Lib.hid ho
    have HG := Lib.hid hg
    clear ho hg
    by_cases hlt : j ≤ z
    · have hc : (j : Int) ≤ ((p : Int) + (m : Int) - 1) / 64 := by rw [HEZ.out]; omega
      clear hwb
      go_wp2_with (first
        | (at_mapUpdate; refine wpList_mapUpdate_own _ rfl _ _ _ 104 rfl 3 121 intLaw Tryd.underlying104 unitElem dm n _ rfl HO.out (by unfold maxLen; omega) _ _ _ rfl rfl (secKey j (by omega)) (.agg []) [] unitElem_mk ?_; intro w3 o3 g3)
        | fail)
      have o4 := Lib.hid o3
      have g4 := Lib.hid (HG.out.trans g3)
      clear o3 g3
      go_roundw
      case rel =>
        refine ⟨j + 1, by omega, by omega, by go_num, n + 1, by omega, ?_, g4.out⟩
        have e := o4.out
        rw [secs_put] at e
        rw [show j + 1 - q = (j - q) + 1 by omega, marks, show q + (j - q) = j by omega]
        exact e
      case measure => simp [intOf]; omega
    · have hc : ¬ (j : Int) ≤ ((p : Int) + (m : Int) - 1) / 64 := by rw [HEZ.out]; omega
      obtain rfl : j = z + 1 := by omega
      have HWB := Lib.hid hwb
      clear hwb
      go_wp2_with fail
      go_end0
      rw [HLL.out]
      have hg := HG.out
      have hs2 := K1.out.size
      obtain ⟨k5, k6, k7⟩ := K4.out
      obtain ⟨_, hx1, hx2, hx3⟩ := HX.out
      have hm2 := K3.out
      refine ⟨rfl, ⟨_, vs, dm, HWB.out, World.ownsRow.kept k5 hg ?_, World.ownsRow.kept k6 hg ?_, ⟨n, HO.out⟩, .inl hx1, .inl hx2, fun g hg' => ⟨(k7 g hg').1, (k7 g hg').2.1⟩, fun g hg' => ⟨.inl (hx3 g hg').1, (hx3 g hg').2.1, fun e => (k7 g e).2.2 hg'⟩, FIT.out⟩, K1.out.trans (Turn.of_grown hg hx2) fun _ _ e => e⟩
      · right; intro e; exact map_ne_row hm2 k5 e rfl
      · right; intro e; exact map_ne_row hm2 k6 e rfl

/-- 'write', whatever its bytes. -/
theorem write_any {C : Nat → Prop} (w : World) (b : Nat) (A : FileA) (h : IsFile C w b A) (p : Nat) (ad : Option Addr) (m mcap : Nat) (part : List Int) (hl : Leads w ad part) (hps : ∀ g, C g → Past g ad part) (hm : part.length = m) (hb : Byte part) (hp : p ≤ A.now.length) (hmax : p + m ≤ 4194304) :
    Calls Tryd.prog 64 #[.pointer (some ⟨b, 0, none⟩), .int .i64 (p : Int), .slice ad m mcap] w (WriteOut C w b (A.write p part)) := by
  by_cases h0 : m = 0
  · subst h0
    obtain rfl : part = [] := List.eq_nil_of_length_eq_zero hm
    have HO := Lib.hid (show WriteOut C w b (A.write p []) (.returned (.tuple #[])) w from ⟨rfl, h.mono (fun _ _ e => .inl e), Turn.refl _ _⟩)
    clear h hl hps hm hb
    go_enter Tryd.func64, Tryd.ntmps64
    go_wp2
    go_end0
    exact HO.out
  · exact write_some w b A h p ad m mcap part hl hps hm hb hp hmax (by omega)
end Go.Proofs.YtpgclhpobijdeaaDoor.disk
/-
  CONTRACT of (*disk.file).sync.
-/





namespace Go.Proofs.YtpgclhpobijdeaaDoor.disk
open Go.RowKit Go.Maps

/-- What was synced so far: each sector that is not to come any more is as it is now. -/
structure Part (A : FileA) (old : List Int) (left : Lit → Bool) : Prop where
  byte : Byte old
  le : old.length ≤ A.now.length
  at_ : ∀ i, i < A.now.length → left (.int .i64 ((i / 64 : Nat) : Int)) = false → i < old.length ∧ old.getD i 0 = A.now.getD i 0

theorem has_secs (l : List Nat) (s : Nat) : Maps.has (secs l) (.int .i64 (s : Int)) = decide (s ∈ l) := by
  show (l.map fun (s : Nat) => (Lit.int .i64 (s : Int), (DataW.agg [] : DataW Unit))).any (fun p => p.1.sameKey (.int .i64 (s : Int))) = _
  rw [Bool.eq_iff_iff, List.any_eq_true, decide_eq_true_iff]
  constructor
  · rintro ⟨p, hp, hk⟩
    obtain ⟨x, hx, rfl⟩ := List.mem_map.1 hp
    have : (x : Int) = s := by simpa [Lit.sameKey] using hk
    obtain rfl : x = s := by omega
    exact hx
  · intro h
    exact ⟨_, List.mem_map.2 ⟨s, h, rfl⟩, by simp [Lit.sameKey]⟩
theorem key_secs {l : List Nat} {kl : Lit} (h : Maps.has (secs l) kl = true) : ∃ s : Nat, s ∈ l ∧ kl = .int .i64 (s : Int) := by
  obtain ⟨p, hp, hk⟩ := List.any_eq_true.1 (show (l.map fun (s : Nat) => (Lit.int .i64 (s : Int), (DataW.agg [] : DataW Unit))).any (fun p => p.1.sameKey kl) = true from h)
  obtain ⟨x, hx, rfl⟩ := List.mem_map.1 hp
  exact ⟨x, hx, (WideAt.sameKey_eq hk).symm⟩

theorem firstL_length (A : FileA) (s n : Nat) : (firstL A s n).length = min n (A.now.length - s * 64) := by rw [firstL, List.length_take, List.length_drop]
theorem firstL_at (A : FileA) (s n i : Nat) (h : i < n) : (firstL A s n).getD i 0 = A.now.getD (s * 64 + i) 0 := by
  rw [firstL]; simp only [List.getD_eq_getElem?_getD]; rw [List.getElem?_take_of_lt h, List.getElem?_drop]
theorem firstL_byte {A : FileA} (h : A.Fit) (s n : Nat) : Byte (firstL A s n) := (h.bnow.drop _).take _

theorem Part.start {A : FileA} (h : A.Fit) : Part A A.old (Maps.has (secs A.dirty)) :=
  ⟨h.bold, h.le, fun i hi hl => h.clean i hi (by rw [has_secs] at hl; simpa using hl)⟩
theorem Part.step {A : FileA} {old : List Int} {left : Lit → Bool} (hf : A.Fit) (h : Part A old left) {s : Nat} (hs : s * 64 < A.now.length) : Part A (laidL old (s * 64) (firstL A s 64)) (fun z => left z && !z.sameKey (.int .i64 (s : Int))) := by
  have hlen := firstL_length A s 64
  have hne : firstL A s 64 ≠ [] := by intro e; rw [e] at hlen; simp at hlen; omega
  have hl := laidL_length old (s * 64) _ hne
  refine ⟨h.byte.laid (firstL_byte hf _ _) _, ?_, fun i hi hl' => ?_⟩
  · have := h.le; omega
  · rw [getD_laid _ _ _ _ hne]
    by_cases hi64 : i / 64 = s
    · refine ⟨by omega, ?_⟩
      rw [if_neg (by omega), if_pos (by omega), firstL_at _ _ _ _ (by omega)]
      congr 1; omega
    · have hl2 : left (.int .i64 ((i / 64 : Nat) : Int)) = false := by
        have e : (Lit.int .i64 ((i / 64 : Nat) : Int)).sameKey (.int .i64 (s : Int)) = false := by
          simp [Lit.sameKey]; omega
        rw [e] at hl'
        simpa using hl'
      obtain ⟨k1, k2⟩ := h.at_ i hi hl2
      refine ⟨by omega, ?_⟩
      rw [k2]
      by_cases h3 : i < s * 64
      · rw [if_pos h3]
      · rw [if_neg h3, if_neg (by omega)]
theorem Part.end_ {A : FileA} {old : List Int} {left : Lit → Bool} (h : Part A old left) (hl : ∀ kl, left kl = false) : old = A.now := by
  have hle : A.now.length ≤ old.length := by
    rcases Nat.eq_zero_or_pos A.now.length with h0 | h0
    · omega
    · have := (h.at_ (A.now.length - 1) (by omega) (hl _)).1; omega
  have := h.le
  apply List.ext_getElem (by omega)
  intro i h1 h2
  have := (h.at_ i h2 (hl _)).2
  simpa [List.getD_eq_getElem?_getD, List.getElem?_eq_getElem h1, List.getElem?_eq_getElem h2] using this

theorem laid_sector (v : Value) (l : List Int) (s : Nat) (A : Option Addr) (m mcap : Nat) (part : List Int) (w : World) (hv : Own w v l) (hp : Leads w A part) (hps : ∀ g, v.ownBlock = some g → Past g A part) (hm : part.length = m) (hl : l.length ≤ 100000000) (hpm : s * 64 + m ≤ 100000000) :
    Calls Tryd.prog 71 #[v, .int .i64 (IntKind.i64.wrap ((s : Int) * 64)), .slice A m mcap] w (LaidOut w v (laidL l (s * 64) part)) := by
  have h := laid_any v l (s * 64) A m mcap part w hv hp hps hm hl hpm
  rwa [show ((s * 64 : Nat) : Int) = IntKind.i64.wrap ((s : Int) * 64) by rw [IntKind.wrap_i64]; omega] at h

/-- A file being synced. -/
structure Syncing (C : Nat → Prop) (w : World) (b : Nat) (A : FileA) (vn : Value) (dm r : Nat) (vs : Value) (old : List Int) (left : Lit → Bool) (cnt : Nat) (wr : World) : Prop where
  cells : Whole wr b 106 [vn, vs, .map (some dm)]
  cur : Own wr vn A.now
  olds : Own wr vs old
  ranges : ∃ n, wr.ranges Tryd.prog 3 (unitElem (H := Unit)) dm r n (secs A.dirty) left cnt
  ins : ∀ g, vs.ownBlock = some g → (C g ∨ w.heap.size ≤ g) ∧ g ≠ b ∧ vn.ownBlock ≠ some g
  part : Part A old left
  turn : Turn C w wr

/-- What 'sync' leaves. -/
def SyncOut (C : Nat → Prop) (w : World) (b : Nat) (A : FileA) (e : Ending) (w' : World) : Prop :=
  e = .returned (.tuple #[]) ∧ IsFile (fun k => C k ∨ w.heap.size ≤ k) w' b ⟨A.now, A.now, []⟩ ∧ Turn C w w'

set_option maxRecDepth 100000 in
set_option maxHeartbeats 1000000 in
theorem sync_any {C : Nat → Prop} (w : World) (b : Nat) (A : FileA) (h : IsFile C w b A) :
    Calls Tryd.prog 65 #[.pointer (some ⟨b, 0, none⟩)] w (SyncOut C w b A) := by
  obtain ⟨vn, vs, dm, h⟩ := h
  have hmap := h.map
  have HH := Lib.hid h
  have HM := Lib.hid hmap
  have hc2 := h.cell2
  have hsz := h.cells.lt
  have hmm := @run_makeMap Tryd.prog
  clear h hmap
  go_enter Tryd.func65, Tryd.ntmps65
  go_wp2_with (first
    | (at_range; refine wpList_range_own _ rfl _ 104 rfl 3 121 intLaw Tryd.underlying104 unitElem dm A.dirty.length (secs A.dirty) rfl HM.out ?_; intro w0 hrg0 hg0 hs0)
    | fail)
  have HRG := Lib.hid hrg0
  have HG := Lib.hid hg0
  clear hrg0 hg0 hs0 hc2
  go_frame
  go_loopw [2] (fun _ wr => ∃ vs old left cnt, Syncing C w b A vn dm w.heap.size vs old left cnt wr) (fun _ wr => wr.rangeLeft dm w.heap.size)
  case atStart =>
    have h := HH.out
    have t0 : Turn C w w0 := Turn.of_none HG.out
    have es : ∀ k, k < w.heap.size → w0.heap[k]? = w.heap[k]? := fun k hk => HG.out.block k hk (by simp)
    refine ⟨vs, A.old, _, _, Whole.same h.cells (es b hsz), h.now.same fun g hg => es g (h.now.lt hg), h.old.same fun g hg => es g (h.old.lt hg), ⟨_, HRG.out⟩, fun g hg => ⟨.inl (h.ins g hg).1, (h.ins g hg).2⟩, Part.start h.fit, t0⟩
  case round =>
    obtain ⟨vs1, old1, left, cnt, hS⟩ := hrel
    obtain ⟨n, hrg⟩ := hS.ranges
    have HS := Lib.hid hS
    have HR := Lib.hid hrg
    clear hS hrg
    go_wp2_with (first
      | (at_next; refine wpList_next_ranges _ rfl _ rfl 3 intLaw unitElem (Value.int .i64) (fun _ : Unit => .agg #[]) (fun key kl hkey => by obtain ⟨x, hx, _⟩ := Maps.keyOf_int_inv Tryd.underlying3 hkey; exact ⟨x, hx⟩) (fun v y hv => ⟨(), (unitElem_inv hv).1⟩) dm w.heap.size n _ _ _ rfl HR.out ?_ ?_)
      | fail)
    · intro _ hl0
      have d2 : wr.cell? ⟨b, 2, none⟩ = some (.map (some dm)) := (HS.out.cells.at_ 2).trans rfl
      have f2 := HS.out.cells.free 2
      have hbl := HS.out.cells.lt
      have HL0 := Lib.hid hl0
      clear hl0
      go_wp2_with fail
      go_end0
      have hS := HS.out
      have hH := HH.out
      have hold : old1 = A.now := hS.part.end_ HL0.out
      have ea : ∀ k, k < wr.heap.size → k ≠ b → ((wr.setCell ⟨b, 2, none⟩ (.map (some wr.heap.size))).alloc (.map #[] 0)).heap[k]? = wr.heap[k]? := fun k hk hne => (heap_alloc_old (wr.setCell ⟨b, 2, none⟩ (.map (some wr.heap.size))) _ (show k < (wr.setCell ⟨b, 2, none⟩ (.map (some wr.heap.size))).heap.size by simpa [World.setCell] using hk)).trans (heap_setCell_other wr ⟨b, 2, none⟩ k _ hne)
      have en := World.ownsMap_made (H := Unit) (wr.setCell ⟨b, 2, none⟩ (.map (some wr.heap.size))) Tryd.prog 3 unitElem
      have esz : (wr.setCell ⟨b, 2, none⟩ (.map (some wr.heap.size))).heap.size = wr.heap.size := by simp [World.setCell]
      rw [esz] at en
      have hws := hS.turn.size
      refine ⟨rfl, ⟨vn, vs1, wr.heap.size, (hS.cells.put 2 _).more _, hS.cur.same fun g hg => ea g (hS.cur.lt hg) (hH.inn g hg).2, ?_, ⟨0, en⟩, .inl hH.inb, .inr hws, fun g hg => ⟨.inl (hH.inn g hg).1, (hH.inn g hg).2⟩, fun g hg => hS.ins g hg, ?_⟩, (hS.turn.setCell 2 _ (.inl hH.inb)).alloc _⟩
      · rw [← hold]
        exact hS.olds.same fun g hg => ea g (hS.olds.lt hg) (hS.ins g hg).2.1
      · exact fit_new hH.fit.most hH.fit.bnow
    · intro x kl yd yp w1 cnt1 hkey hlk hv hat hrg1 hlt hg1 hs1 hen
      obtain ⟨x', ex, rfl, _⟩ := Maps.keyOf_int_inv Tryd.underlying3 hkey
      cases ex
      obtain ⟨s, hs, es⟩ := key_secs (Maps.has_true_of_atKey hat)
      obtain rfl : x = (s : Int) := by injection es
      clear es hkey hv hlk hs1
      have hS := HS.out
      have hin := HH.out.fit.inside s hs
      have hmo := HH.out.fit.most
      obtain ⟨a1, cap1, ev, hf1, hf2, hf3, hf4, hf5⟩ := hS.olds.form
      subst ev
      have cells1 : Whole w1 b 106 [vn, .slice a1 old1.length cap1, .map (some dm)] := hS.cells.grown hg1 (fun e => by injection e with e; omega)
      have now1 : Own w1 vn A.now := hS.cur.same fun g hg => hg1.block g (hS.cur.lt hg) (fun e => by have := HH.out.now.lt hg; injection e with e; omega)
      have d1 : w1.cell? ⟨b, 1, none⟩ = some (.slice a1 old1.length cap1) := by rw [cells1.at_]; rfl
      have d0 : w1.cell? ⟨b, 0, none⟩ = some vn := by rw [cells1.at_]; rfl
      have f1 := cells1.free 1
      have hsl : (s : Int) ≤ 65536 := by omega
      have D0 := Lib.hid d0
      have N1 := Lib.hid now1
      clear d0 now1 hs hat hf1 hf2 hf3 hf4 hf5 hS
      have O1 := Lib.hid (show Own w1 (.slice a1 old1.length cap1) old1 from HS.out.olds.same fun g hg => hg1.block g (HS.out.olds.lt hg) (fun e => by
        injection e with e
        subst e
        obtain ⟨es, clock, since, seen, c0, _, _, _, _, hr, _⟩ := HR.out
        rcases HS.out.olds.2 with ⟨e1, _⟩ | ⟨g', cap', cur, e1, _, hgg, _⟩
        · rw [e1] at hg; cases hg
        · rw [e1] at hg
          injection hg with hg
          have hg' : g' = w.heap.size := hg
          subst hg'
          rw [hr] at hgg
          cases hgg))
      have hole := HS.out.part.le
      have CE1 := Lib.hid cells1
      clear cells1
      go_wp2_with fail
      go_region_law (first
        | (go_simp; go_at_call 72; refine (first_any _ b A vn (by exact D0.out) (by exact N1.out) hmo s 64 (by omega) (by omega)).mono ?_; rintro e w2 ⟨a2, m2, c2, q2, rfl, rfl, l2, e2, p2⟩; have L2 := Lib.hid l2; have E2 := Lib.hid e2; have P2 := Lib.hid p2; clear l2 e2 p2)
        | (go_simp; go_at_call 71; refine (laid_sector _ old1 s _ _ _ (firstL A s 64) _ (by exact O1.out) (by exact L2.out) (fun g hg => P2.out g (fun e => (HS.out.ins g hg).2.2 e)) E2.out (by omega) (by rw [← E2.out, firstL_length]; omega)).mono ?_; rintro e w3 ⟨v3, rfl, o3, g3, h3⟩; obtain ⟨a3, cap3, ev3, _⟩ := o3.form; subst ev3; have cw3 : Whole w3 b 106 [vn, .slice a1 old1.length cap1, .map (some dm)] := Whole.same (by exact CE1.out) (g3.block b CE1.out.lt (fun e => (HS.out.ins b e.symm).2.1 rfl)); have d3 : w3.cell? ⟨b, 1, none⟩ = some (.slice a1 old1.length cap1) := (cw3.at_ 1).trans rfl; have f3 := cw3.free 1; have CW3 := Lib.hid cw3; clear cw3; have O3 := Lib.hid o3; have G3 := Lib.hid g3; have H3 := Lib.hid h3; clear o3 g3 h3))
      all_goals
        have hS := HS.out
        have hH := HH.out
        have tG : w1.grownBy w3 (Value.slice a1 old1.length cap1).ownBlock := ⟨G3.out.os, G3.out.tape, G3.out.output, G3.out.size, G3.out.block⟩
        have hr1 := hrg1.lt
        have hins3 : ∀ g, (Value.slice a3 (laidL old1 (s * 64) (firstL A s 64)).length cap3).ownBlock = some g → (C g ∨ w.heap.size ≤ g) ∧ g ≠ b ∧ vn.ownBlock ≠ some g := by
          intro g hg
          rcases H3.out with h3 | ⟨g', h3, h4⟩
          · rw [h3] at hg; exact hS.ins g hg
          · rw [hg] at h3
            injection h3 with h3
            subst h3
            have h4' : w1.heap.size ≤ g := h4
            refine ⟨.inr (by have := hS.turn.size; have := hg1.size; omega), by have := CE1.out.lt; omega, fun e => ?_⟩
            have := N1.out.lt e; omega
        have hrow : (w.heap.size : Nat) ≠ b := by omega
        have hrv : some w.heap.size ≠ (Value.slice a1 old1.length cap1).ownBlock := by
          intro e
          obtain ⟨es, clock, since, seen, c0, _, _, _, _, hr, _⟩ := hrg1
          rcases O1.out.2 with ⟨e1, _⟩ | ⟨g', cap', cur, e1, _, hgg, _⟩
          · rw [e1] at e; cases e
          · rw [e1] at e
            injection e with e
            have hg' : w.heap.size = g' := e
            subst hg'
            rw [hr] at hgg
            cases hgg
        have hdv : some dm ≠ (Value.slice a1 old1.length cap1).ownBlock := fun e => map_ne_row hrg1.owns O1.out e.symm rfl
        have hdb : dm ≠ b := map_ne_whole hrg1.owns CE1.out
        have es3 : ∀ k, k ≠ b → (w3.setCell ⟨b, 1, none⟩ (.slice a3 (laidL old1 (s * 64) (firstL A s 64)).length cap3)).heap[k]? = w3.heap[k]? := fun k hk => heap_setCell_other w3 ⟨b, 1, none⟩ k _ hk
        have gs3 : w3.grownBy (w3.setCell ⟨b, 1, none⟩ (.slice a3 (laidL old1 (s * 64) (firstL A s 64)).length cap3)) (some b) := ⟨rfl, rfl, rfl, by simp [World.setCell], fun k _ hk => es3 k (fun e => hk (by rw [e]))⟩
        have rg3 := (hrg1.kept tG hdv hrv).kept gs3 (fun e => hdb (by injection e)) (fun e => hrow (by injection e))
        have fin : Syncing C w b A vn dm w.heap.size (.slice a3 (laidL old1 (s * 64) (firstL A s 64)).length cap3) (laidL old1 (s * 64) (firstL A s 64)) (fun z => left z && !z.sameKey (.int .i64 (s : Int))) cnt1 (w3.setCell ⟨b, 1, none⟩ (.slice a3 (laidL old1 (s * 64) (firstL A s 64)).length cap3)) := by
          refine ⟨CW3.out.put 1 _, ?_, O3.out.same fun g hg => es3 g (hins3 g hg).2.1, ⟨_, rg3⟩, hins3, hS.part.step hH.fit hin, ?_⟩
          · refine N1.out.same fun g hg => (es3 g (hH.inn g hg).2).trans (tG.block g (N1.out.lt hg) fun e => (hS.ins g e.symm).2.2 hg)
          · have t1 : Turn C w w1 := hS.turn.trans (Turn.of_grown (R := fun k => w.heap.size ≤ k) hg1 (Nat.le_refl _)) (fun k hk e => absurd hk (by omega))
            have t2 : Turn C w w3 := t1.trans (Turn.of_row (R := fun k => C k ∨ w.heap.size ≤ k) tG fun g hg => (hS.ins g hg).1) (fun k hk e => by rcases e with e | e; exact e; omega)
            exact t2.setCell 1 _ (.inl hH.inb)
        have FIN := Lib.hid fin
        have RL := Lib.hid rg3.left_eq
        clear fin rg3 gs3 es3 hins3 hdv hrv hdb tG hS hH hen hg1 hrg1
        go_roundw
        case rel => first | exact ⟨_, _, _, _, FIN.out⟩ | ((repeat apply Exists.intro); exact ⟨⟨_, _, _, _, FIN.out⟩, rfl⟩)
        case measure => rw [RL.out, HR.out.left_eq]; exact hlt
end Go.Proofs.YtpgclhpobijdeaaDoor.disk
/-
  A DIRECTORY OF THE DISK: which file has which name; contract of (disk.change).apply, (*disk.FS).named.
-/





namespace Go.Proofs.YtpgclhpobijdeaaDoor.disk
open Go.RowKit Go.Maps

abbrev Nm := List UInt8
/-- Names with their files' blocks, by names rising. -/
abbrev Dir := List (Nm × Nat)
def fileD (b : Nat) : DataW Unit := .lit (.int .i64 (b : Int))
def dirD (d : Dir) : DataW Unit := .map (d.map fun p => (Lit.string p.1, fileD p.2))
def dins (x : Nm × Nat) : Dir → Dir
  | [] => [x]
  | y :: r => if bytesBefore x.1 y.1 then x :: y :: r else y :: dins x r
def ddel (n : Nm) (d : Dir) : Dir := d.filter fun p => !(p.1 == n)
def dput (n : Nm) (b : Nat) (d : Dir) : Dir := dins (n, b) (ddel n d)
def dlook (n : Nm) (d : Dir) : Option Nat := (d.find? fun p => p.1 == n).map (·.2)

theorem dirD_insert (x : Nm × Nat) : ∀ d : Dir, DataW.insert (Lit.string x.1, fileD x.2) (d.map fun p => (Lit.string p.1, fileD p.2)) = (dins x d).map fun p => (Lit.string p.1, fileD p.2)
  | [] => rfl
  | y :: r => by
    rw [List.map_cons, DataW.insert]
    unfold dins
    have e : (Lit.string x.1).before (Lit.string y.1) = bytesBefore x.1 y.1 := rfl
    rw [e]
    by_cases h : bytesBefore x.1 y.1 = true
    · rw [if_pos h, if_pos h]; rfl
    · rw [if_neg h, if_neg h, List.map_cons, dirD_insert x r]
theorem same_str (a b : Nm) : (Lit.string a).sameKey (Lit.string b) = (a == b) := rfl
theorem dirD_filter (n : Nm) (d : Dir) : ((d.map fun p => (Lit.string p.1, fileD p.2)).filter fun p => !p.1.sameKey (.string n)) = (ddel n d).map fun p => (Lit.string p.1, fileD p.2) := by
  rw [List.filter_map]; rfl
theorem dirD_put (n : Nm) (b : Nat) (d : Dir) : (dirD d).put (.string n) (fileD b) = dirD (dput n b d) := by
  show DataW.map (DataW.insert (Lit.string n, fileD b) ((d.map fun p => (Lit.string p.1, fileD p.2)).filter fun p => !p.1.sameKey (.string n))) = _
  rw [dirD_filter, dirD_insert (n, b)]; rfl
theorem dirD_del (n : Nm) (d : Dir) : (dirD d).del (.string n) = dirD (ddel n d) := by
  show DataW.map ((d.map fun p => (Lit.string p.1, fileD p.2)).filter fun p => !p.1.sameKey (.string n)) = _
  rw [dirD_filter]; rfl
theorem dirD_at (n : Nm) (d : Dir) : (dirD d).atKey (.string n) .nil = match dlook n d with | some b => fileD b | none => .nil := by
  unfold dirD DataW.atKey
  simp only
  rw [List.find?_map]
  unfold dlook
  have e : ((fun p : Lit × DataW Unit => p.1.sameKey (.string n)) ∘ fun p : Nm × Nat => (Lit.string p.1, fileD p.2)) = fun p => p.1 == n := rfl
  rw [e]
  cases d.find? fun p => p.1 == n <;> rfl
theorem dirD_has (n : Nm) (d : Dir) : Maps.has (dirD d) (.string n) = (dlook n d).isSome := by
  show (d.map fun p => (Lit.string p.1, fileD p.2)).any (fun p => p.1.sameKey (.string n)) = _
  rw [List.any_map]
  unfold dlook
  rw [Option.isSome_map, List.isSome_find?]; rfl
theorem dirD_size (d : Dir) : Maps.size (dirD d) = d.length := by simp [dirD, Maps.size]
theorem dirD_keys (d : Dir) : strKeys (dirD d) = d.map (·.1) := by
  show (d.map fun p => (Lit.string p.1, fileD p.2)).map (fun p => strOf p.1) = _
  rw [List.map_map]; rfl

theorem find_dins (x : Nm × Nat) (n : Nm) : ∀ d : Dir, (∀ p ∈ d, p.1 ≠ x.1) → (dins x d).find? (fun p => p.1 == n) = if x.1 = n then some x else d.find? fun p => p.1 == n
  | [], _ => by
    unfold dins
    by_cases h : x.1 = n <;> simp [h]
  | y :: r, hd => by
    unfold dins
    have hy := hd y (by simp)
    have ih := find_dins x n r fun p hp => hd p (by simp [hp])
    split
    · by_cases h : x.1 = n <;> simp [h]
    · by_cases h : x.1 = n
      · have hyn : ¬ y.1 = n := fun e => hy (e.trans h.symm)
        rw [if_pos h] at ih ⊢
        simp [hyn, ih]
      · rw [if_neg h] at ih ⊢
        by_cases hyn : y.1 = n <;> simp [hyn, ih]
theorem dlook_ddel (n m : Nm) (d : Dir) : dlook n (ddel m d) = if n = m then none else dlook n d := by
  unfold dlook ddel
  by_cases h : n = m
  · subst h
    rw [if_pos rfl, List.find?_eq_none.2]
    · rfl
    · intro p hp
      have := (List.mem_filter.1 hp).2
      simpa using this
  · rw [if_neg h]
    congr 1
    induction d with
    | nil => rfl
    | cons y r ih =>
      by_cases hy : y.1 = m
      · have hn : ¬ y.1 = n := fun e => h (e.symm.trans hy)
        have hn' : ¬ m = n := fun e => h e.symm
        simp [hy, ih, hn']
      · by_cases hn : y.1 = n
        · simp [hn, h]
        · simp [hy, hn, ih]
theorem ddel_apart (n : Nm) (d : Dir) : ∀ p ∈ ddel n d, p.1 ≠ n := fun p hp => by simpa using (List.mem_filter.1 hp).2
theorem dlook_dput (n m : Nm) (b : Nat) (d : Dir) : dlook n (dput m b d) = if n = m then some b else dlook n d := by
  unfold dput
  unfold dlook
  rw [find_dins (m, b) n (ddel m d) (ddel_apart m d)]
  by_cases h : n = m
  · subst h; simp
  · have h' : ¬ m = n := fun e => h e.symm
    rw [if_neg h', if_neg h]
    have := dlook_ddel n m d
    rw [if_neg h] at this
    exact this
theorem mem_dins (x : Nm × Nat) (p : Nm × Nat) : ∀ d : Dir, p ∈ dins x d ↔ p = x ∨ p ∈ d
  | [] => by simp [dins]
  | y :: r => by
    unfold dins
    split
    · simp
    · simp only [List.mem_cons, mem_dins x p r]
      constructor
      · rintro (h | h | h)
        · exact .inr (.inl h)
        · exact .inl h
        · exact .inr (.inr h)
      · rintro (h | h | h)
        · exact .inr (.inl h)
        · exact .inl h
        · exact .inr (.inr h)
theorem mem_dput {n : Nm} {b : Nat} {d : Dir} {p : Nm × Nat} (h : p ∈ dput n b d) : p = (n, b) ∨ p ∈ d := by
  rcases (mem_dins _ _ _).1 h with h | h
  · exact .inl h
  · exact .inr (List.mem_filter.1 h).1
theorem mem_ddel {n : Nm} {d : Dir} {p : Nm × Nat} (h : p ∈ ddel n d) : p ∈ d := (List.mem_filter.1 h).1
theorem dlook_mem {n : Nm} {d : Dir} {b : Nat} (h : dlook n d = some b) : (n, b) ∈ d := by
  unfold dlook at h
  obtain ⟨p, hp, rfl⟩ := Option.map_eq_some_iff.1 h
  have h1 := List.mem_of_find?_eq_some hp
  have h2 := List.find?_some hp
  have : p.1 = n := by simpa using h2
  rw [← this]; exact h1
theorem dins_length (x : Nm × Nat) : ∀ d : Dir, (dins x d).length = d.length + 1
  | [] => rfl
  | y :: r => by
    unfold dins
    split
    · simp
    · simp [dins_length x r]
theorem ddel_length (n : Nm) (d : Dir) : (ddel n d).length ≤ d.length := List.length_filter_le _ _
theorem dput_length (n : Nm) (b : Nat) (d : Dir) : (dput n b d).length ≤ d.length + 1 := by
  rw [dput, dins_length]; have := ddel_length n d; omega

/-! in memory -/
/-- How a pointer to a file reads: by the file's block. -/
def fileElem : Value → Option (DataW Unit × List MemPlace)
  | .pointer (some a) => if a.off = 0 ∧ a.spot = none then some (fileD a.block, []) else none
  | .pointer none => some (.nil, [])
  | _ => none
theorem fileElem_some (b : Nat) : fileElem (.pointer (some ⟨b, 0, none⟩)) = some (fileD b, []) := by simp [fileElem]
theorem fileElem_none : fileElem (.pointer none) = some (.nil, []) := rfl
theorem fileElem_inv {v : Value} {b : Nat} {ps : List MemPlace} (h : fileElem v = some (fileD b, ps)) : v = .pointer (some ⟨b, 0, none⟩) := by
  unfold fileElem at h
  split at h
  · rename_i a
    obtain ⟨ab, ao, asp⟩ := a
    split at h
    · rename_i hc
      simp only [fileD, Option.some.injEq, Prod.mk.injEq, DataW.lit.injEq, Lit.int.injEq] at h
      obtain ⟨⟨_, h1⟩, _⟩ := h
      obtain ⟨h2, h3⟩ := hc
      have : ab = b := by omega
      subst this
      simp only at h2 h3
      subst h2; subst h3; rfl
    · cases h
  · simp [fileD] at h
  · cases h
theorem fileElem_inv_nil {v : Value} {ps : List MemPlace} (h : fileElem v = some (.nil, ps)) : v = .pointer none := by
  unfold fileElem at h
  split at h
  · split at h
    · simp [fileD] at h
    · cases h
  · rfl
  · cases h

/-- The block m is a map that holds the directory d. -/
def IsDir (w : World) (m : Nat) (d : Dir) : Prop := ∃ n, w.ownsMap Tryd.prog 9 fileElem m n (dirD d)
theorem IsDir.owns {w : World} {m : Nat} {d : Dir} (h : IsDir w m d) : w.ownsMap Tryd.prog 9 fileElem m d.length (dirD d) := by
  obtain ⟨n, h⟩ := h
  have := owns_tight h
  rwa [dirD_size] at this
theorem IsDir.lt {w : World} {m : Nat} {d : Dir} (h : IsDir w m d) : m < w.heap.size := h.owns.lt
theorem IsDir.same {w w' : World} {m : Nat} {d : Dir} (h : IsDir w m d) (e : w'.heap[m]? = w.heap[m]?) : IsDir w' m d := by
  obtain ⟨n, h⟩ := h; exact ⟨n, map_same h e⟩
theorem strLaw : Keyed Tryd.prog 9 := string_keyed Tryd.underlying9
theorem dirType : Tryd.prog.underlying 54 = some (.map 9 76) := Tryd.underlying54
theorem strKey (s : ByteArray) (h : s.size ≤ maxLen) : keyOf Tryd.prog 9 (.string s) = some (.string s.data.toList) := WideMaps.keyOf_string_mk Tryd.underlying9 h
theorem fileZero (w : World) : (zeroValue 76).run Tryd.prog w = .ok (.pointer none) w := by kernel_rfl

/-- What a look-up in a directory answers. -/
def ptrOf : Option Nat → Value
  | some b => .pointer (some ⟨b, 0, none⟩)
  | none => .pointer none
theorem IsDir.look {w : World} {m : Nat} {d : Dir} (h : IsDir w m d) (s : ByteArray) (hs : s.size ≤ maxLen) : (Instr.lookup 54 (.map (some m)) (.string s) false).run Tryd.prog w = .ok (ptrOf (dlook s.data.toList d)) w := by
  obtain ⟨v, ps, hrun, hv⟩ := h.owns.lookup strLaw dirType (fileZero w) fileElem_none (strKey s hs)
  rw [hrun]
  rw [dirD_at] at hv
  cases hd : dlook s.data.toList d with
  | some b => rw [hd] at hv; rw [fileElem_inv hv]; rfl
  | none => rw [hd] at hv; rw [fileElem_inv_nil hv]; rfl
theorem IsDir.sorted {w : World} {m : Nat} {d : Dir} (h : IsDir w m d) : d.Pairwise fun p q => bytesBefore p.1 q.1 = true := by
  obtain ⟨es, e, hp, _⟩ := h.owns.canon strLaw
  injection e with e
  rw [← e] at hp
  exact List.pairwise_map.1 hp

/-! changes of a directory -/
structure Ch where
  made : Option Nat
  frm : Nm
  to : Nm
def Ch.apply (c : Ch) (d : Dir) : Dir :=
  if c.to = [] then ddel c.frm d else
    match c.made with
    | some b => dput c.to b (ddel c.frm d)
    | none => match dlook c.frm d with
      | some b => dput c.to b (ddel c.frm d)
      | none => ddel c.frm d
/-- It may be made: what it names is there. -/
def Ch.Ok (c : Ch) (d : Dir) : Prop := c.made = none → (dlook c.frm d).isSome = true
/-- How a change lies in memory. -/
def chCells (c : Ch) (sf st : ByteArray) : List Value := [ptrOf c.made, .string sf, .string st]

theorem Ch.apply_length (c : Ch) (d : Dir) : (c.apply d).length ≤ d.length + 1 := by
  have h1 := ddel_length c.frm d
  unfold Ch.apply
  split
  · omega
  · split
    · have := dput_length c.to (by assumption) (ddel c.frm d); omega
    · split
      · have := dput_length c.to (by assumption) (ddel c.frm d); omega
      · omega

/-- What 'apply' leaves. -/
def ApplyOut (w : World) (m : Nat) (d : Dir) (e : Ending) (w' : World) : Prop :=
  e = .returned (.tuple #[]) ∧ IsDir w' m d ∧ w.grownBy w' (some m)

set_option maxRecDepth 100000 in
set_option maxHeartbeats 1000000 in
theorem apply_made (w : World) (m : Nat) (d : Dir) (h : IsDir w m d) (c : Ch) (sf st : ByteArray) (b : Nat) (hb : c.made = some b) (hf : sf.data.toList = c.frm) (ht : st.data.toList = c.to) (hne : c.to ≠ []) (hsf : sf.size ≤ maxLen) (hst : st.size ≤ maxLen) (hn : d.length ≤ 1000000000) :
    Calls Tryd.prog 56 #[.agg (chCells c sf st).toArray, .map (some m)] w (ApplyOut w m (c.apply d)) := by
  have hc : chCells c sf st = [.pointer (some ⟨b, 0, none⟩), .string sf, .string st] := by rw [chCells, hb]; rfl
  have ha : c.apply d = dput st.data.toList b (ddel sf.data.toList d) := by rw [Ch.apply, if_neg hne, hb, hf, ht]
  rw [hc, ha]
  have hte : (!st.toList.isEmpty) = true := by rw [ByteArray.toList_eq, ht]; cases hto : c.to <;> simp_all
  have HO := Lib.hid h.owns
  have HSF := Lib.hid hsf
  have HST := Lib.hid hst
  have hlt := h.lt
  have HTE := Lib.hid hte
  clear h hc ha hsf hst hb hf ht hne hte
  go_enter Tryd.func56, Tryd.ntmps56
  
  go_wp2_with (first
    | (at_delete; refine wpList_delete_own _ rfl _ _ 54 9 rfl 76 strLaw dirType fileElem m (List.length d) (dirD d) rfl (HO.out.alloc _) _ _ rfl (strKey sf HSF.out) ?_; intro w1 o1 t1; rw [dirD_del] at o1; have g1 := t1.grown; have d2 : w1.cell? ⟨w.heap.size, 2, none⟩ = some (.string st) := g1.cell (a := ⟨w.heap.size, 2, none⟩) (((Whole.made' w _ _).at_ 2).trans rfl) (fun e => by injection e with e; have e' : w.heap.size = m := e; omega); have O1 := Lib.hid o1; have G1 := Lib.hid g1; have hte := HTE.out; clear o1 t1 g1)
    | (at_mapUpdate; refine wpList_mapUpdate_own _ rfl _ _ _ 54 rfl 9 76 strLaw dirType fileElem m (List.length d) _ rfl O1.out (by unfold maxLen; omega) _ _ _ rfl rfl (strKey st HST.out) (fileD b) [] (fileElem_some b) ?_; intro w2 o2 g2; rw [dirD_put] at o2)
    | fail)
  go_end0
  exact ⟨rfl, ⟨_, o2⟩, ((World.grownBy_alloc w _ (some m)).trans G1.out).trans g2⟩

set_option maxRecDepth 100000 in
set_option maxHeartbeats 1000000 in
theorem apply_named (w : World) (m : Nat) (d : Dir) (h : IsDir w m d) (c : Ch) (sf st : ByteArray) (b : Nat) (hmd : c.made = none) (hb : dlook c.frm d = some b) (hf : sf.data.toList = c.frm) (ht : st.data.toList = c.to) (hne : c.to ≠ []) (hsf : sf.size ≤ maxLen) (hst : st.size ≤ maxLen) (hn : d.length ≤ 1000000000) :
    Calls Tryd.prog 56 #[.agg (chCells c sf st).toArray, .map (some m)] w (ApplyOut w m (c.apply d)) := by
  have hc : chCells c sf st = [.pointer none, .string sf, .string st] := by rw [chCells, hmd]; rfl
  have ha : c.apply d = dput st.data.toList b (ddel sf.data.toList d) := by rw [Ch.apply, if_neg hne, hmd, hf, ht]; simp only [hb]
  rw [hc, ha]
  have hte : (!st.toList.isEmpty) = true := by rw [ByteArray.toList_eq, ht]; cases hto : c.to <;> simp_all
  have HO := Lib.hid h.owns
  have HSF := Lib.hid hsf
  have HST := Lib.hid hst
  have hlt := h.lt
  have hlk := (h.same (w' := w.alloc (.cells #[.pointer none, .string sf, .string st] 80)) (heap_alloc_old w _ h.lt)).look sf hsf
  rw [hf, hb, ptrOf] at hlk
  have HLK := Lib.hid hlk
  clear hlk
  have HTE := Lib.hid hte
  clear h hc ha hsf hst hb hf ht hne hmd hte
  go_enter Tryd.func56, Tryd.ntmps56
  have hlk := HLK.out
  go_wp2_with (first
    | (at_delete; refine wpList_delete_own _ rfl _ _ 54 9 rfl 76 strLaw dirType fileElem m (List.length d) (dirD d) rfl (HO.out.alloc _) _ _ rfl (strKey sf HSF.out) ?_; intro w1 o1 t1; rw [dirD_del] at o1; have g1 := t1.grown; have d2 : w1.cell? ⟨w.heap.size, 2, none⟩ = some (.string st) := g1.cell (a := ⟨w.heap.size, 2, none⟩) (((Whole.made' w _ _).at_ 2).trans rfl) (fun e => by injection e with e; have e' : w.heap.size = m := e; omega); have O1 := Lib.hid o1; have G1 := Lib.hid g1; have hte := HTE.out; clear o1 t1 g1)
    | (at_mapUpdate; refine wpList_mapUpdate_own _ rfl _ _ _ 54 rfl 9 76 strLaw dirType fileElem m (List.length d) _ rfl O1.out (by unfold maxLen; omega) _ _ _ rfl rfl (strKey st HST.out) (fileD b) [] (fileElem_some b) ?_; intro w2 o2 g2; rw [dirD_put] at o2)
    | fail)
  go_end0
  exact ⟨rfl, ⟨_, o2⟩, ((World.grownBy_alloc w _ (some m)).trans G1.out).trans g2⟩

set_option maxRecDepth 100000 in
set_option maxHeartbeats 1000000 in
theorem apply_gone (w : World) (m : Nat) (d : Dir) (h : IsDir w m d) (c : Ch) (sf st : ByteArray) (b : Nat) (hmd : c.made = none) (hb : dlook c.frm d = some b) (hf : sf.data.toList = c.frm) (ht : st.data.toList = c.to) (hne : c.to = []) (hsf : sf.size ≤ maxLen) (hst : st.size ≤ maxLen) :
    Calls Tryd.prog 56 #[.agg (chCells c sf st).toArray, .map (some m)] w (ApplyOut w m (c.apply d)) := by
  have hc : chCells c sf st = [.pointer none, .string sf, .string st] := by rw [chCells, hmd]; rfl
  have ha : c.apply d = ddel sf.data.toList d := by rw [Ch.apply, if_pos hne, hf]
  rw [hc, ha]
  have hte : (!st.toList.isEmpty) = false := by rw [ByteArray.toList_eq, ht]; cases hto : c.to <;> simp_all
  have HO := Lib.hid h.owns
  have HSF := Lib.hid hsf
  have HST := Lib.hid hst
  have hlt := h.lt
  have hlk := (h.same (w' := w.alloc (.cells #[.pointer none, .string sf, .string st] 80)) (heap_alloc_old w _ h.lt)).look sf hsf
  rw [hf, hb, ptrOf] at hlk
  have HLK := Lib.hid hlk
  clear hlk
  have HTE := Lib.hid hte
  clear h hc ha hsf hst hb hf ht hne hmd hte
  go_enter Tryd.func56, Tryd.ntmps56
  have hlk := HLK.out
  go_wp2_with (first
    | (at_delete; refine wpList_delete_own _ rfl _ _ 54 9 rfl 76 strLaw dirType fileElem m (List.length d) (dirD d) rfl (HO.out.alloc _) _ _ rfl (strKey sf HSF.out) ?_; intro w1 o1 t1; rw [dirD_del] at o1; have g1 := t1.grown; have d2 : w1.cell? ⟨w.heap.size, 2, none⟩ = some (.string st) := g1.cell (a := ⟨w.heap.size, 2, none⟩) (((Whole.made' w _ _).at_ 2).trans rfl) (fun e => by injection e with e; have e' : w.heap.size = m := e; omega); have O1 := Lib.hid o1; have G1 := Lib.hid g1; have hte := HTE.out; clear o1 t1 g1)
    | fail)
  go_end0
  exact ⟨rfl, ⟨_, O1.out⟩, (World.grownBy_alloc w _ (some m)).trans G1.out⟩

/-- 'apply', whatever the change. -/
theorem apply_any (w : World) (m : Nat) (d : Dir) (h : IsDir w m d) (c : Ch) (hok : c.Ok d) (hto : c.made ≠ none → c.to ≠ []) (sf st : ByteArray) (hf : sf.data.toList = c.frm) (ht : st.data.toList = c.to) (hsf : sf.size ≤ maxLen) (hst : st.size ≤ maxLen) (hn : d.length ≤ 1000000000) :
    Calls Tryd.prog 56 #[.agg (chCells c sf st).toArray, .map (some m)] w (ApplyOut w m (c.apply d)) := by
  cases hm : c.made with
  | some b => exact apply_made w m d h c sf st b hm hf ht (hto (by rw [hm]; simp)) hsf hst hn
  | none =>
    obtain ⟨b, hb⟩ := Option.isSome_iff_exists.1 (hok hm)
    by_cases hne : c.to = []
    · exact apply_gone w m d h c sf st b hm hb hf ht hne hsf hst
    · exact apply_named w m d h c sf st b hm hb hf ht hne hsf hst hn
end Go.Proofs.YtpgclhpobijdeaaDoor.disk
