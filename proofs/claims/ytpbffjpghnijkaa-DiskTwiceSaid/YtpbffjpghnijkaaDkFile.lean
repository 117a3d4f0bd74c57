/-
  A FILE OF THE DISK: its bytes now and as synced, its dirty sectors; contracts of first, newFile, write.
-/
import Derived.Test.YtpbffjpghnijkaaDkLaid
import Derived.Maps.RangeWalk
import Derived.Maps.Ext
import Derived.BigQuiet
import Derived.Deep.QuietTactic
namespace Go.Proofs.Ytpbffjpghnijkaa.disk
open Go.RowKit Go.Maps

/-! dirty sectors: a rising list -/
def sins (s : Nat) : List Nat → List Nat
  | [] => [s]
  | x :: r => if s < x then s :: x :: r else x :: sins s r
def sput (s : Nat) (l : List Nat) : List Nat := sins s (l.filter fun x => !(x == s))
def secs (l : List Nat) : DataW Unit := .map (l.map fun (s : Nat) => (Lit.int .i64 (s : Int), DataW.agg []))

theorem secs_insert (s : Nat) : ∀ l : List Nat, DataW.insert (Lit.int .i64 (s : Int), (DataW.agg [] : DataW Unit)) (l.map fun (s : Nat) => (Lit.int .i64 (s : Int), DataW.agg [])) = (sins s l).map fun (s : Nat) => (Lit.int .i64 (s : Int), DataW.agg [])
  | [] => rfl
  | x :: r => by
    rw [List.map_cons, DataW.insert]
    have e : (Lit.int .i64 (s : Int)).before (Lit.int .i64 (x : Int)) = decide (s < x) := by simp [Lit.before]
    rw [e]
    unfold sins
    by_cases h : s < x
    · simp [h]
    · simp [h, secs_insert s r]
theorem secs_put (s : Nat) (l : List Nat) : (secs l).put (.int .i64 (s : Int)) (.agg []) = secs (sput s l) := by
  show DataW.map (DataW.insert (Lit.int .i64 (s : Int), DataW.agg []) ((l.map fun (s : Nat) => (Lit.int .i64 (s : Int), (DataW.agg [] : DataW Unit))).filter fun p => !p.1.sameKey (.int .i64 (s : Int)))) = _
  have e : ((l.map fun (s : Nat) => (Lit.int .i64 (s : Int), (DataW.agg [] : DataW Unit))).filter fun p => !p.1.sameKey (.int .i64 (s : Int))) = (l.filter fun x => !(x == s)).map fun (s : Nat) => (Lit.int .i64 (s : Int), DataW.agg []) := by
    rw [List.filter_map]
    congr 1
    apply List.filter_congr
    intro x _
    by_cases h : x = s
    · subst h; simp [Lit.sameKey, Function.comp]
    · have h' : ¬ (x : Int) = (s : Int) := by omega
      simp [Lit.sameKey, Function.comp, h, h']
  rw [e, secs_insert]
  rfl
theorem secs_size (l : List Nat) : Maps.size (secs l) = l.length := by simp [secs, Maps.size]
theorem mem_sins (s x : Nat) : ∀ l : List Nat, x ∈ sins s l ↔ x = s ∨ x ∈ l
  | [] => by simp [sins]
  | y :: r => by
    unfold sins
    split
    · simp
    · simp only [List.mem_cons, mem_sins s x r]
      constructor
      · rintro (h | h | h)
        · exact .inr (.inl h)
        · exact .inl h
        · exact .inr (.inr h)
      · rintro (h | h | h)
        · exact .inr (.inl h)
        · exact .inl h
        · exact .inr (.inr h)
theorem mem_sput (s x : Nat) (l : List Nat) : x ∈ sput s l ↔ x = s ∨ x ∈ l := by
  rw [sput, mem_sins, List.mem_filter]
  by_cases h : x = s <;> simp [h]
theorem sins_length (s : Nat) : ∀ l : List Nat, (sins s l).length = l.length + 1
  | [] => rfl
  | y :: r => by
    unfold sins
    split
    · simp
    · simp [sins_length s r]
theorem sput_length (s : Nat) (l : List Nat) : (sput s l).length ≤ l.length + 1 := by
  rw [sput, sins_length]
  have := List.length_filter_le (fun x => !(x == s)) l
  omega
def Rising (l : List Nat) : Prop := l.Pairwise (· < ·)
theorem sins_rising (s : Nat) : ∀ l : List Nat, Rising l → s ∉ l → Rising (sins s l)
  | [], _, _ => List.pairwise_singleton _ _
  | y :: r, h, hs => by
    obtain ⟨h1, h2⟩ := List.pairwise_cons.1 h
    have hne : s ≠ y ∧ s ∉ r := by simpa using hs
    unfold sins
    split
    · rename_i hlt
      refine List.pairwise_cons.2 ⟨fun x hx => ?_, h⟩
      rcases List.mem_cons.1 hx with rfl | hx
      · exact hlt
      · exact Nat.lt_trans hlt (h1 x hx)
    · refine List.pairwise_cons.2 ⟨fun x hx => ?_, sins_rising s r h2 hne.2⟩
      rcases (mem_sins s x r).1 hx with rfl | hx
      · have := hne.1; omega
      · exact h1 x hx
theorem sput_rising (s : Nat) (l : List Nat) (h : Rising l) : Rising (sput s l) :=
  sins_rising s _ (h.filter _) (by simp)
/-- The sectors from a on, k of them, marked. -/
def marks (l : List Nat) (a : Nat) : Nat → List Nat
  | 0 => l
  | k + 1 => sput (a + k) (marks l a k)
theorem mem_marks (l : List Nat) (a x : Nat) : ∀ k, x ∈ marks l a k ↔ x ∈ l ∨ (a ≤ x ∧ x < a + k)
  | 0 => by simp [marks]; omega
  | k + 1 => by
    rw [marks, mem_sput, mem_marks l a x k]
    constructor
    · rintro (h | h | h)
      · exact .inr (by omega)
      · exact .inl h
      · exact .inr (by omega)
    · rintro (h | h)
      · exact .inr (.inl h)
      · by_cases e : x = a + k
        · exact .inl e
        · exact .inr (.inr (by omega))
theorem marks_rising (l : List Nat) (a : Nat) (h : Rising l) : ∀ k, Rising (marks l a k)
  | 0 => h
  | k + 1 => sput_rising _ _ (marks_rising l a h k)
theorem rising_length_from : ∀ (l : List Nat) (a n : Nat), Rising l → (∀ x ∈ l, a ≤ x ∧ x < n) → l.length ≤ n - a
  | [], _, _, _, _ => by simp
  | y :: r, a, n, h, hn => by
    obtain ⟨h1, h2⟩ := List.pairwise_cons.1 h
    have hy := hn y (by simp)
    have := rising_length_from r (y + 1) n h2 fun x hx => ⟨h1 x hx, (hn x (by simp [hx])).2⟩
    rw [List.length_cons]
    omega
theorem rising_length {l : List Nat} {n : Nat} (h : Rising l) (hn : ∀ x ∈ l, x < n) : l.length ≤ n := by
  have := rising_length_from l 0 n h fun x hx => ⟨Nat.zero_le _, hn x hx⟩
  omega

/-! a file -/
structure FileA where
  now : List Int
  old : List Int
  dirty : List Nat

/-- What holds of every file. -/
structure FileA.Fit (A : FileA) : Prop where
  most : A.now.length ≤ 4194304
  le : A.old.length ≤ A.now.length
  bnow : Byte A.now
  bold : Byte A.old
  rising : Rising A.dirty
  inside : ∀ s ∈ A.dirty, s * 64 < A.now.length
  clean : ∀ i, i < A.now.length → i / 64 ∉ A.dirty → i < A.old.length ∧ A.old.getD i 0 = A.now.getD i 0

theorem FileA.Fit.few {A : FileA} (h : A.Fit) : A.dirty.length ≤ 65536 :=
  rising_length h.rising fun s hs => by have := h.inside s hs; have := h.most; omega

/-- The file at block b, what it holds in memory laid open. -/
structure FileAt (C : Nat → Prop) (w : World) (b : Nat) (A : FileA) (vn vs : Value) (dm : Nat) : Prop where
  cells : Whole w b 67 [vn, vs, .map (some dm)]
  now : Own w vn A.now
  old : Own w vs A.old
  dirty : ∃ n, w.ownsMap Try.prog 3 unitElem dm n (secs A.dirty)
  inb : C b
  ind : C dm
  inn : ∀ g, vn.ownBlock = some g → C g ∧ g ≠ b
  ins : ∀ g, vs.ownBlock = some g → C g ∧ g ≠ b ∧ vn.ownBlock ≠ some g
  fit : A.Fit
/-- The file at block b. -/
def IsFile (C : Nat → Prop) (w : World) (b : Nat) (A : FileA) : Prop := ∃ vn vs dm, FileAt C w b A vn vs dm

theorem owns_tight {H : Type} {P : Program} {k : TypeId} {R : Value → Option (DataW H × List MemPlace)} {w : World} {b n : Nat} {D : DataW H} (h : w.ownsMap P k R b n D) : w.ownsMap P k R b (Maps.size D) D := by
  obtain ⟨es, clock, hb, F, hs, rfl⟩ := h
  exact ⟨es, clock, hb, F, by simp [Maps.size, length_sorted], rfl⟩

section
variable {C C' : Nat → Prop} {w w' : World} {b : Nat} {A : FileA} {vn vs : Value} {dm : Nat}
theorem FileAt.map (h : FileAt C w b A vn vs dm) : w.ownsMap Try.prog 3 unitElem dm A.dirty.length (secs A.dirty) := by
  obtain ⟨n, hn⟩ := h.dirty
  have := owns_tight hn
  rwa [secs_size] at this
theorem FileAt.mono (h : FileAt C w b A vn vs dm) (hC : ∀ k, k < w.heap.size → C k → C' k) : FileAt C' w b A vn vs dm :=
  ⟨h.cells, h.now, h.old, h.dirty, hC b h.cells.lt h.inb, hC dm h.map.lt h.ind, fun g hg => ⟨hC g (h.now.lt hg) (h.inn g hg).1, (h.inn g hg).2⟩, fun g hg => ⟨hC g (h.old.lt hg) (h.ins g hg).1, (h.ins g hg).2⟩, h.fit⟩
theorem FileAt.same (h : FileAt C w b A vn vs dm) (e : ∀ k, k < w.heap.size → C k → w'.heap[k]? = w.heap[k]?) : FileAt C w' b A vn vs dm :=
  ⟨Whole.same h.cells (e b h.cells.lt h.inb), h.now.same fun g hg => e g (h.now.lt hg) (h.inn g hg).1, h.old.same fun g hg => e g (h.old.lt hg) (h.ins g hg).1, h.dirty.elim fun n hn => ⟨n, map_same hn (e dm h.map.lt h.ind)⟩, h.inb, h.ind, h.inn, h.ins, h.fit⟩
theorem IsFile.mono (h : IsFile C w b A) (hC : ∀ k, k < w.heap.size → C k → C' k) : IsFile C' w b A := by
  obtain ⟨vn, vs, dm, h⟩ := h; exact ⟨vn, vs, dm, h.mono hC⟩
theorem IsFile.same (h : IsFile C w b A) (e : ∀ k, k < w.heap.size → C k → w'.heap[k]? = w.heap[k]?) : IsFile C w' b A := by
  obtain ⟨vn, vs, dm, h⟩ := h; exact ⟨vn, vs, dm, h.same e⟩
theorem IsFile.turned {R : Nat → Prop} (h : IsFile C w b A) (t : Turn R w w') (hR : ∀ k, C k → ¬ R k) : IsFile C w' b A := h.same fun k hk hc => t.block k hk (hR k hc)
theorem IsFile.lt (h : IsFile C w b A) : b < w.heap.size := by obtain ⟨vn, vs, dm, h⟩ := h; exact h.cells.lt
theorem IsFile.in_ (h : IsFile C w b A) : C b := by obtain ⟨vn, vs, dm, h⟩ := h; exact h.inb
theorem IsFile.fit (h : IsFile C w b A) : A.Fit := by obtain ⟨vn, vs, dm, h⟩ := h; exact h.fit
theorem FileAt.cell0 (h : FileAt C w b A vn vs dm) : w.cell? ⟨b, 0, none⟩ = some vn := by rw [h.cells.at_]; rfl
theorem FileAt.cell1 (h : FileAt C w b A vn vs dm) : w.cell? ⟨b, 1, none⟩ = some vs := by rw [h.cells.at_]; rfl
theorem FileAt.cell2 (h : FileAt C w b A vn vs dm) : w.cell? ⟨b, 2, none⟩ = some (.map (some dm)) := by rw [h.cells.at_]; rfl
end

/-- The first n bytes of a sector, as they are now. -/
def firstL (A : FileA) (s n : Nat) : List Int := (A.now.drop (s * 64)).take n

theorem run_min (w : World) (a b : Nat) : (Builtin.min_ #[3, 3] 3 #[.int .i64 (a : Int), .int .i64 (b : Int)]).run Try.prog w = .ok (.int .i64 ((min a b : Nat) : Int)) w := by
  have e : ((min a b : Nat) : Int) = if (b : Int) < (a : Int) then (b : Int) else (a : Int) := by split <;> omega
  rw [e]
  by_cases h : (b : Int) < (a : Int) <;> simp [Builtin.min_, Builtin.min2, h]

/-- What 'first' answers with. -/
def FirstOut (w : World) (vn : Value) (l : List Int) (e : Ending) (w' : World) : Prop :=
  ∃ a m c q, e = .returned (.slice a m c) ∧ w' = w.drewN q ∧ Leads w a l ∧ l.length = m ∧ ∀ g, vn.ownBlock ≠ some g → Past g a l

theorem leads_mul {s : Nat} : ((s : Int) * 64) = ((s * 64 : Nat) : Int) := by omega

set_option maxRecDepth 100000 in
set_option maxHeartbeats 1000000 in
theorem first_any (w : World) (b : Nat) (A : FileA) (vn : Value) (c0 : w.cell? ⟨b, 0, none⟩ = some vn) (hv : Own w vn A.now) (hmost : A.now.length ≤ 4194304) (s n : Nat) (hs : s * 64 ≤ A.now.length) (hn : n ≤ 64) :
    Calls Try.prog 46 #[.pointer (some ⟨b, 0, none⟩), .int .i64 (s : Int), .int .i64 (n : Int)] w (FirstOut w vn (firstL A s n)) := by
  obtain ⟨a, cap, rfl, h1, h2, h3, h4, h5⟩ := hv.form
  obtain ⟨m, hm⟩ : ∃ m, A.now.length = m := ⟨_, rfl⟩
  rw [hm] at h1 hs hmost c0 ⊢
  have hq := run_cut a m cap (s * 64) (min (s * 64 + n) m) (by omega) (by omega)
  have hmin := fun w => run_min w (s * 64 + n) m
  have e1 : ((s * 64 + n : Nat) : Int) = (s : Int) * 64 + (n : Int) := by omega
  have e2 : ((s * 64 : Nat) : Int) = (s : Int) * 64 := by omega
  rw [e1] at hmin
  rw [e2] at hq
  have hout : ∀ q, FirstOut w (.slice a m cap) (firstL A s n) (.returned (.slice (cutAt a cap (s * 64)) (min (s * 64 + n) m - s * 64) (cap - s * 64))) (w.drewN q) := by
    intro q
    have hl := leads_cut (cap := cap) h4 (s * 64) (min (s * 64 + n) m) (by omega) (by omega) (by omega)
    have e : firstL A s n = (A.now.drop (s * 64)).take (min (s * 64 + n) m - s * 64) := by
      unfold firstL
      rw [List.take_eq_take_iff, List.length_drop, hm]
      omega
    rw [e]
    refine ⟨_, _, _, q, rfl, rfl, hl, ?_, fun g hg => ?_⟩
    · rw [List.length_take, List.length_drop, hm]; omega
    · rcases h5 with rfl | ⟨g', rfl, hg', _⟩
      · have := h3 rfl
        refine .inl ?_
        have : A.now = [] := List.eq_nil_of_length_eq_zero (by omega)
        rw [this]; simp
      · rw [hm] at hg'
        refine .inr fun b' off hb => ?_
        unfold cutAt at hb
        have : g' = b' := by
          split at hb
          · simp at hb; exact hb.1
          · simp [Addr.add_mid] at hb; exact hb.1
        subst this
        intro e; subst e; exact hg hg'
  have HO := Lib.hid hout
  have hsl2 : (s : Int) ≤ 65536 := by omega
  clear hout h3 h4 h5 hm hv e1 e2
  go_enter Try.func46, Try.ntmps46
  go_wp2_with fail
  go_quiet (fail)
  go_wp2
  go_ret
  exact HO.out _

/-- What 'newFile' answers with. -/
def NewFileOut (C : Nat → Prop) (w : World) (l : List Int) (e : Ending) (w' : World) : Prop :=
  ∃ b, e = .returned (.pointer (some ⟨b, 0, none⟩)) ∧ w.heap.size ≤ b ∧ IsFile (fun k => C k ∨ w.heap.size ≤ k) w' b ⟨l, l, []⟩ ∧ Below w.heap.size w w'

theorem fit_new {l : List Int} (hl : l.length ≤ 4194304) (hb : Byte l) : FileA.Fit ⟨l, l, []⟩ :=
  ⟨hl, Nat.le_refl _, hb, hb, List.Pairwise.nil, (fun s hs => by cases hs), fun i hi _ => ⟨hi, rfl⟩⟩

/-- The blocks of a new file. -/
theorem new_file {C : Nat → Prop} {w w1 : World} {v v2 : Value} {l : List Int} (hv : Own w v l) (hC : ∀ g, v.ownBlock = some g → C g) (hl : l.length ≤ 4194304) (hb : Byte l) (h2 : Own w1 v2 l) (hn : ∀ g, v2.ownBlock = some g → w.heap.size ≤ g) (hbel : Below w.heap.size w w1) :
    IsFile (fun k => C k ∨ w.heap.size ≤ k) ((w1.alloc (.map #[] 0)).alloc (.cells #[v, v2, .map (some w1.heap.size)] 67)) (w1.heap.size + 1) ⟨l, l, []⟩ ∧ Below w.heap.size w ((w1.alloc (.map #[] 0)).alloc (.cells #[v, v2, .map (some w1.heap.size)] 67)) := by
  have b1 : Below w1.heap.size w1 ((w1.alloc (.map #[] 0)).alloc (.cells #[v, v2, .map (some w1.heap.size)] 67)) := ((Below.refl _ _).alloc (Nat.le_refl _) _).alloc (by simp) _
  have v1 := (hv.later hbel).later b1
  have w2 := h2.later b1
  have hs := hbel.size
  refine ⟨⟨v, v2, w1.heap.size, ⟨Whole.new_ (by simp) rfl, v1, w2, ⟨0, World.ownsMap.alloc (World.ownsMap_made _ _ _ _) _⟩, .inr (by omega), .inr (by omega), fun g hg => ⟨.inl (hC g hg), ?_⟩, fun g hg => ⟨.inr (hn g hg), ?_, ?_⟩, fit_new hl hb⟩⟩, hbel.trans (b1.mono hs)⟩
  · have := (hv.later hbel).lt hg; omega
  · have := h2.lt hg; omega
  · intro e; have := hv.lt e; have := hn g hg; omega

set_option maxRecDepth 100000 in
set_option maxHeartbeats 1000000 in
theorem newFile_any {C : Nat → Prop} (w : World) (v : Value) (l : List Int) (hv : Own w v l) (hC : ∀ g, v.ownBlock = some g → C g) (hl : l.length ≤ 4194304) (hb : Byte l) :
    Calls Try.prog 34 #[v] w (NewFileOut C w l) := by
  obtain ⟨a, cap, rfl, h1, h2, h3, h4, h5⟩ := hv.form
  obtain ⟨n, hn⟩ : ∃ n, l.length = n := ⟨_, rfl⟩
  have hmm := @run_makeMap Try.prog
  cases a with
  | none =>
    have hz := h3 rfl
    obtain rfl : l = [] := List.eq_nil_of_length_eq_zero hz.1
    obtain rfl : cap = 0 := hz.2
    have K := Lib.hid (fun w1 (h2 : Own w1 (.slice none 0 0) []) hb1 => new_file (w1 := w1) hv hC hl hb h2 (fun g hg => by simp [Value.ownBlock] at hg) hb1)
    have HO := Lib.hid (Own.none_ w)
    clear hv hC h1 h2 h3 h4 h5 hl hb hz hn
    go_enter Try.func34, Try.ntmps34
    go_wp2_with fail
    refine (clone_nil _ _ _).mono ?_
    rintro e w1 ⟨rfl, rfl⟩
    go_wp2
    go_ret
    obtain ⟨k1, k2⟩ := K.out w HO.out (Below.refl _ _)
    exact ⟨_, rfl, by simp, k1, k2⟩
  | some ad =>
    rw [hn] at hv h1 hl ⊢
    have K := Lib.hid (fun w1 v2 (h2 : Own w1 v2 l) hb1 hb2 => new_file (w1 := w1) hv hC (by omega) hb h2 hb1 hb2)
    have HN := Lib.hid hn
    have HL := Lib.hid h4
    clear hv hC h2 h3 h4 h5 hb hn
    go_enter Try.func34, Try.ntmps34
    go_wp2_with fail
    refine (clone_some ad n cap l w HN.out HL.out (by omega)).mono ?_
    rintro e w1 ⟨v2, rfl, o2, b2, b3⟩
    obtain ⟨k1, k2⟩ := K.out w1 v2 o2 b2 b3
    have hs1 := b3.size
    obtain ⟨a2, c2, rfl, _⟩ := o2.form
    have K1 := Lib.hid k1
    have K2 := Lib.hid k2
    clear K k1 k2 o2 b2 b3
    go_wp2
    go_ret
    exact ⟨_, rfl, by omega, K1.out, K2.out⟩
end Go.Proofs.Ytpbffjpghnijkaa.disk
