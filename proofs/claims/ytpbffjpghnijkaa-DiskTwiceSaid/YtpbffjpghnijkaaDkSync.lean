/-
  CONTRACT of (*disk.file).sync.
-/
import Derived.Test.YtpbffjpghnijkaaDkWrite
import Derived.Deep.RegionLaw
import Derived.Deep.RegionWith
import Derived.Deep.RegionHeld3
import Derived.StillTailTactics
namespace Go.Proofs.Ytpbffjpghnijkaa.disk
open Go.RowKit Go.Maps

/-- What was synced so far: each sector that is not to come any more is as it is now. -/
structure Part (A : FileA) (old : List Int) (left : Lit → Bool) : Prop where
  byte : Byte old
  le : old.length ≤ A.now.length
  at_ : ∀ i, i < A.now.length → left (.int .i64 ((i / 64 : Nat) : Int)) = false → i < old.length ∧ old.getD i 0 = A.now.getD i 0

theorem has_secs (l : List Nat) (s : Nat) : Maps.has (secs l) (.int .i64 (s : Int)) = decide (s ∈ l) := by
  show (l.map fun (s : Nat) => (Lit.int .i64 (s : Int), (DataW.agg [] : DataW Unit))).any (fun p => p.1.sameKey (.int .i64 (s : Int))) = _
  rw [Bool.eq_iff_iff, List.any_eq_true, decide_eq_true_iff]
  constructor
  · rintro ⟨p, hp, hk⟩
    obtain ⟨x, hx, rfl⟩ := List.mem_map.1 hp
    have : (x : Int) = s := by simpa [Lit.sameKey] using hk
    obtain rfl : x = s := by omega
    exact hx
  · intro h
    exact ⟨_, List.mem_map.2 ⟨s, h, rfl⟩, by simp [Lit.sameKey]⟩
theorem key_secs {l : List Nat} {kl : Lit} (h : Maps.has (secs l) kl = true) : ∃ s : Nat, s ∈ l ∧ kl = .int .i64 (s : Int) := by
  obtain ⟨p, hp, hk⟩ := List.any_eq_true.1 (show (l.map fun (s : Nat) => (Lit.int .i64 (s : Int), (DataW.agg [] : DataW Unit))).any (fun p => p.1.sameKey kl) = true from h)
  obtain ⟨x, hx, rfl⟩ := List.mem_map.1 hp
  exact ⟨x, hx, (WideAt.sameKey_eq hk).symm⟩

theorem firstL_length (A : FileA) (s n : Nat) : (firstL A s n).length = min n (A.now.length - s * 64) := by rw [firstL, List.length_take, List.length_drop]
theorem firstL_at (A : FileA) (s n i : Nat) (h : i < n) : (firstL A s n).getD i 0 = A.now.getD (s * 64 + i) 0 := by
  rw [firstL]; simp only [List.getD_eq_getElem?_getD]; rw [List.getElem?_take_of_lt h, List.getElem?_drop]
theorem firstL_byte {A : FileA} (h : A.Fit) (s n : Nat) : Byte (firstL A s n) := (h.bnow.drop _).take _

theorem Part.start {A : FileA} (h : A.Fit) : Part A A.old (Maps.has (secs A.dirty)) :=
  ⟨h.bold, h.le, fun i hi hl => h.clean i hi (by rw [has_secs] at hl; simpa using hl)⟩
theorem Part.step {A : FileA} {old : List Int} {left : Lit → Bool} (hf : A.Fit) (h : Part A old left) {s : Nat} (hs : s * 64 < A.now.length) : Part A (laidL old (s * 64) (firstL A s 64)) (fun z => left z && !z.sameKey (.int .i64 (s : Int))) := by
  have hlen := firstL_length A s 64
  have hne : firstL A s 64 ≠ [] := by intro e; rw [e] at hlen; simp at hlen; omega
  have hl := laidL_length old (s * 64) _ hne
  refine ⟨h.byte.laid (firstL_byte hf _ _) _, ?_, fun i hi hl' => ?_⟩
  · have := h.le; omega
  · rw [getD_laid _ _ _ _ hne]
    by_cases hi64 : i / 64 = s
    · refine ⟨by omega, ?_⟩
      rw [if_neg (by omega), if_pos (by omega), firstL_at _ _ _ _ (by omega)]
      congr 1; omega
    · have hl2 : left (.int .i64 ((i / 64 : Nat) : Int)) = false := by
        have e : (Lit.int .i64 ((i / 64 : Nat) : Int)).sameKey (.int .i64 (s : Int)) = false := by
          simp [Lit.sameKey]; omega
        rw [e] at hl'
        simpa using hl'
      obtain ⟨k1, k2⟩ := h.at_ i hi hl2
      refine ⟨by omega, ?_⟩
      rw [k2]
      by_cases h3 : i < s * 64
      · rw [if_pos h3]
      · rw [if_neg h3, if_neg (by omega)]
theorem Part.end_ {A : FileA} {old : List Int} {left : Lit → Bool} (h : Part A old left) (hl : ∀ kl, left kl = false) : old = A.now := by
  have hle : A.now.length ≤ old.length := by
    rcases Nat.eq_zero_or_pos A.now.length with h0 | h0
    · omega
    · have := (h.at_ (A.now.length - 1) (by omega) (hl _)).1; omega
  have := h.le
  apply List.ext_getElem (by omega)
  intro i h1 h2
  have := (h.at_ i h2 (hl _)).2
  simpa [List.getD_eq_getElem?_getD, List.getElem?_eq_getElem h1, List.getElem?_eq_getElem h2] using this

theorem laid_sector (v : Value) (l : List Int) (s : Nat) (A : Option Addr) (m mcap : Nat) (part : List Int) (w : World) (hv : Own w v l) (hp : Leads w A part) (hps : ∀ g, v.ownBlock = some g → Past g A part) (hm : part.length = m) (hl : l.length ≤ 100000000) (hpm : s * 64 + m ≤ 100000000) :
    Calls Try.prog 45 #[v, .int .i64 (IntKind.i64.wrap ((s : Int) * 64)), .slice A m mcap] w (LaidOut w v (laidL l (s * 64) part)) := by
  have h := laid_any v l (s * 64) A m mcap part w hv hp hps hm hl hpm
  rwa [show ((s * 64 : Nat) : Int) = IntKind.i64.wrap ((s : Int) * 64) by rw [IntKind.wrap_i64]; omega] at h

/-- A file being synced. -/
structure Syncing (C : Nat → Prop) (w : World) (b : Nat) (A : FileA) (vn : Value) (dm r : Nat) (vs : Value) (old : List Int) (left : Lit → Bool) (cnt : Nat) (wr : World) : Prop where
  cells : Whole wr b 67 [vn, vs, .map (some dm)]
  cur : Own wr vn A.now
  olds : Own wr vs old
  ranges : ∃ n, wr.ranges Try.prog 3 (unitElem (H := Unit)) dm r n (secs A.dirty) left cnt
  ins : ∀ g, vs.ownBlock = some g → (C g ∨ w.heap.size ≤ g) ∧ g ≠ b ∧ vn.ownBlock ≠ some g
  part : Part A old left
  turn : Turn C w wr

/-- What 'sync' leaves. -/
def SyncOut (C : Nat → Prop) (w : World) (b : Nat) (A : FileA) (e : Ending) (w' : World) : Prop :=
  e = .returned (.tuple #[]) ∧ IsFile (fun k => C k ∨ w.heap.size ≤ k) w' b ⟨A.now, A.now, []⟩ ∧ Turn C w w'

set_option maxRecDepth 100000 in
set_option maxHeartbeats 1000000 in
theorem sync_any {C : Nat → Prop} (w : World) (b : Nat) (A : FileA) (h : IsFile C w b A) :
    Calls Try.prog 36 #[.pointer (some ⟨b, 0, none⟩)] w (SyncOut C w b A) := by
  obtain ⟨vn, vs, dm, h⟩ := h
  have hmap := h.map
  have HH := Lib.hid h
  have HM := Lib.hid hmap
  have hc2 := h.cell2
  have hsz := h.cells.lt
  have hmm := @run_makeMap Try.prog
  clear h hmap
  go_enter Try.func36, Try.ntmps36
  go_wp2_with (first
    | (at_range; refine wpList_range_own _ rfl _ 65 rfl 3 80 intLaw Try.underlying65 unitElem dm A.dirty.length (secs A.dirty) rfl HM.out ?_; intro w0 hrg0 hg0 hs0)
    | fail)
  have HRG := Lib.hid hrg0
  have HG := Lib.hid hg0
  clear hrg0 hg0 hs0 hc2
  go_frame
  go_loopw [2] (fun _ wr => ∃ vs old left cnt, Syncing C w b A vn dm w.heap.size vs old left cnt wr) (fun _ wr => wr.rangeLeft dm w.heap.size)
  case atStart =>
    have h := HH.out
    have t0 : Turn C w w0 := Turn.of_none HG.out
    have es : ∀ k, k < w.heap.size → w0.heap[k]? = w.heap[k]? := fun k hk => HG.out.block k hk (by simp)
    refine ⟨vs, A.old, _, _, Whole.same h.cells (es b hsz), h.now.same fun g hg => es g (h.now.lt hg), h.old.same fun g hg => es g (h.old.lt hg), ⟨_, HRG.out⟩, fun g hg => ⟨.inl (h.ins g hg).1, (h.ins g hg).2⟩, Part.start h.fit, t0⟩
  case round =>
    obtain ⟨vs1, old1, left, cnt, hS⟩ := hrel
    obtain ⟨n, hrg⟩ := hS.ranges
    have HS := Lib.hid hS
    have HR := Lib.hid hrg
    clear hS hrg
    go_wp2_with (first
      | (at_next; refine wpList_next_ranges _ rfl _ rfl 3 intLaw unitElem (Value.int .i64) (fun _ : Unit => .agg #[]) (fun key kl hkey => by obtain ⟨x, hx, _⟩ := Maps.keyOf_int_inv Try.underlying3 hkey; exact ⟨x, hx⟩) (fun v y hv => ⟨(), (unitElem_inv hv).1⟩) dm w.heap.size n _ _ _ rfl HR.out ?_ ?_)
      | fail)
    · intro _ hl0
      have d2 : wr.cell? ⟨b, 2, none⟩ = some (.map (some dm)) := (HS.out.cells.at_ 2).trans rfl
      have f2 := HS.out.cells.free 2
      have hbl := HS.out.cells.lt
      have HL0 := Lib.hid hl0
      clear hl0
      go_wp2_with fail
      go_end0
      have hS := HS.out
      have hH := HH.out
      have hold : old1 = A.now := hS.part.end_ HL0.out
      have ea : ∀ k, k < wr.heap.size → k ≠ b → ((wr.setCell ⟨b, 2, none⟩ (.map (some wr.heap.size))).alloc (.map #[] 0)).heap[k]? = wr.heap[k]? := fun k hk hne => (heap_alloc_old (wr.setCell ⟨b, 2, none⟩ (.map (some wr.heap.size))) _ (show k < (wr.setCell ⟨b, 2, none⟩ (.map (some wr.heap.size))).heap.size by simpa [World.setCell] using hk)).trans (heap_setCell_other wr ⟨b, 2, none⟩ k _ hne)
      have en := World.ownsMap_made (H := Unit) (wr.setCell ⟨b, 2, none⟩ (.map (some wr.heap.size))) Try.prog 3 unitElem
      have esz : (wr.setCell ⟨b, 2, none⟩ (.map (some wr.heap.size))).heap.size = wr.heap.size := by simp [World.setCell]
      rw [esz] at en
      have hws := hS.turn.size
      refine ⟨rfl, ⟨vn, vs1, wr.heap.size, (hS.cells.put 2 _).more _, hS.cur.same fun g hg => ea g (hS.cur.lt hg) (hH.inn g hg).2, ?_, ⟨0, en⟩, .inl hH.inb, .inr hws, fun g hg => ⟨.inl (hH.inn g hg).1, (hH.inn g hg).2⟩, fun g hg => hS.ins g hg, ?_⟩, (hS.turn.setCell 2 _ (.inl hH.inb)).alloc _⟩
      · rw [← hold]
        exact hS.olds.same fun g hg => ea g (hS.olds.lt hg) (hS.ins g hg).2.1
      · exact fit_new hH.fit.most hH.fit.bnow
    · intro x kl yd yp w1 cnt1 hkey hlk hv hat hrg1 hlt hg1 hs1 hen
      obtain ⟨x', ex, rfl, _⟩ := Maps.keyOf_int_inv Try.underlying3 hkey
      cases ex
      obtain ⟨s, hs, es⟩ := key_secs (Maps.has_true_of_atKey hat)
      obtain rfl : x = (s : Int) := by injection es
      clear es hkey hv hlk hs1
      have hS := HS.out
      have hin := HH.out.fit.inside s hs
      have hmo := HH.out.fit.most
      obtain ⟨a1, cap1, ev, hf1, hf2, hf3, hf4, hf5⟩ := hS.olds.form
      subst ev
      have cells1 : Whole w1 b 67 [vn, .slice a1 old1.length cap1, .map (some dm)] := hS.cells.grown hg1 (fun e => by injection e with e; omega)
      have now1 : Own w1 vn A.now := hS.cur.same fun g hg => hg1.block g (hS.cur.lt hg) (fun e => by have := HH.out.now.lt hg; injection e with e; omega)
      have d1 : w1.cell? ⟨b, 1, none⟩ = some (.slice a1 old1.length cap1) := by rw [cells1.at_]; rfl
      have d0 : w1.cell? ⟨b, 0, none⟩ = some vn := by rw [cells1.at_]; rfl
      have f1 := cells1.free 1
      have hsl : (s : Int) ≤ 65536 := by omega
      have D0 := Lib.hid d0
      have N1 := Lib.hid now1
      clear d0 now1 hs hat hf1 hf2 hf3 hf4 hf5 hS
      have O1 := Lib.hid (show Own w1 (.slice a1 old1.length cap1) old1 from HS.out.olds.same fun g hg => hg1.block g (HS.out.olds.lt hg) (fun e => by
        injection e with e
        subst e
        obtain ⟨es, clock, since, seen, c0, _, _, _, _, hr, _⟩ := HR.out
        rcases HS.out.olds.2 with ⟨e1, _⟩ | ⟨g', cap', cur, e1, _, hgg, _⟩
        · rw [e1] at hg; cases hg
        · rw [e1] at hg
          injection hg with hg
          have hg' : g' = w.heap.size := hg
          subst hg'
          rw [hr] at hgg
          cases hgg))
      have hole := HS.out.part.le
      have CE1 := Lib.hid cells1
      clear cells1
      go_wp2_with fail
      go_region_law (first
        | (go_simp; go_at_call 46; refine (first_any _ b A vn (by exact D0.out) (by exact N1.out) hmo s 64 (by omega) (by omega)).mono ?_; rintro e w2 ⟨a2, m2, c2, q2, rfl, rfl, l2, e2, p2⟩; have L2 := Lib.hid l2; have E2 := Lib.hid e2; have P2 := Lib.hid p2; clear l2 e2 p2)
        | (go_simp; go_at_call 45; refine (laid_sector _ old1 s _ _ _ (firstL A s 64) _ (by exact O1.out) (by exact L2.out) (fun g hg => P2.out g (fun e => (HS.out.ins g hg).2.2 e)) E2.out (by omega) (by rw [← E2.out, firstL_length]; omega)).mono ?_; rintro e w3 ⟨v3, rfl, o3, g3, h3⟩; obtain ⟨a3, cap3, ev3, _⟩ := o3.form; subst ev3; have cw3 : Whole w3 b 67 [vn, .slice a1 old1.length cap1, .map (some dm)] := Whole.same (by exact CE1.out) (g3.block b CE1.out.lt (fun e => (HS.out.ins b e.symm).2.1 rfl)); have d3 : w3.cell? ⟨b, 1, none⟩ = some (.slice a1 old1.length cap1) := (cw3.at_ 1).trans rfl; have f3 := cw3.free 1; have CW3 := Lib.hid cw3; clear cw3; have O3 := Lib.hid o3; have G3 := Lib.hid g3; have H3 := Lib.hid h3; clear o3 g3 h3))
      all_goals
        have hS := HS.out
        have hH := HH.out
        have tG : w1.grownBy w3 (Value.slice a1 old1.length cap1).ownBlock := ⟨G3.out.os, G3.out.tape, G3.out.output, G3.out.size, G3.out.block⟩
        have hr1 := hrg1.lt
        have hins3 : ∀ g, (Value.slice a3 (laidL old1 (s * 64) (firstL A s 64)).length cap3).ownBlock = some g → (C g ∨ w.heap.size ≤ g) ∧ g ≠ b ∧ vn.ownBlock ≠ some g := by
          intro g hg
          rcases H3.out with h3 | ⟨g', h3, h4⟩
          · rw [h3] at hg; exact hS.ins g hg
          · rw [hg] at h3
            injection h3 with h3
            subst h3
            have h4' : w1.heap.size ≤ g := h4
            refine ⟨.inr (by have := hS.turn.size; have := hg1.size; omega), by have := CE1.out.lt; omega, fun e => ?_⟩
            have := N1.out.lt e; omega
        have hrow : (w.heap.size : Nat) ≠ b := by omega
        have hrv : some w.heap.size ≠ (Value.slice a1 old1.length cap1).ownBlock := by
          intro e
          obtain ⟨es, clock, since, seen, c0, _, _, _, _, hr, _⟩ := hrg1
          rcases O1.out.2 with ⟨e1, _⟩ | ⟨g', cap', cur, e1, _, hgg, _⟩
          · rw [e1] at e; cases e
          · rw [e1] at e
            injection e with e
            have hg' : w.heap.size = g' := e
            subst hg'
            rw [hr] at hgg
            cases hgg
        have hdv : some dm ≠ (Value.slice a1 old1.length cap1).ownBlock := fun e => map_ne_row hrg1.owns O1.out e.symm rfl
        have hdb : dm ≠ b := map_ne_whole hrg1.owns CE1.out
        have es3 : ∀ k, k ≠ b → (w3.setCell ⟨b, 1, none⟩ (.slice a3 (laidL old1 (s * 64) (firstL A s 64)).length cap3)).heap[k]? = w3.heap[k]? := fun k hk => heap_setCell_other w3 ⟨b, 1, none⟩ k _ hk
        have gs3 : w3.grownBy (w3.setCell ⟨b, 1, none⟩ (.slice a3 (laidL old1 (s * 64) (firstL A s 64)).length cap3)) (some b) := ⟨rfl, rfl, rfl, by simp [World.setCell], fun k _ hk => es3 k (fun e => hk (by rw [e]))⟩
        have rg3 := (hrg1.kept tG hdv hrv).kept gs3 (fun e => hdb (by injection e)) (fun e => hrow (by injection e))
        have fin : Syncing C w b A vn dm w.heap.size (.slice a3 (laidL old1 (s * 64) (firstL A s 64)).length cap3) (laidL old1 (s * 64) (firstL A s 64)) (fun z => left z && !z.sameKey (.int .i64 (s : Int))) cnt1 (w3.setCell ⟨b, 1, none⟩ (.slice a3 (laidL old1 (s * 64) (firstL A s 64)).length cap3)) := by
          refine ⟨CW3.out.put 1 _, ?_, O3.out.same fun g hg => es3 g (hins3 g hg).2.1, ⟨_, rg3⟩, hins3, hS.part.step hH.fit hin, ?_⟩
          · refine N1.out.same fun g hg => (es3 g (hH.inn g hg).2).trans (tG.block g (N1.out.lt hg) fun e => (hS.ins g e.symm).2.2 hg)
          · have t1 : Turn C w w1 := hS.turn.trans (Turn.of_grown (R := fun k => w.heap.size ≤ k) hg1 (Nat.le_refl _)) (fun k hk e => absurd hk (by omega))
            have t2 : Turn C w w3 := t1.trans (Turn.of_row (R := fun k => C k ∨ w.heap.size ≤ k) tG fun g hg => (hS.ins g hg).1) (fun k hk e => by rcases e with e | e; exact e; omega)
            exact t2.setCell 1 _ (.inl hH.inb)
        have FIN := Lib.hid fin
        have RL := Lib.hid rg3.left_eq
        clear fin rg3 gs3 es3 hins3 hdv hrv hdb tG hS hH hen hg1 hrg1
        go_roundw
        case rel => first | exact ⟨_, _, _, _, FIN.out⟩ | ((repeat apply Exists.intro); exact ⟨⟨_, _, _, _, FIN.out⟩, rfl⟩)
        case measure => rw [RL.out, HR.out.left_eq]; exact hlt
end Go.Proofs.Ytpbffjpghnijkaa.disk
