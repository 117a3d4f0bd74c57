/-
  CONTRACTS of (*disk.fate).next and (*disk.fate).leave: what a crash leaves of a file.
-/
import Derived.Test.YtpbffjpghnijkaaDkSync
import Derived.Test.YtpbffjpghnijkaaDkKeys
namespace Go.Proofs.Ytpbffjpghnijkaa.disk
open Go.RowKit Go.Maps

/-- A []bool that is only read. -/
structure Bools (w : World) (a : Option Addr) (n : Nat) (l : List Bool) : Prop where
  length : l.length = n
  most : n ≤ 9223372036854775807
  cells : n = 0 ∨ ∃ b off, a = some ⟨b, off, none⟩ ∧ ∀ i, i < n → w.cell? ⟨b, off + i, none⟩ = some (.bool (l.getD i false))
theorem Bools.turned {R : Nat → Prop} {w w' : World} {a : Option Addr} {n : Nat} {l : List Bool} (h : Bools w a n l) (ht : Turn R w w') (hR : ∀ b off, a = some ⟨b, off, none⟩ → 0 < n → ¬ R b) : Bools w' a n l := by
  refine ⟨h.length, h.most, ?_⟩
  rcases h.cells with h0 | ⟨b, off, rfl, hc⟩
  · exact .inl h0
  · rcases Nat.eq_zero_or_pos n with h0 | h0
    · exact .inl h0
    · exact .inr ⟨b, off, rfl, fun i hi => (ht.cell (block_lt_of_cell (hc i hi)) (hR b off rfl h0)).trans (hc i hi)⟩

/-- How many first bytes of the i-th dirty sector are as they are now. -/
def takes (keep : List Bool) (torn : Int) (i : Nat) : Nat := if (i : Int) = torn then 32 else if keep.getD i false then 64 else 0
theorem takes_le (keep : List Bool) (torn : Int) (i : Nat) : takes keep torn i ≤ 64 := by unfold takes; split; omega; split <;> omega

def fateCells (ka : Option Addr) (kn kc : Nat) (torn : Int) (i : Nat) : List Value := [.slice ka kn kc, .int .i64 torn, .int .i64 (i : Int)]

/-- What 'next' answers with. -/
def NextOut (w : World) (t k : Nat) (i : Nat) (e : Ending) (w' : World) : Prop :=
  e = .returned (.int .i64 ((k : Nat) : Int)) ∧ w' = w.setCell ⟨t, 2, none⟩ (.int .i64 ((i + 1 : Nat) : Int))

set_option maxRecDepth 100000 in
set_option maxHeartbeats 1000000 in
theorem next_any (w : World) (t : Nat) (ka : Option Addr) (kn kc : Nat) (keep : List Bool) (torn : Int) (i : Nat) (h : Whole w t 75 (fateCells ka kn kc torn i)) (hk : Bools w ka kn keep) (hkt : ∀ b off, ka = some ⟨b, off, none⟩ → 0 < kn → b ≠ t) (hi : i ≤ 1000000000000000) :
    Calls Try.prog 51 #[.pointer (some ⟨t, 0, none⟩)] w (NextOut w t (takes keep torn i) i) := by
  have c0 : w.cell? ⟨t, 0, none⟩ = some (.slice ka kn kc) := (h.at_ 0).trans rfl
  have c1 : w.cell? ⟨t, 1, none⟩ = some (.int .i64 torn) := (h.at_ 1).trans rfl
  have c2 : w.cell? ⟨t, 2, none⟩ = some (.int .i64 (i : Int)) := (h.at_ 2).trans rfl
  have f2 := h.free 2
  have hkl := hk.length
  have hkm := hk.most
  have hlast : ((i : Int) + 1) = ((i + 1 : Nat) : Int) := by omega
  by_cases ht : (i : Int) = torn
  · have hN : takes keep torn i = 32 := by rw [takes, if_pos ht]
    have hb : ((i : Int) == torn) = true := by rw [beq_iff_eq]; exact ht
    have HO := Lib.hid (show NextOut w t (takes keep torn i) i (.returned (.int .i64 32)) (w.setCell ⟨t, 2, none⟩ (.int .i64 ((i : Int) + 1))) from by rw [hN, hlast]; exact ⟨rfl, rfl⟩)
    clear h hk hkt hkl hlast ht hN
    go_enter Try.func51, Try.ntmps51
    go_wp2
    go_ret
    exact HO.out
  · have hb : ((i : Int) == torn) = false := by rw [beq_eq_false_iff_ne]; exact ht
    by_cases hlt : i < kn
    · have hc : ∃ b off, ka = some ⟨b, off, none⟩ ∧ w.cell? ⟨b, off + i, none⟩ = some (.bool (keep.getD i false)) ∧ b ≠ t := by
        rcases hk.cells with h0 | ⟨b, off, e, hc⟩
        · omega
        · exact ⟨b, off, e, hc i hlt, hkt b off e (by omega)⟩
      obtain ⟨kb, off, rfl, hcell, hkb⟩ := hc
      have hcell2 : (w.setCell ⟨t, 2, none⟩ (.int .i64 ((i : Int) + 1))).cell? ⟨kb, off + i, none⟩ = some (.bool (keep.getD i false)) := by
        rw [← hcell]
        exact World.cell?_of_block (a := ⟨kb, off + i, none⟩) (heap_setCell_other w ⟨t, 2, none⟩ kb _ hkb)
      have hN : takes keep torn i = if keep.getD i false then 64 else 0 := by rw [takes, if_neg ht]
      cases hv : keep.getD i false
      all_goals
        rw [hv] at hcell2 hN
        simp only [if_true, if_false, Bool.false_eq_true] at hN
        have HO := Lib.hid (fun v (hv : v = ((takes keep torn i : Nat) : Int)) => show NextOut w t (takes keep torn i) i (.returned (.int .i64 v)) (w.setCell ⟨t, 2, none⟩ (.int .i64 ((i : Int) + 1))) from by rw [hv, hlast]; exact ⟨rfl, rfl⟩)
        have HN := Lib.hid hN
        clear h hk hkt hkl hlast ht hN hcell hv
        go_enter Try.func51, Try.ntmps51
        go_wp2
        go_ret
        exact HO.out _ (by rw [HN.out]; rfl)
    · have hN : takes keep torn i = 0 := by
        rw [takes, if_neg ht, List.getD_eq_getElem?_getD, List.getElem?_eq_none (by omega)]; rfl
      have HO := Lib.hid (show NextOut w t (takes keep torn i) i (.returned (.int .i64 0)) (w.setCell ⟨t, 2, none⟩ (.int .i64 ((i : Int) + 1))) from by rw [hN, hlast]; exact ⟨rfl, rfl⟩)
      clear h hk hkt hkl hlast ht hN
      go_enter Try.func51, Try.ntmps51
      go_wp2
      go_ret
      exact HO.out

/-! leave -/
/-- What is left of a file: from the k-th sector on, those of l laid over b. -/
def leaveL (A : FileA) (keep : List Bool) (torn : Int) : Nat → List Nat → List Int → List Int
  | _, [], b => b
  | k, s :: r, b => leaveL A keep torn (k + 1) r (laidL b (s * 64) (firstL A s (takes keep torn k)))

theorem laid_first_le {A : FileA} {b : List Int} {s k : Nat} (hb : b.length ≤ A.now.length) (hs : s * 64 ≤ A.now.length) : (laidL b (s * 64) (firstL A s k)).length ≤ A.now.length := by
  have := laidL_length_le b (s * 64) (firstL A s k)
  have := firstL_length A s k
  omega

theorem clone_any (w : World) (v : Value) (l : List Int) (hv : Own w v l) (hn : l.length ≤ 100000000) :
    Calls Try.prog 39 #[v] w fun e w' => ∃ v', e = .returned v' ∧ Own w' v' l ∧ (∀ g, v'.ownBlock = some g → w.heap.size ≤ g) ∧ Below w.heap.size w w' := by
  obtain ⟨a, cap, rfl, h1, h2, h3, h4, h5⟩ := hv.form
  cases a with
  | none =>
    obtain rfl : l = [] := List.eq_nil_of_length_eq_zero (h3 rfl).1
    refine (clone_nil _ _ w).mono ?_
    rintro e w' ⟨rfl, rfl⟩
    exact ⟨_, rfl, Own.none_ _, (fun g hg => by cases hg), Below.refl _ _⟩
  | some ad => exact clone_some ad l.length cap l w rfl h4 hn

theorem laid_bare (v : Value) (l : List Int) (s : Nat) (A : Option Addr) (m mcap : Nat) (part : List Int) (w : World) (hv : Own w v l) (hp : Leads w A part) (hps : ∀ g, v.ownBlock = some g → Past g A part) (hm : part.length = m) (hl : l.length ≤ 100000000) (hpm : s * 64 + m ≤ 100000000) :
    Calls Try.prog 45 #[v, .int .i64 ((s : Int) * 64), .slice A m mcap] w (LaidOut w v (laidL l (s * 64) part)) := by
  have h := laid_any v l (s * 64) A m mcap part w hv hp hps hm hl hpm
  rwa [show ((s * 64 : Nat) : Int) = (s : Int) * 64 by omega] at h

/-- The sectors in memory. -/
theorem nats_row {w : World} {base : Nat} {v : Value} {l : List Nat} (h : w.ownsRow base 3 1 v l.length (l.map fun (s : Nat) => encZ (s : Int))) :
    ∃ a cap, v = .slice a l.length cap ∧ l.length ≤ cap ∧ cap ≤ 9223372036854775807 ∧ ((a = none ∧ l = []) ∨ ∃ g, a = some ⟨g, 0, none⟩ ∧ v.ownBlock = some g ∧ g < w.heap.size ∧ base ≤ g ∧ ∀ i, i < l.length → w.cell? ⟨g, i, none⟩ = some (.int .i64 ((l.getD i 0 : Nat) : Int))) := by
  have hlt := World.ownsRow.lt h
  have hc := fun g hg => World.ownsRow.cells h (g := g) hg
  rcases h.2 with ⟨rfl, h0⟩ | ⟨g, cap, cur, rfl, hb, _, h1, h2, _, _⟩
  · have : l = [] := List.eq_nil_of_length_eq_zero h0
    exact ⟨none, 0, by rw [h0], by omega, by omega, .inl ⟨rfl, this⟩⟩
  · unfold maxLen at h2
    refine ⟨_, cap, rfl, h1, by omega, .inr ⟨g, rfl, rfl, (hlt g rfl).2, hb, fun i hi => ?_⟩⟩
    have := hc g rfl i (.int .i64 ((l.getD i 0 : Nat) : Int)) (by simp [List.getD_eq_getElem?_getD, List.getElem?_eq_getElem hi])
    rwa [Addr.add_mid, Nat.zero_add] at this

/-- A file being left. -/
structure Leaving (C : Nat → Prop) (w : World) (t b : Nat) (A : FileA) (vn vs : Value) (dm : Nat) (ka : Option Addr) (kn kc : Nat) (keep : List Bool) (torn : Int) (k : Nat) (j : Nat) (v : Value) (l : List Int) (vg : Option Nat) (wr : World) : Prop where
  file : FileAt C wr b A vn vs dm
  fate : Whole wr t 75 (fateCells ka kn kc torn (k + j))
  row : Own wr v l
  new_ : ∀ g, v.ownBlock = some g → w.heap.size ≤ g ∧ vg ≠ some g
  byte : Byte l
  le : l.length ≤ A.now.length
  left : leaveL A keep torn (k + j) (A.dirty.drop j) l = leaveL A keep torn k A.dirty A.old
  only : w.grownBy wr (some t)
  far : ∀ g, vg = some g → w.heap.size ≤ g
  sec : ∀ g, vg = some g → ∀ i, i < A.dirty.length → wr.cell? ⟨g, i, none⟩ = some (.int .i64 ((A.dirty.getD i 0 : Nat) : Int))

/-- What 'leave' answers with. -/
def LeaveOut (w : World) (t : Nat) (ka : Option Addr) (kn kc : Nat) (torn : Int) (k : Nat) (A : FileA) (l : List Int) (e : Ending) (w' : World) : Prop :=
  ∃ v, e = .returned v ∧ Own w' v l ∧ Byte l ∧ l.length ≤ A.now.length ∧ (∀ g, v.ownBlock = some g → w.heap.size ≤ g) ∧ Whole w' t 75 (fateCells ka kn kc torn (k + A.dirty.length)) ∧ w.grownBy w' (some t)

set_option maxRecDepth 100000 in
set_option maxHeartbeats 1000000 in
theorem leave_any {C : Nat → Prop} (w : World) (t b : Nat) (A : FileA) (h : IsFile C w b A) (hCt : ¬ C t) (hCl : ∀ x, C x → x < w.heap.size) (ka : Option Addr) (kn kc : Nat) (keep : List Bool) (torn : Int) (k : Nat) (hf : Whole w t 75 (fateCells ka kn kc torn k)) (hk : Bools w ka kn keep) (hkt : ∀ b off, ka = some ⟨b, off, none⟩ → 0 < kn → b ≠ t) (hkb : k ≤ 100000000000000) :
    Calls Try.prog 42 #[.pointer (some ⟨t, 0, none⟩), .pointer (some ⟨b, 0, none⟩)] w (LeaveOut w t ka kn kc torn k A (leaveL A keep torn k A.dirty A.old)) := by
  obtain ⟨vn, vs, dm, h⟩ := h
  have hfit := h.fit
  have hmo := hfit.most
  have hle := hfit.le
  have hfew := hfit.few
  have HH := Lib.hid h
  have HF := Lib.hid hf
  have HK := Lib.hid hk
  have HKT := Lib.hid hkt
  have hlt := h.cells.lt
  have hftl := hf.lt
  obtain ⟨ao, cs, rfl, hs1, hs2, hs3, hs4, hs5⟩ := h.old.form
  have d1 := h.cell1
  have cC := Lib.hid (clone_any w _ A.old h.old (by omega))
  have FIT := Lib.hid hfit
  clear h hf hk hkt hs3 hs4 hs5 hfit
  go_enter Try.func42, Try.ntmps42
  go_wp2_with fail
  refine cC.out.mono ?_
  rintro e w1 ⟨v1, rfl, o1, n1, b1⟩
  obtain ⟨a1, cap1, e1, _⟩ := o1.form
  subst e1
  have H1 := Lib.hid (HH.out.same (w' := w1) (C := C) fun k hk _ => b1.block k hk)
  have F1 := Lib.hid (HF.out.kept b1)
  have O1 := Lib.hid o1
  have N1 := Lib.hid n1
  have B1 := Lib.hid b1
  have cS := Lib.hid (sectors_any w1 b dm _ A.dirty H1.out.cell2 H1.out.map FIT.out.rising (by omega))
  clear o1 n1 b1 d1
  go_wp2_with fail
  refine cS.out.mono ?_
  rintro e w2 ⟨v2, rfl, o2, b2⟩
  obtain ⟨a2, cap2, e2, k1, k2, k3⟩ := nats_row o2
  subst e2
  obtain ⟨N, hN⟩ : ∃ N, A.dirty.length = N := ⟨_, rfl⟩
  have start : Leaving C w t b A vn (.slice ao A.old.length cs) dm ka kn kc keep torn k 0 (.slice a1 A.old.length cap1) A.old (Value.slice a2 A.dirty.length cap2).ownBlock w2 := by
    have hsz := B1.out.size
    refine ⟨H1.out.same fun k hk _ => b2.block k hk, F1.out.kept b2, O1.out.later b2, fun g hg => ⟨N1.out g hg, fun e => ?_⟩, FIT.out.bold, FIT.out.le, rfl, ?_, fun g hg => ?_, fun g hg i hi => ?_⟩
    · have h1 := O1.out.lt hg
      have h2 := (World.ownsRow.lt o2 g e).1
      omega
    · have b3 := B1.out.trans (b2.mono hsz)
      exact ⟨b3.os, b3.tape, b3.output, b3.size, fun k hk _ => b3.block k hk⟩
    · have := (World.ownsRow.lt o2 g hg).1; omega
    · rcases k3 with ⟨rfl, h0⟩ | ⟨g', rfl, hg', _, _, hc⟩
      · rw [h0] at hi; simp at hi
      · have : g' = g := by injection hg
        subst this
        exact hc i hi
  rw [hN] at k1 start hfew k3 ⊢
  have ST := Lib.hid start
  have HN := Lib.hid hN
  have hbase : ∀ g, (Value.slice a2 N cap2).ownBlock = some g → a2 = some ⟨g, 0, none⟩ := by
    intro g hg
    rcases k3 with ⟨rfl, _⟩ | ⟨g', rfl, _⟩
    · cases hg
    · have : g' = g := by injection hg
      subst this; rfl
  have hsome : 0 < N → ∃ g, a2 = some ⟨g, 0, none⟩ := by
    intro h0
    rcases k3 with ⟨_, h1⟩ | ⟨g', e, _⟩
    · rw [h1] at hN; simp at hN; omega
    · exact ⟨g', e⟩
  have HSO := Lib.hid hsome
  clear cC cS start k3 hbase hsome o2 hN
  go_wp2_with fail
  go_loopw [5, 16] (fun vb i wr => ∃ j v l, j ≤ N ∧ i = .int .i64 (j : Int) ∧ vb = v ∧ Leaving C w t b A vn (.slice ao A.old.length cs) dm ka kn kc keep torn k j v l (Value.slice a2 N cap2).ownBlock wr) (fun _ i _ => N - (intOf i).toNat)
  case atStart => exact ⟨0, _, _, Nat.zero_le _, rfl, rfl, ST.out⟩
  case round =>
    obtain ⟨j, v, l, hj, rfl, rfl, hL⟩ := hrel
    obtain ⟨av, capv, ev, hv1, hv2, hv3, hv4, hv5⟩ := hL.row.form
    subst ev
    have HL := Lib.hid hL
    by_cases hlt : j < N
    · obtain ⟨g, eg⟩ := HSO.out (by omega)
      subst eg
      obtain ⟨s, hs⟩ : ∃ s, A.dirty.getD j 0 = s := ⟨_, rfl⟩
      have hsm : s ∈ A.dirty := by
        rw [← hs, List.getD_eq_getElem?_getD, List.getElem?_eq_getElem (by rw [HN.out]; exact hlt)]; exact List.getElem_mem _
      have hin := FIT.out.inside s hsm
      have ds : wr.cell? ⟨g, j, none⟩ = some (.int .i64 (s : Int)) := by rw [← hs]; exact hL.sec g rfl j (by rw [HN.out]; exact hlt)
      have hsl : (s : Int) ≤ 65536 := by omega
      have HSJ := Lib.hid hs
      clear hs hsm hL hv3 hv4 hv5
      go_wp2_with fail
      refine (next_any wr t ka kn kc keep torn (k + j) HL.out.fate (HK.out.turned (R := fun x => x = t ∨ w.heap.size ≤ x) (Turn.of_grown HL.out.only (.inl rfl)) ?_) HKT.out (by omega)).mono ?_
      · intro b' off e h0 hx
        rcases hx with hx | hx
        · exact HKT.out b' off e h0 hx
        · rcases HK.out.cells with h1 | ⟨b2', off2, e2, hc⟩
          · omega
          · rw [e] at e2
            obtain ⟨rfl, rfl⟩ : b' = b2' ∧ off = off2 := by simpa using e2
            have := block_lt_of_cell (hc 0 h0)
            have : b' < w.heap.size := this
            omega
      rintro e w3 ⟨rfl, rfl⟩
      have htk := takes_le keep torn (k + j)
      obtain ⟨tk, hT⟩ : ∃ tk, takes keep torn (k + j) = tk := ⟨_, rfl⟩
      rw [hT] at htk ⊢
      have hfate := HL.out.fate.put 2 (.int .i64 ((k + j + 1 : Nat) : Int))
      have es : ∀ x, x ≠ t → (wr.setCell ⟨t, 2, none⟩ (.int .i64 ((k + j + 1 : Nat) : Int))).heap[x]? = wr.heap[x]? := fun x hx => heap_setCell_other wr ⟨t, 2, none⟩ x _ hx
      have gs : wr.grownBy (wr.setCell ⟨t, 2, none⟩ (.int .i64 ((k + j + 1 : Nat) : Int))) (some t) := ⟨rfl, rfl, rfl, by simp [World.setCell], fun x _ hx => es x (fun e => hx (by rw [e]))⟩
      generalize wr.setCell ⟨t, 2, none⟩ (.int .i64 ((k + j + 1 : Nat) : Int)) = w3 at hfate es gs ⊢
      have file3 : FileAt C w3 b A vn (.slice ao A.old.length cs) dm := HL.out.file.same fun x _ hx => es x (fun e => hCt (e ▸ hx))
      have row3 : Own w3 (.slice av l.length capv) l := HL.out.row.same fun x hx => es x (by have := (HL.out.new_ x hx).1; omega)
      have FA3 := Lib.hid hfate
      have FI3 := Lib.hid file3
      have RO3 := Lib.hid row3
      have GS3 := Lib.hid gs
      have ES3 := Lib.hid es
      have HT := Lib.hid hT
      have hll := HL.out.le
      clear hfate es gs file3 row3 hT
      go_wp2_with fail
      refine (first_any w3 b A vn FI3.out.cell0 FI3.out.now hmo s tk (by omega) htk).mono ?_
      rintro e w4 ⟨a3, m3, c3, q3, rfl, rfl, l3, e3, p3⟩
      have L3 := Lib.hid l3
      have E3 := Lib.hid e3
      have P3 := Lib.hid p3
      clear l3 e3 p3
      go_wp2_with fail
      refine (laid_bare (.slice av l.length capv) l s a3 m3 c3 (firstL A s tk) (w3.drewN q3) RO3.out L3.out (fun x hx => P3.out x (fun e => ?_)) E3.out (by omega) (by rw [← E3.out, firstL_length]; omega)).mono ?_
      · have h1 := (HL.out.new_ x hx).1
        have h2 := HH.out.now.lt e
        omega
      rintro e w5 ⟨v5, rfl, o5, g5, h5⟩
      have ev5 := o5.form
      obtain ⟨a5, cap5, ev5, _⟩ := ev5
      subst ev5
      have hN5 : ∀ x, (Value.slice a5 (laidL l (s * 64) (firstL A s tk)).length cap5).ownBlock = some x → w.heap.size ≤ x ∧ some g ≠ some x := by
        intro x hx
        rcases h5 with h5 | ⟨g', h5, h6⟩
        · rw [h5] at hx; exact HL.out.new_ x hx
        · rw [hx] at h5
          injection h5 with h5
          subst h5
          have h6' : w3.heap.size ≤ x := h6
          have h7 := GS3.out.size
          have h8 := HL.out.only.size
          have h9 : g < wr.heap.size := block_lt_of_cell ds
          refine ⟨by omega, fun e => ?_⟩
          injection e with e
          omega
      have g5' : w3.grownBy w5 (Value.slice av l.length capv).ownBlock := ⟨g5.os, g5.tape, g5.output, g5.size, g5.block⟩
      have hgt : ∀ x, x < w.heap.size → some x ≠ (Value.slice av l.length capv).ownBlock := fun x hx e => by have := (HL.out.new_ x e.symm).1; omega
      have nxt : Leaving C w t b A vn (.slice ao A.old.length cs) dm ka kn kc keep torn k (j + 1) (.slice a5 (laidL l (s * 64) (firstL A s tk)).length cap5) (laidL l (s * 64) (firstL A s tk)) (some g) w5 := by
        have hwr := HL.out.only.size
        refine ⟨FI3.out.same fun x hx hc => g5'.block x hx fun e => ?_, ?_, o5, hN5, HL.out.byte.laid (firstL_byte FIT.out _ _) _, laid_first_le hll (by omega), ?_, ?_, fun x hx => HL.out.far x hx, fun x hx i hi => ?_⟩
        · have h1 := (HL.out.new_ x e.symm).1
          have h2 := hCl x hc
          omega
        · refine Whole.same FA3.out (g5'.block t FA3.out.lt (hgt t hftl))
        · rw [← HL.out.left]
          have hd : A.dirty.drop j = s :: A.dirty.drop (j + 1) := by
            have hjl : j < A.dirty.length := by rw [HN.out]; exact hlt
            rw [List.drop_eq_getElem_cons hjl]
            congr 1
            rw [← HSJ.out, List.getD_eq_getElem?_getD, List.getElem?_eq_getElem hjl]; rfl
          rw [hd, leaveL, HT.out]
          rfl
        · exact (HL.out.only.trans GS3.out).andThen g5' fun x hx => .inl (HL.out.new_ x hx).1
        · have hc := HL.out.sec x hx i hi
          have hxb : x < wr.heap.size := block_lt_of_cell hc
          have hxs := HL.out.far x hx
          have h7 := GS3.out.size
          rw [← hc]
          refine World.cell?_of_block (a := ⟨x, i, none⟩) ((g5'.block x (by show x < w3.heap.size; omega) fun e => ?_).trans (ES3.out x (by omega)))
          exact (HL.out.new_ x e.symm).2 hx
      have NX := Lib.hid nxt
      clear nxt hN5 g5 h5 hgt g5' o5
      go_wp2_with fail
      go_roundw
      case rel => exact ⟨j + 1, _, _, by omega, by go_num, rfl, NX.out⟩
      case measure => simp [intOf]; omega
    · obtain rfl : j = N := by omega
      clear hL hv3 hv4 hv5
      go_wp2_with fail
      go_ret
      have hl : leaveL A keep torn k A.dirty A.old = l := by
        rw [← HL.out.left, List.drop_eq_nil_of_le (by rw [HN.out]; omega)]; rfl
      rw [hl]
      exact ⟨_, rfl, HL.out.row, HL.out.byte, HL.out.le, fun x hx => (HL.out.new_ x hx).1, by rw [HN.out]; exact HL.out.fate, HL.out.only⟩
end Go.Proofs.Ytpbffjpghnijkaa.disk
