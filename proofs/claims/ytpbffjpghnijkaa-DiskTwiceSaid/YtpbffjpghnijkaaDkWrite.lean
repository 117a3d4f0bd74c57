/-
  CONTRACT of (*disk.file).write.
-/
import Derived.Test.YtpbffjpghnijkaaDkFile
import Derived.Deep.Light
namespace Go.Proofs.Ytpbffjpghnijkaa.disk
open Go.RowKit Go.Maps

theorem getD_splice (l part : List Int) (p i : Nat) (h : p + part.length ≤ l.length) : (splice l p part).getD i 0 = if i < p then l.getD i 0 else if i < p + part.length then part.getD (i - p) 0 else l.getD i 0 := by
  unfold Go.splice
  simp only [List.getD_eq_getElem?_getD]
  by_cases h1 : i < p
  · rw [if_pos h1, List.getElem?_append_left (by rw [List.length_take]; omega), List.getElem?_take_of_lt h1]
  · rw [if_neg h1, List.getElem?_append_right (by rw [List.length_take]; omega), List.length_take, Nat.min_eq_left (by omega)]
    by_cases h2 : i < p + part.length
    · rw [if_pos h2, List.getElem?_append_left (by omega)]
    · rw [if_neg h2, List.getElem?_append_right (by omega), List.getElem?_drop]
      congr 2; omega
theorem getD_zeros (l : List Int) (n i : Nat) : (l ++ List.replicate n 0).getD i 0 = l.getD i 0 := by
  simp only [List.getD_eq_getElem?_getD]
  by_cases h : i < l.length
  · rw [List.getElem?_append_left h]
  · rw [List.getElem?_append_right (by omega), List.getElem?_replicate, List.getElem?_eq_none (by omega)]
    split <;> rfl
theorem getD_laid (l part : List Int) (p i : Nat) (hp : part ≠ []) : (laidL l p part).getD i 0 = if i < p then l.getD i 0 else if i < p + part.length then part.getD (i - p) 0 else l.getD i 0 := by
  rw [laidL, if_neg hp, getD_splice _ _ _ _ (by rw [List.length_append, List.length_replicate]; omega), getD_zeros]

/-- A file written to. -/
def FileA.write (A : FileA) (p : Nat) (part : List Int) : FileA :=
  if part = [] then A else ⟨laidL A.now p part, A.old, marks A.dirty (p / 64) ((p + part.length - 1) / 64 + 1 - p / 64)⟩

theorem FileA.Fit.write {A : FileA} (h : A.Fit) {p : Nat} {part : List Int} (hb : Byte part) (hp : p ≤ A.now.length) (hm : p + part.length ≤ 4194304) : (A.write p part).Fit := by
  unfold FileA.write
  by_cases hne : part = []
  · rw [if_pos hne]; exact h
  · rw [if_neg hne]
    have hlen := laidL_length A.now p part hne
    have hpos : 0 < part.length := List.length_pos_iff.2 hne
    refine ⟨?_, ?_, h.bnow.laid hb p, h.bold, marks_rising _ _ h.rising _, ?_, ?_⟩
    · show (laidL A.now p part).length ≤ _
      have := h.most; omega
    · show A.old.length ≤ (laidL A.now p part).length
      have := h.le; omega
    · intro s hs
      show s * 64 < (laidL A.now p part).length
      rcases (mem_marks _ _ _ _).1 hs with hs | hs
      · have := h.inside s hs; omega
      · omega
    · intro i hi hn
      have hi' : i < (laidL A.now p part).length := hi
      have hn' : ¬ (i / 64 ∈ A.dirty ∨ (p / 64 ≤ i / 64 ∧ i / 64 < p / 64 + ((p + part.length - 1) / 64 + 1 - p / 64))) := fun e => hn ((mem_marks _ _ _ _).2 e)
      have h1 : i / 64 ∉ A.dirty := fun e => hn' (.inl e)
      have h2 : ¬ (p ≤ i ∧ i < p + part.length) := fun e => hn' (.inr (by omega))
      obtain ⟨k1, k2⟩ := h.clean i (by omega) h1
      refine ⟨k1, ?_⟩
      show A.old.getD i 0 = (laidL A.now p part).getD i 0
      rw [getD_laid _ _ _ _ hne, k2]
      by_cases h3 : i < p
      · rw [if_pos h3]
      · rw [if_neg h3, if_neg (by omega)]

theorem intLaw : Keyed Try.prog 3 := int_keyed Try.underlying3
theorem secKey (s : Nat) (h : s ≤ 100000000) : keyOf Try.prog 3 (.int .i64 (s : Int)) = some (.int .i64 (s : Int)) := keyOf_int_mk Try.underlying3 (WalkArith.wf_i64 (by omega))

/-- On the way: the sectors from q on up to j are marked, nothing else has turned. -/
def Marking (w2 : World) (dm : Nat) (l : List Nat) (q j : Nat) (wr : World) : Prop :=
  ∃ n, n ≤ 65536 + j ∧ wr.ownsMap Try.prog 3 unitElem dm n (secs (marks l q (j - q))) ∧ w2.grownBy wr (some dm)

/-- What 'write' leaves. -/
def WriteOut (C : Nat → Prop) (w : World) (b : Nat) (A : FileA) (e : Ending) (w' : World) : Prop :=
  e = .returned (.tuple #[]) ∧ IsFile (fun k => C k ∨ w.heap.size ≤ k) w' b A ∧ Turn C w w'

set_option maxRecDepth 100000 in
set_option maxHeartbeats 1000000 in
theorem write_some {C : Nat → Prop} (w : World) (b : Nat) (A : FileA) (h : IsFile C w b A) (p : Nat) (ad : Option Addr) (m mcap : Nat) (part : List Int) (hl : Leads w ad part) (hps : ∀ g, C g → Past g ad part) (hm : part.length = m) (hb : Byte part) (hp : p ≤ A.now.length) (hmax : p + m ≤ 4194304) (h0 : 0 < m) :
    Calls Try.prog 35 #[.pointer (some ⟨b, 0, none⟩), .int .i64 (p : Int), .slice ad m mcap] w (WriteOut C w b (A.write p part)) := by
  obtain ⟨vn, vs, dm, h⟩ := h
  have hfit := h.fit.write hb hp (by rw [hm]; exact hmax)
  have hmost := h.fit.most
  have hmap := h.map
  have hfew := h.fit.few
  have hdb := map_ne_whole hmap h.cells
  have hne : part ≠ [] := by intro e; subst e; simp at hm; omega
  -- laid, and the store
  have cL := laid_any vn A.now p ad m mcap part w h.now hl (fun g hg => hps g (h.inn g hg).1) hm (by omega) (by omega)
  have after : ∀ w1 v', Own w1 v' (laidL A.now p part) → w.grownBy w1 vn.ownBlock → (v'.ownBlock = vn.ownBlock ∨ ∃ g, v'.ownBlock = some g ∧ w.heap.size ≤ g) →
      Hid (Whole w1 b 67 [vn, vs, .map (some dm)] ∧ Turn C w (w1.setCell ⟨b, 0, none⟩ v') ∧ Whole (w1.setCell ⟨b, 0, none⟩ v') b 67 [v', vs, .map (some dm)] ∧ (w1.setCell ⟨b, 0, none⟩ v').ownsMap Try.prog 3 unitElem dm A.dirty.length (secs A.dirty) ∧
        Own (w1.setCell ⟨b, 0, none⟩ v') v' (laidL A.now p part) ∧ Own (w1.setCell ⟨b, 0, none⟩ v') vs A.old ∧ (∀ g, v'.ownBlock = some g → (C g ∨ w.heap.size ≤ g) ∧ g ≠ b ∧ vs.ownBlock ≠ some g)) := by
    intro w1 v' o1 g1 hv'
    have t1 : Turn C w w1 := Turn.of_row g1 fun g hg => (h.inn g hg).1
    have t2 : Turn C w (w1.setCell ⟨b, 0, none⟩ v') := t1.setCell 0 v' (.inl h.inb)
    have hbv : some b ≠ vn.ownBlock := fun e => (h.inn b e.symm).2 rfl
    have wh1 : Whole w1 b 67 [vn, vs, .map (some dm)] := Whole.same h.cells (g1.block b h.cells.lt hbv)
    have hv2 : ∀ g, v'.ownBlock = some g → (C g ∨ w.heap.size ≤ g) ∧ g ≠ b ∧ vs.ownBlock ≠ some g := by
      intro g hg
      rcases hv' with hv' | ⟨g', hg', hsz⟩
      · rw [hv'] at hg
        exact ⟨.inl (h.inn g hg).1, (h.inn g hg).2, fun e => (h.ins g e).2.2 hg⟩
      · rw [hg] at hg'
        injection hg' with hg'
        subst hg'
        refine ⟨.inr hsz, ?_, fun e => ?_⟩
        · have := h.cells.lt; omega
        · have := h.old.lt e; omega
    have hmb : some dm ≠ vn.ownBlock := fun e => map_ne_row hmap h.now e.symm rfl
    have e1 : w1.heap[dm]? = w.heap[dm]? := g1.block dm hmap.lt hmb
    have es : ∀ k, k ≠ b → (w1.setCell ⟨b, 0, none⟩ v').heap[k]? = w1.heap[k]? := fun k hk => heap_setCell_other w1 ⟨b, 0, none⟩ k v' hk
    refine show _ from ⟨wh1, t2, wh1.put 0 v', map_same hmap ((es dm hdb).trans e1), o1.same fun g hg => es g (hv2 g hg).2.1, h.old.same fun g hg => ?_, hv2⟩
    rw [es g (h.ins g hg).2.1]
    exact g1.block g (h.old.lt hg) fun e => (h.ins g hg).2.2 e.symm
  have CL := Lib.hid cL
  have AF := Lib.hid after
  have hA : A.write p part = ⟨laidL A.now p part, A.old, marks A.dirty (p / 64) ((p + m - 1) / 64 + 1 - p / 64)⟩ := by rw [FileA.write, if_neg hne, hm]
  rw [hA] at hfit ⊢
  have FIT := Lib.hid hfit
  have hsz := h.cells.lt
  have hinb := h.inb
  have hind := h.ind
  have hins := h.ins
  have hc0 := h.cell0
  have hcw := h.cells
  have hnl : A.now.length ≤ 4194304 := hmost
  obtain ⟨a, cap, rfl, h1, h2, h3, h4, h5⟩ := h.now.form
  have HX := Lib.hid (show True ∧ C b ∧ C dm ∧ (∀ g, vs.ownBlock = some g → C g ∧ g ≠ b ∧ (Value.slice a A.now.length cap).ownBlock ≠ some g) from ⟨trivial, hinb, hind, hins⟩)
  have HCW := Lib.hid hcw
  have c0 : ((m : Int) == 0) = false := by rw [beq_eq_false_iff_ne]; omega
  have hpl : (p : Int) ≤ 4194304 := by omega
  have hml : (m : Int) ≤ 4194304 := by omega
  clear h hl hps hb hA hfit hinb hind hins hcw cL after hmap h3 h4 h5 h1 h2 hne hm hmost
  go_enter Try.func35, Try.ntmps35
  go_wp2_with fail
  refine CL.out.mono ?_
  rintro e w1 ⟨v', rfl, o1, g1, hv'⟩
  have K := AF.out w1 v' o1 g1 hv'
  obtain ⟨wh1, K⟩ := K.out
  obtain ⟨L, hL⟩ : ∃ L, laidL A.now p part = L := ⟨_, rfl⟩
  rw [hL] at o1 K FIT ⊢
  have HLL := Lib.hid hL
  obtain ⟨a', cap', rfl, _⟩ := o1.form
  obtain ⟨N, hN⟩ : ∃ N, L.length = N := ⟨_, rfl⟩
  rw [hN] at K ⊢
  have HK := Lib.hid K
  have d0 : w1.cell? ⟨b, 0, none⟩ = some (.slice a A.now.length cap) := by rw [wh1.at_]; rfl
  have f0 := wh1.free 0
  clear CL AF HCW wh1 o1 g1 hv' K hL hN hc0
  go_wp2_with fail
  clear d0 f0
  generalize w1.setCell ⟨b, 0, none⟩ (.slice a' N cap') = w2 at HK ⊢
  obtain ⟨k1, k2, k3, k4⟩ := HK.out
  have K1 := Lib.hid k1
  have K2 := Lib.hid k2
  have K3 := Lib.hid k3
  have K4 := Lib.hid k4
  have hz1 : p / 64 ≤ (p + m - 1) / 64 := by omega
  have hz2 : (p + m - 1) / 64 ≤ 65535 := by omega
  have hez : ((p : Int) + (m : Int) - 1) / 64 = (((p + m - 1) / 64 : Nat) : Int) := by omega
  have heq : (p : Int) / 64 = ((p / 64 : Nat) : Int) := by omega
  generalize hz : (p + m - 1) / 64 = z at hz1 hz2 hez FIT ⊢
  generalize hq : p / 64 = q at hz1 heq FIT ⊢
  have HEZ := Lib.hid hez
  have HEQ := Lib.hid heq
  clear HK k1 k2 k3 k4 hez heq hz hq
  go_loopw [6] (fun i wr => ∃ j, q ≤ j ∧ j ≤ z + 1 ∧ i = .int .i64 (j : Int) ∧ Marking w2 dm A.dirty q j wr) (fun i _ => z + 1 - (intOf i).toNat)
  case atStart => exact ⟨q, Nat.le_refl _, by omega, by rw [HEQ.out], A.dirty.length, by omega, by rw [Nat.sub_self]; exact K3.out, World.grownBy.refl _ _⟩
  case round =>
    obtain ⟨j, hj1, hj2, rfl, n, hn, ho, hg⟩ := hrel
    have hwb : Whole wr b 67 [.slice a' N cap', vs, .map (some dm)] := K2.out.grown hg (fun e => hdb (by injection e with e; exact e.symm))
    have d2 : wr.cell? ⟨b, 2, none⟩ = some (.map (some dm)) := by rw [hwb.at_]; rfl
    have HO := Lib.hid ho
    have HG := Lib.hid hg
    clear ho hg
    by_cases hlt : j ≤ z
    · have hc : (j : Int) ≤ ((p : Int) + (m : Int) - 1) / 64 := by rw [HEZ.out]; omega
      clear hwb
      go_wp2_with (first
        | (at_mapUpdate; refine wpList_mapUpdate_own _ rfl _ _ _ 65 rfl 3 80 intLaw Try.underlying65 unitElem dm n _ rfl HO.out (by unfold maxLen; omega) _ _ _ rfl rfl (secKey j (by omega)) (.agg []) [] unitElem_mk ?_; intro w3 o3 g3)
        | fail)
      have o4 := Lib.hid o3
      have g4 := Lib.hid (HG.out.trans g3)
      clear o3 g3
      go_roundw
      case rel =>
        refine ⟨j + 1, by omega, by omega, by go_num, n + 1, by omega, ?_, g4.out⟩
        have e := o4.out
        rw [secs_put] at e
        rw [show j + 1 - q = (j - q) + 1 by omega, marks, show q + (j - q) = j by omega]
        exact e
      case measure => simp [intOf]; omega
    · have hc : ¬ (j : Int) ≤ ((p : Int) + (m : Int) - 1) / 64 := by rw [HEZ.out]; omega
      obtain rfl : j = z + 1 := by omega
      have HWB := Lib.hid hwb
      clear hwb
      go_wp2_with fail
      go_end0
      rw [HLL.out]
      have hg := HG.out
      have hs2 := K1.out.size
      obtain ⟨k5, k6, k7⟩ := K4.out
      obtain ⟨_, hx1, hx2, hx3⟩ := HX.out
      have hm2 := K3.out
      refine ⟨rfl, ⟨_, vs, dm, HWB.out, World.ownsRow.kept k5 hg ?_, World.ownsRow.kept k6 hg ?_, ⟨n, HO.out⟩, .inl hx1, .inl hx2, fun g hg' => ⟨(k7 g hg').1, (k7 g hg').2.1⟩, fun g hg' => ⟨.inl (hx3 g hg').1, (hx3 g hg').2.1, fun e => (k7 g e).2.2 hg'⟩, FIT.out⟩, K1.out.trans (Turn.of_grown hg hx2) fun _ _ e => e⟩
      · right; intro e; exact map_ne_row hm2 k5 e rfl
      · right; intro e; exact map_ne_row hm2 k6 e rfl

/-- 'write', whatever its bytes. -/
theorem write_any {C : Nat → Prop} (w : World) (b : Nat) (A : FileA) (h : IsFile C w b A) (p : Nat) (ad : Option Addr) (m mcap : Nat) (part : List Int) (hl : Leads w ad part) (hps : ∀ g, C g → Past g ad part) (hm : part.length = m) (hb : Byte part) (hp : p ≤ A.now.length) (hmax : p + m ≤ 4194304) :
    Calls Try.prog 35 #[.pointer (some ⟨b, 0, none⟩), .int .i64 (p : Int), .slice ad m mcap] w (WriteOut C w b (A.write p part)) := by
  by_cases h0 : m = 0
  · subst h0
    obtain rfl : part = [] := List.eq_nil_of_length_eq_zero hm
    have HO := Lib.hid (show WriteOut C w b (A.write p []) (.returned (.tuple #[])) w from ⟨rfl, h.mono (fun _ _ e => .inl e), Turn.refl _ _⟩)
    clear h hl hps hm hb
    go_enter Try.func35, Try.ntmps35
    go_wp2
    go_end0
    exact HO.out
  · exact write_some w b A h p ad m mcap part hl hps hm hb hp hmax (by omega)
end Go.Proofs.Ytpbffjpghnijkaa.disk
