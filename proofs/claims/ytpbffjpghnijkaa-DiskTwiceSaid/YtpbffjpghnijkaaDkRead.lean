/-
  CONTRACTS of (*disk.FS).Read, Fail, Room.
-/
import Derived.Test.YtpbffjpghnijkaaDkGets
namespace Go.Proofs.Ytpbffjpghnijkaa.disk
open Go.RowKit Go.Maps

/-- 'bytes.Clone' of a cut of a row. -/
theorem clone_cut (w : World) (a : Option Addr) (n c : Nat) (l : List Int) (hl : l.length = n) (hb : Leads w a l) (ha : a = none → n = 0) (hn : n ≤ 100000000) :
    Calls Try.prog 39 #[.slice a n c] w fun e w' => ∃ v, e = .returned v ∧ Own w' v l ∧ (∀ g, v.ownBlock = some g → w.heap.size ≤ g) ∧ Below w.heap.size w w' := by
  cases a with
  | none =>
    obtain rfl : n = 0 := ha rfl
    obtain rfl : l = [] := List.eq_nil_of_length_eq_zero hl
    refine (clone_nil _ _ w).mono ?_
    rintro e w' ⟨rfl, rfl⟩
    exact ⟨_, rfl, Own.none_ _, (fun g hg => by cases hg), Below.refl _ _⟩
  | some ad => exact clone_some ad n c l w hl hb hn

set_option maxRecDepth 100000 in
set_option maxHeartbeats 1000000 in
theorem read_good {R : Nat → Prop} (w : World) (p : Nat) (S : St) (n : Nat) (h : Disk R w p S n) (s : ByteArray) (hs : s.size ≤ maxLen) (q k : Nat) (b : Nat) (hd : dlook s.data.toList S.now = some b) (hr : q + k ≤ (S.file b).now.length) (hn : n ≤ 1000000000) :
    Calls Try.prog 17 #[.pointer (some ⟨p, 0, none⟩), .string s, .int .i64 (q : Int), .int .i64 (k : Int)] w (ReadOut R w p (0, ((S.file b).now.drop q).take k, { S with reads := S.reads + (k : Int) }) (n + 1)) := by
  have cN := Lib.hid (named_any w p S n h s hs)
  rw [hd] at cN
  obtain ⟨C, mn, ms, wv, h⟩ := h
  obtain ⟨vn, vs, dm, hf⟩ := h.file b (h.ok.inow _ (dlook_mem hd))
  have hmo := hf.fit.most
  have hbp : b ≠ p := fun e => h.notp (e ▸ h.ok.inow _ (dlook_mem hd))
  obtain ⟨av, cv, ev, h1, h2, h3, h4, h5⟩ := hf.now.form
  subst ev
  have hf0 := hf.cell0
  have hok := h.ok.read (k := (k : Int)) (by omega) (by omega)
  have hrd := h.ok.reads
  obtain ⟨hrd1, hrd2⟩ := hrd
  have hc6 := h.c6
  have hf6 := h.cells.free 6
  obtain ⟨N, hN⟩ : ∃ N, (S.file b).now.length = N := ⟨_, rfl⟩
  rw [hN] at hr hf0 hmo h1
  have hl : (((S.file b).now.drop q).take k).length = k := by rw [List.length_take, List.length_drop]; omega
  have cut := run_cut av N cv q (q + k) (by omega) (by omega)
  have e1 : ((q + k : Nat) : Int) = (q : Int) + (k : Int) := by omega
  rw [e1, Nat.add_sub_cancel_left] at cut
  have hlead : Leads w (cutAt av cv q) (((S.file b).now.drop q).take k) := by
    have := leads_cut (cap := cv) h4 q (q + k) (by omega) (by omega) (by omega)
    rwa [Nat.add_sub_cancel_left] at this
  have hpast : ∀ b' off, cutAt av cv q = some ⟨b', off, none⟩ → ((S.file b).now.drop q).take k ≠ [] → b' ≠ p := by
    intro b' off e hne eb
    subst eb
    rcases h5 with rfl | ⟨g, rfl, hg, _⟩
    · unfold cutAt at e; split at e <;> simp at e
    · have hgb : g = b' := by
        unfold cutAt at e
        split at e
        · simp at e; exact e.1
        · simp [Addr.add_mid] at e; exact e.1
      subst hgb
      exact h.notp (h.apart _ _ _ (hf.inn g hg).1 h.inp ▸ (h.ok.inow _ (dlook_mem hd)))
  have hnone : cutAt av cv q = none → k = 0 := by
    intro e
    rcases h5 with rfl | ⟨g, rfl, hg, _⟩
    · have := (h3 rfl).1; omega
    · unfold cutAt at e; split at e <;> simp at e
  obtain ⟨ac, hac⟩ : ∃ ac, cutAt av cv q = ac := ⟨_, rfl⟩
  rw [hac] at cut hlead hpast hnone
  obtain ⟨L, hL⟩ : ∃ L, ((S.file b).now.drop q).take k = L := ⟨_, rfl⟩
  rw [hL] at hl hlead hpast ⊢
  have key : ∀ v, v = Value.int .i64 (S.reads + (k : Int)) → Hid (Disk R (w.setCell ⟨p, 6, none⟩ v) p { S with reads := S.reads + (k : Int) } (n + 1) ∧ Turn R w (w.setCell ⟨p, 6, none⟩ v) ∧ Leads (w.setCell ⟨p, 6, none⟩ v) ac L) := by
    intro v hv
    subst hv
    refine show _ from ⟨⟨C, mn, ms, wv, h.cells_turned (h.cells.put 6 _) cell_grown rfl rfl rfl rfl rfl hok⟩, Turn.of_grown cell_grown (h.low p p h.inp).1, ?_⟩
    exact hlead.same fun b' off e hne => heap_setCell_other w ⟨p, 6, none⟩ b' _ (hpast b' off e hne)
  have KEY := Lib.hid key
  have hsum : S.reads + (k : Int) ≤ 4194304000004194304 := by omega
  have HL := Lib.hid hl
  have HNO := Lib.hid hnone
  have hkl : k ≤ 4194304 := by omega
  have c1 : ¬ (N : Int) < (q : Int) := by omega
  have c2 : ¬ (N : Int) - (q : Int) < (k : Int) := by omega
  clear hd h hf hN h1 h2 h3 h4 h5 hok e1 hlead hpast hnone hac hL key hl hbp
  go_enter Try.func17, Try.ntmps17
  go_wp2_with fail
  refine cN.out.mono ?_
  rintro e w1 ⟨rfl, rfl⟩
  rw [ptrOf]
  go_wp2_with fail
  have K := KEY.out _ rfl
  generalize w.setCell ⟨p, 6, none⟩ (.int .i64 (S.reads + (k : Int))) = w2 at K ⊢
  refine (clone_cut w2 ac k _ L HL.out K.out.2.2 HNO.out (by omega)).mono ?_
  rintro e w3 ⟨v, rfl, o3, n3, b3⟩
  have hs2 := K.out.2.1.size
  have fin : ReadOut R w p (0, L, { S with reads := S.reads + (k : Int) }) (n + 1) (.returned (.tuple #[v, .int .i64 0])) w3 :=
    ⟨v, rfl, o3, fun g hg => Nat.le_trans hs2 (n3 g hg), K.out.1.later b3, K.out.2.1.trans (Turn.of_below (R := fun _ => False) b3) fun _ _ e => e.elim⟩
  have FIN := Lib.hid fin
  obtain ⟨a3, c3, e3, _⟩ := o3.form
  subst e3
  clear fin o3 n3 b3 hs2 K
  go_wp2
  go_ret2
  exact FIN.out
end Go.Proofs.Ytpbffjpghnijkaa.disk
