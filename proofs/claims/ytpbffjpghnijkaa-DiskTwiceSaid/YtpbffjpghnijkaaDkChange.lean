/-
  CONTRACT of (*disk.FS).change.
-/
import Derived.Test.YtpbffjpghnijkaaDkState
import Derived.Deep.RegionLaw
namespace Go.Proofs.Ytpbffjpghnijkaa.disk
open Go.RowKit Go.Maps

theorem ch_info : (Try.prog.info? 64).map (fun i => (i.zero, i.size, i.bytes)) = some (some (.agg #[.pointer none, .string ⟨#[]⟩, .string ⟨#[]⟩]), 3, 40) := by kernel_rfl

/-- The address that 'ptrOf' holds. -/
def adOf (o : Option Nat) : Option Addr := o.map fun b => ⟨b, 0, none⟩
theorem ptrOf_ad (o : Option Nat) : ptrOf o = .pointer (adOf o) := by cases o <;> rfl

/-- A change appended to those that wait. -/
theorem append_change {w : World} {wv : Value} {l : List Ch} (h : w.ownsRow 0 64 3 wv l.length (waitCells l)) (g : Nat) (x : Option Addr) (sf st : ByteArray) (c : Ch) (hx : x = adOf c.made) (hf : sf.data.toList = c.frm) (ht : st.data.toList = c.to)
    (hg : Whole w g 64 [.pointer x, .string sf, .string st]) (hn : l.length ≤ 1000000000) :
    ∃ v' w', (Builtin.append_ #[56, 56] 56 #[wv, .slice (some ⟨g, 0, none⟩) 1 1]).run Try.prog w = .ok v' w' ∧ w'.ownsRow 0 64 3 v' (l ++ [c]).length (waitCells (l ++ [c])) ∧ w.grownBy w' wv.ownBlock ∧
      (v'.ownBlock = wv.ownBlock ∨ v'.ownBlock = some w.heap.size) := by
  obtain ⟨i0, hi, hz0, hz1, hz2⟩ := info_parts ch_info
  obtain ⟨v', w', h1, h2, h3, _, h5⟩ := run_append_own_at (P := Try.prog) w 0 56 56 64 i0 _ 3 40 Try.underlying56 hi hz0 hz1 hz2 rfl (by decide) wv l.length (waitCells l) h
    ⟨g, 0, none⟩ 1 1 [.pointer x, .string sf, .string st] rfl (by
      intro j u hu
      have := hg.at_ j
      rw [Addr.add_mid, Nat.zero_add, this]; exact hu) (by
      intro u hu
      simp only [List.mem_cons, List.not_mem_nil, or_false] at hu
      rcases hu with rfl | rfl | rfl <;> rfl) (by unfold maxLen; omega) (by omega) (Nat.zero_le _)
  refine ⟨v', w', h1, ?_, h3, h5⟩
  rw [List.length_append, List.length_singleton, waitCells_snoc]
  have e : [Value.pointer x, .string sf, .string st] = [ptrOf c.made, encStr c.frm, encStr c.to] := by rw [hx, ptrOf_ad, ← hf, ← ht, encStr_data, encStr_data]
  rw [← e]; exact h2

/-- A change made. -/
def St.changed (S : St) (c : Ch) : St := { S with now := c.apply S.now, wait := S.wait ++ [c] }

theorem Ch.apply_mem {c : Ch} {d : Dir} {files : List Nat} (hc : c.Fine files) (hd : ∀ p ∈ d, p.2 ∈ files) : ∀ p ∈ c.apply d, p.2 ∈ files := by
  intro p hp
  have hdel : ∀ q ∈ ddel c.frm d, q.2 ∈ files := fun q hq => hd q (mem_ddel hq)
  unfold Ch.apply at hp
  split at hp
  · exact hdel p hp
  · split at hp
    · rename_i b hb
      rcases mem_dput hp with rfl | hp
      · exact hc.file b hb
      · exact hdel p hp
    · split at hp
      · rename_i b hb
        rcases mem_dput hp with rfl | hp
        · exact hd (c.frm, b) (dlook_mem hb)
        · exact hdel p hp
      · exact hdel p hp
theorem Ch.apply_names {c : Ch} {d : Dir} {files : List Nat} (hc : c.Fine files) (hd : ∀ p ∈ d, p.1.length ≤ maxLen) : ∀ p ∈ c.apply d, p.1.length ≤ maxLen := by
  intro p hp
  have hdel : ∀ q ∈ ddel c.frm d, q.1.length ≤ maxLen := fun q hq => hd q (mem_ddel hq)
  unfold Ch.apply at hp
  split at hp
  · exact hdel p hp
  · split at hp
    · rcases mem_dput hp with rfl | hp
      · exact hc.lto
      · exact hdel p hp
    · split at hp
      · rcases mem_dput hp with rfl | hp
        · exact hc.lto
        · exact hdel p hp
      · exact hdel p hp
theorem St.Ok.changed {S : St} {n : Nat} (h : S.Ok n) {c : Ch} (hc : c.Fine S.files) (ho : c.Ok S.now) : (S.changed c).Ok (n + 1) := by
  have h1 := h.more (Nat.le_succ n)
  refine { h1 with now := ?_, wait := ?_, inow := Ch.apply_mem hc h.inow, iwait := ?_, replays := h.replays.snoc ho, lnow := Ch.apply_names hc h.lnow }
  · have := c.apply_length S.now
    have := h.now
    show (c.apply S.now).length ≤ n + 1
    omega
  · show (S.wait ++ [c]).length ≤ n + 1
    have := h.wait
    rw [List.length_append, List.length_singleton]; omega
  · intro c' hc'
    rcases List.mem_append.1 hc' with hc' | hc'
    · exact h.iwait c' hc'
    · obtain rfl : c' = c := by simpa using hc'
      exact hc

/-- An append whose run is known, as one step of a region that draws. -/
theorem step_append_run {w w' : World} {v' : Value} {ops : Array Oper} {o : Oper} {a : Act} {K : Act → World → Prop} {Q : Exit → Act → World → Prop} {E : Prop} (t : TypeId) (s x : Operand) (v u : Value) (hw : Region.wanted o (yielded ops a.tmps) = true)
    (ho : o.op = .call { callee := .builtin .append, args := #[s, x], argTypes := #[t, t] }) (hty : o.type = t) (hs : a.eval s = v) (hx : a.eval x = u)
    (hrun : (Builtin.append_ #[t, t] t #[v, u]).run Try.prog w = .ok v' w')
    (h : K (a.put o.dst v') w') : if Region.wanted o (yielded ops a.tmps) = true then Oper.wp Try.prog o a w K Q else E := by
  rw [if_pos hw]
  unfold Oper.wp execOp
  simp only [ho, hty, resolve, invoke, builtin, Sem.run_bind, Sem.run_pure, Result.andThen_ok, List.map_toArray, List.map_cons, List.map_nil, hs, hx, hrun]
  exact h

theorem row_form {w : World} {base : Nat} {e : TypeId} {size : Nat} {v : Value} {n : Nat} {xs : List Value} (h : w.ownsRow base e size v n xs) : ∃ a cap, v = .slice a n cap := by
  rcases h.2 with ⟨rfl, h0⟩ | ⟨g, cap, cur, rfl, _⟩
  · exact ⟨none, 0, by rw [h0]⟩
  · exact ⟨_, _, rfl⟩

set_option maxRecDepth 100000 in
set_option maxHeartbeats 1000000 in
theorem change_any {R : Nat → Prop} (w : World) (p : Nat) (S : St) (n : Nat) (h : Disk R w p S n) (c : Ch) (hc : c.Fine S.files) (ho : c.Ok S.now) (sf st : ByteArray) (hf : sf.data.toList = c.frm) (ht : st.data.toList = c.to) (hn : n ≤ 1000000000) :
    Calls Try.prog 33 #[.pointer (some ⟨p, 0, none⟩), .agg #[.pointer (adOf c.made), .string sf, .string st]] w (DiskOut R w p (S.changed c) (n + 1) (.tuple #[])) := by
  obtain ⟨C, mn, ms, wv, h⟩ := h
  have hsf : sf.size ≤ maxLen := by have := hc.lfrm; rw [← hf] at this; simpa using this
  have hst : st.size ≤ maxLen := by have := hc.lto; rw [← ht] at this; simpa using this
  have hnl := h.ok.now
  obtain ⟨aw, cw, rfl⟩ := row_form h.wait
  obtain ⟨x, hx⟩ : ∃ x, adOf c.made = x := ⟨_, rfl⟩
  rw [hx]
  have cA := Lib.hid (fun (w1 : World) (h1 : IsDir w1 mn S.now) => apply_any w1 mn S.now h1 c ho hc.to sf st hf ht hsf hst (by omega))
  have e : (chCells c sf st).toArray = #[.pointer x, .string sf, .string st] := by rw [chCells, ptrOf_ad, hx]
  rw [e] at cA
  have cW := Lib.hid (fun (w1 : World) (hw1 : w1.ownsRow 0 64 3 (.slice aw S.wait.length cw) S.wait.length (waitCells S.wait)) => append_change (w := (w1.alloc (.cells #[.pointer x, .string sf, .string st] 64)).drew) (hw1.alloc _) w1.heap.size x sf st c hx.symm hf ht (Whole.made' w1 _ _) (by have := h.ok.wait; omega))
  have hok := h.ok.changed hc ho
  have OK := Lib.hid hok
  have HH := Lib.hid h
  have HN := Lib.hid h.now
  have HD := Lib.hid (h.now.same (w' := w.alloc (.cells #[.pointer x, .string sf, .string st] 64)) (heap_alloc_old w _ h.now.lt))
  have hc1 := h.c1
  have hpl := h.cells.lt
  clear h hc ho hf ht hsf hst e hx hok
  go_enter Try.func33, Try.ntmps33
  go_wp2_with fail
  go_region_law (first
    | (go_simp; go_at_call 40; refine (cA.out _ (by exact HD.out)).mono ?_; rintro e w1 ⟨rfl, d1, g1⟩; have D1 := Lib.hid d1; have G1 := Lib.hid g1; clear d1 g1))
  all_goals
    have hh := HH.out
    have hmp : mn ≠ p := map_ne_whole hh.now.owns hh.cells
    have b0 : Below w.heap.size w (w.alloc (.cells #[.pointer x, .string sf, .string st] 64)) := (Below.refl _ _).alloc (Nat.le_refl _) _
    have gw : w.grownBy w1 (some mn) := ⟨G1.out.os.trans b0.os, G1.out.tape.trans b0.tape, G1.out.output.trans b0.output, Nat.le_trans b0.size G1.out.size, fun k hk hne => (G1.out.block k (Nat.lt_of_lt_of_le hk b0.size) hne).trans (b0.block k hk)⟩
    have box1 : Whole w1 w.heap.size 64 [.pointer x, .string sf, .string st] := Whole.same (w := w.alloc (.cells #[.pointer x, .string sf, .string st] 64)) (Whole.made' w _ _) (G1.out.block w.heap.size (by show w.heap.size < (w.alloc (.cells #[.pointer x, .string sf, .string st] 64)).heap.size; simp) fun e => by have := hh.now.lt; injection e with e; omega)
    have fs1 : Whole w1 p 58 (fsCells S mn ms (.slice aw S.wait.length cw)) := Whole.same hh.cells (gw.block p hpl fun e => hmp (by injection e with e; exact e.symm))
    have d3 : w1.cell? ⟨p, 3, none⟩ = some (.slice aw S.wait.length cw) := (fs1.at_ 3).trans rfl
    have e0 : w1.cell? ⟨w.heap.size, 0, none⟩ = some (.pointer x) := (box1.at_ 0).trans rfl
    have e1 : w1.cell? ⟨w.heap.size, 1, none⟩ = some (.string sf) := (box1.at_ 1).trans rfl
    have e2 : w1.cell? ⟨w.heap.size, 2, none⟩ = some (.string st) := (box1.at_ 2).trans rfl
    have GW := Lib.hid gw
    have BOX := Lib.hid box1
    have FS1 := Lib.hid fs1
    clear hh hmp b0 gw box1 fs1 hc1
    have hww : some mn ≠ (Value.slice aw S.wait.length cw).ownBlock := fun e => map_ne_row HH.out.now.owns HH.out.wait e.symm rfl
    have wait1 := row_same HH.out.wait fun g hg => GW.out.block g (World.ownsRow.lt HH.out.wait g hg).2 fun e => hww (by rw [hg]; exact e.symm)
    obtain ⟨v9, w9, r9, o9, g9, b9⟩ := cW.out w1 wait1
    obtain ⟨a9, c9, e9⟩ := row_form o9
    rw [List.length_append, List.length_singleton] at e9
    subst e9
    have g10 : w1.grownBy w9 (Value.slice aw S.wait.length cw).ownBlock := by
      have g11 : w1.grownBy (w1.alloc (.cells #[.pointer x, .string sf, .string st] 64)) (Value.slice aw S.wait.length cw).ownBlock := World.grownBy_alloc _ _ _
      exact ⟨g9.os.trans g11.os, g9.tape.trans g11.tape, g9.output.trans g11.output, Nat.le_trans g11.size g9.size, fun k hk hne => (g9.block k (Nat.lt_of_lt_of_le hk g11.size) hne).trans (g11.block k hk hne)⟩
    have fs9 : Whole w9 p 58 (fsCells S mn ms (.slice aw S.wait.length cw)) := Whole.same FS1.out (g10.block p FS1.out.lt fun e => (HH.out.inw p e.symm).2 rfl)
    have d9 : w9.cell? ⟨p, 3, none⟩ = some (.slice aw S.wait.length cw) := (fs9.at_ 3).trans rfl
    have f9 := fs9.free 3
    have d33 : (w1.alloc (.cells #[.pointer x, .string sf, .string st] 64)).cell? ⟨p, 3, none⟩ = some (.slice aw S.wait.length cw) := ((FS1.out.more _).at_ 3).trans rfl
    have R9 := Lib.hid r9
    have O9 := Lib.hid o9
    have G10 := Lib.hid g10
    have B9 := Lib.hid b9
    have FS9 := Lib.hid fs9
    have WW := Lib.hid hww
    clear r9 o9 g9 b9 g10 fs9 hww wait1
    go_wp2_with fail
    go_region_law (first
      | (refine step_append_run 56 (.tmp 14) (.tmp 16) _ _ rfl rfl rfl rfl rfl (by exact R9.out) ?_))
    all_goals
      have FIN : Hid (DiskOut R w p (S.changed c) (n + 1) (.tuple #[]) (.returned (.tuple #[])) (w9.setCell ⟨p, 3, none⟩ (.slice a9 (S.wait.length + 1) c9))) := by
        have hh := HH.out
        have hmp : mn ≠ p := map_ne_whole hh.now.owns hh.cells
        have hsp : ms ≠ p := map_ne_whole hh.synced.owns hh.cells
        have gw := GW.out
        have g10 := G10.out
        have hww := WW.out
        have es : ∀ k, k ≠ p → (w9.setCell ⟨p, 3, none⟩ (.slice a9 (S.wait.length + 1) c9)).heap[k]? = w9.heap[k]? := fun k hk => heap_setCell_other w9 ⟨p, 3, none⟩ k _ hk
        have hsz1 := gw.size
        have hsz9 := g10.size
        have hszc : (w9.setCell ⟨p, 3, none⟩ (.slice a9 (S.wait.length + 1) c9)).heap.size = w9.heap.size := by simp [World.setCell]
        -- blocks of others
        have eo : ∀ k, k < w.heap.size → k ≠ p → k ≠ mn → some k ≠ (Value.slice aw S.wait.length cw).ownBlock → (w9.setCell ⟨p, 3, none⟩ (.slice a9 (S.wait.length + 1) c9)).heap[k]? = w.heap[k]? := fun k hk h1 h2 h3 =>
          (es k h1).trans ((g10.block k (Nat.lt_of_lt_of_le hk hsz1) h3).trans (gw.block k hk fun e => h2 (by injection e)))
        have hb9 : ∀ g, (Value.slice a9 (S.wait.length + 1) c9).ownBlock = some g → (C p g ∧ g ≠ p ∧ g < w.heap.size) ∨ w.heap.size ≤ g := by
          intro g hg
          rcases B9.out with h1 | h1
          · rw [h1] at hg
            exact .inl ⟨(hh.inw g hg).1, (hh.inw g hg).2, (World.ownsRow.lt hh.wait g hg).2⟩
          · rw [h1] at hg
            injection hg with hg
            right
            have : (w1.alloc (.cells #[.pointer x, .string sf, .string st] 64)).drew.heap.size = w1.heap.size + 1 := by simp
            omega
        let C' : Nat → Nat → Prop := fun o k => C o k ∨ (o = p ∧ (Value.slice a9 (S.wait.length + 1) c9).ownBlock = some k)
        refine show _ from ⟨rfl, ⟨C', mn, ms, .slice a9 (S.wait.length + 1) c9, ⟨FS9.out.put 3 _, ?_, ?_, hh.two, ?_, ?_, .inl hh.inp, .inl hh.inn, .inl hh.ins, fun g hg => ⟨.inr ⟨rfl, hg⟩, ?_⟩, hh.notp, ?_, ?_, OK.out⟩⟩, ?_⟩
        · exact IsDir.same (IsDir.same D1.out (g10.block mn D1.out.lt hww)) (es mn hmp)
        · exact hh.synced.same (eo ms hh.synced.lt hsp (fun e => hh.two e.symm) fun e => map_ne_row hh.synced.owns hh.wait e.symm rfl)
        · refine row_same (by exact O9.out) fun g hg => es g ?_
          rcases hb9 g hg with h1 | h1
          · exact h1.2.1
          · omega
        · intro b hb
          have hbp : b ≠ p := fun e => hh.notp (e ▸ hb)
          refine ((hh.file b hb).same fun k hk hck => eo k hk (fun e => ?_) (fun e => ?_) fun e => ?_).mono fun k _ hck => .inl hck
          · subst e; exact hbp (hh.apart _ _ _ hck hh.inp)
          · subst e; exact hbp (hh.apart _ _ _ hck hh.inn)
          · exact hbp (hh.apart _ _ _ hck (hh.inw k e.symm).1)
        · rcases hb9 g hg with h1 | h1
          · exact h1.2.1
          · omega
        · rintro y z k (hy | ⟨rfl, hy⟩) (hz | ⟨rfl, hz⟩)
          · exact hh.apart _ _ _ hy hz
          · rcases hb9 k hz with h1 | h1
            · exact hh.apart _ _ _ hy h1.1
            · have := (hh.low y k hy).2; omega
          · rcases hb9 k hy with h1 | h1
            · exact hh.apart _ _ _ h1.1 hz
            · have := (hh.low z k hz).2; omega
          · rfl
        · rintro y k (hy | ⟨rfl, hy⟩)
          · exact ⟨.inl (hh.low y k hy).1, by have := (hh.low y k hy).2; omega⟩
          · have h9 := (World.ownsRow.lt O9.out k hy).2
            rcases hb9 k hy with h1 | h1
            · exact ⟨.inl (hh.low _ k h1.1).1, by omega⟩
            · exact ⟨.inr h1, by omega⟩
        · have t1 : Turn R w w1 := Turn.of_grown gw (hh.low p mn hh.inn).1
          have t2 : Turn R w w9 := t1.trans (Turn.of_row g10 fun g hg => (hh.low p g (hh.inw g hg).1).1) fun _ _ e => e
          exact t2.setCell 3 _ (.inl (hh.low p p hh.inp).1)
      clear d9 f9 d33 d3 e0 e1 e2
      go_wp2_with fail
      go_end0
      exact FIN.out
end Go.Proofs.Ytpbffjpghnijkaa.disk
