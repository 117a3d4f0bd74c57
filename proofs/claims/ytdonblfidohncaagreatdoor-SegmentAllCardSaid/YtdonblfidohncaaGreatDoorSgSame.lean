/-
  CONTRACTS of stillroomlaw7.Found and the reference's EqAll at rows that are read; of stillroomlaw8.same (P8.1).
-/
import Derived.Test.YtdonblfidohncaaGreatDoorSgReadIn
import Derived.Test.YtdonblfidohncaaGreatDoorSgRecs
import Derived.StillTailTactics
namespace Go.Proofs.YtdonblfidohncaaGreatDoor.scan
open Go.RowKit Go.Proofs.YtdonblfidohncaaGreatDoor.disk Go.Proofs.YtdonblfidohncaaGreatDoor.recd
set_option linter.unusedVariables false

set_option maxRecDepth 100000 in
set_option maxHeartbeats 2000000 in
theorem Found_row (v : Value) (fs : List Fd) (w : World) (hv : RowS fS w v fs) (hn : fs.length ≤ 1000000000) :
    Calls Tryz.prog 17 #[v] w (MadeS fR w fs) := by
  obtain ⟨n, hfn⟩ : ∃ n, fs.length = n := ⟨_, rfl⟩
  obtain ⟨ao, cap, rfl, hle, hcm⟩ : ∃ ao cap, v = .slice ao n cap ∧ n ≤ cap ∧ cap ≤ 9223372036854775807 := by
    rcases hv with ⟨rfl, rfl⟩ | ⟨g, cap, rfl, h1, h2, _⟩
    · exact ⟨none, 0, by rw [← hfn]; rfl, by rw [← hfn]; exact Nat.zero_le _, by omega⟩
    · exact ⟨some ⟨g, 0, none⟩, cap, by rw [← hfn], by omega, h2⟩
  have HV := Lib.hid hv
  have HF := Lib.hid hfn
  rw [hfn] at hn
  clear hv hfn
  go_enter Tryz.func17, Tryz.ntmps17
  go_wp2_with fail
  go_loopw [3, 4] (fun u p wr => ∃ (q : Nat), p = .int .i64 (q : Int) ∧ q ≤ n ∧ GrowS fR w (fs.take q) u wr) (fun _ p _ => ((n : Int) - intOf p).toNat)
  case atStart => exact ⟨0, rfl, Nat.zero_le _, by rw [List.take_zero]; exact GrowS.start fR w⟩
  case round =>
    obtain ⟨q, rfl, hq, hg⟩ := hrel
    by_cases hqn : q < n
    · have hqI : (q : Int) < (n : Int) := by omega
      obtain ⟨g, rfl⟩ : ∃ g, ao = some ⟨g, 0, none⟩ := by
        rcases HV.out with ⟨e, rfl⟩ | ⟨g, cap, e, _⟩
        · have := HF.out; simp at this; omega
        · injection e with e1; exact ⟨g, e1⟩
      have hvr := HV.out.later hg.below
      have hql : q < fs.length := by rw [HF.out]; exact hqn
      have hrg := hvr.range q hql
      obtain ⟨⟨fa, ⟨k, t, e, o, s, b⟩⟩, hx⟩ : ∃ x, fs[q] = x := ⟨_, rfl⟩
      rw [hx] at hrg
      have c0 : wr.cell? ⟨g, q * 7, none⟩ = some (.int .i64 (fa : Int)) := hrg 0 _ rfl
      have c1 : wr.cell? ⟨g, q * 7 + 1, none⟩ = some (.int .i64 k) := hrg 1 _ rfl
      have c2 : wr.cell? ⟨g, q * 7 + 2, none⟩ = some (.int .u32 (t : Int)) := hrg 2 _ rfl
      have c3 : wr.cell? ⟨g, q * 7 + 3, none⟩ = some (.int .u64 (e : Int)) := hrg 3 _ rfl
      have c4 : wr.cell? ⟨g, q * 7 + 4, none⟩ = some (.int .u64 (o : Int)) := hrg 4 _ rfl
      have c5 : wr.cell? ⟨g, q * 7 + 5, none⟩ = some (.int .u64 (s : Int)) := hrg 5 _ rfl
      have c6 : wr.cell? ⟨g, q * 7 + 6, none⟩ = some (.string b) := hrg 6 _ rfl
      have hgd : GrowS fR w (fs.take q) u3 wr.drew := hg.later (below_draws (Below.refl _ _) 1)
      obtain ⟨v', w2, r2, g2⟩ := hgd.put ⟨fa, ⟨k, t, e, o, s, b⟩⟩ wr.heap.size 1 rfl (by rw [List.length_take]; omega)
      have e1 : fs.take q ++ [⟨fa, ⟨k, t, e, o, s, b⟩⟩] = fs.take (q + 1) := by rw [List.take_add_one, List.getElem?_eq_getElem hql, hx]; rfl
      rw [e1] at g2
      have fin : ∃ q2 : Nat, Value.int .i64 ((q : Int) + 1) = .int .i64 (q2 : Int) ∧ q2 ≤ n ∧ GrowS fR w (fs.take q2) v' w2 := ⟨q + 1, by rw [Int.natCast_add]; rfl, by omega, g2⟩
      have R2 := Lib.hid r2
      have FIN := Lib.hid fin
      clear r2 g2 hgd hg hvr hrg e1 fin hx hql HV HF
      go_wp2_with fail
      go_region_law (first
        | (refine step_append_of 32 32 (.tmp 11) (.tmp 23) _ _ rfl rfl rfl rfl rfl (by exact R2.out) ?_))
      all_goals
        go_wp2_with fail
        refine ⟨FIN.out, ?_⟩
        show ((n : Int) - ((q : Int) + 1)).toNat < ((n : Int) - (q : Int)).toNat
        omega
    · have e : fs.take q = fs := List.take_of_length_le (by rw [HF.out]; omega)
      rw [e] at hg
      have HG := Lib.hid hg
      clear hg e
      have hqI : ¬ (q : Int) < (n : Int) := by omega
      go_wp2_with fail
      go_ret
      exact ⟨_, rfl, HG.out⟩
/-- A find's cells in a row. -/
theorem fd_cells_row {w : World} {g n cap : Nat} {F : Form Fd} (hF : F.sz = 7) (hc : F.cells = Fd.cells) {fs : List Fd} (h : RowS F w (.slice (some ⟨g, 0, none⟩) n cap) fs) (q : Nat) (hq : q < fs.length) (fa : Nat) (k : Int) (t e o s : Nat) (b : ByteArray) (hx : fs[q] = ⟨fa, ⟨k, t, e, o, s, b⟩⟩) :
    w.cell? ⟨g, q * 7, none⟩ = some (.int .i64 (fa : Int)) ∧ w.cell? ⟨g, q * 7 + 1, none⟩ = some (.int .i64 k) ∧ w.cell? ⟨g, q * 7 + 2, none⟩ = some (.int .u32 (t : Int)) ∧ w.cell? ⟨g, q * 7 + 3, none⟩ = some (.int .u64 (e : Int)) ∧ w.cell? ⟨g, q * 7 + 4, none⟩ = some (.int .u64 (o : Int)) ∧ w.cell? ⟨g, q * 7 + 5, none⟩ = some (.int .u64 (s : Int)) ∧ w.cell? ⟨g, q * 7 + 6, none⟩ = some (.string b) := by
  have hrg := h.range q hq
  rw [hx, hF, hc] at hrg
  exact ⟨hrg 0 _ rfl, hrg 1 _ rfl, hrg 2 _ rfl, hrg 3 _ rfl, hrg 4 _ rfl, hrg 5 _ rfl, hrg 6 _ rfl⟩

set_option maxRecDepth 100000 in
set_option maxHeartbeats 2000000 in
theorem EqAll_row (v u : Value) (fs : List Fd) (w : World) (hv : RowS fR w v fs) (hu : RowS fR w u fs) (hb : ∀ x ∈ fs, x.r.body.size ≤ 1000) :
    Calls Tryz.prog 19 #[v, u] w fun e w' => e = .returned (.bool true) ∧ Below w.heap.size w w' := by
  obtain ⟨n, hfn⟩ : ∃ n, fs.length = n := ⟨_, rfl⟩
  have key : ∀ v, RowS fR w v fs → ∃ ao cap, v = .slice ao n cap ∧ n ≤ cap ∧ cap ≤ 9223372036854775807 := by
    intro v hv
    rcases hv with ⟨rfl, rfl⟩ | ⟨g, cap, rfl, h1, h2, _⟩
    · exact ⟨none, 0, by rw [← hfn]; rfl, by rw [← hfn]; exact Nat.zero_le _, by omega⟩
    · exact ⟨some ⟨g, 0, none⟩, cap, by rw [← hfn], by omega, h2⟩
  obtain ⟨ao, cap, rfl, hle, hcm⟩ := key v hv
  obtain ⟨bo, dap, rfl, hle2, hcm2⟩ := key u hu
  have hn : n ≤ 9223372036854775807 := by omega
  have HV := Lib.hid hv
  have HU := Lib.hid hu
  have HF := Lib.hid hfn
  have HB := Lib.hid hb
  clear hv hu hfn hb key
  go_enter Tryz.func19, Tryz.ntmps19
  go_wp2_with fail
  go_loopw [5] (fun p wr => ∃ (q : Nat), p = .int .i64 (q : Int) ∧ q ≤ n ∧ Below w.heap.size w wr) (fun p _ => ((n : Int) - intOf p).toNat)
  case atStart => exact ⟨0, rfl, Nat.zero_le _, Below.refl _ _⟩
  case round =>
    obtain ⟨q, rfl, hq, hg⟩ := hrel
    by_cases hqn : q < n
    · have hqI : (q : Int) < (n : Int) := by omega
      have hql : q < fs.length := by rw [HF.out]; exact hqn
      have nz : ∀ (v : Option Addr) (c : Nat), RowS fR w (.slice v n c) fs → ∃ g, v = some ⟨g, 0, none⟩ := by
        intro v c h
        rcases h with ⟨e, rfl⟩ | ⟨g, cap, e, _⟩
        · simp at hql
        · injection e with e1; exact ⟨g, e1⟩
      obtain ⟨g, rfl⟩ := nz _ _ HV.out
      obtain ⟨d, rfl⟩ := nz _ _ HU.out
      obtain ⟨⟨fa, ⟨k, t, e, o, s, b⟩⟩, hx⟩ : ∃ x, fs[q] = x := ⟨_, rfl⟩
      obtain ⟨c0, c1, c2, c3, c4, c5, c6⟩ := fd_cells_row rfl rfl (HV.out.later hg) q hql fa k t e o s b hx
      obtain ⟨d0, d1, d2, d3, d4, d5, d6⟩ := fd_cells_row rfl rfl (HU.out.later hg) q hql fa k t e o s b hx
      have hbs : b.size ≤ 1000 := by have := HB.out _ (List.getElem_mem hql); rw [hx] at this; exact this
      have cq := (fun W => eq_same ⟨k, t, e, o, s, b⟩ W (by show b.size ≤ _; unfold maxLen; omega))
      unfold Rec.val at cq
      simp only at cq
      have CQ := Lib.hid cq
      have HG := Lib.hid hg
      clear cq hg nz hx hql HV HU HF HB
      go_wp2_with fail
      go_still_tail 22, (by kernel_rfl)
      have hgd := below_draws HG.out 1
      change wpList _ _ _ _ _ (wr.drewN 1)
      obtain ⟨w2, hw2⟩ : ∃ w2, wr.drewN 1 = w2 := ⟨_, rfl⟩
      rw [hw2] at hgd ⊢
      have HG2 := Lib.hid hgd
      clear hgd hw2 c0 c1 c2 c3 c4 c5 c6 d0 d1 d2 d3 d4 d5 d6 HG
      go_wp2_with fail
      refine (CQ.out _).mono ?_
      rintro en w3 ⟨rfl, b3⟩
      have B3 := Lib.hid (HG2.out.trans (b3.mono HG2.out.size))
      clear b3 HG2 CQ
      go_wp2_with fail
      refine ⟨⟨q + 1, by rw [Int.natCast_add]; rfl, by omega, B3.out⟩, ?_⟩
      show ((n : Int) - ((q : Int) + 1)).toNat < ((n : Int) - (q : Int)).toNat
      omega
    · have HG := Lib.hid hg
      clear hg
      have hqI : ¬ (q : Int) < (n : Int) := by omega
      go_wp2_with fail
      go_ret
      exact ⟨rfl, HG.out⟩

theorem RowS.same2 {α : Type} {F : Form α} {w w' : World} {v : Value} {l : List α} (h : RowS F w v l) (hs : ∀ g, v.ownBlock = some g → g < w'.heap.size) (e : ∀ g, v.ownBlock = some g → w'.heap[g]? = w.heap[g]?) : RowS F w' v l := by
  rcases h with h | ⟨g, cap, rfl, h1, h2, h3, h4⟩
  · exact .inl h
  · refine .inr ⟨g, cap, rfl, h1, h2, hs g rfl, fun i hi j hj => ?_⟩
    have := e g rfl
    rw [← h4 i hi j hj]
    unfold World.cell?
    rw [this]
theorem laid_below' {w : World} (cells : Array Value) (T : TypeId) : Below w.heap.size w (w.alloc (.cells cells T)) := (Below.refl _ _).alloc (Nat.le_refl _) _
/-! same -/
/-- A disk of which more was read. -/
def readSt (S : St) (k : Int) : St := { S with reads := S.reads + k }
theorem readSt_add (S : St) (a b : Int) : readSt (readSt S a) b = readSt S (a + b) := by
  unfold readSt
  simp only [Int.add_assoc]
theorem readSt_zero (S : St) : readSt S 0 = S := by unfold readSt; simp
/-- What 'same' leaves. -/
def SameOut (W : World) (X : Nat → Prop) (w : World) (p : Nat) (S : St) (n : Nat) (e : Ending) (w' : World) : Prop :=
  e = .returned (.bool true) ∧ ∃ k, Held W X w' p (readSt S k) n ∧ Kept X w w'

set_option maxRecDepth 100000 in
set_option maxHeartbeats 8000000 in
theorem same_any {W : World} {X : Nat → Prop} (w : World) (p : Nat) (S : St) (n : Nat) (h : Held W X w p S n) (hn : n ≤ 10000000) (hT : crc.Tab W) (s : Nat) (nm : ByteArray) (t : Nat) (wh : Bool) (hs : SegAt w s p nm t wh) (hX : X s) (b : Nat) (hb : dlook nm.data.toList S.now = some b)
    (fs : List Fd) (hfs : (segF t (S.file b).now).1 = fs) (hm : fs.length ≤ 100000) (hrd : ∀ x ∈ fs, readS t (S.file b).now (x.at_ : Int) = (x.r, 0) ∧ x.at_ < (S.file b).now.length ∧ x.r.body.size ≤ 1000) (v : Value) (hv : RowS fR w v fs) (hvX : ∀ g, v.ownBlock = some g → X g) :
    Calls Tryz.prog 13 #[.pointer (some ⟨s, 0, none⟩), v] w (SameOut W X w p S (n + 1 + fs.length)) := by
  have CR := records_any w p S n h (by omega) hT s nm t wh hs hX b hb
  rw [hfs] at CR
  have HCR := Lib.hid CR
  obtain ⟨ao, cv, ev, hlc, hcm, hao⟩ := hv.slice
  obtain ⟨m, hfm⟩ : ∃ m, fs.length = m := ⟨_, rfl⟩
  rw [hfm] at ev hlc hm ⊢
  subst ev
  have HV := Lib.hid hv
  have HVX := Lib.hid hvX
  have HH := Lib.hid h
  have HS := Lib.hid hs
  have HT := Lib.hid hT
  have HB := Lib.hid hb
  have HRD := Lib.hid hrd
  have HF := Lib.hid hfm
  have HAO := Lib.hid hao
  clear CR h hT hs hb hfs hrd hv hvX hfm hao
  go_enter Tryz.func13, Tryz.ntmps13
  go_wp2_with fail
  refine HCR.out.mono ?_
  rintro e w1 ⟨v1, rfl, r1, _, h1, k1, z1⟩
  have C1 := Lib.hid (Found_row v1 fs w1 r1 (by rw [HF.out]; omega))
  have H1 := Lib.hid h1
  have K1 := Lib.hid k1
  clear r1 h1 k1 HCR
  go_wp2_with fail
  refine C1.out.mono ?_
  rintro e w2 ⟨v2, rfl, g2⟩
  have hv2 : RowS fR w2 (.slice ao m cv) fs := (HV.out.same z1 fun g hg => K1.out g (HVX.out g hg)).later g2.below
  have C2 := Lib.hid (EqAll_row v2 (.slice ao m cv) fs w2 (RowS.of_own g2.own) hv2 fun x hx => (HRD.out x hx).2.2)
  have B2 := Lib.hid g2.below
  clear g2 hv2 C1
  go_wp2_with fail
  refine C2.out.mono ?_
  rintro e w3 ⟨rfl, b3⟩
  have B3 := Lib.hid (B2.out.trans (b3.mono B2.out.size))
  have start : ∃ k, Held W X w3 p (readSt S k) (n + 1 + 0) ∧ Kept X w w3 := ⟨_, (Held.later H1.out B3.out).fewer fun k hk => .inl hk, fun k hk => (B3.out.block k (H1.out.user k (.inl hk))).trans (K1.out k hk)⟩
  have ST := Lib.hid start
  clear b3 C2 B2 start
  go_wp2_with fail
  go_loopw [5] (fun i wr => ∃ (q : Nat), i = .int .i64 (q : Int) ∧ q ≤ m ∧ ∃ k, Held W X wr p (readSt S k) (n + 1 + q) ∧ Kept X w wr) (fun i _ => ((m : Int) - intOf i).toNat)
  case atStart => exact ⟨0, rfl, Nat.zero_le _, ST.out⟩
  case round =>
    obtain ⟨q, rfl, hq, k, hh, hk⟩ := hrel
    by_cases hqm : q < m
    · have hqI : (q : Int) < (m : Int) := by omega
      have hql : q < fs.length := by rw [HF.out]; exact hqm
      obtain ⟨g, rfl⟩ := HAO.out (fun e => by rw [e] at hql; cases hql)
      have hvr := RowS.same2 HV.out (fun g' hg' => hh.user g' (HVX.out g' hg')) fun g' hg' => hk g' (HVX.out g' hg')
      obtain ⟨⟨fa, ⟨kd, tt, ep, o, sq, bd⟩⟩, hx⟩ : ∃ x, fs[q] = x := ⟨_, rfl⟩
      have hxr := HRD.out _ (List.getElem_mem hql)
      rw [hx] at hxr
      obtain ⟨hx1, hx2, hx3⟩ := hxr
      have s1 := HS.out.kept hX hk
      have CR := segread_in wr p (readSt S k) (n + 1 + q) hh (by omega) HT.out s nm t wh s1 hX b HB.out fa hx2
      rw [show readS t ((readSt S k).file b).now (fa : Int) = (⟨kd, tt, ep, o, sq, bd⟩, 0) from hx1] at CR
      obtain ⟨j, hj⟩ : ∃ j : Int, ((min 1039 (((readSt S k).file b).now.length - fa) : Nat) : Int) = j := ⟨_, rfl⟩
      rw [hj, show ({ readSt S k with reads := (readSt S k).reads + j } : St) = readSt S (k + j) from readSt_add S k j] at CR
      obtain ⟨c0, c1, c2, c3, c4, c5, c6⟩ := fd_cells_row rfl rfl hvr q hql fa kd tt ep o sq bd hx
      have HCR := Lib.hid CR
      have HX := Lib.hid hx
      have HK := Lib.hid hk
      have cE := fun W => eq_same ⟨kd, tt, ep, o, sq, bd⟩ W (by show bd.size ≤ _; unfold maxLen; have : bd.size ≤ 1000 := hx3; omega)
      unfold Rec.val at cE
      simp only at cE
      have HCE := Lib.hid cE
      clear CR hx hk hvr hx1 hx2 hx3 s1 hh hj HAO cE
      go_wp2_with fail
      refine HCR.out.mono ?_
      rintro en w4 ⟨rfl, h4, k4⟩
      have hbv : ((⟨kd, tt, ep, o, sq, bd⟩ : Rec), (0 : Int)).1.val = .agg #[.int .i64 kd, .int .u32 (tt : Int), .int .u64 (ep : Int), .int .u64 (o : Int), .int .u64 (sq : Int), .string bd] := rfl
      rw [hbv]
      have H4 := Lib.hid h4
      have K4 : Hid (Kept X w w4) := fun j hj => (k4 j hj).trans (HK.out j hj)
      clear c0 c1 c2 c3 c4 c5 c6 h4 k4 hbv HCR
      go_upto_region 7 with fail
      obtain ⟨w5, hw5⟩ : ∃ w5, w4.alloc (.cells #[.int .i64 kd, .int .u32 (tt : Int), .int .u64 (ep : Int), .int .u64 (o : Int), .int .u64 (sq : Int), .string bd] 40) = w5 := ⟨_, rfl⟩
      have b5 : Below w4.heap.size w4 w5 := by rw [← hw5]; exact laid_below' _ _
      have wh5 : Whole w5 w4.heap.size 40 [.int .i64 kd, .int .u32 (tt : Int), .int .u64 (ep : Int), .int .u64 (o : Int), .int .u64 (sq : Int), .string bd] := by rw [← hw5]; exact Whole.made' w4 _ _
      have hv5 := (RowS.same2 HV.out (fun g' hg' => H4.out.user g' (HVX.out g' hg')) fun g' hg' => K4.out g' (HVX.out g' hg')).later b5
      obtain ⟨d0, d1, d2, d3, d4, d5, d6⟩ := fd_cells_row rfl rfl hv5 q hql fa kd tt ep o sq bd HX.out
      obtain ⟨y0, y1, y2, y3, y4, y5⟩ := whole6 wh5
      rw [hw5]
      have fin : ∀ w6, Below w4.heap.size w4 w6 → ∃ k, Held W X w6 p (readSt S k) (n + 1 + (q + 1)) ∧ Kept X w w6 := fun w6 b6 => ⟨_, Held.later H4.out b6, fun j hj => (b6.block j (H4.out.user j hj)).trans (K4.out j hj)⟩
      have FIN := Lib.hid fin
      have B5 := Lib.hid b5
      clear hw5 b5 wh5 hv5 fin
      go_still_tail 9, (by kernel_rfl)
      change wpList _ _ _ _ _ (w5.drewN 1)
      have B6 := Lib.hid (below_draws B5.out 1)
      generalize w5.drewN 1 = w6 at B6 ⊢
      clear d0 d1 d2 d3 d4 d5 d6 y0 y1 y2 y3 y4 y5 B5
      go_wp2_with fail
      refine (HCE.out _).mono ?_
      rintro en w7 ⟨rfl, b7⟩
      have NX := Lib.hid (FIN.out w7 (B6.out.trans (b7.mono B6.out.size)))
      clear b7 B6 HCE FIN
      go_wp2_with fail
      refine ⟨⟨q + 1, by rw [Int.natCast_add]; rfl, by omega, NX.out⟩, ?_⟩
      show ((m : Int) - ((q : Int) + 1)).toNat < ((m : Int) - (q : Int)).toNat
      omega
    · have hqI : ¬ (q : Int) < (m : Int) := by omega
      obtain rfl : q = m := by omega
      have FIN := Lib.hid (show SameOut W X w p S (n + 1 + q) (.returned (.bool true)) wr from ⟨rfl, k, hh, hk⟩)
      clear hh hk
      go_wp2_with fail
      go_ret
      exact FIN.out
end Go.Proofs.YtdonblfidohncaaGreatDoor.scan
