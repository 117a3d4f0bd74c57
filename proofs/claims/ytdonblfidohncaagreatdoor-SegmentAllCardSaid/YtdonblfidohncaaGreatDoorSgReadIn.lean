/-
  CONTRACT of (*segment.Seg).Read, at a place within the file (P8.1).
-/
import Derived.Test.YtdonblfidohncaaGreatDoorSgRead
namespace Go.Proofs.YtdonblfidohncaaGreatDoor.scan
open Go.RowKit Go.Proofs.YtdonblfidohncaaGreatDoor.disk Go.Proofs.YtdonblfidohncaaGreatDoor.recd Go.Proofs.YtdonblfidohncaaGreatDoor.num
set_option linter.unusedVariables false

theorem Held.store1 {W : World} {X : Nat → Prop} {w : World} {p n : Nat} {S : St} (h : Held W X w p S n) {g : Nat} (hX : X g) (hg : W.heap.size ≤ g) (i : Nat) (v : Value) : Held W X (w.setCell ⟨g, i, none⟩ v) p S n := by
  have hgr : w.grownBy (w.setCell ⟨g, i, none⟩ v) (some g) := cell_grown
  have ht : Turn (fun k => k = g) w (w.setCell ⟨g, i, none⟩ v) := Turn.of_grown hgr rfl
  have hs : (w.setCell ⟨g, i, none⟩ v).heap.size = w.heap.size := by simp [World.setCell]
  refine ⟨(h.disk.turned ht fun k hk e => ?_).mono fun k _ hk => ⟨hk.1, by rw [hs]; exact hk.2.1, hk.2.2⟩, h.below.grown hgr h.below.size fun k e => by injection e with e; omega, fun k hk => by rw [hs]; exact h.user k hk⟩
  have e' : k = g := e
  subst e'
  exact hk.2.2 hX
theorem Held.lay {W : World} {Y : Nat → Prop} {p n : Nat} {S : St} {g : Nat} (hY : Y g) (hg : W.heap.size ≤ g) : ∀ (vs : List Value) {w : World} (o : Nat), Held W Y w p S n → Held W Y (w.setCells g o vs) p S n
  | [], w, o, h => h
  | v :: vs, w, o, h => Held.lay hY hg vs (o + 1) (Held.store1 h hY hg o v)
theorem lay_other (g : Nat) : ∀ (vs : List Value) (w : World) (o j : Nat), j ≠ g → (w.setCells g o vs).heap[j]? = w.heap[j]?
  | [], w, o, j, h => rfl
  | v :: vs, w, o, j, h => (lay_other g vs (w.setCell ⟨g, o, none⟩ v) (o + 1) j h).trans (heap_setCell_other w ⟨g, o, none⟩ j v h)

theorem lay_size (g : Nat) : ∀ (vs : List Value) (w : World) (o : Nat), (w.setCells g o vs).heap.size = w.heap.size
  | [], w, o => rfl
  | v :: vs, w, o => (lay_size g vs (w.setCell ⟨g, o, none⟩ v) (o + 1)).trans (by simp [World.setCell])
/-- What Read leaves, all that was made being the law's own. -/
def ReadSMore (W : World) (X : Nat → Prop) (w : World) (p : Nat) (S' : St) (n' : Nat) (x : Rec × Int) (e : Ending) (w' : World) : Prop :=
  e = .returned (.tuple #[x.1.val, .int .i64 x.2]) ∧ Held W (more X w w') w' p S' n' ∧ Kept X w w' ∧ w.heap.size ≤ w'.heap.size

set_option maxRecDepth 100000 in
set_option maxHeartbeats 8000000 in
theorem segread_more {W : World} {X : Nat → Prop} (w : World) (p : Nat) (S : St) (n : Nat) (h : Held W X w p S n) (hn : n ≤ 100000000) (hT : crc.Tab W) (s : Nat) (nm : ByteArray) (t : Nat) (wh : Bool) (hs : SegAt w s p nm t wh) (hX : X s) (b : Nat) (hb : dlook nm.data.toList S.now = some b) (k : Nat) (hk : k < (S.file b).now.length) :
    Calls Tryz.prog 27 #[.pointer (some ⟨s, 0, none⟩), .int .i64 (k : Int)] w (ReadSMore W X w p { S with reads := S.reads + ((min 1039 ((S.file b).now.length - k) : Nat) : Int) } (n + 1) (readS t (S.file b).now (k : Int))) := by
  have hfit := h.disk.fit (h.disk.ok.inow _ (dlook_mem hb))
  have hmo := hfit.most
  have hby := hfit.bnow
  have hsz : S.size nm.data.toList = ((S.file b).now.length : Int) := by rw [St.size]; simp only [hb]
  have b1 : Below w.heap.size w (w.alloc (.cells #[.int .i64 0, .int .u32 0, .int .u64 0, .int .u64 0, .int .u64 0, .string ⟨#[]⟩] 40)) := (Below.refl _ _).alloc (Nat.le_refl _) _
  have w1 : Whole (w.alloc (.cells #[.int .i64 0, .int .u32 0, .int .u64 0, .int .u64 0, .int .u64 0, .string ⟨#[]⟩] 40)) w.heap.size 40 [.int .i64 0, .int .u32 0, .int .u64 0, .int .u64 0, .int .u64 0, .string ⟨#[]⟩] := Whole.new_ rfl rfl
  obtain ⟨wz, hwz⟩ : ∃ wz, w.alloc (.cells #[.int .i64 0, .int .u32 0, .int .u64 0, .int .u64 0, .int .u64 0, .string ⟨#[]⟩] 40) = wz := ⟨_, rfl⟩
  rw [hwz] at b1 w1
  have s1 := hs.later b1
  have H1 : Held W (fun j => X j ∨ (w.heap.size ≤ j ∧ j < wz.heap.size)) wz p S n := h.mine b1
  have CS := fun q => segsize_any (wz.drewN q) p S n (H1.later (draws_below wz q)).disk s nm t wh (s1.later (draws_below wz q))
  have CR := fun q => read_part (w := wz) H1 hn nm hs.name b hb k (min 1039 ((S.file b).now.length - k)) (by omega) q
  have hrd : readS t (S.file b).now (k : Int) = if (dec (((S.file b).now.drop k).take (min 1039 ((S.file b).now.length - k)))).2.2 = 0 ∧ (dec (((S.file b).now.drop k).take (min 1039 ((S.file b).now.length - k)))).1.tenant = t then ((dec (((S.file b).now.drop k).take (min 1039 ((S.file b).now.length - k)))).1, 0) else (zeroRec, 4) := by
    unfold readS
    rw [if_neg (by omega), Int.toNat_natCast]
  obtain ⟨r, hr⟩ : ∃ r, readS t (S.file b).now (k : Int) = r := ⟨_, rfl⟩
  rw [hr]
  rw [hr] at hrd
  clear hr
  obtain ⟨S', hS'⟩ : ∃ S', { S with reads := S.reads + ((min 1039 ((S.file b).now.length - k) : Nat) : Int) } = S' := ⟨_, rfl⟩
  have hPl : (((S.file b).now.drop k).take (min 1039 ((S.file b).now.length - k))).length = min 1039 ((S.file b).now.length - k) := by rw [List.length_take, List.length_drop]; omega
  have hPb : Byte (((S.file b).now.drop k).take (min 1039 ((S.file b).now.length - k))) := (hby.drop k).take _
  rw [hS'] at CR ⊢
  obtain ⟨P, hP⟩ : ∃ P, ((S.file b).now.drop k).take (min 1039 ((S.file b).now.length - k)) = P := ⟨_, rfl⟩
  rw [hP] at CR hPl hPb hrd
  obtain ⟨N, hN⟩ : ∃ N, (S.file b).now.length = N := ⟨_, rfl⟩
  rw [hsz] at CS
  rw [hN] at CS CR hk hPl hmo
  obtain ⟨d, hd⟩ : ∃ d, N - k = d := ⟨_, rfl⟩
  have hwr : IntKind.i64.wrap ((N : Int) - (k : Int)) = (d : Int) := by rw [IntKind.wrap_i64]; omega
  rw [hd] at CR hPl
  obtain ⟨M, hM⟩ : ∃ M, min 1039 d = M := ⟨_, rfl⟩
  have hmn : ∀ V, (Builtin.min_ #[3, 3] 3 #[.int .i64 1039, .int .i64 (d : Int)]).run Tryz.prog V = .ok (.int .i64 (M : Int)) V := fun V => by rw [← hM]; exact run_min V 1039 d
  rw [hM] at CR hPl
  have hM2 : M ≤ 1039 := by omega
  obtain ⟨x, hx⟩ : ∃ x, dec P = x := ⟨_, rfl⟩
  have CD := fun (av : Option Addr) (cv : Nat) (V : World) (hV : Below W.heap.size W V) (hl : Leads V av P) (hc : M ≤ cv) => Decode_any av M cv P V (crc.Tab.later hT hV) hl hPb hPl hc (by omega)
  rw [hx] at CD hrd
  obtain ⟨⟨kd, tt, ep, o, sq, bd⟩, m, f⟩ := x
  unfold DecOut decV Rec.val at CD
  simp only at CD hrd
  have HRD := Lib.hid hrd
  have hkN : (k : Int) < (N : Int) := by omega
  have hbz : W.heap.size ≤ w.heap.size := h.below.size
  have fin : ∀ (r : Rec × Int) (rv : Value) (V8 V7 : World), wz.heap.size ≤ V8.heap.size → V7.heap.size = V8.heap.size → Held W (more (fun j => X j ∨ (w.heap.size ≤ j ∧ j < wz.heap.size)) wz V8) V7 p S' (n + 1) → (∀ j, X j → V7.heap[j]? = w.heap[j]?) → rv = r.1.val → ReadSMore W X w p S' (n + 1) r (.returned (.tuple #[rv, .int .i64 r.2])) V7 := by
    intro r rv V8 V7 h8 h78 h7 k7 e
    subst e
    have hz := b1.size
    refine ⟨rfl, h7.fewer fun k hk => ?_, k7, by omega⟩
    rcases hk with hk | ⟨hk1, hk2⟩
    · exact .inl (.inl hk)
    · by_cases hkz : k < wz.heap.size
      · exact .inl (.inr ⟨hk1, hkz⟩)
      · exact .inr ⟨by omega, by omega⟩
  have FIN := Lib.hid fin
  have hw0 := fun j (hj : X j) => h.user j hj
  have s1k : ∀ V, Kept (fun j => X j ∨ (w.heap.size ≤ j ∧ j < wz.heap.size)) wz V → SegAt V s p nm t wh := fun V kV => s1.kept (.inl hX) kV
  have HU := Lib.hid hw0
  have HS1 := Lib.hid s1k
  have HCS : ∀ q, Hid _ := fun q => Lib.hid (CS q)
  have HCR : ∀ q, Hid _ := fun q => Lib.hid (CR q)
  have HCD := Lib.hid CD
  have B1 := Lib.hid b1
  have W1 := Lib.hid w1
  have HH1 := Lib.hid H1
  have c0 := s1.c0
  have c1 := s1.c1
  have ht := hs.tenant
  have HWZ := Lib.hid hwz
  have HPL := Lib.hid hPl
  clear h hT hs hfit hmo hby hsz hb hrd hPl hPb hS' hP hN hd hM hx fin b1 w1 s1 H1 CS CR CD hw0 s1k hwz
  go_enter Tryz.func27, Tryz.ntmps27
  go_upto_region 1 with fail
  rw [HWZ.out]
  go_wp2_with fail
  refine (HCS 0).out.mono ?_
  rintro e w2 ⟨rfl, q2, rfl⟩
  go_wp2_with fail
  have d0 : ((wz.drewN 0).drewN q2).drew.cell? ⟨s, 0, none⟩ = some (.pointer (some ⟨p, 0, none⟩)) := c0
  have d1 : ((wz.drewN 0).drewN q2).drew.cell? ⟨s, 1, none⟩ = some (.string nm) := c1
  go_region_held3 (fun W => W.cell? ⟨s, 0, none⟩ = some (.pointer (some ⟨p, 0, none⟩)) ∧ W.cell? ⟨s, 1, none⟩ = some (.string nm)) (first | exact ⟨d0, d1⟩ | exact ⟨d0'', d1''⟩)
    (first
      | (go_at_call 50
         refine (HCR _).out.mono ?_
         rintro en w6 ⟨v, rfl, o6, n6, h6, k6, hs6⟩
         have d0'' : w6.cell? ⟨s, 0, none⟩ = some (.pointer (some ⟨p, 0, none⟩)) := (HS1.out _ k6).c0
         have d1'' : w6.cell? ⟨s, 1, none⟩ = some (.string nm) := (HS1.out _ k6).c1
         have O6 := Lib.hid o6
         have N6 := Lib.hid n6
         have H6 := Lib.hid h6
         have K6 := Lib.hid k6
         clear o6 n6 h6 k6))
  all_goals
    obtain ⟨av, cv, ev, hcv, _, _, lv, _⟩ := O6.out.form
    rw [HPL.out] at ev hcv
    subst ev
    have C6 := Lib.hid (HCD.out av cv w6 H6.out.below lv hcv)
    have hwl := W1.out.lt
    have W6 := Lib.hid (Whole.same W1.out (K6.out w.heap.size (.inr ⟨Nat.le_refl _, hwl⟩)))
    clear hcv lv d0 d1 d0'' d1'' c0 c1 HCD HCR HCS
    go_wp2_with fail
    refine C6.out.mono ?_
    rintro en w7 ⟨rfl, b7⟩
    have B7 := Lib.hid b7
    clear b7 C6
    go_upto_region 8 with fail
    obtain ⟨w8, hw8⟩ : ∃ w8, w7.alloc (.cells #[.int .i64 kd, .int .u32 (tt : Int), .int .u64 (ep : Int), .int .u64 (o : Int), .int .u64 (sq : Int), .string bd] 40) = w8 := ⟨_, rfl⟩
    rw [hw8]
    have b8 : Below w6.heap.size w6 w8 := by rw [← hw8]; exact B7.out.alloc B7.out.size _
    have Z8 : Hid (wz.heap.size ≤ w8.heap.size) := Nat.le_trans hs6 b8.size
    have wh8 : Whole w8 w7.heap.size 40 [.int .i64 kd, .int .u32 (tt : Int), .int .u64 (ep : Int), .int .u64 (o : Int), .int .u64 (sq : Int), .string bd] := by rw [← hw8]; exact Whole.made' w7 _ _
    have H8 := Lib.hid (Held.moreLater H6.out hs6 b8)
    have W8 := Lib.hid (W6.out.kept b8)
    have s8 := ((HS1.out _ K6.out).later b8).c2
    have K8 : Hid (∀ j, X j → w8.heap[j]? = w.heap[j]?) := fun j hj => ((b8.block j (H6.out.user j (.inl (.inl hj)))).trans (K6.out j (.inl hj))).trans (B1.out.block j (HU.out j hj))
    obtain ⟨bz, hbzE⟩ : ∃ bz, w.heap.size = bz := ⟨_, rfl⟩
    have HBZ2 : Hid (w.heap.size ≤ bz ∧ bz < wz.heap.size) := by rw [← hbzE]; exact ⟨Nat.le_refl _, hwl⟩
    have hbz' : W.heap.size ≤ bz := by omega
    rw [hbzE] at W8 ⊢
    have HBZ := Lib.hid hbzE
    obtain ⟨x0, x1, x2, x3, x4, x5⟩ := whole6 wh8
    generalize w7.heap.size = bx at wh8 x0 x1 x2 x3 x4 x5 ⊢
    have WH8 := Lib.hid wh8
    clear hbzE hw8 b8 wh8 W6 hwl B7 H6 K6 O6 N6
    by_cases hf : f = 0
    · by_cases htt : tt = t
      · have hrE : r = (⟨kd, tt, ep, o, sq, bd⟩, 0) := by rw [HRD.out, if_pos ⟨hf, htt⟩]
        subst hrE
        subst hf
        subst htt
        go_quiet (fail)
        have H9 := Lib.hid (Held.later H8.out (draws_below w8 nq))
        have W9 := Lib.hid (W8.out.draws nq)
        have K9 : Hid (∀ j, X j → (w8.drewN nq).heap[j]? = w.heap[j]?) := K8.out
        obtain ⟨y0, y1, y2, y3, y4, y5⟩ := whole6 (WH8.out.draws nq)
        have Z9 : Hid ((w8.drewN nq).heap.size = w8.heap.size) := rfl
        generalize w8.drewN nq = w9 at H9 W9 K9 Z9 y0 y1 y2 y3 y4 y5 ⊢
        clear x0 x1 x2 x3 x4 x5 s8 H8 W8 K8 HRD
        go_wp2_with ((with_reducible show wpList _ _ _ (⟨none, _, _, _, _, _⟩ :: _) _ _); refine wpList_store_as rfl 40 (.tmp 4) (.tmp 60) rfl bz 0 #[.int .i64 kd, .int .u32 (tt : Int), .int .u64 (ep : Int), .int .u64 (o : Int), .int .u64 (sq : Int), .string bd] rfl rfl (Whole.there W9.out 0 6 (Nat.le_refl 6)) recInfo (by simp [Value.oneCell']) ?_; intro v7 hv7; have HV7 := Lib.hid hv7; clear hv7)
        have wf7 : Whole v7 bz 40 [.int .i64 kd, .int .u32 (tt : Int), .int .u64 (ep : Int), .int .u64 (o : Int), .int .u64 (sq : Int), .string bd] := by
          rw [← HV7.out]
          exact Whole.lay [.int .i64 kd, .int .u32 (tt : Int), .int .u64 (ep : Int), .int .u64 (o : Int), .int .u64 (sq : Int), .string bd] 0 W9.out (Nat.le_refl 6)
        have h7 : Held W (more (fun j => X j ∨ (w.heap.size ≤ j ∧ j < wz.heap.size)) wz w8) v7 p S' (n + 1) := by
          rw [← HV7.out]
          exact Held.lay (.inl (.inr HBZ2.out)) hbz' [.int .i64 kd, .int .u32 (tt : Int), .int .u64 (ep : Int), .int .u64 (o : Int), .int .u64 (sq : Int), .string bd] 0 H9.out
        have k7 : ∀ j, X j → v7.heap[j]? = w.heap[j]? := fun j hj => by
          rw [← HV7.out]
          exact (lay_other bz [.int .i64 kd, .int .u32 (tt : Int), .int .u64 (ep : Int), .int .u64 (o : Int), .int .u64 (sq : Int), .string bd] _ 0 j (by have := HU.out j hj; have := HBZ.out; omega)).trans (K9.out j hj)
        exact segread_ret rfl rfl rfl wf7 rfl (FIN.out _ _ w8 _ Z8.out (by rw [← HV7.out, lay_size]; exact Z9.out) h7 k7 rfl)
      · have hrE : r = (zeroRec, 4) := by rw [HRD.out, if_neg (fun e => htt e.2)]
        subst hrE
        subst hf
        have htI : ((tt : Int) == (t : Int)) = false := by rw [beq_eq_false_iff_ne]; omega
        have htJ : ((tt : Int) != (t : Int)) = true := by rw [bne_iff_ne]; omega
        clear htt
        go_quiet (fail)
        have H9 := Lib.hid (Held.later H8.out (draws_below w8 nq))
        have W9 := Lib.hid (W8.out.draws nq)
        have K9 : Hid (∀ j, X j → (w8.drewN nq).heap[j]? = w.heap[j]?) := K8.out
        have Z9 : Hid ((w8.drewN nq).heap.size = w8.heap.size) := rfl
        generalize w8.drewN nq = w9 at H9 W9 K9 Z9 ⊢
        clear x0 x1 x2 x3 x4 x5 s8 H8 W8 K8 HRD
        go_wp2_with ((with_reducible show wpList _ _ _ (⟨none, _, _, _, _, _⟩ :: _) _ _); refine wpList_store_as rfl 40 (.tmp 4) (.tmp 59) rfl bz 0 #[.int .i64 0, .int .u32 0, .int .u64 0, .int .u64 0, .int .u64 0, .string ⟨#[]⟩] rfl rfl (Whole.there W9.out 0 6 (Nat.le_refl 6)) recInfo (by simp [Value.oneCell']) ?_; intro v7 hv7; have HV7 := Lib.hid hv7; clear hv7)
        have wf7 : Whole v7 bz 40 [.int .i64 0, .int .u32 0, .int .u64 0, .int .u64 0, .int .u64 0, .string ⟨#[]⟩] := by
          rw [← HV7.out]
          exact Whole.lay [.int .i64 0, .int .u32 0, .int .u64 0, .int .u64 0, .int .u64 0, .string ⟨#[]⟩] 0 W9.out (Nat.le_refl 6)
        have h7 : Held W (more (fun j => X j ∨ (w.heap.size ≤ j ∧ j < wz.heap.size)) wz w8) v7 p S' (n + 1) := by
          rw [← HV7.out]
          exact Held.lay (.inl (.inr HBZ2.out)) hbz' [.int .i64 0, .int .u32 0, .int .u64 0, .int .u64 0, .int .u64 0, .string ⟨#[]⟩] 0 H9.out
        have k7 : ∀ j, X j → v7.heap[j]? = w.heap[j]? := fun j hj => by
          rw [← HV7.out]
          exact (lay_other bz [.int .i64 0, .int .u32 0, .int .u64 0, .int .u64 0, .int .u64 0, .string ⟨#[]⟩] _ 0 j (by have := HU.out j hj; have := HBZ.out; omega)).trans (K9.out j hj)
        exact segread_ret rfl rfl rfl wf7 rfl (FIN.out _ _ w8 _ Z8.out (by rw [← HV7.out, lay_size]; exact Z9.out) h7 k7 rfl)
    · have hrE : r = (zeroRec, 4) := by rw [HRD.out, if_neg (fun e => hf e.1)]
      subst hrE
      have hfI : (f == 0) = false := by rw [beq_eq_false_iff_ne]; exact hf
      have hfJ : (f != 0) = true := by rw [bne_iff_ne]; exact hf
      clear hf
      go_quiet (fail)
      have H9 := Lib.hid (Held.later H8.out (draws_below w8 nq))
      have W9 := Lib.hid (W8.out.draws nq)
      have K9 : Hid (∀ j, X j → (w8.drewN nq).heap[j]? = w.heap[j]?) := K8.out
      have Z9 : Hid ((w8.drewN nq).heap.size = w8.heap.size) := rfl
      generalize w8.drewN nq = w9 at H9 W9 K9 Z9 ⊢
      clear x0 x1 x2 x3 x4 x5 s8 H8 W8 K8 HRD
      go_wp2_with ((with_reducible show wpList _ _ _ (⟨none, _, _, _, _, _⟩ :: _) _ _); refine wpList_store_as rfl 40 (.tmp 4) (.tmp 59) rfl bz 0 #[.int .i64 0, .int .u32 0, .int .u64 0, .int .u64 0, .int .u64 0, .string ⟨#[]⟩] rfl rfl (Whole.there W9.out 0 6 (Nat.le_refl 6)) recInfo (by simp [Value.oneCell']) ?_; intro v7 hv7; have HV7 := Lib.hid hv7; clear hv7)
      have wf7 : Whole v7 bz 40 [.int .i64 0, .int .u32 0, .int .u64 0, .int .u64 0, .int .u64 0, .string ⟨#[]⟩] := by
        rw [← HV7.out]
        exact Whole.lay [.int .i64 0, .int .u32 0, .int .u64 0, .int .u64 0, .int .u64 0, .string ⟨#[]⟩] 0 W9.out (Nat.le_refl 6)
      have h7 : Held W (more (fun j => X j ∨ (w.heap.size ≤ j ∧ j < wz.heap.size)) wz w8) v7 p S' (n + 1) := by
        rw [← HV7.out]
        exact Held.lay (.inl (.inr HBZ2.out)) hbz' [.int .i64 0, .int .u32 0, .int .u64 0, .int .u64 0, .int .u64 0, .string ⟨#[]⟩] 0 H9.out
      have k7 : ∀ j, X j → v7.heap[j]? = w.heap[j]? := fun j hj => by
        rw [← HV7.out]
        exact (lay_other bz [.int .i64 0, .int .u32 0, .int .u64 0, .int .u64 0, .int .u64 0, .string ⟨#[]⟩] _ 0 j (by have := HU.out j hj; have := HBZ.out; omega)).trans (K9.out j hj)
      exact segread_ret rfl rfl rfl wf7 rfl (FIN.out _ _ w8 _ Z8.out (by rw [← HV7.out, lay_size]; exact Z9.out) h7 k7 rfl)
theorem segread_in {W : World} {X : Nat → Prop} (w : World) (p : Nat) (S : St) (n : Nat) (h : Held W X w p S n) (hn : n ≤ 100000000) (hT : crc.Tab W) (s : Nat) (nm : ByteArray) (t : Nat) (wh : Bool) (hs : SegAt w s p nm t wh) (hX : X s) (b : Nat) (hb : dlook nm.data.toList S.now = some b) (k : Nat) (hk : k < (S.file b).now.length) :
    Calls Tryz.prog 27 #[.pointer (some ⟨s, 0, none⟩), .int .i64 (k : Int)] w (ReadSOut W X w p { S with reads := S.reads + ((min 1039 ((S.file b).now.length - k) : Nat) : Int) } (n + 1) (readS t (S.file b).now (k : Int))) :=
  (segread_more w p S n h hn hT s nm t wh hs hX b hb k hk).mono fun _ _ ⟨h1, h2, h3, _⟩ => ⟨h1, h2.fewer fun _ hj => .inl hj, h3⟩
end Go.Proofs.YtdonblfidohncaaGreatDoor.scan
