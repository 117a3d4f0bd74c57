/-
  THE WALK OF "RecordBytes".
-/
import Derived.Test.YtlpennnnkbnjmaaDoorRcLawB
import Derived.Test.YtlpennnnkbnjmaaDoorRcREnc
import Derived.Deep.RegionLaw
import Derived.Deep.DeepCutAuto
namespace Go.Proofs.YtlpennnnkbnjmaaDoor.recd
open Go.RowKit Go.Proofs.YtlpennnnkbnjmaaDoor.num Go.Proofs.YtlpennnnkbnjmaaDoor.disk
set_option linter.unusedVariables false

theorem eq_same (r : Rec) (w : World) (hf : r.body.size ≤ maxLen) : Calls Tryd.prog 15 #[r.val, r.val] w fun e w' => e = .returned (.bool true) ∧ Below w.heap.size w w' := by
  obtain ⟨k, t, e, o, s, b⟩ := r
  unfold Rec.val
  simp only
  go_enter Tryd.func15, Tryd.ntmps15
  go_wp2
  go_ret
  exact ⟨rfl, ((Below.refl _ _).alloc (Nat.le_refl _) _).alloc (by simp) _⟩

/-- What stays, call by call: the law's record, its bytes. -/
structure Stays (w : World) (p : Nat) (l : List Value) (a : Option Addr) (el : List Int) (W : World) : Prop where
  whole : Whole W p 25 l
  below : Below w.heap.size w W
  leads : Leads W a el
theorem Stays.next {w W W' : World} {p : Nat} {l : List Value} {a : Option Addr} {el : List Int} (h : Stays w p l a el W) (hb : Below W.heap.size W W') : Stays w p l a el W' :=
  ⟨h.whole.kept hb, h.below.trans (hb.mono h.below.size), h.leads.later hb⟩
theorem Stays.cells {w W : World} {p : Nat} {v0 v1 v2 v3 v4 v5 : Value} {a : Option Addr} {el : List Int} (h : Stays w p [v0, v1, v2, v3, v4, v5] a el W) :
    W.cell? ⟨p, 0, none⟩ = some v0 ∧ W.cell? ⟨p, 1, none⟩ = some v1 ∧ W.cell? ⟨p, 2, none⟩ = some v2 ∧ W.cell? ⟨p, 3, none⟩ = some v3 ∧ W.cell? ⟨p, 4, none⟩ = some v4 ∧ W.cell? ⟨p, 5, none⟩ = some v5 :=
  ⟨h.whole.at_ 0, h.whole.at_ 1, h.whole.at_ 2, h.whole.at_ 3, h.whole.at_ 4, h.whole.at_ 5⟩
theorem Stays.conv {w W : World} {p : Nat} {l : List Value} {a : Option Addr} {el : List Int} (h : Stays w p l a el W) (hb : Byte el) {n : Nat} (hn : el.length = n) (cap : Nat) : (convert 28 9 (.slice a n cap)).run Tryd.prog W = .ok (.string (str el)) W := by
  subst hn; exact run_str h.leads hb cap

set_option maxRecDepth 100000 in
set_option maxHeartbeats 2000000 in
theorem by_lo_t (w : World) (hT : crc.Tab w) (r : Rec) (hf : r.Fit) (q : Int) (hq : ¬ 0 < q) (hm : mayB { r with body := (cutS r.body 300) } = true) : Calls Tryd.prog 3 #[r.val, .int .i64 q] w fun e w' => e = .returned (.bool true) ∧ Below w.heap.size w w' := by
  have CB := fun W hW => begun_any W hW
  have CC := fun W => cutRec_any r 300 (by decide) hf W
  have hcs : (cutS r.body 300).size ≤ 300 := by have := cutS_size r.body 300; omega
  have hRb : { r with body := (cutS r.body 300) }.body.size ≤ 1100 := by show (cutS r.body 300).size ≤ 1100; omega
  have hRf : Rec.Fit { r with body := (cutS r.body 300) } := ⟨hf.kind, hf.tenant, by unfold maxLen; omega⟩
  have CM := fun W => rMay_any { r with body := (cutS r.body 300) } W hRf
  have CM2 := fun W => May_any { r with body := (cutS r.body 300) } W hRf
  have CE := fun W hW => Encode_any { r with body := (cutS r.body 300) } W hW hRf
  have CR := fun W => REncode_any { r with body := (cutS r.body 300) } W hRf
  have CQ := fun W => eq_same { r with body := (cutS r.body 300) } W hRf.body
  rw [hm] at CM CM2
  have hby : Byte (enc { r with body := (cutS r.body 300) }) := by rw [enc, hm]; exact encL_byte _
  have hel : (enc { r with body := (cutS r.body 300) }).length = 39 + ({ r with body := (cutS r.body 300) }.body.size) := by rw [enc, hm]; exact encL_length _
  have hdec : dec (enc { r with body := (cutS r.body 300) }) = ({ r with body := (cutS r.body 300) }, 39 + { r with body := (cutS r.body 300) }.body.size, 0) := by rw [enc, hm]; exact dec_enc _ hm hf.tenant
  obtain ⟨el, hell⟩ : ∃ el, enc { r with body := (cutS r.body 300) } = el := ⟨_, rfl⟩
  rw [hell] at CE CR hby hel hdec
  obtain ⟨sz, hsz⟩ : ∃ sz, { r with body := (cutS r.body 300) }.body.size = sz := ⟨_, rfl⟩
  rw [hsz] at hel hdec hRb
  have hv : decV (dec el) = .tuple #[{ r with body := (cutS r.body 300) }.val, .int .i64 (39 + (sz : Int)), .int .i64 0] := by rw [hdec]; unfold decV; simp only [show ((39 + sz : Nat) : Int) = 39 + (sz : Int) by omega]
  have HBY := Lib.hid hby
  have HEL := Lib.hid hel
  clear hby hel hell hdec
  obtain ⟨k, t, e, o, s, b⟩ := r
  unfold cutR Rec.val at *
  simp only at CC CM CM2 CE CR CQ hsz hv ⊢
  obtain ⟨c, hc⟩ : ∃ c, cutS b 300 = c := ⟨_, rfl⟩
  rw [hc] at CC CM CM2 CE CR CQ hsz hv
  
  
  
  have HCB := Lib.hid CB
  have HCC := Lib.hid CC
  have HCM := Lib.hid CM
  have HCM2 := Lib.hid CM2
  have HCE := Lib.hid CE
  have HCR := Lib.hid CR
  have HCQ := Lib.hid CQ
  have HT := Lib.hid hT
  have HF := Lib.hid hf
  have HSZ := Lib.hid hsz
  have HV := Lib.hid hv
  clear CB CC CM CM2 CE CR CQ hT hf hm hc hcs hRf hsz  hv
  
  go_enter Tryd.func3, Tryd.ntmps3
  go_wp2_with fail
  obtain ⟨p, hp⟩ : ∃ p, w.heap.size = p := ⟨_, rfl⟩
  have b0 : Below w.heap.size w (w.alloc (.cells #[.int .i64 k, .int .u32 (t : Int), .int .u64 (e : Int), .int .u64 (o : Int), .int .u64 (s : Int), .string b] 25)) := (Below.refl _ _).alloc (Nat.le_refl _) _
  have wh0 : Whole (w.alloc (.cells #[.int .i64 k, .int .u32 (t : Int), .int .u64 (e : Int), .int .u64 (o : Int), .int .u64 (s : Int), .string b] 25)) p 25 [.int .i64 k, .int .u32 (t : Int), .int .u64 (e : Int), .int .u64 (o : Int), .int .u64 (s : Int), .string b] := Whole.new_ hp.symm rfl
  have T0 := HT.out.later b0
  refine (HCB.out _ T0).mono ?_
  rintro en w1 ⟨rfl, b1⟩
  have W1 := Lib.hid (wh0.kept b1)
  have B1 := Lib.hid (b0.trans (b1.mono b0.size))
  rw [hp]
  have HP := Lib.hid hp
  clear b0 wh0 T0 b1 hp HCB
  go_wp2_with ((with_reducible show wpList _ _ _ (⟨some 13, _, _, _, _, _⟩ :: _) _ _); refine wpList_load_mid rfl 25 (.tmp 2) rfl p 0 rfl [.int .i64 k, .int .u32 (t : Int), .int .u64 (e : Int), .int .u64 (o : Int), .int .u64 (s : Int), .string b] _ (W1.out.range 0 6) Tryd.underlying25 rfl recInfo ?_)
  refine (HCC.out w1).mono ?_
  rintro en w2 ⟨rfl, b2⟩
  have W2 := Lib.hid (W1.out.kept b2)
  have B2 := Lib.hid (B1.out.trans (b2.mono B1.out.size))
  clear b2 W1 B1
  go_wp2_with (first | ((with_reducible show wpList _ _ _ (⟨none, _, _, _, _, _⟩ :: _) _ _); refine wpList_store_as rfl 25 (.tmp 2) (.tmp 14) rfl p 0 #[.int .i64 k, .int .u32 (t : Int), .int .u64 (e : Int), .int .u64 (o : Int), .int .u64 (s : Int), .string c] rfl rfl (Whole.there W2.out 0 6 (Nat.le_refl 6)) recInfo (by simp [Value.oneCell']) ?_; intro w3 hw3; have HW3 := Lib.hid hw3; clear hw3) | ((with_reducible show wpList _ _ _ (⟨some 25, _, _, _, _, _⟩ :: _) _ _); refine wpList_load_mid rfl 25 (.tmp 2) rfl p 0 rfl [.int .i64 k, .int .u32 (t : Int), .int .u64 (e : Int), .int .u64 (o : Int), .int .u64 (s : Int), .string c] _ (by rw [← HW3.out]; exact Whole.range (Whole.lay [.int .i64 k, .int .u32 (t : Int), .int .u64 (e : Int), .int .u64 (o : Int), .int .u64 (s : Int), .string c] 0 W2.out (Nat.le_refl 6)) 0 6) Tryd.underlying25 rfl recInfo ?_))
  have W5 : Whole w3 p 25 [.int .i64 k, .int .u32 (t : Int), .int .u64 (e : Int), .int .u64 (o : Int), .int .u64 (s : Int), .string c] := by rw [← HW3.out]; exact (Whole.lay [.int .i64 k, .int .u32 (t : Int), .int .u64 (e : Int), .int .u64 (o : Int), .int .u64 (s : Int), .string c] 0 W2.out (Nat.le_refl 6))
  have B5 : Below w.heap.size w w3 := by rw [← HW3.out]; exact below_lay _ _ _ B2.out (by rw [HP.out]; exact Nat.le_refl _)
  obtain ⟨w5, hw5⟩ : ∃ w5, w3 = w5 := ⟨_, rfl⟩
  subst hw5
  clear HW3
  clear W2 B2
  refine (HCE.out _ (HT.out.later B5)).mono ?_
  rintro en w6 hmade
  obtain ⟨v, rfl, o6, n6, b6⟩ := hmade
  have W6 := W5.kept b6
  have B6 := Lib.hid (B5.trans (b6.mono B5.size))
  obtain ⟨a, cap, ev, hcap, -, -, l6, -⟩ := o6.form
  rw [HEL.out] at ev hcap
  subst ev
  clear o6 n6 b6 W5 B5
  -- the region that draws
  have k6 : Stays w p [.int .i64 k, .int .u32 (t : Int), .int .u64 (e : Int), .int .u64 (o : Int), .int .u64 (s : Int), .string c] a el w6 := ⟨W6, B6.out, l6⟩
  have k0 : Stays w p [.int .i64 k, .int .u32 (t : Int), .int .u64 (e : Int), .int .u64 (o : Int), .int .u64 (s : Int), .string c] a el w6.drew := k6.next (below_draws (Below.refl _ _) 1)
  have s0 := k0.cells
  have v0 := k0.conv HBY.out HEL.out cap
  clear W6 l6 k6 B6
  go_wp2_with fail
  go_cut [39] (fun x wx => x = .bool false ∧ Stays w p [.int .i64 k, .int .u32 (t : Int), .int .u64 (e : Int), .int .u64 (o : Int), .int .u64 (s : Int), .string c] a el wx)
  case first =>
    go_region_law
    (first
      | (rw [if_pos (by rfl)]; go_simp; go_at_call 11; refine (HCR.out _).mono ?_; rintro en w7 ⟨v7, rfl, o7, n7, b7⟩; have k7 := k0.next b7; have s7 := k7.cells; have v7a := k7.conv HBY.out HEL.out cap; obtain ⟨a7, c7, e7, hc7, -, -, l7, -⟩ := o7.form; rw [HEL.out] at e7 hc7; subst e7; have v7b : (convert 28 9 (.slice a7 (39 + sz) c7)).run Tryd.prog w7 = .ok (.string (str el)) w7 := Stays.conv ⟨k7.whole, k7.below, l7⟩ HBY.out HEL.out c7; clear o7 n7 b7 l7)
      | (rw [if_pos (by rfl)]; go_simp; go_at_call 12; refine (HCM2.out _).mono ?_; rintro en w8 ⟨rfl, b8⟩; have k8 := Stays.next (by assumption) b8; have s8 := k8.cells; clear b8)
      | (rw [if_pos (by rfl)]; go_simp; go_at_call 13; refine (HCM.out _).mono ?_; rintro en w9 ⟨rfl, b9⟩; have k9 := Stays.next (by assumption) b9; have s9 := k9.cells; clear b9))
    all_goals
      go_wp2_with fail
      go_meet
      exact ⟨rfl, by assumption⟩
  case rest =>
    obtain ⟨rfl, k9⟩ := hcut
    clear k0 s0 v0
    go_wp2_with fail
    refine (Decode_any a (39 + sz) cap el _ (HT.out.later k9.below) k9.leads HBY.out HEL.out hcap (by omega)).mono ?_
    rintro en w10 ⟨rfl, b10⟩
    rw [HV.out]
    have k10 := k9.next b10
    have k11 : Stays w p [.int .i64 k, .int .u32 (t : Int), .int .u64 (e : Int), .int .u64 (o : Int), .int .u64 (s : Int), .string c] a el (w10.alloc (.cells #[.int .i64 k, .int .u32 (t : Int), .int .u64 (e : Int), .int .u64 (o : Int), .int .u64 (s : Int), .string c] 25)) := k10.next ((Below.refl _ _).alloc (Nat.le_refl _) _)
    have s11 := k11.cells
    have B11 := Lib.hid k11.below
    clear k9 k10 k11 b10
    go_wp2_with fail
    refine (HCQ.out _).mono ?_
    rintro en w12 ⟨rfl, b12⟩
    have B12 := Lib.hid (B11.out.trans (b12.mono B11.out.size))
    clear b12 s11
    go_wp2_with fail
    go_ret
    exact ⟨rfl, B12.out⟩
set_option maxRecDepth 100000 in
set_option maxHeartbeats 2000000 in
theorem by_lo_f (w : World) (hT : crc.Tab w) (r : Rec) (hf : r.Fit) (q : Int) (hq : ¬ 0 < q) (hm : mayB { r with body := (cutS r.body 300) } = false) : Calls Tryd.prog 3 #[r.val, .int .i64 q] w fun e w' => e = .returned (.bool true) ∧ Below w.heap.size w w' := by
  have CB := fun W hW => begun_any W hW
  have CC := fun W => cutRec_any r 300 (by decide) hf W
  have hcs : (cutS r.body 300).size ≤ 300 := by have := cutS_size r.body 300; omega
  have hRb : { r with body := (cutS r.body 300) }.body.size ≤ 1100 := by show (cutS r.body 300).size ≤ 1100; omega
  have hRf : Rec.Fit { r with body := (cutS r.body 300) } := ⟨hf.kind, hf.tenant, by unfold maxLen; omega⟩
  have CM := fun W => rMay_any { r with body := (cutS r.body 300) } W hRf
  have CM2 := fun W => May_any { r with body := (cutS r.body 300) } W hRf
  have CE := fun W hW => Encode_any { r with body := (cutS r.body 300) } W hW hRf
  have CR := fun W => REncode_any { r with body := (cutS r.body 300) } W hRf
  have CQ := fun W => eq_same { r with body := (cutS r.body 300) } W hRf.body
  rw [hm] at CM CM2
  have hby : Byte (enc { r with body := (cutS r.body 300) }) := by rw [enc, hm]; exact Byte.nil
  have hel : (enc { r with body := (cutS r.body 300) }).length = 0 := by rw [enc, hm]; rfl
  
  obtain ⟨el, hell⟩ : ∃ el, enc { r with body := (cutS r.body 300) } = el := ⟨_, rfl⟩
  rw [hell] at CE CR hby hel
  obtain ⟨sz, hsz⟩ : ∃ sz, { r with body := (cutS r.body 300) }.body.size = sz := ⟨_, rfl⟩
  rw [hsz] at hRb 
  
  have HBY := Lib.hid hby
  have HEL := Lib.hid hel
  clear hby hel hell 
  obtain ⟨k, t, e, o, s, b⟩ := r
  unfold cutR Rec.val at *
  simp only at CC CM CM2 CE CR CQ hsz  ⊢
  obtain ⟨c, hc⟩ : ∃ c, cutS b 300 = c := ⟨_, rfl⟩
  rw [hc] at CC CM CM2 CE CR CQ hsz
  
  
  
  have HCB := Lib.hid CB
  have HCC := Lib.hid CC
  have HCM := Lib.hid CM
  have HCM2 := Lib.hid CM2
  have HCE := Lib.hid CE
  have HCR := Lib.hid CR
  have HCQ := Lib.hid CQ
  have HT := Lib.hid hT
  have HF := Lib.hid hf
  have HSZ := Lib.hid hsz
  
  clear CB CC CM CM2 CE CR CQ hT hf hm hc hcs hRf hsz  
  
  go_enter Tryd.func3, Tryd.ntmps3
  go_wp2_with fail
  obtain ⟨p, hp⟩ : ∃ p, w.heap.size = p := ⟨_, rfl⟩
  have b0 : Below w.heap.size w (w.alloc (.cells #[.int .i64 k, .int .u32 (t : Int), .int .u64 (e : Int), .int .u64 (o : Int), .int .u64 (s : Int), .string b] 25)) := (Below.refl _ _).alloc (Nat.le_refl _) _
  have wh0 : Whole (w.alloc (.cells #[.int .i64 k, .int .u32 (t : Int), .int .u64 (e : Int), .int .u64 (o : Int), .int .u64 (s : Int), .string b] 25)) p 25 [.int .i64 k, .int .u32 (t : Int), .int .u64 (e : Int), .int .u64 (o : Int), .int .u64 (s : Int), .string b] := Whole.new_ hp.symm rfl
  have T0 := HT.out.later b0
  refine (HCB.out _ T0).mono ?_
  rintro en w1 ⟨rfl, b1⟩
  have W1 := Lib.hid (wh0.kept b1)
  have B1 := Lib.hid (b0.trans (b1.mono b0.size))
  rw [hp]
  have HP := Lib.hid hp
  clear b0 wh0 T0 b1 hp HCB
  go_wp2_with ((with_reducible show wpList _ _ _ (⟨some 13, _, _, _, _, _⟩ :: _) _ _); refine wpList_load_mid rfl 25 (.tmp 2) rfl p 0 rfl [.int .i64 k, .int .u32 (t : Int), .int .u64 (e : Int), .int .u64 (o : Int), .int .u64 (s : Int), .string b] _ (W1.out.range 0 6) Tryd.underlying25 rfl recInfo ?_)
  refine (HCC.out w1).mono ?_
  rintro en w2 ⟨rfl, b2⟩
  have W2 := Lib.hid (W1.out.kept b2)
  have B2 := Lib.hid (B1.out.trans (b2.mono B1.out.size))
  clear b2 W1 B1
  go_wp2_with (first | ((with_reducible show wpList _ _ _ (⟨none, _, _, _, _, _⟩ :: _) _ _); refine wpList_store_as rfl 25 (.tmp 2) (.tmp 14) rfl p 0 #[.int .i64 k, .int .u32 (t : Int), .int .u64 (e : Int), .int .u64 (o : Int), .int .u64 (s : Int), .string c] rfl rfl (Whole.there W2.out 0 6 (Nat.le_refl 6)) recInfo (by simp [Value.oneCell']) ?_; intro w3 hw3; have HW3 := Lib.hid hw3; clear hw3) | ((with_reducible show wpList _ _ _ (⟨some 25, _, _, _, _, _⟩ :: _) _ _); refine wpList_load_mid rfl 25 (.tmp 2) rfl p 0 rfl [.int .i64 k, .int .u32 (t : Int), .int .u64 (e : Int), .int .u64 (o : Int), .int .u64 (s : Int), .string c] _ (by rw [← HW3.out]; exact Whole.range (Whole.lay [.int .i64 k, .int .u32 (t : Int), .int .u64 (e : Int), .int .u64 (o : Int), .int .u64 (s : Int), .string c] 0 W2.out (Nat.le_refl 6)) 0 6) Tryd.underlying25 rfl recInfo ?_))
  have W5 : Whole w3 p 25 [.int .i64 k, .int .u32 (t : Int), .int .u64 (e : Int), .int .u64 (o : Int), .int .u64 (s : Int), .string c] := by rw [← HW3.out]; exact (Whole.lay [.int .i64 k, .int .u32 (t : Int), .int .u64 (e : Int), .int .u64 (o : Int), .int .u64 (s : Int), .string c] 0 W2.out (Nat.le_refl 6))
  have B5 : Below w.heap.size w w3 := by rw [← HW3.out]; exact below_lay _ _ _ B2.out (by rw [HP.out]; exact Nat.le_refl _)
  obtain ⟨w5, hw5⟩ : ∃ w5, w3 = w5 := ⟨_, rfl⟩
  subst hw5
  clear HW3
  clear W2 B2
  refine (HCE.out _ (HT.out.later B5)).mono ?_
  rintro en w6 hmade
  obtain ⟨v, rfl, o6, n6, b6⟩ := hmade
  have W6 := W5.kept b6
  have B6 := Lib.hid (B5.trans (b6.mono B5.size))
  obtain ⟨a, cap, ev, hcap, -, -, l6, -⟩ := o6.form
  rw [HEL.out] at ev hcap
  subst ev
  clear o6 n6 b6 W5 B5
  -- the region that draws
  have k6 : Stays w p [.int .i64 k, .int .u32 (t : Int), .int .u64 (e : Int), .int .u64 (o : Int), .int .u64 (s : Int), .string c] a el w6 := ⟨W6, B6.out, l6⟩
  have k0 : Stays w p [.int .i64 k, .int .u32 (t : Int), .int .u64 (e : Int), .int .u64 (o : Int), .int .u64 (s : Int), .string c] a el w6.drew := k6.next (below_draws (Below.refl _ _) 1)
  have s0 := k0.cells
  have v0 := k0.conv HBY.out HEL.out cap
  clear W6 l6 k6 B6
  go_wp2_with fail
  go_cut [39] (fun x wx => x = .bool false ∧ Stays w p [.int .i64 k, .int .u32 (t : Int), .int .u64 (e : Int), .int .u64 (o : Int), .int .u64 (s : Int), .string c] a el wx)
  case first =>
    go_region_law
    (first
      | (rw [if_pos (by rfl)]; go_simp; go_at_call 11; refine (HCR.out _).mono ?_; rintro en w7 ⟨v7, rfl, o7, n7, b7⟩; have k7 := k0.next b7; have s7 := k7.cells; have v7a := k7.conv HBY.out HEL.out cap; obtain ⟨a7, c7, e7, hc7, -, -, l7, -⟩ := o7.form; rw [HEL.out] at e7 hc7; subst e7; have v7b : (convert 28 9 (.slice a7 0 c7)).run Tryd.prog w7 = .ok (.string (str el)) w7 := Stays.conv ⟨k7.whole, k7.below, l7⟩ HBY.out HEL.out c7; clear o7 n7 b7 l7)
      | (rw [if_pos (by rfl)]; go_simp; go_at_call 12; refine (HCM2.out _).mono ?_; rintro en w8 ⟨rfl, b8⟩; have k8 := Stays.next (by assumption) b8; have s8 := k8.cells; clear b8)
      | (rw [if_pos (by rfl)]; go_simp; go_at_call 13; refine (HCM.out _).mono ?_; rintro en w9 ⟨rfl, b9⟩; have k9 := Stays.next (by assumption) b9; have s9 := k9.cells; clear b9))
    all_goals
      go_wp2_with fail
      go_meet
      exact ⟨rfl, by assumption⟩
  case rest =>
    obtain ⟨rfl, k9⟩ := hcut
    clear k0 s0 v0
    have W9 := Lib.hid k9.whole
    have B9 := Lib.hid k9.below
    clear k9
    go_wp2_with ((with_reducible show wpList _ _ _ (⟨some 43, _, _, _, _, _⟩ :: _) _ _); refine wpList_load_mid rfl 25 (.tmp 2) rfl p 0 rfl [.int .i64 k, .int .u32 (t : Int), .int .u64 (e : Int), .int .u64 (o : Int), .int .u64 (s : Int), .string c] _ (W9.out.range 0 6) Tryd.underlying25 rfl recInfo ?_)
    refine (HCM2.out _).mono ?_
    rintro en w10 ⟨rfl, b10⟩
    have B10 := Lib.hid (B9.out.trans (b10.mono B9.out.size))
    clear b10
    go_wp2_with fail
    go_ret
    exact ⟨rfl, B10.out⟩
set_option maxRecDepth 100000 in
set_option maxHeartbeats 2000000 in
theorem by_hi_t (w : World) (hT : crc.Tab w) (r : Rec) (hf : r.Fit) (q : Int) (hq : ¬ q < 1100) (hq0 : 0 < q) (hm : mayB { r with body := (cutS r.body 300) } = true) : Calls Tryd.prog 3 #[r.val, .int .i64 q] w fun e w' => e = .returned (.bool true) ∧ Below w.heap.size w w' := by
  have CB := fun W hW => begun_any W hW
  have CC := fun W => cutRec_any r 300 (by decide) hf W
  have hcs : (cutS r.body 300).size ≤ 300 := by have := cutS_size r.body 300; omega
  have hRb : { r with body := (cutS r.body 300) }.body.size ≤ 1100 := by show (cutS r.body 300).size ≤ 1100; omega
  have hRf : Rec.Fit { r with body := (cutS r.body 300) } := ⟨hf.kind, hf.tenant, by unfold maxLen; omega⟩
  have CM := fun W => rMay_any { r with body := (cutS r.body 300) } W hRf
  have CM2 := fun W => May_any { r with body := (cutS r.body 300) } W hRf
  have CE := fun W hW => Encode_any { r with body := (cutS r.body 300) } W hW hRf
  have CR := fun W => REncode_any { r with body := (cutS r.body 300) } W hRf
  have CQ := fun W => eq_same { r with body := (cutS r.body 300) } W hRf.body
  rw [hm] at CM CM2
  have hby : Byte (enc { r with body := (cutS r.body 300) }) := by rw [enc, hm]; exact encL_byte _
  have hel : (enc { r with body := (cutS r.body 300) }).length = 39 + ({ r with body := (cutS r.body 300) }.body.size) := by rw [enc, hm]; exact encL_length _
  have hdec : dec (enc { r with body := (cutS r.body 300) }) = ({ r with body := (cutS r.body 300) }, 39 + { r with body := (cutS r.body 300) }.body.size, 0) := by rw [enc, hm]; exact dec_enc _ hm hf.tenant
  obtain ⟨el, hell⟩ : ∃ el, enc { r with body := (cutS r.body 300) } = el := ⟨_, rfl⟩
  rw [hell] at CE CR hby hel hdec
  obtain ⟨sz, hsz⟩ : ∃ sz, { r with body := (cutS r.body 300) }.body.size = sz := ⟨_, rfl⟩
  rw [hsz] at hel hdec hRb
  have hv : decV (dec el) = .tuple #[{ r with body := (cutS r.body 300) }.val, .int .i64 (39 + (sz : Int)), .int .i64 0] := by rw [hdec]; unfold decV; simp only [show ((39 + sz : Nat) : Int) = 39 + (sz : Int) by omega]
  have HBY := Lib.hid hby
  have HEL := Lib.hid hel
  clear hby hel hell hdec
  obtain ⟨k, t, e, o, s, b⟩ := r
  unfold cutR Rec.val at *
  simp only at CC CM CM2 CE CR CQ hsz hv ⊢
  obtain ⟨c, hc⟩ : ∃ c, cutS b 300 = c := ⟨_, rfl⟩
  rw [hc] at CC CM CM2 CE CR CQ hsz hv
  
  
  
  have HCB := Lib.hid CB
  have HCC := Lib.hid CC
  have HCM := Lib.hid CM
  have HCM2 := Lib.hid CM2
  have HCE := Lib.hid CE
  have HCR := Lib.hid CR
  have HCQ := Lib.hid CQ
  have HT := Lib.hid hT
  have HF := Lib.hid hf
  have HSZ := Lib.hid hsz
  have HV := Lib.hid hv
  clear CB CC CM CM2 CE CR CQ hT hf hm hc hcs hRf hsz  hv
  
  go_enter Tryd.func3, Tryd.ntmps3
  go_wp2_with fail
  obtain ⟨p, hp⟩ : ∃ p, w.heap.size = p := ⟨_, rfl⟩
  have b0 : Below w.heap.size w (w.alloc (.cells #[.int .i64 k, .int .u32 (t : Int), .int .u64 (e : Int), .int .u64 (o : Int), .int .u64 (s : Int), .string b] 25)) := (Below.refl _ _).alloc (Nat.le_refl _) _
  have wh0 : Whole (w.alloc (.cells #[.int .i64 k, .int .u32 (t : Int), .int .u64 (e : Int), .int .u64 (o : Int), .int .u64 (s : Int), .string b] 25)) p 25 [.int .i64 k, .int .u32 (t : Int), .int .u64 (e : Int), .int .u64 (o : Int), .int .u64 (s : Int), .string b] := Whole.new_ hp.symm rfl
  have T0 := HT.out.later b0
  refine (HCB.out _ T0).mono ?_
  rintro en w1 ⟨rfl, b1⟩
  have W1 := Lib.hid (wh0.kept b1)
  have B1 := Lib.hid (b0.trans (b1.mono b0.size))
  rw [hp]
  have HP := Lib.hid hp
  clear b0 wh0 T0 b1 hp HCB
  go_wp2_with ((with_reducible show wpList _ _ _ (⟨some 13, _, _, _, _, _⟩ :: _) _ _); refine wpList_load_mid rfl 25 (.tmp 2) rfl p 0 rfl [.int .i64 k, .int .u32 (t : Int), .int .u64 (e : Int), .int .u64 (o : Int), .int .u64 (s : Int), .string b] _ (W1.out.range 0 6) Tryd.underlying25 rfl recInfo ?_)
  refine (HCC.out w1).mono ?_
  rintro en w2 ⟨rfl, b2⟩
  have W2 := Lib.hid (W1.out.kept b2)
  have B2 := Lib.hid (B1.out.trans (b2.mono B1.out.size))
  clear b2 W1 B1
  go_wp2_with (first | ((with_reducible show wpList _ _ _ (⟨none, _, _, _, _, _⟩ :: _) _ _); refine wpList_store_as rfl 25 (.tmp 2) (.tmp 14) rfl p 0 #[.int .i64 k, .int .u32 (t : Int), .int .u64 (e : Int), .int .u64 (o : Int), .int .u64 (s : Int), .string c] rfl rfl (Whole.there W2.out 0 6 (Nat.le_refl 6)) recInfo (by simp [Value.oneCell']) ?_; intro w3 hw3; have HW3 := Lib.hid hw3; clear hw3) | ((with_reducible show wpList _ _ _ (⟨some 25, _, _, _, _, _⟩ :: _) _ _); refine wpList_load_mid rfl 25 (.tmp 2) rfl p 0 rfl [.int .i64 k, .int .u32 (t : Int), .int .u64 (e : Int), .int .u64 (o : Int), .int .u64 (s : Int), .string c] _ (by rw [← HW3.out]; exact Whole.range (Whole.lay [.int .i64 k, .int .u32 (t : Int), .int .u64 (e : Int), .int .u64 (o : Int), .int .u64 (s : Int), .string c] 0 W2.out (Nat.le_refl 6)) 0 6) Tryd.underlying25 rfl recInfo ?_))
  have W5 : Whole w3 p 25 [.int .i64 k, .int .u32 (t : Int), .int .u64 (e : Int), .int .u64 (o : Int), .int .u64 (s : Int), .string c] := by rw [← HW3.out]; exact (Whole.lay [.int .i64 k, .int .u32 (t : Int), .int .u64 (e : Int), .int .u64 (o : Int), .int .u64 (s : Int), .string c] 0 W2.out (Nat.le_refl 6))
  have B5 : Below w.heap.size w w3 := by rw [← HW3.out]; exact below_lay _ _ _ B2.out (by rw [HP.out]; exact Nat.le_refl _)
  obtain ⟨w5, hw5⟩ : ∃ w5, w3 = w5 := ⟨_, rfl⟩
  subst hw5
  clear HW3
  clear W2 B2
  refine (HCE.out _ (HT.out.later B5)).mono ?_
  rintro en w6 hmade
  obtain ⟨v, rfl, o6, n6, b6⟩ := hmade
  have W6 := W5.kept b6
  have B6 := Lib.hid (B5.trans (b6.mono B5.size))
  obtain ⟨a, cap, ev, hcap, -, -, l6, -⟩ := o6.form
  rw [HEL.out] at ev hcap
  subst ev
  clear o6 n6 b6 W5 B5
  -- the region that draws
  have k6 : Stays w p [.int .i64 k, .int .u32 (t : Int), .int .u64 (e : Int), .int .u64 (o : Int), .int .u64 (s : Int), .string c] a el w6 := ⟨W6, B6.out, l6⟩
  have k0 : Stays w p [.int .i64 k, .int .u32 (t : Int), .int .u64 (e : Int), .int .u64 (o : Int), .int .u64 (s : Int), .string c] a el w6.drew := k6.next (below_draws (Below.refl _ _) 1)
  have s0 := k0.cells
  have v0 := k0.conv HBY.out HEL.out cap
  clear W6 l6 k6 B6
  go_wp2_with fail
  go_cut [39] (fun x wx => x = .bool false ∧ Stays w p [.int .i64 k, .int .u32 (t : Int), .int .u64 (e : Int), .int .u64 (o : Int), .int .u64 (s : Int), .string c] a el wx)
  case first =>
    go_region_law
    (first
      | (rw [if_pos (by rfl)]; go_simp; go_at_call 11; refine (HCR.out _).mono ?_; rintro en w7 ⟨v7, rfl, o7, n7, b7⟩; have k7 := k0.next b7; have s7 := k7.cells; have v7a := k7.conv HBY.out HEL.out cap; obtain ⟨a7, c7, e7, hc7, -, -, l7, -⟩ := o7.form; rw [HEL.out] at e7 hc7; subst e7; have v7b : (convert 28 9 (.slice a7 (39 + sz) c7)).run Tryd.prog w7 = .ok (.string (str el)) w7 := Stays.conv ⟨k7.whole, k7.below, l7⟩ HBY.out HEL.out c7; clear o7 n7 b7 l7)
      | (rw [if_pos (by rfl)]; go_simp; go_at_call 12; refine (HCM2.out _).mono ?_; rintro en w8 ⟨rfl, b8⟩; have k8 := Stays.next (by assumption) b8; have s8 := k8.cells; clear b8)
      | (rw [if_pos (by rfl)]; go_simp; go_at_call 13; refine (HCM.out _).mono ?_; rintro en w9 ⟨rfl, b9⟩; have k9 := Stays.next (by assumption) b9; have s9 := k9.cells; clear b9))
    all_goals
      go_wp2_with fail
      go_meet
      exact ⟨rfl, by assumption⟩
  case rest =>
    obtain ⟨rfl, k9⟩ := hcut
    clear k0 s0 v0
    go_wp2_with fail
    refine (Decode_any a (39 + sz) cap el _ (HT.out.later k9.below) k9.leads HBY.out HEL.out hcap (by omega)).mono ?_
    rintro en w10 ⟨rfl, b10⟩
    rw [HV.out]
    have k10 := k9.next b10
    have k11 : Stays w p [.int .i64 k, .int .u32 (t : Int), .int .u64 (e : Int), .int .u64 (o : Int), .int .u64 (s : Int), .string c] a el (w10.alloc (.cells #[.int .i64 k, .int .u32 (t : Int), .int .u64 (e : Int), .int .u64 (o : Int), .int .u64 (s : Int), .string c] 25)) := k10.next ((Below.refl _ _).alloc (Nat.le_refl _) _)
    have s11 := k11.cells
    have B11 := Lib.hid k11.below
    clear k9 k10 k11 b10
    go_wp2_with fail
    refine (HCQ.out _).mono ?_
    rintro en w12 ⟨rfl, b12⟩
    have B12 := Lib.hid (B11.out.trans (b12.mono B11.out.size))
    clear b12 s11
    go_wp2_with fail
    go_ret
    exact ⟨rfl, B12.out⟩
set_option maxRecDepth 100000 in
set_option maxHeartbeats 2000000 in
theorem by_hi_f (w : World) (hT : crc.Tab w) (r : Rec) (hf : r.Fit) (q : Int) (hq : ¬ q < 1100) (hq0 : 0 < q) (hm : mayB { r with body := (cutS r.body 300) } = false) : Calls Tryd.prog 3 #[r.val, .int .i64 q] w fun e w' => e = .returned (.bool true) ∧ Below w.heap.size w w' := by
  have CB := fun W hW => begun_any W hW
  have CC := fun W => cutRec_any r 300 (by decide) hf W
  have hcs : (cutS r.body 300).size ≤ 300 := by have := cutS_size r.body 300; omega
  have hRb : { r with body := (cutS r.body 300) }.body.size ≤ 1100 := by show (cutS r.body 300).size ≤ 1100; omega
  have hRf : Rec.Fit { r with body := (cutS r.body 300) } := ⟨hf.kind, hf.tenant, by unfold maxLen; omega⟩
  have CM := fun W => rMay_any { r with body := (cutS r.body 300) } W hRf
  have CM2 := fun W => May_any { r with body := (cutS r.body 300) } W hRf
  have CE := fun W hW => Encode_any { r with body := (cutS r.body 300) } W hW hRf
  have CR := fun W => REncode_any { r with body := (cutS r.body 300) } W hRf
  have CQ := fun W => eq_same { r with body := (cutS r.body 300) } W hRf.body
  rw [hm] at CM CM2
  have hby : Byte (enc { r with body := (cutS r.body 300) }) := by rw [enc, hm]; exact Byte.nil
  have hel : (enc { r with body := (cutS r.body 300) }).length = 0 := by rw [enc, hm]; rfl
  
  obtain ⟨el, hell⟩ : ∃ el, enc { r with body := (cutS r.body 300) } = el := ⟨_, rfl⟩
  rw [hell] at CE CR hby hel
  obtain ⟨sz, hsz⟩ : ∃ sz, { r with body := (cutS r.body 300) }.body.size = sz := ⟨_, rfl⟩
  rw [hsz] at hRb 
  
  have HBY := Lib.hid hby
  have HEL := Lib.hid hel
  clear hby hel hell 
  obtain ⟨k, t, e, o, s, b⟩ := r
  unfold cutR Rec.val at *
  simp only at CC CM CM2 CE CR CQ hsz  ⊢
  obtain ⟨c, hc⟩ : ∃ c, cutS b 300 = c := ⟨_, rfl⟩
  rw [hc] at CC CM CM2 CE CR CQ hsz
  
  
  
  have HCB := Lib.hid CB
  have HCC := Lib.hid CC
  have HCM := Lib.hid CM
  have HCM2 := Lib.hid CM2
  have HCE := Lib.hid CE
  have HCR := Lib.hid CR
  have HCQ := Lib.hid CQ
  have HT := Lib.hid hT
  have HF := Lib.hid hf
  have HSZ := Lib.hid hsz
  
  clear CB CC CM CM2 CE CR CQ hT hf hm hc hcs hRf hsz  
  
  go_enter Tryd.func3, Tryd.ntmps3
  go_wp2_with fail
  obtain ⟨p, hp⟩ : ∃ p, w.heap.size = p := ⟨_, rfl⟩
  have b0 : Below w.heap.size w (w.alloc (.cells #[.int .i64 k, .int .u32 (t : Int), .int .u64 (e : Int), .int .u64 (o : Int), .int .u64 (s : Int), .string b] 25)) := (Below.refl _ _).alloc (Nat.le_refl _) _
  have wh0 : Whole (w.alloc (.cells #[.int .i64 k, .int .u32 (t : Int), .int .u64 (e : Int), .int .u64 (o : Int), .int .u64 (s : Int), .string b] 25)) p 25 [.int .i64 k, .int .u32 (t : Int), .int .u64 (e : Int), .int .u64 (o : Int), .int .u64 (s : Int), .string b] := Whole.new_ hp.symm rfl
  have T0 := HT.out.later b0
  refine (HCB.out _ T0).mono ?_
  rintro en w1 ⟨rfl, b1⟩
  have W1 := Lib.hid (wh0.kept b1)
  have B1 := Lib.hid (b0.trans (b1.mono b0.size))
  rw [hp]
  have HP := Lib.hid hp
  clear b0 wh0 T0 b1 hp HCB
  go_wp2_with ((with_reducible show wpList _ _ _ (⟨some 13, _, _, _, _, _⟩ :: _) _ _); refine wpList_load_mid rfl 25 (.tmp 2) rfl p 0 rfl [.int .i64 k, .int .u32 (t : Int), .int .u64 (e : Int), .int .u64 (o : Int), .int .u64 (s : Int), .string b] _ (W1.out.range 0 6) Tryd.underlying25 rfl recInfo ?_)
  refine (HCC.out w1).mono ?_
  rintro en w2 ⟨rfl, b2⟩
  have W2 := Lib.hid (W1.out.kept b2)
  have B2 := Lib.hid (B1.out.trans (b2.mono B1.out.size))
  clear b2 W1 B1
  go_wp2_with (first | ((with_reducible show wpList _ _ _ (⟨none, _, _, _, _, _⟩ :: _) _ _); refine wpList_store_as rfl 25 (.tmp 2) (.tmp 14) rfl p 0 #[.int .i64 k, .int .u32 (t : Int), .int .u64 (e : Int), .int .u64 (o : Int), .int .u64 (s : Int), .string c] rfl rfl (Whole.there W2.out 0 6 (Nat.le_refl 6)) recInfo (by simp [Value.oneCell']) ?_; intro w3 hw3; have HW3 := Lib.hid hw3; clear hw3) | ((with_reducible show wpList _ _ _ (⟨some 25, _, _, _, _, _⟩ :: _) _ _); refine wpList_load_mid rfl 25 (.tmp 2) rfl p 0 rfl [.int .i64 k, .int .u32 (t : Int), .int .u64 (e : Int), .int .u64 (o : Int), .int .u64 (s : Int), .string c] _ (by rw [← HW3.out]; exact Whole.range (Whole.lay [.int .i64 k, .int .u32 (t : Int), .int .u64 (e : Int), .int .u64 (o : Int), .int .u64 (s : Int), .string c] 0 W2.out (Nat.le_refl 6)) 0 6) Tryd.underlying25 rfl recInfo ?_))
  have W5 : Whole w3 p 25 [.int .i64 k, .int .u32 (t : Int), .int .u64 (e : Int), .int .u64 (o : Int), .int .u64 (s : Int), .string c] := by rw [← HW3.out]; exact (Whole.lay [.int .i64 k, .int .u32 (t : Int), .int .u64 (e : Int), .int .u64 (o : Int), .int .u64 (s : Int), .string c] 0 W2.out (Nat.le_refl 6))
  have B5 : Below w.heap.size w w3 := by rw [← HW3.out]; exact below_lay _ _ _ B2.out (by rw [HP.out]; exact Nat.le_refl _)
  obtain ⟨w5, hw5⟩ : ∃ w5, w3 = w5 := ⟨_, rfl⟩
  subst hw5
  clear HW3
  clear W2 B2
  refine (HCE.out _ (HT.out.later B5)).mono ?_
  rintro en w6 hmade
  obtain ⟨v, rfl, o6, n6, b6⟩ := hmade
  have W6 := W5.kept b6
  have B6 := Lib.hid (B5.trans (b6.mono B5.size))
  obtain ⟨a, cap, ev, hcap, -, -, l6, -⟩ := o6.form
  rw [HEL.out] at ev hcap
  subst ev
  clear o6 n6 b6 W5 B5
  -- the region that draws
  have k6 : Stays w p [.int .i64 k, .int .u32 (t : Int), .int .u64 (e : Int), .int .u64 (o : Int), .int .u64 (s : Int), .string c] a el w6 := ⟨W6, B6.out, l6⟩
  have k0 : Stays w p [.int .i64 k, .int .u32 (t : Int), .int .u64 (e : Int), .int .u64 (o : Int), .int .u64 (s : Int), .string c] a el w6.drew := k6.next (below_draws (Below.refl _ _) 1)
  have s0 := k0.cells
  have v0 := k0.conv HBY.out HEL.out cap
  clear W6 l6 k6 B6
  go_wp2_with fail
  go_cut [39] (fun x wx => x = .bool false ∧ Stays w p [.int .i64 k, .int .u32 (t : Int), .int .u64 (e : Int), .int .u64 (o : Int), .int .u64 (s : Int), .string c] a el wx)
  case first =>
    go_region_law
    (first
      | (rw [if_pos (by rfl)]; go_simp; go_at_call 11; refine (HCR.out _).mono ?_; rintro en w7 ⟨v7, rfl, o7, n7, b7⟩; have k7 := k0.next b7; have s7 := k7.cells; have v7a := k7.conv HBY.out HEL.out cap; obtain ⟨a7, c7, e7, hc7, -, -, l7, -⟩ := o7.form; rw [HEL.out] at e7 hc7; subst e7; have v7b : (convert 28 9 (.slice a7 0 c7)).run Tryd.prog w7 = .ok (.string (str el)) w7 := Stays.conv ⟨k7.whole, k7.below, l7⟩ HBY.out HEL.out c7; clear o7 n7 b7 l7)
      | (rw [if_pos (by rfl)]; go_simp; go_at_call 12; refine (HCM2.out _).mono ?_; rintro en w8 ⟨rfl, b8⟩; have k8 := Stays.next (by assumption) b8; have s8 := k8.cells; clear b8)
      | (rw [if_pos (by rfl)]; go_simp; go_at_call 13; refine (HCM.out _).mono ?_; rintro en w9 ⟨rfl, b9⟩; have k9 := Stays.next (by assumption) b9; have s9 := k9.cells; clear b9))
    all_goals
      go_wp2_with fail
      go_meet
      exact ⟨rfl, by assumption⟩
  case rest =>
    obtain ⟨rfl, k9⟩ := hcut
    clear k0 s0 v0
    have W9 := Lib.hid k9.whole
    have B9 := Lib.hid k9.below
    clear k9
    go_wp2_with ((with_reducible show wpList _ _ _ (⟨some 43, _, _, _, _, _⟩ :: _) _ _); refine wpList_load_mid rfl 25 (.tmp 2) rfl p 0 rfl [.int .i64 k, .int .u32 (t : Int), .int .u64 (e : Int), .int .u64 (o : Int), .int .u64 (s : Int), .string c] _ (W9.out.range 0 6) Tryd.underlying25 rfl recInfo ?_)
    refine (HCM2.out _).mono ?_
    rintro en w10 ⟨rfl, b10⟩
    have B10 := Lib.hid (B9.out.trans (b10.mono B9.out.size))
    clear b10
    go_wp2_with fail
    go_ret
    exact ⟨rfl, B10.out⟩
set_option maxRecDepth 100000 in
set_option maxHeartbeats 2000000 in
theorem by_in_t (w : World) (hT : crc.Tab w) (r : Rec) (hf : r.Fit) (q : Nat) (hq0 : ¬ (q : Int) ≤ 0) (hq : (q : Int) < 1100) (hm : mayB { r with body := (str (List.replicate q 0)) } = true) : Calls Tryd.prog 3 #[r.val, .int .i64 (q : Int)] w fun e w' => e = .returned (.bool true) ∧ Below w.heap.size w w' := by
  have CB := fun W hW => begun_any W hW
  have CC := fun W => cutRec_any r 300 (by decide) hf W
  have hcs : (cutS r.body 300).size ≤ 300 := by have := cutS_size r.body 300; omega
  have hRb : { r with body := (str (List.replicate q 0)) }.body.size ≤ 1100 := by show (str (List.replicate q 0)).size ≤ 1100; rw [str_size, List.length_replicate]; omega
  have hRf : Rec.Fit { r with body := (str (List.replicate q 0)) } := ⟨hf.kind, hf.tenant, by unfold maxLen; omega⟩
  have CM := fun W => rMay_any { r with body := (str (List.replicate q 0)) } W hRf
  have CM2 := fun W => May_any { r with body := (str (List.replicate q 0)) } W hRf
  have CE := fun W hW => Encode_any { r with body := (str (List.replicate q 0)) } W hW hRf
  have CR := fun W => REncode_any { r with body := (str (List.replicate q 0)) } W hRf
  have CQ := fun W => eq_same { r with body := (str (List.replicate q 0)) } W hRf.body
  rw [hm] at CM CM2
  have hby : Byte (enc { r with body := (str (List.replicate q 0)) }) := by rw [enc, hm]; exact encL_byte _
  have hel : (enc { r with body := (str (List.replicate q 0)) }).length = 39 + ({ r with body := (str (List.replicate q 0)) }.body.size) := by rw [enc, hm]; exact encL_length _
  have hdec : dec (enc { r with body := (str (List.replicate q 0)) }) = ({ r with body := (str (List.replicate q 0)) }, 39 + { r with body := (str (List.replicate q 0)) }.body.size, 0) := by rw [enc, hm]; exact dec_enc _ hm hf.tenant
  obtain ⟨el, hell⟩ : ∃ el, enc { r with body := (str (List.replicate q 0)) } = el := ⟨_, rfl⟩
  rw [hell] at CE CR hby hel hdec
  obtain ⟨sz, hsz⟩ : ∃ sz, { r with body := (str (List.replicate q 0)) }.body.size = sz := ⟨_, rfl⟩
  rw [hsz] at hel hdec hRb
  have hv : decV (dec el) = .tuple #[{ r with body := (str (List.replicate q 0)) }.val, .int .i64 (39 + (sz : Int)), .int .i64 0] := by rw [hdec]; unfold decV; simp only [show ((39 + sz : Nat) : Int) = 39 + (sz : Int) by omega]
  have HBY := Lib.hid hby
  have HEL := Lib.hid hel
  clear hby hel hell hdec
  obtain ⟨k, t, e, o, s, b⟩ := r
  unfold cutR Rec.val at *
  simp only at CC CM CM2 CE CR CQ hsz hv ⊢
  obtain ⟨c, hc⟩ : ∃ c, cutS b 300 = c := ⟨_, rfl⟩
  rw [hc] at CC 
  obtain ⟨z, hz⟩ : ∃ z, str (List.replicate q 0) = z := ⟨_, rfl⟩
  rw [hz] at CM CM2 CE CR CQ hsz hv
  have HZ := Lib.hid hz
  have HCB := Lib.hid CB
  have HCC := Lib.hid CC
  have HCM := Lib.hid CM
  have HCM2 := Lib.hid CM2
  have HCE := Lib.hid CE
  have HCR := Lib.hid CR
  have HCQ := Lib.hid CQ
  have HT := Lib.hid hT
  have HF := Lib.hid hf
  have HSZ := Lib.hid hsz
  have HV := Lib.hid hv
  clear CB CC CM CM2 CE CR CQ hT hf hm hc hcs hRf hsz hz hv
  have hqs : q ≤ 1100 := by omega
  go_enter Tryd.func3, Tryd.ntmps3
  go_wp2_with fail
  obtain ⟨p, hp⟩ : ∃ p, w.heap.size = p := ⟨_, rfl⟩
  have b0 : Below w.heap.size w (w.alloc (.cells #[.int .i64 k, .int .u32 (t : Int), .int .u64 (e : Int), .int .u64 (o : Int), .int .u64 (s : Int), .string b] 25)) := (Below.refl _ _).alloc (Nat.le_refl _) _
  have wh0 : Whole (w.alloc (.cells #[.int .i64 k, .int .u32 (t : Int), .int .u64 (e : Int), .int .u64 (o : Int), .int .u64 (s : Int), .string b] 25)) p 25 [.int .i64 k, .int .u32 (t : Int), .int .u64 (e : Int), .int .u64 (o : Int), .int .u64 (s : Int), .string b] := Whole.new_ hp.symm rfl
  have T0 := HT.out.later b0
  refine (HCB.out _ T0).mono ?_
  rintro en w1 ⟨rfl, b1⟩
  have W1 := Lib.hid (wh0.kept b1)
  have B1 := Lib.hid (b0.trans (b1.mono b0.size))
  rw [hp]
  have HP := Lib.hid hp
  clear b0 wh0 T0 b1 hp HCB
  go_wp2_with ((with_reducible show wpList _ _ _ (⟨some 13, _, _, _, _, _⟩ :: _) _ _); refine wpList_load_mid rfl 25 (.tmp 2) rfl p 0 rfl [.int .i64 k, .int .u32 (t : Int), .int .u64 (e : Int), .int .u64 (o : Int), .int .u64 (s : Int), .string b] _ (W1.out.range 0 6) Tryd.underlying25 rfl recInfo ?_)
  refine (HCC.out w1).mono ?_
  rintro en w2 ⟨rfl, b2⟩
  have W2 := Lib.hid (W1.out.kept b2)
  have B2 := Lib.hid (B1.out.trans (b2.mono B1.out.size))
  clear b2 W1 B1
  -- the new Body
  have key : ∀ w3, w2.setCells p 0 [.int .i64 k, .int .u32 (t : Int), .int .u64 (e : Int), .int .u64 (o : Int), .int .u64 (s : Int), .string c] = w3 → ∃ w4, (Instr.makeSlice 28 (.int .i64 (q : Int)) (.int .i64 (q : Int))).run Tryd.prog w3 = .ok (.slice (some ⟨w3.heap.size, 0, none⟩) q q) w4 ∧
      Hid ((convert 28 9 (.slice (some ⟨w3.heap.size, 0, none⟩) q q)).run Tryd.prog w4 = .ok (.string z) w4 ∧ Whole w4 p 25 [.int .i64 k, .int .u32 (t : Int), .int .u64 (e : Int), .int .u64 (o : Int), .int .u64 (s : Int), .string c] ∧ Below w.heap.size w w4) := fun w3 hw3 => by
    obtain ⟨w4, r4, o4, b4⟩ := run_make_bytes w3 q (by omega)
    have l4 := run_str (w := w4) (a := some ⟨w3.heap.size, 0, none⟩) (l := List.replicate q 0) (by
      obtain ⟨_, _, e, _, _, _, hl, _⟩ := o4.form
      injection e with e1 e2 e3
      rw [e1]; exact hl) (Byte.zeros q) q
    rw [List.length_replicate, HZ.out] at l4
    have wh3 : Whole w3 p 25 [.int .i64 k, .int .u32 (t : Int), .int .u64 (e : Int), .int .u64 (o : Int), .int .u64 (s : Int), .string c] := by rw [← hw3]; exact (Whole.lay [.int .i64 k, .int .u32 (t : Int), .int .u64 (e : Int), .int .u64 (o : Int), .int .u64 (s : Int), .string c] 0 W2.out (Nat.le_refl 6))
    have b3 : Below w.heap.size w w3 := by rw [← hw3]; exact below_lay _ _ _ B2.out (by rw [HP.out]; exact Nat.le_refl _)
    exact ⟨w4, r4, show _ from ⟨l4, wh3.kept b4, b3.trans (b4.mono b3.size)⟩⟩
  have KEY := Lib.hid key
  clear key
  go_wp2_with (first | ((with_reducible show wpList _ _ _ (⟨none, _, _, _, _, _⟩ :: _) _ _); refine wpList_store_as rfl 25 (.tmp 2) (.tmp 14) rfl p 0 #[.int .i64 k, .int .u32 (t : Int), .int .u64 (e : Int), .int .u64 (o : Int), .int .u64 (s : Int), .string c] rfl rfl (Whole.there W2.out 0 6 (Nat.le_refl 6)) recInfo (by simp [Value.oneCell']) ?_; intro w3 hw3; obtain ⟨w4, r4, hk4⟩ := KEY.out w3 hw3; have l4 := hk4.out.1; have c4 := hk4.out.2.1.at_ 5; have f4 := hk4.out.2.1.free 5; clear hw3) | ((with_reducible show wpList _ _ _ (⟨some 25, _, _, _, _, _⟩ :: _) _ _); refine wpList_load_mid rfl 25 (.tmp 2) rfl p 0 rfl [.int .i64 k, .int .u32 (t : Int), .int .u64 (e : Int), .int .u64 (o : Int), .int .u64 (s : Int), .string z] _ (Whole.range (hk4.out.2.1.put 5 (.string z)) 0 6) Tryd.underlying25 rfl recInfo ?_))
  have W5 := hk4.out.2.1.put 5 (.string z)
  have B5 : Below w.heap.size w (w4.setCell ⟨p, 5, none⟩ (.string z)) := hk4.out.2.2.setCell (by rw [HP.out]; exact Nat.le_refl _) _
  clear r4 l4 c4 f4 hk4
  obtain ⟨w5, hw5⟩ : ∃ w5, w4.setCell ⟨p, 5, none⟩ (.string z) = w5 := ⟨_, rfl⟩
  rw [hw5] at W5 B5 ⊢
  have W5 : Whole w5 p 25 [.int .i64 k, .int .u32 (t : Int), .int .u64 (e : Int), .int .u64 (o : Int), .int .u64 (s : Int), .string z] := W5
  clear hw5
  clear W2 B2
  refine (HCE.out _ (HT.out.later B5)).mono ?_
  rintro en w6 hmade
  obtain ⟨v, rfl, o6, n6, b6⟩ := hmade
  have W6 := W5.kept b6
  have B6 := Lib.hid (B5.trans (b6.mono B5.size))
  obtain ⟨a, cap, ev, hcap, -, -, l6, -⟩ := o6.form
  rw [HEL.out] at ev hcap
  subst ev
  clear o6 n6 b6 W5 B5
  -- the region that draws
  have k6 : Stays w p [.int .i64 k, .int .u32 (t : Int), .int .u64 (e : Int), .int .u64 (o : Int), .int .u64 (s : Int), .string z] a el w6 := ⟨W6, B6.out, l6⟩
  have k0 : Stays w p [.int .i64 k, .int .u32 (t : Int), .int .u64 (e : Int), .int .u64 (o : Int), .int .u64 (s : Int), .string z] a el w6.drew := k6.next (below_draws (Below.refl _ _) 1)
  have s0 := k0.cells
  have v0 := k0.conv HBY.out HEL.out cap
  clear W6 l6 k6 B6
  go_wp2_with fail
  go_cut [39] (fun x wx => x = .bool false ∧ Stays w p [.int .i64 k, .int .u32 (t : Int), .int .u64 (e : Int), .int .u64 (o : Int), .int .u64 (s : Int), .string z] a el wx)
  case first =>
    go_region_law
    (first
      | (rw [if_pos (by rfl)]; go_simp; go_at_call 11; refine (HCR.out _).mono ?_; rintro en w7 ⟨v7, rfl, o7, n7, b7⟩; have k7 := k0.next b7; have s7 := k7.cells; have v7a := k7.conv HBY.out HEL.out cap; obtain ⟨a7, c7, e7, hc7, -, -, l7, -⟩ := o7.form; rw [HEL.out] at e7 hc7; subst e7; have v7b : (convert 28 9 (.slice a7 (39 + sz) c7)).run Tryd.prog w7 = .ok (.string (str el)) w7 := Stays.conv ⟨k7.whole, k7.below, l7⟩ HBY.out HEL.out c7; clear o7 n7 b7 l7)
      | (rw [if_pos (by rfl)]; go_simp; go_at_call 12; refine (HCM2.out _).mono ?_; rintro en w8 ⟨rfl, b8⟩; have k8 := Stays.next (by assumption) b8; have s8 := k8.cells; clear b8)
      | (rw [if_pos (by rfl)]; go_simp; go_at_call 13; refine (HCM.out _).mono ?_; rintro en w9 ⟨rfl, b9⟩; have k9 := Stays.next (by assumption) b9; have s9 := k9.cells; clear b9))
    all_goals
      go_wp2_with fail
      go_meet
      exact ⟨rfl, by assumption⟩
  case rest =>
    obtain ⟨rfl, k9⟩ := hcut
    clear k0 s0 v0
    go_wp2_with fail
    refine (Decode_any a (39 + sz) cap el _ (HT.out.later k9.below) k9.leads HBY.out HEL.out hcap (by omega)).mono ?_
    rintro en w10 ⟨rfl, b10⟩
    rw [HV.out]
    have k10 := k9.next b10
    have k11 : Stays w p [.int .i64 k, .int .u32 (t : Int), .int .u64 (e : Int), .int .u64 (o : Int), .int .u64 (s : Int), .string z] a el (w10.alloc (.cells #[.int .i64 k, .int .u32 (t : Int), .int .u64 (e : Int), .int .u64 (o : Int), .int .u64 (s : Int), .string z] 25)) := k10.next ((Below.refl _ _).alloc (Nat.le_refl _) _)
    have s11 := k11.cells
    have B11 := Lib.hid k11.below
    clear k9 k10 k11 b10
    go_wp2_with fail
    refine (HCQ.out _).mono ?_
    rintro en w12 ⟨rfl, b12⟩
    have B12 := Lib.hid (B11.out.trans (b12.mono B11.out.size))
    clear b12 s11
    go_wp2_with fail
    go_ret
    exact ⟨rfl, B12.out⟩
set_option maxRecDepth 100000 in
set_option maxHeartbeats 2000000 in
theorem by_in_f (w : World) (hT : crc.Tab w) (r : Rec) (hf : r.Fit) (q : Nat) (hq0 : ¬ (q : Int) ≤ 0) (hq : (q : Int) < 1100) (hm : mayB { r with body := (str (List.replicate q 0)) } = false) : Calls Tryd.prog 3 #[r.val, .int .i64 (q : Int)] w fun e w' => e = .returned (.bool true) ∧ Below w.heap.size w w' := by
  have CB := fun W hW => begun_any W hW
  have CC := fun W => cutRec_any r 300 (by decide) hf W
  have hcs : (cutS r.body 300).size ≤ 300 := by have := cutS_size r.body 300; omega
  have hRb : { r with body := (str (List.replicate q 0)) }.body.size ≤ 1100 := by show (str (List.replicate q 0)).size ≤ 1100; rw [str_size, List.length_replicate]; omega
  have hRf : Rec.Fit { r with body := (str (List.replicate q 0)) } := ⟨hf.kind, hf.tenant, by unfold maxLen; omega⟩
  have CM := fun W => rMay_any { r with body := (str (List.replicate q 0)) } W hRf
  have CM2 := fun W => May_any { r with body := (str (List.replicate q 0)) } W hRf
  have CE := fun W hW => Encode_any { r with body := (str (List.replicate q 0)) } W hW hRf
  have CR := fun W => REncode_any { r with body := (str (List.replicate q 0)) } W hRf
  have CQ := fun W => eq_same { r with body := (str (List.replicate q 0)) } W hRf.body
  rw [hm] at CM CM2
  have hby : Byte (enc { r with body := (str (List.replicate q 0)) }) := by rw [enc, hm]; exact Byte.nil
  have hel : (enc { r with body := (str (List.replicate q 0)) }).length = 0 := by rw [enc, hm]; rfl
  
  obtain ⟨el, hell⟩ : ∃ el, enc { r with body := (str (List.replicate q 0)) } = el := ⟨_, rfl⟩
  rw [hell] at CE CR hby hel
  obtain ⟨sz, hsz⟩ : ∃ sz, { r with body := (str (List.replicate q 0)) }.body.size = sz := ⟨_, rfl⟩
  rw [hsz] at hRb 
  
  have HBY := Lib.hid hby
  have HEL := Lib.hid hel
  clear hby hel hell 
  obtain ⟨k, t, e, o, s, b⟩ := r
  unfold cutR Rec.val at *
  simp only at CC CM CM2 CE CR CQ hsz  ⊢
  obtain ⟨c, hc⟩ : ∃ c, cutS b 300 = c := ⟨_, rfl⟩
  rw [hc] at CC 
  obtain ⟨z, hz⟩ : ∃ z, str (List.replicate q 0) = z := ⟨_, rfl⟩
  rw [hz] at CM CM2 CE CR CQ hsz
  have HZ := Lib.hid hz
  have HCB := Lib.hid CB
  have HCC := Lib.hid CC
  have HCM := Lib.hid CM
  have HCM2 := Lib.hid CM2
  have HCE := Lib.hid CE
  have HCR := Lib.hid CR
  have HCQ := Lib.hid CQ
  have HT := Lib.hid hT
  have HF := Lib.hid hf
  have HSZ := Lib.hid hsz
  
  clear CB CC CM CM2 CE CR CQ hT hf hm hc hcs hRf hsz hz 
  have hqs : q ≤ 1100 := by omega
  go_enter Tryd.func3, Tryd.ntmps3
  go_wp2_with fail
  obtain ⟨p, hp⟩ : ∃ p, w.heap.size = p := ⟨_, rfl⟩
  have b0 : Below w.heap.size w (w.alloc (.cells #[.int .i64 k, .int .u32 (t : Int), .int .u64 (e : Int), .int .u64 (o : Int), .int .u64 (s : Int), .string b] 25)) := (Below.refl _ _).alloc (Nat.le_refl _) _
  have wh0 : Whole (w.alloc (.cells #[.int .i64 k, .int .u32 (t : Int), .int .u64 (e : Int), .int .u64 (o : Int), .int .u64 (s : Int), .string b] 25)) p 25 [.int .i64 k, .int .u32 (t : Int), .int .u64 (e : Int), .int .u64 (o : Int), .int .u64 (s : Int), .string b] := Whole.new_ hp.symm rfl
  have T0 := HT.out.later b0
  refine (HCB.out _ T0).mono ?_
  rintro en w1 ⟨rfl, b1⟩
  have W1 := Lib.hid (wh0.kept b1)
  have B1 := Lib.hid (b0.trans (b1.mono b0.size))
  rw [hp]
  have HP := Lib.hid hp
  clear b0 wh0 T0 b1 hp HCB
  go_wp2_with ((with_reducible show wpList _ _ _ (⟨some 13, _, _, _, _, _⟩ :: _) _ _); refine wpList_load_mid rfl 25 (.tmp 2) rfl p 0 rfl [.int .i64 k, .int .u32 (t : Int), .int .u64 (e : Int), .int .u64 (o : Int), .int .u64 (s : Int), .string b] _ (W1.out.range 0 6) Tryd.underlying25 rfl recInfo ?_)
  refine (HCC.out w1).mono ?_
  rintro en w2 ⟨rfl, b2⟩
  have W2 := Lib.hid (W1.out.kept b2)
  have B2 := Lib.hid (B1.out.trans (b2.mono B1.out.size))
  clear b2 W1 B1
  -- the new Body
  have key : ∀ w3, w2.setCells p 0 [.int .i64 k, .int .u32 (t : Int), .int .u64 (e : Int), .int .u64 (o : Int), .int .u64 (s : Int), .string c] = w3 → ∃ w4, (Instr.makeSlice 28 (.int .i64 (q : Int)) (.int .i64 (q : Int))).run Tryd.prog w3 = .ok (.slice (some ⟨w3.heap.size, 0, none⟩) q q) w4 ∧
      Hid ((convert 28 9 (.slice (some ⟨w3.heap.size, 0, none⟩) q q)).run Tryd.prog w4 = .ok (.string z) w4 ∧ Whole w4 p 25 [.int .i64 k, .int .u32 (t : Int), .int .u64 (e : Int), .int .u64 (o : Int), .int .u64 (s : Int), .string c] ∧ Below w.heap.size w w4) := fun w3 hw3 => by
    obtain ⟨w4, r4, o4, b4⟩ := run_make_bytes w3 q (by omega)
    have l4 := run_str (w := w4) (a := some ⟨w3.heap.size, 0, none⟩) (l := List.replicate q 0) (by
      obtain ⟨_, _, e, _, _, _, hl, _⟩ := o4.form
      injection e with e1 e2 e3
      rw [e1]; exact hl) (Byte.zeros q) q
    rw [List.length_replicate, HZ.out] at l4
    have wh3 : Whole w3 p 25 [.int .i64 k, .int .u32 (t : Int), .int .u64 (e : Int), .int .u64 (o : Int), .int .u64 (s : Int), .string c] := by rw [← hw3]; exact (Whole.lay [.int .i64 k, .int .u32 (t : Int), .int .u64 (e : Int), .int .u64 (o : Int), .int .u64 (s : Int), .string c] 0 W2.out (Nat.le_refl 6))
    have b3 : Below w.heap.size w w3 := by rw [← hw3]; exact below_lay _ _ _ B2.out (by rw [HP.out]; exact Nat.le_refl _)
    exact ⟨w4, r4, show _ from ⟨l4, wh3.kept b4, b3.trans (b4.mono b3.size)⟩⟩
  have KEY := Lib.hid key
  clear key
  go_wp2_with (first | ((with_reducible show wpList _ _ _ (⟨none, _, _, _, _, _⟩ :: _) _ _); refine wpList_store_as rfl 25 (.tmp 2) (.tmp 14) rfl p 0 #[.int .i64 k, .int .u32 (t : Int), .int .u64 (e : Int), .int .u64 (o : Int), .int .u64 (s : Int), .string c] rfl rfl (Whole.there W2.out 0 6 (Nat.le_refl 6)) recInfo (by simp [Value.oneCell']) ?_; intro w3 hw3; obtain ⟨w4, r4, hk4⟩ := KEY.out w3 hw3; have l4 := hk4.out.1; have c4 := hk4.out.2.1.at_ 5; have f4 := hk4.out.2.1.free 5; clear hw3) | ((with_reducible show wpList _ _ _ (⟨some 25, _, _, _, _, _⟩ :: _) _ _); refine wpList_load_mid rfl 25 (.tmp 2) rfl p 0 rfl [.int .i64 k, .int .u32 (t : Int), .int .u64 (e : Int), .int .u64 (o : Int), .int .u64 (s : Int), .string z] _ (Whole.range (hk4.out.2.1.put 5 (.string z)) 0 6) Tryd.underlying25 rfl recInfo ?_))
  have W5 := hk4.out.2.1.put 5 (.string z)
  have B5 : Below w.heap.size w (w4.setCell ⟨p, 5, none⟩ (.string z)) := hk4.out.2.2.setCell (by rw [HP.out]; exact Nat.le_refl _) _
  clear r4 l4 c4 f4 hk4
  obtain ⟨w5, hw5⟩ : ∃ w5, w4.setCell ⟨p, 5, none⟩ (.string z) = w5 := ⟨_, rfl⟩
  rw [hw5] at W5 B5 ⊢
  have W5 : Whole w5 p 25 [.int .i64 k, .int .u32 (t : Int), .int .u64 (e : Int), .int .u64 (o : Int), .int .u64 (s : Int), .string z] := W5
  clear hw5
  clear W2 B2
  refine (HCE.out _ (HT.out.later B5)).mono ?_
  rintro en w6 hmade
  obtain ⟨v, rfl, o6, n6, b6⟩ := hmade
  have W6 := W5.kept b6
  have B6 := Lib.hid (B5.trans (b6.mono B5.size))
  obtain ⟨a, cap, ev, hcap, -, -, l6, -⟩ := o6.form
  rw [HEL.out] at ev hcap
  subst ev
  clear o6 n6 b6 W5 B5
  -- the region that draws
  have k6 : Stays w p [.int .i64 k, .int .u32 (t : Int), .int .u64 (e : Int), .int .u64 (o : Int), .int .u64 (s : Int), .string z] a el w6 := ⟨W6, B6.out, l6⟩
  have k0 : Stays w p [.int .i64 k, .int .u32 (t : Int), .int .u64 (e : Int), .int .u64 (o : Int), .int .u64 (s : Int), .string z] a el w6.drew := k6.next (below_draws (Below.refl _ _) 1)
  have s0 := k0.cells
  have v0 := k0.conv HBY.out HEL.out cap
  clear W6 l6 k6 B6
  go_wp2_with fail
  go_cut [39] (fun x wx => x = .bool false ∧ Stays w p [.int .i64 k, .int .u32 (t : Int), .int .u64 (e : Int), .int .u64 (o : Int), .int .u64 (s : Int), .string z] a el wx)
  case first =>
    go_region_law
    (first
      | (rw [if_pos (by rfl)]; go_simp; go_at_call 11; refine (HCR.out _).mono ?_; rintro en w7 ⟨v7, rfl, o7, n7, b7⟩; have k7 := k0.next b7; have s7 := k7.cells; have v7a := k7.conv HBY.out HEL.out cap; obtain ⟨a7, c7, e7, hc7, -, -, l7, -⟩ := o7.form; rw [HEL.out] at e7 hc7; subst e7; have v7b : (convert 28 9 (.slice a7 0 c7)).run Tryd.prog w7 = .ok (.string (str el)) w7 := Stays.conv ⟨k7.whole, k7.below, l7⟩ HBY.out HEL.out c7; clear o7 n7 b7 l7)
      | (rw [if_pos (by rfl)]; go_simp; go_at_call 12; refine (HCM2.out _).mono ?_; rintro en w8 ⟨rfl, b8⟩; have k8 := Stays.next (by assumption) b8; have s8 := k8.cells; clear b8)
      | (rw [if_pos (by rfl)]; go_simp; go_at_call 13; refine (HCM.out _).mono ?_; rintro en w9 ⟨rfl, b9⟩; have k9 := Stays.next (by assumption) b9; have s9 := k9.cells; clear b9))
    all_goals
      go_wp2_with fail
      go_meet
      exact ⟨rfl, by assumption⟩
  case rest =>
    obtain ⟨rfl, k9⟩ := hcut
    clear k0 s0 v0
    have W9 := Lib.hid k9.whole
    have B9 := Lib.hid k9.below
    clear k9
    go_wp2_with ((with_reducible show wpList _ _ _ (⟨some 43, _, _, _, _, _⟩ :: _) _ _); refine wpList_load_mid rfl 25 (.tmp 2) rfl p 0 rfl [.int .i64 k, .int .u32 (t : Int), .int .u64 (e : Int), .int .u64 (o : Int), .int .u64 (s : Int), .string z] _ (W9.out.range 0 6) Tryd.underlying25 rfl recInfo ?_)
    refine (HCM2.out _).mono ?_
    rintro en w10 ⟨rfl, b10⟩
    have B10 := Lib.hid (B9.out.trans (b10.mono B9.out.size))
    clear b10
    go_wp2_with fail
    go_ret
    exact ⟨rfl, B10.out⟩
theorem bytes_any (w : World) (hT : crc.Tab w) (r : Rec) (hf : r.Fit) (q : Int) : Calls Tryd.prog 3 #[r.val, .int .i64 q] w fun e w' => e = .returned (.bool true) ∧ Below w.heap.size w w' := by
  by_cases h0 : 0 < q
  · by_cases h1 : q < 1100
    · obtain ⟨m, rfl⟩ : ∃ m : Nat, q = m := ⟨q.toNat, by omega⟩
      cases hm : mayB { r with body := (str (List.replicate m 0)) }
      · exact by_in_f w hT r hf m (by omega) h1 hm
      · exact by_in_t w hT r hf m (by omega) h1 hm
    · cases hm : mayB { r with body := (cutS r.body 300) }
      · exact by_hi_f w hT r hf q h1 h0 hm
      · exact by_hi_t w hT r hf q h1 h0 hm
  · cases hm : mayB { r with body := (cutS r.body 300) }
    · exact by_lo_f w hT r hf q h0 hm
    · exact by_lo_t w hT r hf q h0 hm
end Go.Proofs.YtlpennnnkbnjmaaDoor.recd
