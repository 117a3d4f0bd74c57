/-
  CONTRACTS of segment.Create and Open (P8.1).
-/
import Derived.Test.YtdonblfidohncaaGreatDoorSgName
import Derived.Test.YtdonblfidohncaaGreatDoorSgRecs
import Derived.Test.YtdonblfidohncaaGreatDoorMDkC
import Derived.Test.YtdonblfidohncaaGreatDoorMDkB
import Derived.Laws.Closers25
namespace Go.Proofs.YtdonblfidohncaaGreatDoor.scan
open Go.RowKit Go.Proofs.YtdonblfidohncaaGreatDoor.disk Go.Proofs.YtdonblfidohncaaGreatDoor.recd Go.Proofs.YtdonblfidohncaaGreatDoor.seg
set_option linter.unusedVariables false

/-- The tables that the program reads. -/
structure Tabs (w : World) : Prop where
  crc : Go.Proofs.YtdonblfidohncaaGreatDoor.crc.Tab w
  pow : seg.Pow w
theorem Tabs.later {w w' : World} (h : Tabs w) (hb : Below w.heap.size w w') : Tabs w' := ⟨Go.Proofs.YtdonblfidohncaaGreatDoor.crc.Tab.later h.crc hb, Lib.tabBelow_of_tabIs h.pow w' hb⟩
theorem seg_name {t n : Nat} (ht : t < 4294967296) (hn : n ≤ 1099511627776) (w : World) (hT : Tabs w) :
    Calls Tryz.prog 28 #[.int .u32 t, .int .i64 n] w fun e w' => e = .returned (.string (nameB t n)) ∧ Below w.heap.size w w' := name_any t n ht hn w hT.pow fun w' hb => (hT.later hb).pow
theorem seg_name_none (t n : Int) (hn : n < 0) (w : World) : Calls Tryz.prog 28 #[.int .u32 t, .int .i64 n] w fun e w' => e = .returned (.string ⟨#[]⟩) ∧ w = w' := by
  go_enter Tryz.func28, Tryz.ntmps28
  go_wp2
  go_ret
  exact ⟨rfl, rfl⟩
theorem nameB_size {t n : Nat} (ht : t < 4294967296) (hn : n ≤ 1099511627776) : (nameB t n).size ≤ 25 := by
  have := nameL_le ht hn
  have e : (nameB t n).size = (nameL t n).length := by simp [nameB, ByteArray.size]
  omega
theorem nameB_fit {t n : Nat} (ht : t < 4294967296) (hn : n ≤ 1099511627776) : (nameB t n).size ≤ maxLen := by
  have := nameB_size ht hn
  unfold maxLen
  omega
theorem nameB_ne' (t n : Nat) : (nameB t n).toList.isEmpty = false := by
  rw [← decide_eq_emptyBytes, decide_eq_false_iff_not]
  intro e
  have := congrArg (fun b : ByteArray => b.data.toList.length) e
  simp [nameB, nameL] at this

theorem read_none {R : Nat → Prop} (w : World) (p : Nat) (S : St) (n : Nat) (h : Disk R w p S n) (s : ByteArray) (hs : s.size ≤ maxLen) (at_ k : Int) (hd : dlook s.data.toList S.now = none) :
    Calls Tryz.prog 50 #[.pointer (some ⟨p, 0, none⟩), .string s, .int .i64 at_, .int .i64 k] w fun e w' => e = .returned (.tuple #[.slice none 0 0, .int .i64 1]) ∧ w = w' := by
  have cN := Lib.hid (named_any w p S n h s hs)
  rw [hd] at cN
  clear hd h
  go_enter Tryz.func50, Tryz.ntmps50
  go_wp2_with fail
  refine cN.out.mono ?_
  rintro e w1 ⟨rfl, rfl⟩
  rw [ptrOf]
  go_wp2
  go_ret2
  exact ⟨rfl, rfl⟩

/-! Create -/
theorem segcreate_range (w : World) (v : Value) (t n : Int) (hn : n < 0) : Calls Tryz.prog 8 #[v, .int .u32 t, .int .i64 n] w fun e w' => e = .returned (.tuple #[.pointer none, .int .i64 6]) ∧ w = w' := by
  go_enter Tryz.func8, Tryz.ntmps8
  go_wp2_with fail
  refine (seg_name_none t n hn w).mono ?_
  rintro e w1 ⟨rfl, rfl⟩
  go_wp2_with fail
  go_ret2
  exact ⟨rfl, rfl⟩

/-- What a call that opens a segment leaves. -/
def SegOut (W : World) (X : Nat → Prop) (w : World) (p : Nat) (S' : St) (n' : Nat) (nm : ByteArray) (t : Nat) (wh : Bool) (e : Ending) (w' : World) : Prop :=
  ∃ s, e = .returned (.tuple #[.pointer (some ⟨s, 0, none⟩), .int .i64 0]) ∧ SegAt w' s p nm t wh ∧ Held W (fun k => X k ∨ k = s) w' p S' n' ∧ Kept X w w' ∧ w.heap.size ≤ s
theorem seg_made {W : World} {X : Nat → Prop} {w w1 : World} {p : Nat} {S : St} {n : Nat} (h : Held W X w1 p S n) (k : Kept X w w1) (hs : w.heap.size ≤ w1.heap.size) (nm : ByteArray) (hnm : nm.size ≤ maxLen) (t : Nat) (ht : t < 4294967296) (wh : Bool) :
    SegOut W X w p S n nm t wh (.returned (.tuple #[.pointer (some ⟨w1.heap.size, 0, none⟩), .int .i64 0])) (w1.alloc (.cells #[.pointer (some ⟨p, 0, none⟩), .string nm, .int .u32 (t : Int), .bool wh] 77)) := by
  have b1 : Below w1.heap.size w1 (w1.alloc (.cells #[.pointer (some ⟨p, 0, none⟩), .string nm, .int .u32 (t : Int), .bool wh] 77)) := (Below.refl _ _).alloc (Nat.le_refl _) _
  refine ⟨w1.heap.size, rfl, ⟨Whole.made' w1 _ _, hnm, ht⟩, (h.mine b1).fewer fun j hj => ?_, fun j hj => (b1.block j (h.user j hj)).trans (k j hj), hs⟩
  rcases hj with hj | rfl
  · exact .inl hj
  · exact .inr ⟨Nat.le_refl _, by simp⟩

set_option maxRecDepth 100000 in
set_option maxHeartbeats 2000000 in
theorem segcreate_exists {W : World} {X : Nat → Prop} (hT : Tabs W) (w : World) (p : Nat) (S : St) (n : Nat) (h : Held W X w p S n) (t m : Nat) (ht : t < 4294967296) (hm : m ≤ 1099511627776) (b : Nat) (hb : dlook (nameL t m) S.now = some b) :
    Calls Tryz.prog 8 #[.pointer (some ⟨p, 0, none⟩), .int .u32 (t : Int), .int .i64 (m : Int)] w fun e w' => e = .returned (.tuple #[.pointer none, .int .i64 7]) ∧ Below w.heap.size w w' := by
  have hsz : S.size (nameB t m).data.toList = ((S.file b).now.length : Int) := by rw [nameB_data, St.size]; simp only [hb]
  have CN := Lib.hid (seg_name ht hm w (hT.later h.below))
  have CS := fun w1 (b1 : Below w.heap.size w w1) => size_any w1 p S n (h.later b1).disk (nameB t m) (nameB_fit ht hm)
  rw [hsz] at CS
  have ne' := nameB_ne' t m
  generalize nameB t m = nm at CN CS ne'
  have HCS := Lib.hid CS
  clear CS hsz hb h hT
  go_enter Tryz.func8, Tryz.ntmps8
  go_wp2_with fail
  refine CN.out.mono ?_
  rintro e w1 ⟨rfl, b1⟩
  have C1 := Lib.hid (HCS.out w1 b1)
  have B1 := Lib.hid b1
  clear b1 HCS CN
  go_wp2_with fail
  refine C1.out.mono ?_
  rintro e w2 ⟨rfl, rfl⟩
  go_wp2_with fail
  go_ret2
  exact ⟨rfl, B1.out⟩

set_option maxRecDepth 100000 in
set_option maxHeartbeats 4000000 in
theorem segcreate_good {W : World} {X : Nat → Prop} (hT : Tabs W) (w : World) (p : Nat) (S : St) (n : Nat) (h : Held W X w p S n) (hn : n ≤ 10000000) (t m : Nat) (ht : t < 4294967296) (hm : m ≤ 1099511627776) (hb : dlook (nameL t m) S.now = none)
    (h1 : ∀ b, (S.create (nameL t m) b).1 = 0) (h2 : ∀ b, ((S.create (nameL t m) b).2.syncDir).1 = 0) :
    Calls Tryz.prog 8 #[.pointer (some ⟨p, 0, none⟩), .int .u32 (t : Int), .int .i64 (m : Int)] w fun e w' => ∃ b, b ∉ S.files ∧ SegOut W X w p ((S.create (nameL t m) b).2.syncDir).2 (n + 3) (nameB t m) t true e w' := by
  have hsz : S.size (nameB t m).data.toList = -1 := by rw [nameB_data, St.size]; simp only [hb]
  have CN := Lib.hid (seg_name ht hm w (hT.later h.below))
  have CS := fun w1 (b1 : Below w.heap.size w w1) => size_any w1 p S n (h.later b1).disk (nameB t m) (nameB_fit ht hm)
  rw [hsz] at CS
  have CC := fun w1 (b1 : Below w.heap.size w w1) => create_any w1 p S n (h.later b1).disk (by omega) (nameB t m) (nameB_fit ht hm)
  rw [nameB_data] at CC
  have ne' := nameB_ne' t m
  have hfit := nameB_fit ht hm
  generalize nameL t m = nl at CC h1 h2
  generalize nameB t m = nm at CN CS CC ne' hfit
  have HCS := Lib.hid CS
  have HCC := Lib.hid CC
  have HH := Lib.hid h
  have HH1 := Lib.hid h1
  have HH2 := Lib.hid h2
  have HFIT := Lib.hid hfit
  clear CS CC hsz hb h hT h1 h2 hfit
  go_enter Tryz.func8, Tryz.ntmps8
  go_wp2_with fail
  refine CN.out.mono ?_
  rintro e w1 ⟨rfl, b1⟩
  have C1 := Lib.hid (HCS.out w1 b1)
  have C2 := Lib.hid (HCC.out w1 b1)
  have H1 := Lib.hid (HH.out.later b1)
  have B1 := Lib.hid b1
  clear b1 HCS HCC CN
  go_wp2_with fail
  refine C1.out.mono ?_
  rintro e w2 ⟨rfl, rfl⟩
  go_wp2_with fail
  refine C2.out.mono ?_
  rintro e w3 ⟨b, hbf, _, _, ho⟩
  rw [HH1.out b] at ho
  have z3 := ho.2.2.size
  obtain ⟨rfl, h3, k3⟩ := H1.out.out ho
  have C3 := Lib.hid (syncdir_any w3 p _ _ h3.disk (by omega))
  have H3 := Lib.hid h3
  have K3 := Lib.hid k3
  have HBF := Lib.hid hbf
  clear ho h3 k3 hbf C1 C2
  go_wp2_with fail
  refine C3.out.mono ?_
  intro e w4 ho
  have z4 := ho.2.2.size
  have ho' := H3.out.out ho
  rw [HH2.out b] at ho'
  obtain ⟨rfl, h4, k4⟩ := ho'
  have hs1 := B1.out.size
  have hs4 : w.heap.size ≤ w4.heap.size := by omega
  have FIN := Lib.hid (seg_made (w := w) h4 (fun k hk => ((k4 k hk).trans (K3.out k hk)).trans (B1.out.block k (HH.out.user k hk))) hs4 nm HFIT.out t ht true)
  clear ho h4 k4 C3
  go_wp2_with fail
  go_ret2
  exact ⟨b, HBF.out, FIN.out⟩

/-! Open -/
theorem segopen_range (w : World) (v : Option Addr) (t n : Int) (hn : n < 0) {W : World} {X : Nat → Prop} (p : Nat) (S : St) (m : Nat) (h : Held W X w p S m) (hv : v = some ⟨p, 0, none⟩) (hd : dlook [] S.now = none) :
    Calls Tryz.prog 16 #[.pointer v, .int .u32 t, .int .i64 n] w fun e w' => e = .returned (.tuple #[.pointer none, .int .i64 1]) ∧ w = w' := by
  subst hv
  have hsz : S.size (⟨#[]⟩ : ByteArray).data.toList = -1 := by rw [St.size]; simp only [hd]
  have CS := size_any w p S m h.disk ⟨#[]⟩ (by decide)
  rw [hsz] at CS
  have CR := read_none w p S m h.disk ⟨#[]⟩ (by decide) 0 (-1) hd
  have HCS := Lib.hid CS
  have HCR := Lib.hid CR
  clear CS CR hsz hd h
  go_enter Tryz.func16, Tryz.ntmps16
  go_wp2_with fail
  refine (seg_name_none t n hn w).mono ?_
  rintro e w1 ⟨rfl, rfl⟩
  go_wp2_with fail
  refine HCS.out.mono ?_
  rintro e w1 ⟨rfl, rfl⟩
  go_wp2_with fail
  refine HCR.out.mono ?_
  rintro e w1 ⟨rfl, rfl⟩
  go_wp2_with fail
  go_ret2
  exact ⟨rfl, rfl⟩
set_option maxRecDepth 100000 in
set_option maxHeartbeats 2000000 in
theorem segopen_none {W : World} {X : Nat → Prop} (hT : Tabs W) (w : World) (p : Nat) (S : St) (n : Nat) (h : Held W X w p S n) (t m : Nat) (ht : t < 4294967296) (hm : m ≤ 1099511627776) (hb : dlook (nameL t m) S.now = none) :
    Calls Tryz.prog 16 #[.pointer (some ⟨p, 0, none⟩), .int .u32 (t : Int), .int .i64 (m : Int)] w fun e w' => e = .returned (.tuple #[.pointer none, .int .i64 1]) ∧ Below w.heap.size w w' := by
  have hsz : S.size (nameB t m).data.toList = -1 := by rw [nameB_data, St.size]; simp only [hb]
  have CN := Lib.hid (seg_name ht hm w (hT.later h.below))
  have CS := fun w1 (b1 : Below w.heap.size w w1) => size_any w1 p S n (h.later b1).disk (nameB t m) (nameB_fit ht hm)
  rw [hsz] at CS
  have CR := fun w1 (b1 : Below w.heap.size w w1) => read_none w1 p S n (h.later b1).disk (nameB t m) (nameB_fit ht hm) 0 (-1) (by rw [nameB_data]; exact hb)
  generalize nameB t m = nm at CN CS CR
  have HCS := Lib.hid CS
  have HCR := Lib.hid CR
  clear CS CR hsz hb h hT
  go_enter Tryz.func16, Tryz.ntmps16
  go_wp2_with fail
  refine CN.out.mono ?_
  rintro e w1 ⟨rfl, b1⟩
  have C1 := Lib.hid (HCS.out w1 b1)
  have C2 := Lib.hid (HCR.out w1 b1)
  have B1 := Lib.hid b1
  clear b1 HCS HCR CN
  go_wp2_with fail
  refine C1.out.mono ?_
  rintro e w2 ⟨rfl, rfl⟩
  go_wp2_with fail
  refine C2.out.mono ?_
  rintro e w2 ⟨rfl, rfl⟩
  go_wp2_with fail
  go_ret2
  exact ⟨rfl, B1.out⟩

set_option maxRecDepth 100000 in
set_option maxHeartbeats 4000000 in
theorem segopen_good {W : World} {X : Nat → Prop} (hT : Tabs W) (w : World) (p : Nat) (S : St) (n : Nat) (h : Held W X w p S n) (hn : n ≤ 10000000) (t m : Nat) (ht : t < 4294967296) (hm : m ≤ 1099511627776) (b : Nat) (hb : dlook (nameL t m) S.now = some b) :
    Calls Tryz.prog 16 #[.pointer (some ⟨p, 0, none⟩), .int .u32 (t : Int), .int .i64 (m : Int)] w (SegOut W X w p { S with reads := S.reads + ((S.file b).now.length : Int) } (n + 1) (nameB t m) t (decide ((segF t (S.file b).now).2 = (S.file b).now.length))) := by
  have hfit := h.disk.fit (h.disk.ok.inow _ (dlook_mem hb))
  have hmo := hfit.most
  have hby := hfit.bnow
  have hsz : S.size (nameB t m).data.toList = ((S.file b).now.length : Int) := by rw [nameB_data, St.size]; simp only [hb]
  have CN := Lib.hid (seg_name ht hm w (hT.later h.below))
  have CS := fun w1 (b1 : Below w.heap.size w w1) => size_any w1 p S n (h.later b1).disk (nameB t m) (nameB_fit ht hm)
  rw [hsz] at CS
  have CR := fun w1 (b1 : Below w.heap.size w w1) => read_part (h.later b1) (by omega) (nameB t m) (nameB_fit ht hm) b (by rw [nameB_data]; exact hb) 0 (S.file b).now.length (by omega) 0
  rw [List.drop_zero, List.take_length] at CR
  have hfn := nameB_fit ht hm
  generalize nameB t m = nm at CN CS CR hfn ⊢
  obtain ⟨S', hS'⟩ : ∃ S', { S with reads := S.reads + ((S.file b).now.length : Int) } = S' := ⟨_, rfl⟩
  rw [hS'] at CR ⊢
  obtain ⟨L, hL⟩ : ∃ L, (S.file b).now = L := ⟨_, rfl⟩
  rw [hL] at CS CR hmo hby ⊢
  obtain ⟨N, hN⟩ : ∃ N, L.length = N := ⟨_, rfl⟩
  have CF := fun (av : Option Addr) (cv : Nat) (V : World) (hV : Below W.heap.size W V) (hl : Leads V av L) (hc : N ≤ cv) => segfront_any av N cv L V (hT.later hV).crc hl hby hN hc (by omega) t ht
  rw [hN] at CS CR hmo ⊢
  obtain ⟨en, hen⟩ : ∃ en, (segF t L).2 = en := ⟨_, rfl⟩
  rw [hen]
  have HEN := Lib.hid hen
  have HH := Lib.hid h
  have HN := Lib.hid hN
  have HCS := Lib.hid CS
  have HCR := Lib.hid CR
  have HCF := Lib.hid CF
  have HFN := Lib.hid hfn
  clear CS CR CF hsz hb h hT hfit hby hS' hL hN hen hfn
  go_enter Tryz.func16, Tryz.ntmps16
  go_wp2_with fail
  refine CN.out.mono ?_
  rintro e w1 ⟨rfl, b1⟩
  have C1 := Lib.hid (HCS.out w1 b1)
  have C2 := Lib.hid (HCR.out w1 b1)
  have B1 := Lib.hid b1
  clear b1 HCS HCR CN
  go_wp2_with fail
  refine C1.out.mono ?_
  rintro e w2 ⟨rfl, rfl⟩
  go_wp2_with fail
  refine C2.out.mono ?_
  rintro e w3 ⟨v, rfl, o3, n3, h3, k3, z3⟩
  obtain ⟨av, cv, ev, hcv, _, _, lv, _⟩ := o3.form
  rw [HN.out] at ev hcv
  subst ev
  have C3 := Lib.hid (HCF.out av cv w3 h3.below lv hcv)
  have H3 := Lib.hid h3
  have K3 := Lib.hid k3
  clear o3 n3 h3 k3 lv C1 C2 HCF hcv
  go_wp2_with fail
  refine C3.out.mono ?_
  rintro e w4 ⟨v4, rfl, _, _, b4⟩
  rw [HEN.out]
  have z4 := b4.size
  have z1 := B1.out.size
  have hs4 : w.heap.size ≤ w4.heap.size := by omega
  have FIN := fun wh => seg_made (w := w) ((Held.later H3.out b4).fewer (Y := X) fun k hk => .inl hk) (fun k hk => ((b4.block k (H3.out.user k (.inl hk))).trans (K3.out k hk)).trans (B1.out.block k (HH.out.user k hk))) hs4 nm HFN.out t ht wh
  have FN := Lib.hid FIN
  clear b4 FIN C3
  by_cases he : en = N
  · subst he
    have hdc : decide (en = en) = true := decide_eq_true rfl
    rw [hdc]
    go_wp2_with fail
    go_ret2
    exact FN.out true
  · have hdc : decide (en = N) = false := decide_eq_false he
    have hdI : ((en : Int) == (N : Int)) = false := by rw [beq_eq_false_iff_ne]; omega
    rw [hdc]
    have HE := Lib.hid he
    clear he
    go_wp2_with fail
    go_ret2
    rw [show decide (en = N) = false from decide_eq_false HE.out]
    exact FN.out false
end Go.Proofs.YtdonblfidohncaaGreatDoor.scan
