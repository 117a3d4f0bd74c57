/-
  CONTRACT of record.Decode (P6.1).
-/
import Derived.Test.YtodajceiadbpeaaDoorRcHead
namespace Go.Proofs.YtodajceiadbpeaaDoor.recd
open Go.RowKit Go.Proofs.YtodajceiadbpeaaDoor.num Go.Proofs.YtodajceiadbpeaaDoor.disk
set_option linter.unusedVariables false

/-- What Decode answers with, as values. -/
def decV (x : Rec × Nat × Int) : Value := .tuple #[x.1.val, .int .i64 (x.2.1 : Nat), .int .i64 x.2.2]
def DecOut (w : World) (x : Rec × Nat × Int) (e : Ending) (w' : World) : Prop := e = .returned (decV x) ∧ Below w.heap.size w w'

theorem recInfo : (Tryd.prog.info? 32).map (·.size) = some 6 := by kernel_rfl
theorem run_load_rec {w : World} {bz : Nat} {cs : List Value} (hw : Whole w bz 32 cs) (hl : cs.length = 6) : (loadVar 32 ⟨bz, 0, none⟩).run Tryd.prog w = .ok (.agg cs.toArray) w := by
  have h := hw.range 0 6
  rw [List.drop_zero, ← hl, List.take_length] at h
  exact run_loadVar_mid w bz 0 32 cs _ h Tryd.underlying32 rfl (by rw [hl]; exact recInfo)
theorem dec_ret {a : Act} {w9 : World} {bz : Nat} {cs : List Value} {n e : Value} {R : Ending → World → Prop} (h2 : a.tmps.getD 2 undef = .pointer (some ⟨bz, 0, none⟩)) (h3 : a.tmps.getD 3 undef = n) (h4 : a.tmps.getD 4 undef = e) (hd : a.defers = [])
    (hw : Whole w9 bz 32 cs) (hl : cs.length = 6) (hR : R (.returned (.tuple #[.agg cs.toArray, n, e])) w9) : bodyPost Tryd.prog Tryd.f23 R .ret a w9 := by
  have hld := run_load_rec hw hl
  have k2 : a.tmps[2]?.getD undef = .pointer (some ⟨bz, 0, none⟩) := by simpa using h2
  have k3 : a.tmps[3]?.getD undef = n := by simpa using h3
  have k4 : a.tmps[4]?.getD undef = e := by simpa using h4
  exact bodyPost_ret (v := .tuple #[.agg cs.toArray, n, e]) (by simp [results, Tryd.results23, k2, k3, k4, asAddr, hld]) hd hR

set_option maxRecDepth 100000 in
set_option maxHeartbeats 2000000 in
theorem dec_beg (a : Option Addr) (n cap : Nat) (l : List Int) (w : World) (hT : crc.Tab w) (hl : Leads w a l) (hb : Byte l) (hn : l.length = n) (hc : n ≤ cap) (hm : n ≤ 1000000000) (h1 : begB l = false) :
    Calls Tryd.prog 23 #[.slice a n cap] w (DecOut w (dec l)) := by
  have hd : dec l = (zeroRec, 0, 4) := by unfold dec; rw [if_pos h1]
  rw [hd]
  clear hd
  have c := begins_any a n cap l (w.alloc (.cells #[.int .i64 0, .int .u32 0, .int .u64 0, .int .u64 0, .int .u64 0, .string ⟨#[]⟩] 32)) (hl.later ((Below.refl _ _).alloc (Nat.le_refl _) _)) hb hn hc
  rw [h1] at c
  have C := Lib.hid c
  have HH1 := Lib.hid h1
  have HB := Lib.hid hb
  have HN := Lib.hid hn
  have HL := Lib.hid hl
  have HT := Lib.hid hT
  clear c h1 hb hn hl hT
  go_enter Tryd.func23, Tryd.ntmps23
  go_wp2_with fail
  refine C.out.mono ?_
  rintro e w' ⟨rfl, q, hq⟩
  have b1 : Below w.heap.size w w' := by rw [hq]; exact below_draws ((Below.refl _ _).alloc (Nat.le_refl _) _) q
  have w1 : Whole w' w.heap.size 32 [.int .i64 0, .int .u32 0, .int .u64 0, .int .u64 0, .int .u64 0, .string ⟨#[]⟩] := by rw [hq]; exact (Whole.new_ rfl rfl).draws q
  have B1 := Lib.hid b1
  have W1 := Lib.hid w1
  clear hq b1 w1 C
  obtain ⟨bz, hbz⟩ : ∃ bz, w.heap.size = bz := ⟨_, rfl⟩
  rw [hbz] at W1 ⊢
  have HBZ := Lib.hid hbz
  clear hbz
  go_wp2_with ((with_reducible show wpList _ _ _ (⟨none, _, _, _, _, _⟩ :: _) _ _); refine wpList_store_as rfl 32 (.tmp 2) (.tmp 12) rfl bz 0 #[.int .i64 0, .int .u32 0, .int .u64 0, .int .u64 0, .int .u64 0, .string ⟨#[]⟩] rfl rfl (Whole.there W1.out 0 6 (Nat.le_refl 6)) recInfo (by simp [Value.oneCell']) ?_; intro w7 hw7; have HW7 := Lib.hid hw7; clear hw7)
  have wf7 : Whole w7 bz 32 [.int .i64 0, .int .u32 0, .int .u64 0, .int .u64 0, .int .u64 0, .string ⟨#[]⟩] := by
    rw [← HW7.out]
    exact Whole.lay [.int .i64 0, .int .u32 0, .int .u64 0, .int .u64 0, .int .u64 0, .string ⟨#[]⟩] 0 W1.out (by decide)
  have b7 : Below w.heap.size w w7 := by
    rw [← HW7.out]
    exact below_lay _ _ _ B1.out (by rw [HBZ.out]; exact Nat.le_refl _)
  exact dec_ret rfl rfl rfl rfl wf7 rfl ⟨rfl, b7⟩
set_option maxRecDepth 100000 in
set_option maxHeartbeats 2000000 in
theorem dec_short (a : Option Addr) (n cap : Nat) (l : List Int) (w : World) (hT : crc.Tab w) (hl : Leads w a l) (hb : Byte l) (hn : l.length = n) (hc : n ≤ cap) (hm : n ≤ 1000000000) (h1 : begB l = true) (h2 : n < 39) :
    Calls Tryd.prog 23 #[.slice a n cap] w (DecOut w (dec l)) := by
  have hd : dec l = (zeroRec, 0, 11) := by unfold dec; rw [if_neg (by rw [h1]; simp), if_pos (by omega)]
  rw [hd]
  clear hd
  have c := begins_any a n cap l (w.alloc (.cells #[.int .i64 0, .int .u32 0, .int .u64 0, .int .u64 0, .int .u64 0, .string ⟨#[]⟩] 32)) (hl.later ((Below.refl _ _).alloc (Nat.le_refl _) _)) hb hn hc
  rw [h1] at c
  have C := Lib.hid c
  have HH1 := Lib.hid h1
  have HB := Lib.hid hb
  have HN := Lib.hid hn
  have HL := Lib.hid hl
  have HT := Lib.hid hT
  clear c h1 hb hn hl hT
  have h2I : (n : Int) < 39 := by omega
  go_enter Tryd.func23, Tryd.ntmps23
  go_wp2_with fail
  refine C.out.mono ?_
  rintro e w' ⟨rfl, q, hq⟩
  have b1 : Below w.heap.size w w' := by rw [hq]; exact below_draws ((Below.refl _ _).alloc (Nat.le_refl _) _) q
  have w1 : Whole w' w.heap.size 32 [.int .i64 0, .int .u32 0, .int .u64 0, .int .u64 0, .int .u64 0, .string ⟨#[]⟩] := by rw [hq]; exact (Whole.new_ rfl rfl).draws q
  have B1 := Lib.hid b1
  have W1 := Lib.hid w1
  clear hq b1 w1 C
  obtain ⟨bz, hbz⟩ : ∃ bz, w.heap.size = bz := ⟨_, rfl⟩
  rw [hbz] at W1 ⊢
  have HBZ := Lib.hid hbz
  clear hbz
  go_wp2_with ((with_reducible show wpList _ _ _ (⟨none, _, _, _, _, _⟩ :: _) _ _); refine wpList_store_as rfl 32 (.tmp 2) (.tmp 16) rfl bz 0 #[.int .i64 0, .int .u32 0, .int .u64 0, .int .u64 0, .int .u64 0, .string ⟨#[]⟩] rfl rfl (Whole.there W1.out 0 6 (Nat.le_refl 6)) recInfo (by simp [Value.oneCell']) ?_; intro w7 hw7; have HW7 := Lib.hid hw7; clear hw7)
  have wf7 : Whole w7 bz 32 [.int .i64 0, .int .u32 0, .int .u64 0, .int .u64 0, .int .u64 0, .string ⟨#[]⟩] := by
    rw [← HW7.out]
    exact Whole.lay [.int .i64 0, .int .u32 0, .int .u64 0, .int .u64 0, .int .u64 0, .string ⟨#[]⟩] 0 W1.out (by decide)
  have b7 : Below w.heap.size w w7 := by
    rw [← HW7.out]
    exact below_lay _ _ _ B1.out (by rw [HBZ.out]; exact Nat.le_refl _)
  exact dec_ret rfl rfl rfl rfl wf7 rfl ⟨rfl, b7⟩
theorem run_front (g off n cap q : Nat) (hq : q ≤ cap) (W : World) : (Instr.slice 26 (.slice (some ⟨g, off, none⟩) n cap) none (some (.int .i64 (q : Int))) none).run Tryd.prog W = .ok (.slice (some ⟨g, off, none⟩) q cap) W := by
  rw [run_slice_h W 26 _ n cap (by rw [byte_elem]; exact Tryd.underlying26) .i64 (q : Int) (by omega) (by omega), byte_elem, byte_sizeOf]
  simp [Result.andThen, sliced, Addr.add_mid]
theorem At.take {W : World} {g off : Nat} {l : List Int} (h : At W g off l) (n : Nat) : At W g off (l.take n) := fun i hi => by
  rw [List.length_take] at hi
  rw [h i (by omega), List.getD_eq_getElem?_getD, List.getD_eq_getElem?_getD, List.getElem?_take_of_lt (by omega)]
theorem At.leads {W : World} {g off : Nat} {l : List Int} (h : At W g off l) : Leads W (some ⟨g, off, none⟩) l := .inr ⟨g, off, rfl, h⟩
theorem sub_take (l : List Int) (n p q : Nat) (h : q ≤ n) : sub (l.take n) p q = sub l p q := by
  unfold sub
  rw [List.drop_take, List.take_take, show min (q - p) (n - p) = q - p by omega]
theorem headOf_take (l : List Int) : headOf (l.take 39) = headOf l := by
  unfold headOf
  rw [sub_take l 39 2 3 (by omega), sub_take l 39 3 7 (by omega), sub_take l 39 7 15 (by omega), sub_take l 39 15 23 (by omega), sub_take l 39 23 31 (by omega)]
theorem lenOf_take (l : List Int) : lenOf (l.take 39) = lenOf l := by
  unfold lenOf
  rw [sub_take l 39 31 35 (by omega)]
theorem sumOf_lt (l : List Int) : sumOf l < 4294967296 := (crc.sum l).isLt
theorem lenOf_lt {l : List Int} (hb : Byte l) (h : 39 ≤ l.length) : lenOf l < 4294967296 := by
  have := val_lt 4 (sub l 31 35) (sub_length l 31 35 (by omega)) (sub_byte hb 31 35)
  rwa [show (256 : Nat) ^ 4 = 4294967296 by decide] at this

set_option maxRecDepth 100000 in
set_option maxHeartbeats 2000000 in
theorem dec_num (a : Option Addr) (n cap : Nat) (l : List Int) (w : World) (hT : crc.Tab w) (hl : Leads w a l) (hb : Byte l) (hn : l.length = n) (hc : n ≤ cap) (hm : n ≤ 1000000000) (h1 : begB l = true) (h2 : 39 ≤ n) (h3 : numB (headOf l) = false) :
    Calls Tryd.prog 23 #[.slice a n cap] w (DecOut w (dec l)) := by
  have hd : dec l = (zeroRec, 0, 4) := by unfold dec; rw [if_neg (by rw [h1]; simp), if_neg (by omega), if_pos (.inl h3)]
  rw [hd]
  clear hd
  have c := begins_any a n cap l (w.alloc (.cells #[.int .i64 0, .int .u32 0, .int .u64 0, .int .u64 0, .int .u64 0, .string ⟨#[]⟩] 32)) (hl.later ((Below.refl _ _).alloc (Nat.le_refl _) _)) hb hn hc
  rw [h1] at c
  have C := Lib.hid c
  have HH1 := Lib.hid h1
  have HB := Lib.hid hb
  have HN := Lib.hid hn
  have HL := Lib.hid hl
  have HT := Lib.hid hT
  clear c h1 hb hn hl hT
  obtain ⟨g, off, rfl, hA⟩ := HL.out.at_ (by rw [HN.out]; omega)
  have hat : At w g off l := hA
  have HAT := Lib.hid hat
  have h2I : ¬ (n : Int) < 39 := by omega
  have hs1 : ∀ W, (Instr.slice 26 (.slice (some ⟨g, off, none⟩) n cap) none (some (.int .i64 39)) none).run Tryd.prog W = .ok (.slice (some ⟨g, off, none⟩) 39 cap) W := fun W => run_front g off n cap 39 (by omega) W
  have cN := fun W => mayNumbers_any (headOf l) W
  obtain ⟨k, hk⟩ : ∃ k, (headOf l).kind = k := ⟨_, rfl⟩
  obtain ⟨t, ht⟩ : ∃ t, (headOf l).tenant = t := ⟨_, rfl⟩
  obtain ⟨e, he⟩ : ∃ e, (headOf l).epoch = e := ⟨_, rfl⟩
  obtain ⟨o, ho⟩ : ∃ o, (headOf l).object = o := ⟨_, rfl⟩
  obtain ⟨s, hs⟩ : ∃ s, (headOf l).seq = s := ⟨_, rfl⟩
  have hv : (headOf l).val = .agg #[.int .i64 k, .int .u32 (t : Int), .int .u64 (e : Int), .int .u64 (o : Int), .int .u64 (s : Int), .string ⟨#[]⟩] := by
    rw [← hk, ← ht, ← he, ← ho, ← hs]; rfl
  rw [hv] at cN
  have HV := Lib.hid hv
  have HFLD := Lib.hid (And.intro hk (And.intro ht (And.intro he (And.intro ho hs))))
  have hll := lenOf_lt HB.out (by rw [HN.out]; omega)
  obtain ⟨m, hml⟩ : ∃ m, lenOf l = m := ⟨_, rfl⟩
  rw [hml] at hll
  have HML := Lib.hid hml
  have hnb : numB (headOf l) = false := h3
  have HNB := Lib.hid hnb
  clear hnb h3
  have CN := Lib.hid cN
  have hcap : 39 ≤ cap := by omega
  have HNM := Lib.hid hm
  have HN2 := Lib.hid h2
  clear hA hat hk ht he ho hs hv hml cN hll hm h2
  go_enter Tryd.func23, Tryd.ntmps23
  go_wp2_with fail
  refine C.out.mono ?_
  rintro e w' ⟨rfl, q, hq⟩
  have b1 : Below w.heap.size w w' := by rw [hq]; exact below_draws ((Below.refl _ _).alloc (Nat.le_refl _) _) q
  have w1 : Whole w' w.heap.size 32 [.int .i64 0, .int .u32 0, .int .u64 0, .int .u64 0, .int .u64 0, .string ⟨#[]⟩] := by rw [hq]; exact (Whole.new_ rfl rfl).draws q
  have B1 := Lib.hid b1
  have W1 := Lib.hid w1
  clear hq b1 w1 C
  obtain ⟨bz, hbz⟩ : ∃ bz, w.heap.size = bz := ⟨_, rfl⟩
  rw [hbz] at W1 ⊢
  have HBZ := Lib.hid hbz
  clear hbz
  go_wp2_with fail
  refine (head_any g off cap (l.take 39) w' ((HAT.out.later B1.out).take 39) (HB.out.take 39) (by rw [List.length_take, HN.out]; omega) hcap).mono ?_
  rintro en w2 ⟨rfl, b2⟩
  rw [headOf_take, lenOf_take, HV.out, HML.out]
  have W2 := Lib.hid (W1.out.kept b2)
  have B2 := Lib.hid (B1.out.trans (b2.mono B1.out.size))
  clear b2 hs1 W1 B1
  go_wp2_with fail
  obtain ⟨p, hp⟩ : ∃ p, w2.heap.size = p := ⟨_, rfl⟩
  have W3 : Whole (w2.alloc (.cells #[.int .i64 k, .int .u32 (t : Int), .int .u64 (e : Int), .int .u64 (o : Int), .int .u64 (s : Int), .string ⟨#[]⟩] 32)) p 32 [.int .i64 k, .int .u32 (t : Int), .int .u64 (e : Int), .int .u64 (o : Int), .int .u64 (s : Int), .string ⟨#[]⟩] := Whole.new_ hp.symm rfl
  have b3 : Below w2.heap.size w2 (w2.alloc (.cells #[.int .i64 k, .int .u32 (t : Int), .int .u64 (e : Int), .int .u64 (o : Int), .int .u64 (s : Int), .string ⟨#[]⟩] 32)) := (Below.refl _ _).alloc (Nat.le_refl _) _
  refine (CN.out _).mono ?_
  rintro en w4 ⟨rfl, b4⟩
  rw [HNB.out]
  have W4 := Lib.hid (W3.kept b4)
  have Z4 := Lib.hid ((W2.out.kept b3).kept b4)
  have B4 := Lib.hid ((B2.out.trans (b3.mono B2.out.size)).trans (b4.mono (B2.out.trans (b3.mono B2.out.size)).size))
  have hbp : bz < p := by rw [← hp]; exact W2.out.lt
  rw [hp]
  have HP := Lib.hid hp
  clear b3 b4 W3 W2 B2 CN hp
  go_wp2_with ((with_reducible show wpList _ _ _ (⟨none, _, _, _, _, _⟩ :: _) _ _); refine wpList_store_as rfl 32 (.tmp 2) (.tmp 30) rfl bz 0 #[.int .i64 0, .int .u32 0, .int .u64 0, .int .u64 0, .int .u64 0, .string ⟨#[]⟩] rfl rfl (Whole.there Z4.out 0 6 (Nat.le_refl 6)) recInfo (by simp [Value.oneCell']) ?_; intro w7 hw7; have HW7 := Lib.hid hw7; clear hw7)
  have wf7 : Whole w7 bz 32 [.int .i64 0, .int .u32 0, .int .u64 0, .int .u64 0, .int .u64 0, .string ⟨#[]⟩] := by
    rw [← HW7.out]
    exact Whole.lay [.int .i64 0, .int .u32 0, .int .u64 0, .int .u64 0, .int .u64 0, .string ⟨#[]⟩] 0 Z4.out (by decide)
  have b7 : Below w.heap.size w w7 := by
    rw [← HW7.out]
    exact below_lay _ _ _ B4.out (by rw [HBZ.out]; exact Nat.le_refl _)
  exact dec_ret rfl rfl rfl rfl wf7 rfl ⟨rfl, b7⟩
set_option maxRecDepth 100000 in
set_option maxHeartbeats 2000000 in
theorem dec_len (a : Option Addr) (n cap : Nat) (l : List Int) (w : World) (hT : crc.Tab w) (hl : Leads w a l) (hb : Byte l) (hn : l.length = n) (hc : n ≤ cap) (hm : n ≤ 1000000000) (h1 : begB l = true) (h2 : 39 ≤ n) (h3 : numB (headOf l) = true) (h4 : 1000 < lenOf l) :
    Calls Tryd.prog 23 #[.slice a n cap] w (DecOut w (dec l)) := by
  have hd : dec l = (zeroRec, 0, 4) := by unfold dec; rw [if_neg (by rw [h1]; simp), if_neg (by omega), if_pos (.inr h4)]
  rw [hd]
  clear hd
  have c := begins_any a n cap l (w.alloc (.cells #[.int .i64 0, .int .u32 0, .int .u64 0, .int .u64 0, .int .u64 0, .string ⟨#[]⟩] 32)) (hl.later ((Below.refl _ _).alloc (Nat.le_refl _) _)) hb hn hc
  rw [h1] at c
  have C := Lib.hid c
  have HH1 := Lib.hid h1
  have HB := Lib.hid hb
  have HN := Lib.hid hn
  have HL := Lib.hid hl
  have HT := Lib.hid hT
  clear c h1 hb hn hl hT
  obtain ⟨g, off, rfl, hA⟩ := HL.out.at_ (by rw [HN.out]; omega)
  have hat : At w g off l := hA
  have HAT := Lib.hid hat
  have h2I : ¬ (n : Int) < 39 := by omega
  have hs1 : ∀ W, (Instr.slice 26 (.slice (some ⟨g, off, none⟩) n cap) none (some (.int .i64 39)) none).run Tryd.prog W = .ok (.slice (some ⟨g, off, none⟩) 39 cap) W := fun W => run_front g off n cap 39 (by omega) W
  have cN := fun W => mayNumbers_any (headOf l) W
  obtain ⟨k, hk⟩ : ∃ k, (headOf l).kind = k := ⟨_, rfl⟩
  obtain ⟨t, ht⟩ : ∃ t, (headOf l).tenant = t := ⟨_, rfl⟩
  obtain ⟨e, he⟩ : ∃ e, (headOf l).epoch = e := ⟨_, rfl⟩
  obtain ⟨o, ho⟩ : ∃ o, (headOf l).object = o := ⟨_, rfl⟩
  obtain ⟨s, hs⟩ : ∃ s, (headOf l).seq = s := ⟨_, rfl⟩
  have hv : (headOf l).val = .agg #[.int .i64 k, .int .u32 (t : Int), .int .u64 (e : Int), .int .u64 (o : Int), .int .u64 (s : Int), .string ⟨#[]⟩] := by
    rw [← hk, ← ht, ← he, ← ho, ← hs]; rfl
  rw [hv] at cN
  have HV := Lib.hid hv
  have HFLD := Lib.hid (And.intro hk (And.intro ht (And.intro he (And.intro ho hs))))
  have hll := lenOf_lt HB.out (by rw [HN.out]; omega)
  obtain ⟨m, hml⟩ : ∃ m, lenOf l = m := ⟨_, rfl⟩
  rw [hml] at hll
  have HML := Lib.hid hml
  have hnb : numB (headOf l) = true := h3
  have HNB := Lib.hid hnb
  clear hnb h3
  rw [hml] at h4
  have h4I : (1000 : Int) < (m : Int) := by omega
  clear h4
  have CN := Lib.hid cN
  have hcap : 39 ≤ cap := by omega
  have HNM := Lib.hid hm
  have HN2 := Lib.hid h2
  clear hA hat hk ht he ho hs hv hml cN hll hm h2
  go_enter Tryd.func23, Tryd.ntmps23
  go_wp2_with fail
  refine C.out.mono ?_
  rintro e w' ⟨rfl, q, hq⟩
  have b1 : Below w.heap.size w w' := by rw [hq]; exact below_draws ((Below.refl _ _).alloc (Nat.le_refl _) _) q
  have w1 : Whole w' w.heap.size 32 [.int .i64 0, .int .u32 0, .int .u64 0, .int .u64 0, .int .u64 0, .string ⟨#[]⟩] := by rw [hq]; exact (Whole.new_ rfl rfl).draws q
  have B1 := Lib.hid b1
  have W1 := Lib.hid w1
  clear hq b1 w1 C
  obtain ⟨bz, hbz⟩ : ∃ bz, w.heap.size = bz := ⟨_, rfl⟩
  rw [hbz] at W1 ⊢
  have HBZ := Lib.hid hbz
  clear hbz
  go_wp2_with fail
  refine (head_any g off cap (l.take 39) w' ((HAT.out.later B1.out).take 39) (HB.out.take 39) (by rw [List.length_take, HN.out]; omega) hcap).mono ?_
  rintro en w2 ⟨rfl, b2⟩
  rw [headOf_take, lenOf_take, HV.out, HML.out]
  have W2 := Lib.hid (W1.out.kept b2)
  have B2 := Lib.hid (B1.out.trans (b2.mono B1.out.size))
  clear b2 hs1 W1 B1
  go_wp2_with fail
  obtain ⟨p, hp⟩ : ∃ p, w2.heap.size = p := ⟨_, rfl⟩
  have W3 : Whole (w2.alloc (.cells #[.int .i64 k, .int .u32 (t : Int), .int .u64 (e : Int), .int .u64 (o : Int), .int .u64 (s : Int), .string ⟨#[]⟩] 32)) p 32 [.int .i64 k, .int .u32 (t : Int), .int .u64 (e : Int), .int .u64 (o : Int), .int .u64 (s : Int), .string ⟨#[]⟩] := Whole.new_ hp.symm rfl
  have b3 : Below w2.heap.size w2 (w2.alloc (.cells #[.int .i64 k, .int .u32 (t : Int), .int .u64 (e : Int), .int .u64 (o : Int), .int .u64 (s : Int), .string ⟨#[]⟩] 32)) := (Below.refl _ _).alloc (Nat.le_refl _) _
  refine (CN.out _).mono ?_
  rintro en w4 ⟨rfl, b4⟩
  rw [HNB.out]
  have W4 := Lib.hid (W3.kept b4)
  have Z4 := Lib.hid ((W2.out.kept b3).kept b4)
  have B4 := Lib.hid ((B2.out.trans (b3.mono B2.out.size)).trans (b4.mono (B2.out.trans (b3.mono B2.out.size)).size))
  have hbp : bz < p := by rw [← hp]; exact W2.out.lt
  rw [hp]
  have HP := Lib.hid hp
  clear b3 b4 W3 W2 B2 CN hp
  go_wp2_with ((with_reducible show wpList _ _ _ (⟨none, _, _, _, _, _⟩ :: _) _ _); refine wpList_store_as rfl 32 (.tmp 2) (.tmp 30) rfl bz 0 #[.int .i64 0, .int .u32 0, .int .u64 0, .int .u64 0, .int .u64 0, .string ⟨#[]⟩] rfl rfl (Whole.there Z4.out 0 6 (Nat.le_refl 6)) recInfo (by simp [Value.oneCell']) ?_; intro w7 hw7; have HW7 := Lib.hid hw7; clear hw7)
  have wf7 : Whole w7 bz 32 [.int .i64 0, .int .u32 0, .int .u64 0, .int .u64 0, .int .u64 0, .string ⟨#[]⟩] := by
    rw [← HW7.out]
    exact Whole.lay [.int .i64 0, .int .u32 0, .int .u64 0, .int .u64 0, .int .u64 0, .string ⟨#[]⟩] 0 Z4.out (by decide)
  have b7 : Below w.heap.size w w7 := by
    rw [← HW7.out]
    exact below_lay _ _ _ B4.out (by rw [HBZ.out]; exact Nat.le_refl _)
  exact dec_ret rfl rfl rfl rfl wf7 rfl ⟨rfl, b7⟩
set_option maxRecDepth 100000 in
set_option maxHeartbeats 2000000 in
theorem dec_more (a : Option Addr) (n cap : Nat) (l : List Int) (w : World) (hT : crc.Tab w) (hl : Leads w a l) (hb : Byte l) (hn : l.length = n) (hc : n ≤ cap) (hm : n ≤ 1000000000) (h1 : begB l = true) (h2 : 39 ≤ n) (h3 : numB (headOf l) = true) (h4 : lenOf l ≤ 1000) (h5 : n < 39 + lenOf l) :
    Calls Tryd.prog 23 #[.slice a n cap] w (DecOut w (dec l)) := by
  have hd : dec l = (zeroRec, 0, 11) := by unfold dec; rw [if_neg (by rw [h1]; simp), if_neg (by omega), if_neg (by rw [h3]; simp; omega), if_pos (by omega)]
  rw [hd]
  clear hd
  have c := begins_any a n cap l (w.alloc (.cells #[.int .i64 0, .int .u32 0, .int .u64 0, .int .u64 0, .int .u64 0, .string ⟨#[]⟩] 32)) (hl.later ((Below.refl _ _).alloc (Nat.le_refl _) _)) hb hn hc
  rw [h1] at c
  have C := Lib.hid c
  have HH1 := Lib.hid h1
  have HB := Lib.hid hb
  have HN := Lib.hid hn
  have HL := Lib.hid hl
  have HT := Lib.hid hT
  clear c h1 hb hn hl hT
  obtain ⟨g, off, rfl, hA⟩ := HL.out.at_ (by rw [HN.out]; omega)
  have hat : At w g off l := hA
  have HAT := Lib.hid hat
  have h2I : ¬ (n : Int) < 39 := by omega
  have hs1 : ∀ W, (Instr.slice 26 (.slice (some ⟨g, off, none⟩) n cap) none (some (.int .i64 39)) none).run Tryd.prog W = .ok (.slice (some ⟨g, off, none⟩) 39 cap) W := fun W => run_front g off n cap 39 (by omega) W
  have cN := fun W => mayNumbers_any (headOf l) W
  obtain ⟨k, hk⟩ : ∃ k, (headOf l).kind = k := ⟨_, rfl⟩
  obtain ⟨t, ht⟩ : ∃ t, (headOf l).tenant = t := ⟨_, rfl⟩
  obtain ⟨e, he⟩ : ∃ e, (headOf l).epoch = e := ⟨_, rfl⟩
  obtain ⟨o, ho⟩ : ∃ o, (headOf l).object = o := ⟨_, rfl⟩
  obtain ⟨s, hs⟩ : ∃ s, (headOf l).seq = s := ⟨_, rfl⟩
  have hv : (headOf l).val = .agg #[.int .i64 k, .int .u32 (t : Int), .int .u64 (e : Int), .int .u64 (o : Int), .int .u64 (s : Int), .string ⟨#[]⟩] := by
    rw [← hk, ← ht, ← he, ← ho, ← hs]; rfl
  rw [hv] at cN
  have HV := Lib.hid hv
  have HFLD := Lib.hid (And.intro hk (And.intro ht (And.intro he (And.intro ho hs))))
  have hll := lenOf_lt HB.out (by rw [HN.out]; omega)
  obtain ⟨m, hml⟩ : ∃ m, lenOf l = m := ⟨_, rfl⟩
  rw [hml] at hll
  have HML := Lib.hid hml
  have hnb : numB (headOf l) = true := h3
  have HNB := Lib.hid hnb
  clear hnb h3
  rw [hml] at h4 h5
  have h4I : (m : Int) ≤ 1000 := by omega
  have h5I : (n : Int) < 39 + (m : Int) := by omega
  clear h4 h5
  have CN := Lib.hid cN
  have hcap : 39 ≤ cap := by omega
  have HNM := Lib.hid hm
  have HN2 := Lib.hid h2
  clear hA hat hk ht he ho hs hv hml cN hll hm h2
  go_enter Tryd.func23, Tryd.ntmps23
  go_wp2_with fail
  refine C.out.mono ?_
  rintro e w' ⟨rfl, q, hq⟩
  have b1 : Below w.heap.size w w' := by rw [hq]; exact below_draws ((Below.refl _ _).alloc (Nat.le_refl _) _) q
  have w1 : Whole w' w.heap.size 32 [.int .i64 0, .int .u32 0, .int .u64 0, .int .u64 0, .int .u64 0, .string ⟨#[]⟩] := by rw [hq]; exact (Whole.new_ rfl rfl).draws q
  have B1 := Lib.hid b1
  have W1 := Lib.hid w1
  clear hq b1 w1 C
  obtain ⟨bz, hbz⟩ : ∃ bz, w.heap.size = bz := ⟨_, rfl⟩
  rw [hbz] at W1 ⊢
  have HBZ := Lib.hid hbz
  clear hbz
  go_wp2_with fail
  refine (head_any g off cap (l.take 39) w' ((HAT.out.later B1.out).take 39) (HB.out.take 39) (by rw [List.length_take, HN.out]; omega) hcap).mono ?_
  rintro en w2 ⟨rfl, b2⟩
  rw [headOf_take, lenOf_take, HV.out, HML.out]
  have W2 := Lib.hid (W1.out.kept b2)
  have B2 := Lib.hid (B1.out.trans (b2.mono B1.out.size))
  clear b2 hs1 W1 B1
  go_wp2_with fail
  obtain ⟨p, hp⟩ : ∃ p, w2.heap.size = p := ⟨_, rfl⟩
  have W3 : Whole (w2.alloc (.cells #[.int .i64 k, .int .u32 (t : Int), .int .u64 (e : Int), .int .u64 (o : Int), .int .u64 (s : Int), .string ⟨#[]⟩] 32)) p 32 [.int .i64 k, .int .u32 (t : Int), .int .u64 (e : Int), .int .u64 (o : Int), .int .u64 (s : Int), .string ⟨#[]⟩] := Whole.new_ hp.symm rfl
  have b3 : Below w2.heap.size w2 (w2.alloc (.cells #[.int .i64 k, .int .u32 (t : Int), .int .u64 (e : Int), .int .u64 (o : Int), .int .u64 (s : Int), .string ⟨#[]⟩] 32)) := (Below.refl _ _).alloc (Nat.le_refl _) _
  refine (CN.out _).mono ?_
  rintro en w4 ⟨rfl, b4⟩
  rw [HNB.out]
  have W4 := Lib.hid (W3.kept b4)
  have Z4 := Lib.hid ((W2.out.kept b3).kept b4)
  have B4 := Lib.hid ((B2.out.trans (b3.mono B2.out.size)).trans (b4.mono (B2.out.trans (b3.mono B2.out.size)).size))
  have hbp : bz < p := by rw [← hp]; exact W2.out.lt
  rw [hp]
  have HP := Lib.hid hp
  clear b3 b4 W3 W2 B2 CN hp
  go_wp2_with ((with_reducible show wpList _ _ _ (⟨none, _, _, _, _, _⟩ :: _) _ _); refine wpList_store_as rfl 32 (.tmp 2) (.tmp 37) rfl bz 0 #[.int .i64 0, .int .u32 0, .int .u64 0, .int .u64 0, .int .u64 0, .string ⟨#[]⟩] rfl rfl (Whole.there Z4.out 0 6 (Nat.le_refl 6)) recInfo (by simp [Value.oneCell']) ?_; intro w7 hw7; have HW7 := Lib.hid hw7; clear hw7)
  have wf7 : Whole w7 bz 32 [.int .i64 0, .int .u32 0, .int .u64 0, .int .u64 0, .int .u64 0, .string ⟨#[]⟩] := by
    rw [← HW7.out]
    exact Whole.lay [.int .i64 0, .int .u32 0, .int .u64 0, .int .u64 0, .int .u64 0, .string ⟨#[]⟩] 0 Z4.out (by decide)
  have b7 : Below w.heap.size w w7 := by
    rw [← HW7.out]
    exact below_lay _ _ _ B4.out (by rw [HBZ.out]; exact Nat.le_refl _)
  exact dec_ret rfl rfl rfl rfl wf7 rfl ⟨rfl, b7⟩
set_option maxRecDepth 100000 in
set_option maxHeartbeats 2000000 in
theorem dec_bad (a : Option Addr) (n cap : Nat) (l : List Int) (w : World) (hT : crc.Tab w) (hl : Leads w a l) (hb : Byte l) (hn : l.length = n) (hc : n ≤ cap) (hm : n ≤ 1000000000) (h1 : begB l = true) (h2 : 39 ≤ n) (h3 : numB (headOf l) = true) (h4 : lenOf l ≤ 1000) (h5 : 39 + lenOf l ≤ n) (h6 : sumOf (sub l 0 35 ++ sub l 39 (39 + lenOf l)) ≠ val (sub l 35 39)) :
    Calls Tryd.prog 23 #[.slice a n cap] w (DecOut w (dec l)) := by
  have hd : dec l = (zeroRec, 0, 4) := by unfold dec; rw [if_neg (by rw [h1]; simp), if_neg (by omega), if_neg (by rw [h3]; simp; omega), if_neg (by omega), if_pos h6]
  rw [hd]
  clear hd
  have c := begins_any a n cap l (w.alloc (.cells #[.int .i64 0, .int .u32 0, .int .u64 0, .int .u64 0, .int .u64 0, .string ⟨#[]⟩] 32)) (hl.later ((Below.refl _ _).alloc (Nat.le_refl _) _)) hb hn hc
  rw [h1] at c
  have C := Lib.hid c
  have HH1 := Lib.hid h1
  have HB := Lib.hid hb
  have HN := Lib.hid hn
  have HL := Lib.hid hl
  have HT := Lib.hid hT
  clear c h1 hb hn hl hT
  obtain ⟨g, off, rfl, hA⟩ := HL.out.at_ (by rw [HN.out]; omega)
  have hat : At w g off l := hA
  have HAT := Lib.hid hat
  have h2I : ¬ (n : Int) < 39 := by omega
  have hs1 : ∀ W, (Instr.slice 26 (.slice (some ⟨g, off, none⟩) n cap) none (some (.int .i64 39)) none).run Tryd.prog W = .ok (.slice (some ⟨g, off, none⟩) 39 cap) W := fun W => run_front g off n cap 39 (by omega) W
  have cN := fun W => mayNumbers_any (headOf l) W
  obtain ⟨k, hk⟩ : ∃ k, (headOf l).kind = k := ⟨_, rfl⟩
  obtain ⟨t, ht⟩ : ∃ t, (headOf l).tenant = t := ⟨_, rfl⟩
  obtain ⟨e, he⟩ : ∃ e, (headOf l).epoch = e := ⟨_, rfl⟩
  obtain ⟨o, ho⟩ : ∃ o, (headOf l).object = o := ⟨_, rfl⟩
  obtain ⟨s, hs⟩ : ∃ s, (headOf l).seq = s := ⟨_, rfl⟩
  have hv : (headOf l).val = .agg #[.int .i64 k, .int .u32 (t : Int), .int .u64 (e : Int), .int .u64 (o : Int), .int .u64 (s : Int), .string ⟨#[]⟩] := by
    rw [← hk, ← ht, ← he, ← ho, ← hs]; rfl
  rw [hv] at cN
  have HV := Lib.hid hv
  have HFLD := Lib.hid (And.intro hk (And.intro ht (And.intro he (And.intro ho hs))))
  have hll := lenOf_lt HB.out (by rw [HN.out]; omega)
  obtain ⟨m, hml⟩ : ∃ m, lenOf l = m := ⟨_, rfl⟩
  rw [hml] at hll
  have HML := Lib.hid hml
  have hnb : numB (headOf l) = true := h3
  have HNB := Lib.hid hnb
  clear hnb h3
  rw [hml] at h4 h5 h6
  have h4I : (m : Int) ≤ 1000 := by omega
  have h5I : ¬ (n : Int) < 39 + (m : Int) := by omega
  have HNN := Lib.hid h5
  clear h4 h5
  have CN := Lib.hid cN
  have hcap : 39 ≤ cap := by omega
  have HNM := Lib.hid hm
  have HN2 := Lib.hid h2
  have hbod : (sub l 39 (39 + m)).length = m := by rw [sub_length l 39 (39 + m) (by rw [HN.out]; omega)]; omega
  obtain ⟨sm, hsm⟩ : ∃ sm, sumOf (sub l 0 35 ++ sub l 39 (39 + m)) = sm := ⟨_, rfl⟩
  obtain ⟨gv, hgv⟩ : ∃ gv, val (sub l 35 39) = gv := ⟨_, rfl⟩
  rw [hsm, hgv] at h6
  have h6b : (IntKind.u64.wrap (sm : Int) != (gv : Int)) = true := by
    rw [show IntKind.u64.wrap (sm : Int) = (sm : Int) by rw [IntKind.wrap_u64]; have : sm < 4294967296 := by rw [← hsm]; exact sumOf_lt _
                                                         omega, bne_iff_ne]
    exact fun e => h6 (by omega)
  have H6 := Lib.hid h6
  clear h6
  have HSM := Lib.hid hsm
  have HGV := Lib.hid hgv
  have HBOD := Lib.hid hbod
  clear hsm hgv hbod
  clear hA hat hk ht he ho hs hv hml cN hll hm h2
  go_enter Tryd.func23, Tryd.ntmps23
  go_wp2_with fail
  refine C.out.mono ?_
  rintro e w' ⟨rfl, q, hq⟩
  have b1 : Below w.heap.size w w' := by rw [hq]; exact below_draws ((Below.refl _ _).alloc (Nat.le_refl _) _) q
  have w1 : Whole w' w.heap.size 32 [.int .i64 0, .int .u32 0, .int .u64 0, .int .u64 0, .int .u64 0, .string ⟨#[]⟩] := by rw [hq]; exact (Whole.new_ rfl rfl).draws q
  have B1 := Lib.hid b1
  have W1 := Lib.hid w1
  clear hq b1 w1 C
  obtain ⟨bz, hbz⟩ : ∃ bz, w.heap.size = bz := ⟨_, rfl⟩
  rw [hbz] at W1 ⊢
  have HBZ := Lib.hid hbz
  clear hbz
  go_wp2_with fail
  refine (head_any g off cap (l.take 39) w' ((HAT.out.later B1.out).take 39) (HB.out.take 39) (by rw [List.length_take, HN.out]; omega) hcap).mono ?_
  rintro en w2 ⟨rfl, b2⟩
  rw [headOf_take, lenOf_take, HV.out, HML.out]
  have W2 := Lib.hid (W1.out.kept b2)
  have B2 := Lib.hid (B1.out.trans (b2.mono B1.out.size))
  clear b2 hs1 W1 B1
  go_wp2_with fail
  obtain ⟨p, hp⟩ : ∃ p, w2.heap.size = p := ⟨_, rfl⟩
  have W3 : Whole (w2.alloc (.cells #[.int .i64 k, .int .u32 (t : Int), .int .u64 (e : Int), .int .u64 (o : Int), .int .u64 (s : Int), .string ⟨#[]⟩] 32)) p 32 [.int .i64 k, .int .u32 (t : Int), .int .u64 (e : Int), .int .u64 (o : Int), .int .u64 (s : Int), .string ⟨#[]⟩] := Whole.new_ hp.symm rfl
  have b3 : Below w2.heap.size w2 (w2.alloc (.cells #[.int .i64 k, .int .u32 (t : Int), .int .u64 (e : Int), .int .u64 (o : Int), .int .u64 (s : Int), .string ⟨#[]⟩] 32)) := (Below.refl _ _).alloc (Nat.le_refl _) _
  refine (CN.out _).mono ?_
  rintro en w4 ⟨rfl, b4⟩
  rw [HNB.out]
  have W4 := Lib.hid (W3.kept b4)
  have Z4 := Lib.hid ((W2.out.kept b3).kept b4)
  have B4 := Lib.hid ((B2.out.trans (b3.mono B2.out.size)).trans (b4.mono (B2.out.trans (b3.mono B2.out.size)).size))
  have hbp : bz < p := by rw [← hp]; exact W2.out.lt
  rw [hp]
  have HP := Lib.hid hp
  clear b3 b4 W3 W2 B2 CN hp
  have s1 : ∀ W, (Instr.slice 26 (.slice (some ⟨g, off, none⟩) n cap) none (some (.int .i64 35)) none).run Tryd.prog W = .ok (.slice (some ⟨g, off, none⟩) 35 cap) W := fun W => run_front g off n cap 35 (by omega) W
  have s2 : ∀ W, (Instr.slice 26 (.slice (some ⟨g, off, none⟩) n cap) (some (.int .i64 35)) (some (.int .i64 39)) none).run Tryd.prog W = .ok (.slice (some ⟨g, off + 35, none⟩) 4 (cap - 35)) W := run_sub g off n cap 35 39 (by omega) (by omega)
  have s3 : ∀ W, (Instr.slice 26 (.slice (some ⟨g, off, none⟩) n cap) (some (.int .i64 39)) (some (.int .i64 (39 + (m : Int)))) none).run Tryd.prog W = .ok (.slice (cutAt (some ⟨g, off, none⟩) cap 39) m (cap - 39)) W := fun W => by
    have h := run_cut (some ⟨g, off, none⟩) n cap 39 (39 + m) (by omega) (by have := HNN.out; omega) W
    rw [show 39 + m - 39 = m by omega, show ((39 + m : Nat) : Int) = 39 + (m : Int) by omega] at h
    exact h
  obtain ⟨ca, hca⟩ : ∃ ca, cutAt (some ⟨g, off, none⟩) cap 39 = ca := ⟨_, rfl⟩
  rw [hca] at s3
  have lb : Leads w4 ca (sub l 39 (39 + m)) := by
    rw [← hca]
    exact leads_cut ((HAT.out.later B4.out).leads) 39 (39 + m) (by omega) (by rw [HN.out]; exact HNN.out) (by rw [HN.out]; exact hc)
  have la : Leads w4 (some ⟨g, off, none⟩) (sub l 0 35) := by
    have := ((HAT.out.later B4.out).leads).take 35
    exact this
  have cS : ∀ q, Calls Tryd.prog 29 #[.slice (some ⟨g, off, none⟩) 35 cap, .slice ca m (cap - 39)] (w4.drewN q) fun e w'' => e = .returned (.int .u32 ((sm : Nat) : Int)) ∧ ∃ z, w'' = w4.drewN z := fun q =>
    (sum_any (w4.drewN q) ((HT.out.later B4.out).later (below_draws (Below.refl _ _) q)) _ _ 35 m cap (cap - 39) (sub l 0 35) (sub l 39 (39 + m)) (la.later (below_draws (Below.refl _ _) q)) (lb.later (below_draws (Below.refl _ _) q)) (sub_byte HB.out 0 35) (sub_byte HB.out 39 (39 + m)) (sub_length l 0 35 (by rw [HN.out]; omega)) HBOD.out (by decide) (by omega)).mono fun e w'' h => ⟨by rw [h.1, HSM.out], q, h.2.symm⟩
  have cG : ∀ q, Calls Tryd.prog 30 #[.slice (some ⟨g, off + 35, none⟩) 4 (cap - 35)] (w4.drewN q) fun e w'' => e = .returned (.int .u64 ((gv : Nat) : Int)) ∧ ∃ z, w'' = w4.drewN z := fun q =>
    (get_at _ 4 (sub l 35 39) (sub_length l 35 39 (by rw [HN.out]; omega)) (cap - 35) (w4.drewN q) (At.sub ((HAT.out.later B4.out).later (below_draws (Below.refl _ _) q)) 35 39 (by omega) (by rw [HN.out]; omega)) (sub_byte HB.out 35 39) (by omega) (by omega)).mono fun e w'' h => ⟨by rw [h.1, HGV.out], q, h.2.symm⟩
  have CS := Lib.hid cS
  have CG := Lib.hid cG
  have LB := Lib.hid lb
  have HCA := Lib.hid hca
  clear cS cG la lb hca
  go_wp2_with fail
  go_quiet ((first | (go_at_call 29; exact CS.out _) | (go_at_call 30; exact CG.out _)))
  have Z5 := Lib.hid (Z4.out.draws nq)
  have W5 := Lib.hid (W4.out.draws nq)
  have B5 := Lib.hid (below_draws B4.out nq)
  have L5 := Lib.hid (LB.out.later (below_draws (Below.refl _ _) nq))
  obtain ⟨w5, hw5⟩ : ∃ w5, w4.drewN nq = w5 := ⟨_, rfl⟩
  rw [hw5] at Z5 W5 B5 L5 ⊢
  clear hw5 Z4 W4 B4 LB CS CG s1 s2 s3
  go_wp2_with ((with_reducible show wpList _ _ _ (⟨none, _, _, _, _, _⟩ :: _) _ _); refine wpList_store_as rfl 32 (.tmp 2) (.tmp 50) rfl bz 0 #[.int .i64 0, .int .u32 0, .int .u64 0, .int .u64 0, .int .u64 0, .string ⟨#[]⟩] rfl rfl (Whole.there Z5.out 0 6 (Nat.le_refl 6)) recInfo (by simp [Value.oneCell']) ?_; intro w7 hw7; have HW7 := Lib.hid hw7; clear hw7)
  have wf7 : Whole w7 bz 32 [.int .i64 0, .int .u32 0, .int .u64 0, .int .u64 0, .int .u64 0, .string ⟨#[]⟩] := by
    rw [← HW7.out]
    exact Whole.lay [.int .i64 0, .int .u32 0, .int .u64 0, .int .u64 0, .int .u64 0, .string ⟨#[]⟩] 0 Z5.out (by decide)
  have b7 : Below w.heap.size w w7 := by
    rw [← HW7.out]
    exact below_lay _ _ _ B5.out (by rw [HBZ.out]; exact Nat.le_refl _)
  exact dec_ret rfl rfl rfl rfl wf7 rfl ⟨rfl, b7⟩
set_option maxRecDepth 100000 in
set_option maxHeartbeats 2000000 in
theorem dec_ok (a : Option Addr) (n cap : Nat) (l : List Int) (w : World) (hT : crc.Tab w) (hl : Leads w a l) (hb : Byte l) (hn : l.length = n) (hc : n ≤ cap) (hm : n ≤ 1000000000) (h1 : begB l = true) (h2 : 39 ≤ n) (h3 : numB (headOf l) = true) (h4 : lenOf l ≤ 1000) (h5 : 39 + lenOf l ≤ n) (h6 : sumOf (sub l 0 35 ++ sub l 39 (39 + lenOf l)) = val (sub l 35 39)) :
    Calls Tryd.prog 23 #[.slice a n cap] w (DecOut w (dec l)) := by
  have hd : dec l = ({ headOf l with body := str (sub l 39 (39 + lenOf l)) }, 39 + lenOf l, 0) := by unfold dec; rw [if_neg (by rw [h1]; simp), if_neg (by omega), if_neg (by rw [h3]; simp; omega), if_neg (by omega), if_neg (by rw [h6]; simp)]
  rw [hd]
  clear hd
  have c := begins_any a n cap l (w.alloc (.cells #[.int .i64 0, .int .u32 0, .int .u64 0, .int .u64 0, .int .u64 0, .string ⟨#[]⟩] 32)) (hl.later ((Below.refl _ _).alloc (Nat.le_refl _) _)) hb hn hc
  rw [h1] at c
  have C := Lib.hid c
  have HH1 := Lib.hid h1
  have HB := Lib.hid hb
  have HN := Lib.hid hn
  have HL := Lib.hid hl
  have HT := Lib.hid hT
  clear c h1 hb hn hl hT
  obtain ⟨g, off, rfl, hA⟩ := HL.out.at_ (by rw [HN.out]; omega)
  have hat : At w g off l := hA
  have HAT := Lib.hid hat
  have h2I : ¬ (n : Int) < 39 := by omega
  have hs1 : ∀ W, (Instr.slice 26 (.slice (some ⟨g, off, none⟩) n cap) none (some (.int .i64 39)) none).run Tryd.prog W = .ok (.slice (some ⟨g, off, none⟩) 39 cap) W := fun W => run_front g off n cap 39 (by omega) W
  have cN := fun W => mayNumbers_any (headOf l) W
  obtain ⟨k, hk⟩ : ∃ k, (headOf l).kind = k := ⟨_, rfl⟩
  obtain ⟨t, ht⟩ : ∃ t, (headOf l).tenant = t := ⟨_, rfl⟩
  obtain ⟨e, he⟩ : ∃ e, (headOf l).epoch = e := ⟨_, rfl⟩
  obtain ⟨o, ho⟩ : ∃ o, (headOf l).object = o := ⟨_, rfl⟩
  obtain ⟨s, hs⟩ : ∃ s, (headOf l).seq = s := ⟨_, rfl⟩
  have hv : (headOf l).val = .agg #[.int .i64 k, .int .u32 (t : Int), .int .u64 (e : Int), .int .u64 (o : Int), .int .u64 (s : Int), .string ⟨#[]⟩] := by
    rw [← hk, ← ht, ← he, ← ho, ← hs]; rfl
  rw [hv] at cN
  have HV := Lib.hid hv
  have HFLD := Lib.hid (And.intro hk (And.intro ht (And.intro he (And.intro ho hs))))
  have hll := lenOf_lt HB.out (by rw [HN.out]; omega)
  obtain ⟨m, hml⟩ : ∃ m, lenOf l = m := ⟨_, rfl⟩
  rw [hml] at hll
  have HML := Lib.hid hml
  have hnb : numB (headOf l) = true := h3
  have HNB := Lib.hid hnb
  clear hnb h3
  rw [hml] at h4 h5 h6
  have h4I : (m : Int) ≤ 1000 := by omega
  have h5I : ¬ (n : Int) < 39 + (m : Int) := by omega
  have HNN := Lib.hid h5
  clear h4 h5
  have CN := Lib.hid cN
  have hcap : 39 ≤ cap := by omega
  have HNM := Lib.hid hm
  have HN2 := Lib.hid h2
  have hbod : (sub l 39 (39 + m)).length = m := by rw [sub_length l 39 (39 + m) (by rw [HN.out]; omega)]; omega
  obtain ⟨sm, hsm⟩ : ∃ sm, sumOf (sub l 0 35 ++ sub l 39 (39 + m)) = sm := ⟨_, rfl⟩
  obtain ⟨gv, hgv⟩ : ∃ gv, val (sub l 35 39) = gv := ⟨_, rfl⟩
  rw [hsm, hgv] at h6
  have h6b : (IntKind.u64.wrap (sm : Int) != (gv : Int)) = false := by
    rw [show IntKind.u64.wrap (sm : Int) = (sm : Int) by rw [IntKind.wrap_u64]; have : sm < 4294967296 := by rw [← hsm]; exact sumOf_lt _
                                                         omega, h6]
    simp
  clear h6
  have HSM := Lib.hid hsm
  have HGV := Lib.hid hgv
  have HBOD := Lib.hid hbod
  clear hsm hgv hbod
  clear hA hat hk ht he ho hs hv hml cN hll hm h2
  go_enter Tryd.func23, Tryd.ntmps23
  go_wp2_with fail
  refine C.out.mono ?_
  rintro e w' ⟨rfl, q, hq⟩
  have b1 : Below w.heap.size w w' := by rw [hq]; exact below_draws ((Below.refl _ _).alloc (Nat.le_refl _) _) q
  have w1 : Whole w' w.heap.size 32 [.int .i64 0, .int .u32 0, .int .u64 0, .int .u64 0, .int .u64 0, .string ⟨#[]⟩] := by rw [hq]; exact (Whole.new_ rfl rfl).draws q
  have B1 := Lib.hid b1
  have W1 := Lib.hid w1
  clear hq b1 w1 C
  obtain ⟨bz, hbz⟩ : ∃ bz, w.heap.size = bz := ⟨_, rfl⟩
  rw [hbz] at W1 ⊢
  have HBZ := Lib.hid hbz
  clear hbz
  go_wp2_with fail
  refine (head_any g off cap (l.take 39) w' ((HAT.out.later B1.out).take 39) (HB.out.take 39) (by rw [List.length_take, HN.out]; omega) hcap).mono ?_
  rintro en w2 ⟨rfl, b2⟩
  rw [headOf_take, lenOf_take, HV.out, HML.out]
  have W2 := Lib.hid (W1.out.kept b2)
  have B2 := Lib.hid (B1.out.trans (b2.mono B1.out.size))
  clear b2 hs1 W1 B1
  go_wp2_with fail
  obtain ⟨p, hp⟩ : ∃ p, w2.heap.size = p := ⟨_, rfl⟩
  have W3 : Whole (w2.alloc (.cells #[.int .i64 k, .int .u32 (t : Int), .int .u64 (e : Int), .int .u64 (o : Int), .int .u64 (s : Int), .string ⟨#[]⟩] 32)) p 32 [.int .i64 k, .int .u32 (t : Int), .int .u64 (e : Int), .int .u64 (o : Int), .int .u64 (s : Int), .string ⟨#[]⟩] := Whole.new_ hp.symm rfl
  have b3 : Below w2.heap.size w2 (w2.alloc (.cells #[.int .i64 k, .int .u32 (t : Int), .int .u64 (e : Int), .int .u64 (o : Int), .int .u64 (s : Int), .string ⟨#[]⟩] 32)) := (Below.refl _ _).alloc (Nat.le_refl _) _
  refine (CN.out _).mono ?_
  rintro en w4 ⟨rfl, b4⟩
  rw [HNB.out]
  have W4 := Lib.hid (W3.kept b4)
  have Z4 := Lib.hid ((W2.out.kept b3).kept b4)
  have B4 := Lib.hid ((B2.out.trans (b3.mono B2.out.size)).trans (b4.mono (B2.out.trans (b3.mono B2.out.size)).size))
  have hbp : bz < p := by rw [← hp]; exact W2.out.lt
  rw [hp]
  have HP := Lib.hid hp
  clear b3 b4 W3 W2 B2 CN hp
  have s1 : ∀ W, (Instr.slice 26 (.slice (some ⟨g, off, none⟩) n cap) none (some (.int .i64 35)) none).run Tryd.prog W = .ok (.slice (some ⟨g, off, none⟩) 35 cap) W := fun W => run_front g off n cap 35 (by omega) W
  have s2 : ∀ W, (Instr.slice 26 (.slice (some ⟨g, off, none⟩) n cap) (some (.int .i64 35)) (some (.int .i64 39)) none).run Tryd.prog W = .ok (.slice (some ⟨g, off + 35, none⟩) 4 (cap - 35)) W := run_sub g off n cap 35 39 (by omega) (by omega)
  have s3 : ∀ W, (Instr.slice 26 (.slice (some ⟨g, off, none⟩) n cap) (some (.int .i64 39)) (some (.int .i64 (39 + (m : Int)))) none).run Tryd.prog W = .ok (.slice (cutAt (some ⟨g, off, none⟩) cap 39) m (cap - 39)) W := fun W => by
    have h := run_cut (some ⟨g, off, none⟩) n cap 39 (39 + m) (by omega) (by have := HNN.out; omega) W
    rw [show 39 + m - 39 = m by omega, show ((39 + m : Nat) : Int) = 39 + (m : Int) by omega] at h
    exact h
  obtain ⟨ca, hca⟩ : ∃ ca, cutAt (some ⟨g, off, none⟩) cap 39 = ca := ⟨_, rfl⟩
  rw [hca] at s3
  have lb : Leads w4 ca (sub l 39 (39 + m)) := by
    rw [← hca]
    exact leads_cut ((HAT.out.later B4.out).leads) 39 (39 + m) (by omega) (by rw [HN.out]; exact HNN.out) (by rw [HN.out]; exact hc)
  have la : Leads w4 (some ⟨g, off, none⟩) (sub l 0 35) := by
    have := ((HAT.out.later B4.out).leads).take 35
    exact this
  have cS : ∀ q, Calls Tryd.prog 29 #[.slice (some ⟨g, off, none⟩) 35 cap, .slice ca m (cap - 39)] (w4.drewN q) fun e w'' => e = .returned (.int .u32 ((sm : Nat) : Int)) ∧ ∃ z, w'' = w4.drewN z := fun q =>
    (sum_any (w4.drewN q) ((HT.out.later B4.out).later (below_draws (Below.refl _ _) q)) _ _ 35 m cap (cap - 39) (sub l 0 35) (sub l 39 (39 + m)) (la.later (below_draws (Below.refl _ _) q)) (lb.later (below_draws (Below.refl _ _) q)) (sub_byte HB.out 0 35) (sub_byte HB.out 39 (39 + m)) (sub_length l 0 35 (by rw [HN.out]; omega)) HBOD.out (by decide) (by omega)).mono fun e w'' h => ⟨by rw [h.1, HSM.out], q, h.2.symm⟩
  have cG : ∀ q, Calls Tryd.prog 30 #[.slice (some ⟨g, off + 35, none⟩) 4 (cap - 35)] (w4.drewN q) fun e w'' => e = .returned (.int .u64 ((gv : Nat) : Int)) ∧ ∃ z, w'' = w4.drewN z := fun q =>
    (get_at _ 4 (sub l 35 39) (sub_length l 35 39 (by rw [HN.out]; omega)) (cap - 35) (w4.drewN q) (At.sub ((HAT.out.later B4.out).later (below_draws (Below.refl _ _) q)) 35 39 (by omega) (by rw [HN.out]; omega)) (sub_byte HB.out 35 39) (by omega) (by omega)).mono fun e w'' h => ⟨by rw [h.1, HGV.out], q, h.2.symm⟩
  have CS := Lib.hid cS
  have CG := Lib.hid cG
  have LB := Lib.hid lb
  have HCA := Lib.hid hca
  clear cS cG la lb hca
  go_wp2_with fail
  go_quiet ((first | (go_at_call 29; exact CS.out _) | (go_at_call 30; exact CG.out _)))
  have Z5 := Lib.hid (Z4.out.draws nq)
  have W5 := Lib.hid (W4.out.draws nq)
  have B5 := Lib.hid (below_draws B4.out nq)
  have L5 := Lib.hid (LB.out.later (below_draws (Below.refl _ _) nq))
  obtain ⟨w5, hw5⟩ : ∃ w5, w4.drewN nq = w5 := ⟨_, rfl⟩
  rw [hw5] at Z5 W5 B5 L5 ⊢
  clear hw5 Z4 W4 B4 LB CS CG s1 s2 s3
  have hst : (convert 26 9 (.slice ca m (cap - 39))).run Tryd.prog w5 = .ok (.string (str (sub l 39 (39 + m)))) w5 := by
    have := run_str L5.out (sub_byte HB.out 39 (39 + m)) (cap - 39)
    rw [HBOD.out] at this
    exact this
  obtain ⟨bd, hbd⟩ : ∃ bd, str (sub l 39 (39 + m)) = bd := ⟨_, rfl⟩
  rw [hbd] at hst
  have HBD := Lib.hid hbd
  clear hbd
  have cp := W5.out.at_ 5
  have fp := W5.out.free 5
  have W6 := Lib.hid (W5.out.put 5 (.string bd))
  have Z6 := Lib.hid (Z5.out.apart (p := ⟨p, 5, none⟩) (show bz ≠ p by omega) (.string bd))
  have B6 := Lib.hid (B5.out.setCell (p := ⟨p, 5, none⟩) (show w.heap.size ≤ p by rw [HBZ.out]; omega) (.string bd))
  go_wp2_with (first
    | ((with_reducible show wpList _ _ _ (⟨some 54, _, _, _, _, _⟩ :: _) _ _); refine wpList_load_mid rfl 32 (.tmp 5) rfl p 0 rfl [.int .i64 k, .int .u32 (t : Int), .int .u64 (e : Int), .int .u64 (o : Int), .int .u64 (s : Int), .string bd] _ (W6.out.range 0 6) Tryd.underlying32 rfl recInfo ?_)
    | ((with_reducible show wpList _ _ _ (⟨none, _, _, _, _, _⟩ :: _) _ _); refine wpList_store_as rfl 32 (.tmp 2) (.tmp 54) rfl bz 0 #[.int .i64 k, .int .u32 (t : Int), .int .u64 (e : Int), .int .u64 (o : Int), .int .u64 (s : Int), .string bd] rfl rfl (Whole.there Z6.out 0 6 (Nat.le_refl 6)) recInfo (by simp [Value.oneCell']) ?_; intro w7 hw7; have HW7 := Lib.hid hw7; clear hw7))
  have wf7 : Whole w7 bz 32 [.int .i64 k, .int .u32 (t : Int), .int .u64 (e : Int), .int .u64 (o : Int), .int .u64 (s : Int), .string bd] := by
    rw [← HW7.out]
    exact Whole.lay [.int .i64 k, .int .u32 (t : Int), .int .u64 (e : Int), .int .u64 (o : Int), .int .u64 (s : Int), .string bd] 0 Z6.out (Nat.le_refl 6)
  have b7 : Below w.heap.size w w7 := by
    rw [← HW7.out]
    exact below_lay _ _ _ B6.out (by rw [HBZ.out]; exact Nat.le_refl _)
  refine dec_ret (n := .int .i64 (39 + (m : Int))) (e := .int .i64 0) rfl rfl rfl rfl wf7 rfl ⟨?_, b7⟩
  unfold decV Rec.val
  rw [HML.out, HBD.out, HFLD.out.1, HFLD.out.2.1, HFLD.out.2.2.1, HFLD.out.2.2.2.1, HFLD.out.2.2.2.2]
  simp only [show ((39 + m : Nat) : Int) = 39 + (m : Int) by omega]
theorem Decode_any (a : Option Addr) (n cap : Nat) (l : List Int) (w : World) (hT : crc.Tab w) (hl : Leads w a l) (hb : Byte l) (hn : l.length = n) (hc : n ≤ cap) (hm : n ≤ 1000000000) :
    Calls Tryd.prog 23 #[.slice a n cap] w (DecOut w (dec l)) := by
  cases h1 : begB l
  · exact dec_beg a n cap l w hT hl hb hn hc hm h1
  · by_cases h2 : n < 39
    · exact dec_short a n cap l w hT hl hb hn hc hm h1 h2
    · cases h3 : numB (headOf l)
      · exact dec_num a n cap l w hT hl hb hn hc hm h1 (by omega) h3
      · by_cases h4 : 1000 < lenOf l
        · exact dec_len a n cap l w hT hl hb hn hc hm h1 (by omega) h3 h4
        · by_cases h5 : n < 39 + lenOf l
          · exact dec_more a n cap l w hT hl hb hn hc hm h1 (by omega) h3 (by omega) h5
          · by_cases h6 : sumOf (sub l 0 35 ++ sub l 39 (39 + lenOf l)) = val (sub l 35 39)
            · exact dec_ok a n cap l w hT hl hb hn hc hm h1 (by omega) h3 (by omega) (by omega) h6
            · exact dec_bad a n cap l w hT hl hb hn hc hm h1 (by omega) h3 (by omega) (by omega) h6
end Go.Proofs.YtodajceiadbpeaaDoor.recd
