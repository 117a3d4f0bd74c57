/-
  THE WALK OF "DiskSync".
-/
import Derived.Test.YtpmjbnhpalanhaaDkRows
namespace Go.Proofs.Ytpmjbnhpalanhaa.disk
open Go.RowKit Go.Maps

/-- The loop under way: y parts are written, s is what they are together. -/
structure Growing (W : World) (b p y : Nat) (A : FileA) (s : ByteArray) (wr : World) : Prop where
  held : Held W (fun _ => False) wr p (One 5000 aName b A [(aName, b)] [] (-1) (2 + (y : Int)) 0) (3 + 2 * y)
  text : s = str A.now
  le : A.now.length ≤ y * 150
  byte : Byte A.now

theorem Growing.next {W : World} {b p y : Nat} {A : FileA} {s : ByteArray} {wr wr' : World} (h : Growing W b p y A s wr) {part : List Int} (hp : part.length ≤ 150) (hb : Byte part)
    (h' : Held W (fun _ => False) wr' p (One 5000 aName b (A.write A.now.length part) [(aName, b)] [] (less (-1)) (2 + (y : Int) + 1) 0) (3 + 2 * y + 2)) : Growing W b p (y + 1) (A.write A.now.length part) (s ++ str part) wr' := by
  have e : (A.write A.now.length part).now = A.now ++ part := A.write_end part
  refine ⟨?_, by rw [e, h.text, str_append], by rw [e, List.length_append]; have := h.le; omega, by rw [e]; exact h.byte.append hb⟩
  have e1 : (2 : Int) + ((y + 1 : Nat) : Int) = 2 + (y : Int) + 1 := by omega
  rw [e1]
  exact h'

set_option maxRecDepth 100000 in
set_option maxHeartbeats 2000000 in
theorem sync_long (w : World) (a0 : Option Addr) (len0 cap0 : Nat) (ps : Nat → Piece) (h0 : RRow w a0 len0 cap0 ps) (a : Option Addr) (len cap : Nat) (keep : List Bool) (h : BRow w a len cap keep) (torn : Int) (hl : 50 < len) :
    Calls Try.prog 8 #[.slice a0 len0 cap0, .slice a len cap, .int .i64 torn] w fun e w' => e = .returned (.bool true) ∧ Below w.heap.size w w' := by
  have H0 := Lib.hid h0
  have hmost0 := h0.most
  obtain ⟨hsl, hbl⟩ := h.front 50 hl
  have hsl' : ∀ w', (Instr.slice 23 (.slice a len cap) none (some (.int .i64 50)) none).run Try.prog w' = .ok (.slice a 50 cap) w' := hsl
  have HK := Lib.hid hbl
  have hll : (50 : Int) < (len : Int) := by omega
  have hmost := h.most
  clear hsl hbl
  clear h h0
  go_enter Try.func8, Try.ntmps8
  go_wp2_with fail
  refine (begun_any w).mono ?_
  rintro e w1 ⟨rfl, h1⟩
  have H1 := Lib.hid h1
  clear h1
  go_wp2_with fail
  refine (new_any w1 5000).mono ?_
  rintro e w2 ho
  obtain ⟨p, rfl, h2, _⟩ := held_new (W := w) (X := fun _ => False) (fun _ e => e.elim) H1.out ho
  have H2 := Lib.hid h2
  clear ho h2
  go_wp2_with fail
  refine (create_any w2 p _ 0 H2.out.disk (by omega) ⟨#[97]⟩ (by decide)).mono ?_
  rintro e w3 ⟨b, _, _, _, ho⟩
  rw [aData, One.create aGood] at ho
  obtain ⟨rfl, h3, _⟩ := H2.out.out ho
  have H3 := Lib.hid h3
  clear ho h3
  go_wp2_with fail
  refine (syncdir_any w3 p _ _ H3.out.disk (by omega)).mono ?_
  rintro e w4 ho
  obtain ⟨he, h4, _⟩ := H3.out.out ho
  rw [One.syncDir (by decide)] at he h4
  subst he
  have start : Growing w b p 0 ⟨[], [], []⟩ ⟨#[]⟩ w4 := ⟨h4, rfl, Nat.le_refl _, Byte.nil⟩
  have ST := Lib.hid start
  clear h4 ho start
  go_wp2_with fail
  go_loopw [10, 9] (fun i t wr => ∃ (y : Nat) (A : FileA) (s : ByteArray), y ≤ len0 ∧ y ≤ 10 ∧ i = .int .i64 (y : Int) ∧ t = .string s ∧ Growing w b p y A s wr) (fun i _ _ => 10 - (intOf i).toNat)
  case atStart => exact ⟨0, _, _, Nat.zero_le _, Nat.zero_le _, rfl, rfl, ST.out⟩
  case round =>
    obtain ⟨y, A, s, hy, hy10, rfl, rfl, hF⟩ := hrel
    have HF := Lib.hid hF
    have hsz : s.size = A.now.length := by rw [hF.text, str_size]
    have hle := hF.le
    clear hF
    by_cases hlt : y < len0 ∧ y < 10
    · obtain ⟨hlt0, hlt1⟩ := hlt
      obtain ⟨b0, off, rfl, hcs⟩ : ∃ b0 off, a0 = some ⟨b0, off, none⟩ ∧ ∀ i, i < len0 → w.cell? ⟨b0, off + i, none⟩ = some (.slice (ps i).a (ps i).len (ps i).cap) := by
        rcases H0.out.cells with h0 | h0
        · omega
        · exact h0
      have hcw := hcs y hlt0
      have hrow := H0.out.rows y hlt0
      obtain ⟨q, hq⟩ : ∃ q, ps y = q := ⟨_, rfl⟩
      rw [hq] at hcw hrow
      obtain ⟨qa, ql, qc, qs⟩ := q
      have hb0 : b0 < w.heap.size := block_lt_of_cell hcw
      have hc : wr.cell? ⟨b0, off + y, none⟩ = some (.slice qa ql qc) := (HF.out.held.below.cell (p := ⟨b0, off + y, none⟩) hb0).trans hcw
      have hrow' : Row w qa ql qc qs := hrow
      have hqm := hrow'.most
      have hql := hrow'.le
      have HR := Lib.hid (hrow'.short 150)
      have cS := Lib.hid (short_any qa ql qc 150 wr hrow'.le hrow'.nil (by omega))
      obtain ⟨m, hm⟩ : ∃ m, min ql 150 = m := ⟨_, rfl⟩
      rw [hm] at HR cS
      have hm1 : m ≤ 150 := by omega
      have hm2 : m ≤ ql := by omega
      clear hcs hcw hrow hrow' hq hm
      go_wp2_with fail
      refine cS.out.mono ?_
      rintro e w5 ⟨rfl, rfl⟩
      clear hc
      go_wp2_with fail
      have hrw : Leads wr qa (qs.take 150) := HR.out.bytes.later HF.out.held.below
      have hpl : (qs.take 150).length ≤ 150 := by rw [HR.out.length]; exact hm1
      refine (HF.out.held.write (l := qs.take 150) hrw HR.out.length HR.out.byte (by omega) (fun b' off' e hne => .inr (by
        obtain ⟨b2, off2, e2, h2⟩ := HR.out.bytes.lt hne
        rw [e] at e2
        obtain ⟨rfl, _⟩ : b' = b2 ∧ off' = off2 := by simpa using e2
        exact h2)) (by omega) ⟨#[97]⟩ (by decide) (A.now.length : Int)).mono ?_
      rintro e w5 ⟨he, h5, _⟩
      rw [aData, One.write A.now.length _ (by decide) (Nat.le_refl _) (by omega)] at he h5
      subst he
      have nxt := HF.out.next hpl HR.out.byte h5
      have hst := run_str (HR.out.bytes.later nxt.held.below) HR.out.byte qc
      rw [HR.out.length] at hst
      have NX := Lib.hid nxt
      clear nxt h5 hrw hpl
      have hss := str_size (qs.take 150)
      rw [HR.out.length] at hss
      go_wp2_with fail
      go_roundw
      case rel => exact ⟨y + 1, _, _, by omega, by omega, by go_num, rfl, NX.out⟩
      case measure => simp [intOf]; omega
    · have key : (¬ y < len0) ∨ (y < len0 ∧ ¬ y < 10) := by omega
      clear hlt
      obtain ⟨L, hL⟩ : ∃ L, A.now = L := ⟨_, rfl⟩
      rw [hL] at hsz hle
      have HLL := Lib.hid hL
      clear hL
      rcases key with hk1 | ⟨hk1, hk2⟩
      · go_wp2_with fail
        refine (syncs_any wr p _ _ HF.out.held.disk (by omega) ⟨#[97]⟩ (by decide)).mono ?_
        rintro e w5 ho
        obtain ⟨he, h5, _⟩ := HF.out.held.out ho
        rw [aData, One.sync (by decide), HLL.out] at he h5
        subst he
        have H5 := Lib.hid h5
        clear h5 ho
        go_wp2_with fail
        refine (dirty_any w5 p _ _ H5.out.disk (by omega)).mono ?_
        rintro e w6 ⟨rfl, b6⟩
        rw [One.dirty, show (([] : List Nat).length : Nat) = 0 from rfl]
        have H6 := Lib.hid (H5.out.later b6)
        clear b6
        go_wp2_with fail
        refine (H6.out.crash (by omega) 0 a 50 cap (keep.take 50) (HK.out.turned (R := fun _ => False) (Turn.of_below H6.out.below) (fun _ _ _ _ e => e)) torn).mono ?_
        rintro e w7 ⟨p7, S7, rfl, h7, _, hbl⟩
        rw [One.left_none] at hbl
        obtain ⟨b7, _, hd7, hf7⟩ := hbl.one
        rw [One.file] at hf7
        have hn7 : (S7.file b7).now = L := by rw [hf7]; rfl
        have H7 := Lib.hid h7
        have HD7 := Lib.hid hd7
        have HN7 := Lib.hid hn7
        clear h7 hbl hd7 hf7 hn7
        go_wp2_with fail
        refine (read_good w7 p7 S7 _ H7.out.disk ⟨#[97]⟩ (by decide) 0 L.length b7 HD7.out (by rw [HN7.out]; omega) (by omega)).mono ?_
        rintro e w8 ho
        obtain ⟨v8, rfl, o8, _, h8, _⟩ := H7.out.read ho
        rw [HN7.out] at o8
        have o8' : Own w8 v8 L := by
          have : (L.drop 0).take L.length = L := by rw [List.drop_zero, List.take_length]
          rw [← this]; exact o8
        obtain ⟨a8, c8, e8, _, _, _, l8, _⟩ := o8'.form
        subst e8
        have hst := run_str l8 (by rw [← HLL.out]; exact HF.out.byte) c8
        rw [← HLL.out, ← HF.out.text, HLL.out] at hst
        have BF := Lib.hid h8.below
        clear ho o8 o8' h8 l8
        go_wp2_with fail
        go_ret
        exact ⟨rfl, H6.out.below.trans (BF.out.mono H6.out.below.size)⟩
      · go_wp2_with fail
        refine (syncs_any wr p _ _ HF.out.held.disk (by omega) ⟨#[97]⟩ (by decide)).mono ?_
        rintro e w5 ho
        obtain ⟨he, h5, _⟩ := HF.out.held.out ho
        rw [aData, One.sync (by decide), HLL.out] at he h5
        subst he
        have H5 := Lib.hid h5
        clear h5 ho
        go_wp2_with fail
        refine (dirty_any w5 p _ _ H5.out.disk (by omega)).mono ?_
        rintro e w6 ⟨rfl, b6⟩
        rw [One.dirty, show (([] : List Nat).length : Nat) = 0 from rfl]
        have H6 := Lib.hid (H5.out.later b6)
        clear b6
        go_wp2_with fail
        refine (H6.out.crash (by omega) 0 a 50 cap (keep.take 50) (HK.out.turned (R := fun _ => False) (Turn.of_below H6.out.below) (fun _ _ _ _ e => e)) torn).mono ?_
        rintro e w7 ⟨p7, S7, rfl, h7, _, hbl⟩
        rw [One.left_none] at hbl
        obtain ⟨b7, _, hd7, hf7⟩ := hbl.one
        rw [One.file] at hf7
        have hn7 : (S7.file b7).now = L := by rw [hf7]; rfl
        have H7 := Lib.hid h7
        have HD7 := Lib.hid hd7
        have HN7 := Lib.hid hn7
        clear h7 hbl hd7 hf7 hn7
        go_wp2_with fail
        refine (read_good w7 p7 S7 _ H7.out.disk ⟨#[97]⟩ (by decide) 0 L.length b7 HD7.out (by rw [HN7.out]; omega) (by omega)).mono ?_
        rintro e w8 ho
        obtain ⟨v8, rfl, o8, _, h8, _⟩ := H7.out.read ho
        rw [HN7.out] at o8
        have o8' : Own w8 v8 L := by
          have : (L.drop 0).take L.length = L := by rw [List.drop_zero, List.take_length]
          rw [← this]; exact o8
        obtain ⟨a8, c8, e8, _, _, _, l8, _⟩ := o8'.form
        subst e8
        have hst := run_str l8 (by rw [← HLL.out]; exact HF.out.byte) c8
        rw [← HLL.out, ← HF.out.text, HLL.out] at hst
        have BF := Lib.hid h8.below
        clear ho o8 o8' h8 l8
        go_wp2_with fail
        go_ret
        exact ⟨rfl, H6.out.below.trans (BF.out.mono H6.out.below.size)⟩

set_option maxRecDepth 100000 in
set_option maxHeartbeats 2000000 in
theorem sync_short (w : World) (a0 : Option Addr) (len0 cap0 : Nat) (ps : Nat → Piece) (h0 : RRow w a0 len0 cap0 ps) (a : Option Addr) (len cap : Nat) (keep : List Bool) (h : BRow w a len cap keep) (torn : Int) (hl : len ≤ 50) :
    Calls Try.prog 8 #[.slice a0 len0 cap0, .slice a len cap, .int .i64 torn] w fun e w' => e = .returned (.bool true) ∧ Below w.heap.size w w' := by
  have H0 := Lib.hid h0
  have hmost0 := h0.most
  have HK := Lib.hid h.bools
  have hll : ¬ (50 : Int) < (len : Int) := by omega
  clear h h0
  go_enter Try.func8, Try.ntmps8
  go_wp2_with fail
  refine (begun_any w).mono ?_
  rintro e w1 ⟨rfl, h1⟩
  have H1 := Lib.hid h1
  clear h1
  go_wp2_with fail
  refine (new_any w1 5000).mono ?_
  rintro e w2 ho
  obtain ⟨p, rfl, h2, _⟩ := held_new (W := w) (X := fun _ => False) (fun _ e => e.elim) H1.out ho
  have H2 := Lib.hid h2
  clear ho h2
  go_wp2_with fail
  refine (create_any w2 p _ 0 H2.out.disk (by omega) ⟨#[97]⟩ (by decide)).mono ?_
  rintro e w3 ⟨b, _, _, _, ho⟩
  rw [aData, One.create aGood] at ho
  obtain ⟨rfl, h3, _⟩ := H2.out.out ho
  have H3 := Lib.hid h3
  clear ho h3
  go_wp2_with fail
  refine (syncdir_any w3 p _ _ H3.out.disk (by omega)).mono ?_
  rintro e w4 ho
  obtain ⟨he, h4, _⟩ := H3.out.out ho
  rw [One.syncDir (by decide)] at he h4
  subst he
  have start : Growing w b p 0 ⟨[], [], []⟩ ⟨#[]⟩ w4 := ⟨h4, rfl, Nat.le_refl _, Byte.nil⟩
  have ST := Lib.hid start
  clear h4 ho start
  go_wp2_with fail
  go_loopw [10, 9] (fun i t wr => ∃ (y : Nat) (A : FileA) (s : ByteArray), y ≤ len0 ∧ y ≤ 10 ∧ i = .int .i64 (y : Int) ∧ t = .string s ∧ Growing w b p y A s wr) (fun i _ _ => 10 - (intOf i).toNat)
  case atStart => exact ⟨0, _, _, Nat.zero_le _, Nat.zero_le _, rfl, rfl, ST.out⟩
  case round =>
    obtain ⟨y, A, s, hy, hy10, rfl, rfl, hF⟩ := hrel
    have HF := Lib.hid hF
    have hsz : s.size = A.now.length := by rw [hF.text, str_size]
    have hle := hF.le
    clear hF
    by_cases hlt : y < len0 ∧ y < 10
    · obtain ⟨hlt0, hlt1⟩ := hlt
      obtain ⟨b0, off, rfl, hcs⟩ : ∃ b0 off, a0 = some ⟨b0, off, none⟩ ∧ ∀ i, i < len0 → w.cell? ⟨b0, off + i, none⟩ = some (.slice (ps i).a (ps i).len (ps i).cap) := by
        rcases H0.out.cells with h0 | h0
        · omega
        · exact h0
      have hcw := hcs y hlt0
      have hrow := H0.out.rows y hlt0
      obtain ⟨q, hq⟩ : ∃ q, ps y = q := ⟨_, rfl⟩
      rw [hq] at hcw hrow
      obtain ⟨qa, ql, qc, qs⟩ := q
      have hb0 : b0 < w.heap.size := block_lt_of_cell hcw
      have hc : wr.cell? ⟨b0, off + y, none⟩ = some (.slice qa ql qc) := (HF.out.held.below.cell (p := ⟨b0, off + y, none⟩) hb0).trans hcw
      have hrow' : Row w qa ql qc qs := hrow
      have hqm := hrow'.most
      have hql := hrow'.le
      have HR := Lib.hid (hrow'.short 150)
      have cS := Lib.hid (short_any qa ql qc 150 wr hrow'.le hrow'.nil (by omega))
      obtain ⟨m, hm⟩ : ∃ m, min ql 150 = m := ⟨_, rfl⟩
      rw [hm] at HR cS
      have hm1 : m ≤ 150 := by omega
      have hm2 : m ≤ ql := by omega
      clear hcs hcw hrow hrow' hq hm
      go_wp2_with fail
      refine cS.out.mono ?_
      rintro e w5 ⟨rfl, rfl⟩
      clear hc
      go_wp2_with fail
      have hrw : Leads wr qa (qs.take 150) := HR.out.bytes.later HF.out.held.below
      have hpl : (qs.take 150).length ≤ 150 := by rw [HR.out.length]; exact hm1
      refine (HF.out.held.write (l := qs.take 150) hrw HR.out.length HR.out.byte (by omega) (fun b' off' e hne => .inr (by
        obtain ⟨b2, off2, e2, h2⟩ := HR.out.bytes.lt hne
        rw [e] at e2
        obtain ⟨rfl, _⟩ : b' = b2 ∧ off' = off2 := by simpa using e2
        exact h2)) (by omega) ⟨#[97]⟩ (by decide) (A.now.length : Int)).mono ?_
      rintro e w5 ⟨he, h5, _⟩
      rw [aData, One.write A.now.length _ (by decide) (Nat.le_refl _) (by omega)] at he h5
      subst he
      have nxt := HF.out.next hpl HR.out.byte h5
      have hst := run_str (HR.out.bytes.later nxt.held.below) HR.out.byte qc
      rw [HR.out.length] at hst
      have NX := Lib.hid nxt
      clear nxt h5 hrw hpl
      have hss := str_size (qs.take 150)
      rw [HR.out.length] at hss
      go_wp2_with fail
      go_roundw
      case rel => exact ⟨y + 1, _, _, by omega, by omega, by go_num, rfl, NX.out⟩
      case measure => simp [intOf]; omega
    · have key : (¬ y < len0) ∨ (y < len0 ∧ ¬ y < 10) := by omega
      clear hlt
      obtain ⟨L, hL⟩ : ∃ L, A.now = L := ⟨_, rfl⟩
      rw [hL] at hsz hle
      have HLL := Lib.hid hL
      clear hL
      rcases key with hk1 | ⟨hk1, hk2⟩
      · go_wp2_with fail
        refine (syncs_any wr p _ _ HF.out.held.disk (by omega) ⟨#[97]⟩ (by decide)).mono ?_
        rintro e w5 ho
        obtain ⟨he, h5, _⟩ := HF.out.held.out ho
        rw [aData, One.sync (by decide), HLL.out] at he h5
        subst he
        have H5 := Lib.hid h5
        clear h5 ho
        go_wp2_with fail
        refine (dirty_any w5 p _ _ H5.out.disk (by omega)).mono ?_
        rintro e w6 ⟨rfl, b6⟩
        rw [One.dirty, show (([] : List Nat).length : Nat) = 0 from rfl]
        have H6 := Lib.hid (H5.out.later b6)
        clear b6
        go_wp2_with fail
        refine (H6.out.crash (by omega) 0 a len cap keep (HK.out.turned (R := fun _ => False) (Turn.of_below H6.out.below) (fun _ _ _ _ e => e)) torn).mono ?_
        rintro e w7 ⟨p7, S7, rfl, h7, _, hbl⟩
        rw [One.left_none] at hbl
        obtain ⟨b7, _, hd7, hf7⟩ := hbl.one
        rw [One.file] at hf7
        have hn7 : (S7.file b7).now = L := by rw [hf7]; rfl
        have H7 := Lib.hid h7
        have HD7 := Lib.hid hd7
        have HN7 := Lib.hid hn7
        clear h7 hbl hd7 hf7 hn7
        go_wp2_with fail
        refine (read_good w7 p7 S7 _ H7.out.disk ⟨#[97]⟩ (by decide) 0 L.length b7 HD7.out (by rw [HN7.out]; omega) (by omega)).mono ?_
        rintro e w8 ho
        obtain ⟨v8, rfl, o8, _, h8, _⟩ := H7.out.read ho
        rw [HN7.out] at o8
        have o8' : Own w8 v8 L := by
          have : (L.drop 0).take L.length = L := by rw [List.drop_zero, List.take_length]
          rw [← this]; exact o8
        obtain ⟨a8, c8, e8, _, _, _, l8, _⟩ := o8'.form
        subst e8
        have hst := run_str l8 (by rw [← HLL.out]; exact HF.out.byte) c8
        rw [← HLL.out, ← HF.out.text, HLL.out] at hst
        have BF := Lib.hid h8.below
        clear ho o8 o8' h8 l8
        go_wp2_with fail
        go_ret
        exact ⟨rfl, H6.out.below.trans (BF.out.mono H6.out.below.size)⟩
      · go_wp2_with fail
        refine (syncs_any wr p _ _ HF.out.held.disk (by omega) ⟨#[97]⟩ (by decide)).mono ?_
        rintro e w5 ho
        obtain ⟨he, h5, _⟩ := HF.out.held.out ho
        rw [aData, One.sync (by decide), HLL.out] at he h5
        subst he
        have H5 := Lib.hid h5
        clear h5 ho
        go_wp2_with fail
        refine (dirty_any w5 p _ _ H5.out.disk (by omega)).mono ?_
        rintro e w6 ⟨rfl, b6⟩
        rw [One.dirty, show (([] : List Nat).length : Nat) = 0 from rfl]
        have H6 := Lib.hid (H5.out.later b6)
        clear b6
        go_wp2_with fail
        refine (H6.out.crash (by omega) 0 a len cap keep (HK.out.turned (R := fun _ => False) (Turn.of_below H6.out.below) (fun _ _ _ _ e => e)) torn).mono ?_
        rintro e w7 ⟨p7, S7, rfl, h7, _, hbl⟩
        rw [One.left_none] at hbl
        obtain ⟨b7, _, hd7, hf7⟩ := hbl.one
        rw [One.file] at hf7
        have hn7 : (S7.file b7).now = L := by rw [hf7]; rfl
        have H7 := Lib.hid h7
        have HD7 := Lib.hid hd7
        have HN7 := Lib.hid hn7
        clear h7 hbl hd7 hf7 hn7
        go_wp2_with fail
        refine (read_good w7 p7 S7 _ H7.out.disk ⟨#[97]⟩ (by decide) 0 L.length b7 HD7.out (by rw [HN7.out]; omega) (by omega)).mono ?_
        rintro e w8 ho
        obtain ⟨v8, rfl, o8, _, h8, _⟩ := H7.out.read ho
        rw [HN7.out] at o8
        have o8' : Own w8 v8 L := by
          have : (L.drop 0).take L.length = L := by rw [List.drop_zero, List.take_length]
          rw [← this]; exact o8
        obtain ⟨a8, c8, e8, _, _, _, l8, _⟩ := o8'.form
        subst e8
        have hst := run_str l8 (by rw [← HLL.out]; exact HF.out.byte) c8
        rw [← HLL.out, ← HF.out.text, HLL.out] at hst
        have BF := Lib.hid h8.below
        clear ho o8 o8' h8 l8
        go_wp2_with fail
        go_ret
        exact ⟨rfl, H6.out.below.trans (BF.out.mono H6.out.below.size)⟩

theorem syncing_any (w : World) (a0 : Option Addr) (len0 cap0 : Nat) (ps : Nat → Piece) (h0 : RRow w a0 len0 cap0 ps) (a : Option Addr) (len cap : Nat) (keep : List Bool) (h : BRow w a len cap keep) (torn : Int) :
    Calls Try.prog 8 #[.slice a0 len0 cap0, .slice a len cap, .int .i64 torn] w fun e w' => e = .returned (.bool true) ∧ Below w.heap.size w w' := by
  rcases Nat.lt_or_ge 50 len with h1 | h1
  · exact sync_long w a0 len0 cap0 ps h0 a len cap keep h torn h1
  · exact sync_short w a0 len0 cap0 ps h0 a len cap keep h torn h1
end Go.Proofs.Ytpmjbnhpalanhaa.disk
