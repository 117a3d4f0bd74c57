/-
  THE WALK OF "DiskSwitch", whole.
-/
import Derived.Test.YtpmjbnhpalanhaaDkSwitch
namespace Go.Proofs.Ytpmjbnhpalanhaa.disk
open Go.RowKit Go.Maps

def oldB : List Int := [111, 108, 100]
def newB : List Int := [110, 101, 119]
/-- The state before the crash. -/
def switched (b1 b2 : Nat) : St := Two b1 b2 ⟨oldB, oldB, []⟩ ⟨newB, newB, []⟩ [(curN, b2)] [(curN, b1)] ([⟨some b2, [], newN⟩] ++ [⟨none, newN, curN⟩]) 8

theorem switch_crash {W : World} {X : Nat → Prop} {w : World} {p n b1 b2 : Nat} (hne : b1 ≠ b2) (h : Held W X w p (switched b1 b2) n) (hn : n ≤ 10000000) (m : Int) (ka : Option Addr) (kn kc : Nat) (keep : List Bool) (hk : Bools w ka kn keep) (torn : Int) :
    Calls Try.prog 19 #[.pointer (some ⟨p, 0, none⟩), .int .i64 m, .slice ka kn kc, .int .i64 torn] w fun e w' => ∃ p' S' b', e = .returned (.pointer (some ⟨p', 0, none⟩)) ∧ Held w (fun _ => False) w' p' S' (2 * n) ∧
      dlook curN S'.now = some b' ∧ (S'.file b').now = if 2 ≤ m then newB else oldB := by
  refine (h.crash hn m ka kn kc keep hk torn).mono ?_
  rintro e w' ⟨p', S', rfl, h1, _, hb⟩
  have hl : (switched b1 b2).wait.length = 2 := rfl
  rw [hl] at hb
  by_cases h2 : 2 ≤ m
  · have e2 : min m.toNat 2 = 2 := by generalize hmm : m.toNat = mm; omega
    rw [e2, show (switched b1 b2).leftDir 2 = [(curN, b2)] from Two.left2] at hb
    obtain ⟨b', h3, h4⟩ := hb.first
    rw [show (switched b1 b2).file b2 = ⟨newB, newB, []⟩ from Two.file2] at h4
    exact ⟨p', S', b', rfl, h1, h3, by rw [h4, if_pos h2]; rfl⟩
  · by_cases h3 : m = 1
    · subst h3
      rw [show min (1 : Int).toNat 2 = 1 from rfl, show (switched b1 b2).leftDir 1 = [(curN, b1), (newN, b2)] from Two.left1] at hb
      obtain ⟨b', h3, h4⟩ := hb.first
      rw [show (switched b1 b2).file b1 = ⟨oldB, oldB, []⟩ from Two.file1 hne] at h4
      exact ⟨p', S', b', rfl, h1, h3, by rw [h4, if_neg h2]; rfl⟩
    · have e0 : min m.toNat 2 = 0 := by
        have : m.toNat = 0 := by omega
        rw [this]; rfl
      rw [e0, show (switched b1 b2).leftDir 0 = [(curN, b1)] from Two.left0] at hb
      obtain ⟨b', h3, h4⟩ := hb.first
      rw [show (switched b1 b2).file b1 = ⟨oldB, oldB, []⟩ from Two.file1 hne] at h4
      exact ⟨p', S', b', rfl, h1, h3, by rw [h4, if_neg h2]; rfl⟩

theorem switch_tail (n : Int) : (((if 2 ≤ n then newB else oldB).drop 0).take 3).length = 3 ∧ Byte (((if 2 ≤ n then newB else oldB).drop 0).take 3) ∧ (2 ≤ n → str (((if 2 ≤ n then newB else oldB).drop 0).take 3) = ⟨#[110, 101, 119]⟩) ∧ (¬ 2 ≤ n → str (((if 2 ≤ n then newB else oldB).drop 0).take 3) = ⟨#[111, 108, 100]⟩) := by
  by_cases h : 2 ≤ n
  · simp only [if_pos h]
    exact ⟨rfl, by decide, fun _ => rfl, fun e => absurd h e⟩
  · simp only [if_neg h]
    exact ⟨rfl, by decide, fun e => absurd e h, fun _ => rfl⟩

set_option maxRecDepth 100000 in
set_option maxHeartbeats 2000000 in
theorem switch_long (w : World) (n : Int) (a : Option Addr) (len cap : Nat) (keep : List Bool) (h : BRow w a len cap keep) (torn : Int) (hl : 10 < len) :
    Calls Try.prog 7 #[.int .i64 n, .slice a len cap, .int .i64 torn] w fun e w' => e = .returned (.bool true) ∧ Below w.heap.size w w' := by
  have kc := fun (w : World) (C : Array Value) (n c : Nat) => Lib.run_convert_bytes_const (P := Try.prog) w 22 5 C n c Try.underlying22 Try.underlying5
  obtain ⟨hsl, hbl⟩ := h.front 10 hl
  have hsl' : ∀ w', (Instr.slice 23 (.slice a len cap) none (some (.int .i64 10)) none).run Try.prog w' = .ok (.slice a 10 cap) w' := hsl
  have HK := Lib.hid hbl
  have hll : (10 : Int) < (len : Int) := by omega
  have hmost := h.most
  clear hsl hbl
  clear h
  go_enter Try.func7, Try.ntmps7
  go_wp2_with fail
  refine (begun_any w).mono ?_
  rintro e w1 ⟨rfl, h1⟩
  have H1 := Lib.hid h1
  clear h1
  go_wp2_with fail
  refine (new_any w1 2000).mono ?_
  rintro e w2 ho
  obtain ⟨p, rfl, h2, _⟩ := held_new (W := w) (X := fun _ => False) (fun _ e => e.elim) H1.out ho
  have H2 := Lib.hid h2
  clear ho h2
  go_wp2_with fail
  refine (create_any w2 p _ 0 H2.out.disk (by omega) ⟨#[99, 117, 114]⟩ (by decide)).mono ?_
  rintro e w3 ⟨b1, _, _, _, ho⟩
  rw [curData, One.create curGood] at ho
  obtain ⟨rfl, h3, _⟩ := H2.out.out ho
  have H3 := Lib.hid h3
  clear ho h3
  go_wp2_with fail
  refine (H3.out.text oldB 5 (3, 4) (by decide) (by decide) (by omega) ⟨#[99, 117, 114]⟩ (by decide) ((0 : Nat) : Int) 3).mono ?_
  rintro e w4 ⟨he, h4, _⟩
  rw [curData, One.write 0 _ (by decide) (by decide) (by decide)] at he h4
  subst he
  have H4 := Lib.hid h4
  clear h4
  go_wp2_with fail
  refine (syncs_any w4 p _ _ H4.out.disk (by omega) ⟨#[99, 117, 114]⟩ (by decide)).mono ?_
  rintro e w5 ho
  obtain ⟨he, h5, _⟩ := H4.out.out ho
  rw [curData, One.sync (by decide)] at he h5
  subst he
  have H5 := Lib.hid h5
  clear h5 ho
  go_wp2_with fail
  refine (syncdir_any w5 p _ _ H5.out.disk (by omega)).mono ?_
  rintro e w6 ho
  obtain ⟨he, h6, _⟩ := H5.out.out ho
  rw [One.syncDir (by decide)] at he h6
  subst he
  have h6' : Held w (fun _ => False) w6 p (One 2000 curN b1 ⟨oldB, oldB, []⟩ [(curN, b1)] [] (-1) 4 0) (0 + 2 + 2 + 2 + 1) := h6
  have H6 := Lib.hid h6'
  clear h6 h6' ho
  go_wp2_with fail
  refine (create_any w6 p _ _ H6.out.disk (by omega) ⟨#[110, 101, 119]⟩ (by decide)).mono ?_
  rintro e w7 ⟨b2, hb2, _, _, ho⟩
  have hne : b1 ≠ b2 := fun e => hb2 (by rw [← e]; exact List.mem_singleton.2 rfl)
  rw [newData, Two.create] at ho
  obtain ⟨rfl, h7, _⟩ := H6.out.out ho
  have H7 := Lib.hid h7
  clear ho h7 hb2
  go_wp2_with fail
  refine (H7.out.text newB 5 (3, 4) (by decide) (by decide) (by omega) ⟨#[110, 101, 119]⟩ (by decide) ((0 : Nat) : Int) 3).mono ?_
  rintro e w8 ⟨he, h8, _⟩
  rw [newData, Two.write hne newB (by decide) (by decide) rfl] at he h8
  subst he
  have H8 := Lib.hid h8
  clear h8
  go_wp2_with fail
  refine (syncs_any w8 p _ _ H8.out.disk (by omega) ⟨#[110, 101, 119]⟩ (by decide)).mono ?_
  rintro e w9 ho
  obtain ⟨he, h9, _⟩ := H8.out.out ho
  rw [newData, Two.sync] at he h9
  subst he
  have H9 := Lib.hid h9
  clear h9 ho
  go_wp2_with fail
  refine (rename_any w9 p _ _ H9.out.disk (by omega) ⟨#[110, 101, 119]⟩ ⟨#[99, 117, 114]⟩ (by decide) (by decide) (by rw [Two.fail]; decide) b2 Two.look curGood).mono ?_
  rintro e w10 ho
  obtain ⟨he, h10, _⟩ := H9.out.out ho
  rw [newData, curData, Two.rename] at he h10
  subst he
  have h10' : Held w (fun _ => False) w10 p (switched b1 b2) (0 + 2 + 2 + 2 + 1 + 2 + 2 + 2 + 2) := h10
  have H10 := Lib.hid h10'
  clear h10 h10' ho
  go_wp2_with fail
  refine (switch_crash hne H10.out (by omega) n a 10 cap (keep.take 10) (HK.out.turned (R := fun _ => False) (Turn.of_below H10.out.below) (fun _ _ _ _ e => e)) torn).mono ?_
  rintro e w11 ⟨p', S', b', rfl, h11, hd11, hf11⟩
  have H11 := Lib.hid h11
  have HD := Lib.hid hd11
  have HF := Lib.hid hf11
  clear h11 hd11 hf11
  go_wp2_with fail
  have hrd : 0 + 3 ≤ (S'.file b').now.length := by
    rw [HF.out]
    by_cases h : 2 ≤ n
    · rw [if_pos h]; decide
    · rw [if_neg h]; decide
  refine (read_good w11 p' S' _ H11.out.disk ⟨#[99, 117, 114]⟩ (by decide) 0 3 b' HD.out hrd (by omega)).mono ?_
  rintro e w12 ho
  obtain ⟨v12, rfl, o12, _, h12, _⟩ := H11.out.read ho
  rw [HF.out] at o12
  have o12' : Own w12 v12 (((if 2 ≤ n then newB else oldB).drop 0).take 3) := o12
  obtain ⟨q1, q2, q3, q4⟩ := switch_tail n
  obtain ⟨a12, c12, e12, _, _, _, l12, _⟩ := o12'.form
  have hst := run_str l12 q2 c12
  rw [q1] at e12 hst
  subst e12
  have BF := Lib.hid (h12.below)
  have BG := Lib.hid (H10.out.below)
  clear ho o12 o12' h12 l12 q1 q2 hrd
  by_cases hbig : 2 ≤ n
  · rw [q3 hbig] at hst
    clear q3 q4
    go_wp2_with fail
    go_ret
    exact ⟨rfl, BG.out.trans (BF.out.mono BG.out.size)⟩
  · rw [q4 hbig] at hst
    clear q3 q4
    go_wp2_with fail
    go_ret
    exact ⟨rfl, BG.out.trans (BF.out.mono BG.out.size)⟩

set_option maxRecDepth 100000 in
set_option maxHeartbeats 2000000 in
theorem switch_short (w : World) (n : Int) (a : Option Addr) (len cap : Nat) (keep : List Bool) (h : BRow w a len cap keep) (torn : Int) (hl : len ≤ 10) :
    Calls Try.prog 7 #[.int .i64 n, .slice a len cap, .int .i64 torn] w fun e w' => e = .returned (.bool true) ∧ Below w.heap.size w w' := by
  have kc := fun (w : World) (C : Array Value) (n c : Nat) => Lib.run_convert_bytes_const (P := Try.prog) w 22 5 C n c Try.underlying22 Try.underlying5
  have HK := Lib.hid h.bools
  have hll : ¬ (10 : Int) < (len : Int) := by omega
  clear h
  go_enter Try.func7, Try.ntmps7
  go_wp2_with fail
  refine (begun_any w).mono ?_
  rintro e w1 ⟨rfl, h1⟩
  have H1 := Lib.hid h1
  clear h1
  go_wp2_with fail
  refine (new_any w1 2000).mono ?_
  rintro e w2 ho
  obtain ⟨p, rfl, h2, _⟩ := held_new (W := w) (X := fun _ => False) (fun _ e => e.elim) H1.out ho
  have H2 := Lib.hid h2
  clear ho h2
  go_wp2_with fail
  refine (create_any w2 p _ 0 H2.out.disk (by omega) ⟨#[99, 117, 114]⟩ (by decide)).mono ?_
  rintro e w3 ⟨b1, _, _, _, ho⟩
  rw [curData, One.create curGood] at ho
  obtain ⟨rfl, h3, _⟩ := H2.out.out ho
  have H3 := Lib.hid h3
  clear ho h3
  go_wp2_with fail
  refine (H3.out.text oldB 5 (3, 4) (by decide) (by decide) (by omega) ⟨#[99, 117, 114]⟩ (by decide) ((0 : Nat) : Int) 3).mono ?_
  rintro e w4 ⟨he, h4, _⟩
  rw [curData, One.write 0 _ (by decide) (by decide) (by decide)] at he h4
  subst he
  have H4 := Lib.hid h4
  clear h4
  go_wp2_with fail
  refine (syncs_any w4 p _ _ H4.out.disk (by omega) ⟨#[99, 117, 114]⟩ (by decide)).mono ?_
  rintro e w5 ho
  obtain ⟨he, h5, _⟩ := H4.out.out ho
  rw [curData, One.sync (by decide)] at he h5
  subst he
  have H5 := Lib.hid h5
  clear h5 ho
  go_wp2_with fail
  refine (syncdir_any w5 p _ _ H5.out.disk (by omega)).mono ?_
  rintro e w6 ho
  obtain ⟨he, h6, _⟩ := H5.out.out ho
  rw [One.syncDir (by decide)] at he h6
  subst he
  have h6' : Held w (fun _ => False) w6 p (One 2000 curN b1 ⟨oldB, oldB, []⟩ [(curN, b1)] [] (-1) 4 0) (0 + 2 + 2 + 2 + 1) := h6
  have H6 := Lib.hid h6'
  clear h6 h6' ho
  go_wp2_with fail
  refine (create_any w6 p _ _ H6.out.disk (by omega) ⟨#[110, 101, 119]⟩ (by decide)).mono ?_
  rintro e w7 ⟨b2, hb2, _, _, ho⟩
  have hne : b1 ≠ b2 := fun e => hb2 (by rw [← e]; exact List.mem_singleton.2 rfl)
  rw [newData, Two.create] at ho
  obtain ⟨rfl, h7, _⟩ := H6.out.out ho
  have H7 := Lib.hid h7
  clear ho h7 hb2
  go_wp2_with fail
  refine (H7.out.text newB 5 (3, 4) (by decide) (by decide) (by omega) ⟨#[110, 101, 119]⟩ (by decide) ((0 : Nat) : Int) 3).mono ?_
  rintro e w8 ⟨he, h8, _⟩
  rw [newData, Two.write hne newB (by decide) (by decide) rfl] at he h8
  subst he
  have H8 := Lib.hid h8
  clear h8
  go_wp2_with fail
  refine (syncs_any w8 p _ _ H8.out.disk (by omega) ⟨#[110, 101, 119]⟩ (by decide)).mono ?_
  rintro e w9 ho
  obtain ⟨he, h9, _⟩ := H8.out.out ho
  rw [newData, Two.sync] at he h9
  subst he
  have H9 := Lib.hid h9
  clear h9 ho
  go_wp2_with fail
  refine (rename_any w9 p _ _ H9.out.disk (by omega) ⟨#[110, 101, 119]⟩ ⟨#[99, 117, 114]⟩ (by decide) (by decide) (by rw [Two.fail]; decide) b2 Two.look curGood).mono ?_
  rintro e w10 ho
  obtain ⟨he, h10, _⟩ := H9.out.out ho
  rw [newData, curData, Two.rename] at he h10
  subst he
  have h10' : Held w (fun _ => False) w10 p (switched b1 b2) (0 + 2 + 2 + 2 + 1 + 2 + 2 + 2 + 2) := h10
  have H10 := Lib.hid h10'
  clear h10 h10' ho
  go_wp2_with fail
  refine (switch_crash hne H10.out (by omega) n a len cap keep (HK.out.turned (R := fun _ => False) (Turn.of_below H10.out.below) (fun _ _ _ _ e => e)) torn).mono ?_
  rintro e w11 ⟨p', S', b', rfl, h11, hd11, hf11⟩
  have H11 := Lib.hid h11
  have HD := Lib.hid hd11
  have HF := Lib.hid hf11
  clear h11 hd11 hf11
  go_wp2_with fail
  have hrd : 0 + 3 ≤ (S'.file b').now.length := by
    rw [HF.out]
    by_cases h : 2 ≤ n
    · rw [if_pos h]; decide
    · rw [if_neg h]; decide
  refine (read_good w11 p' S' _ H11.out.disk ⟨#[99, 117, 114]⟩ (by decide) 0 3 b' HD.out hrd (by omega)).mono ?_
  rintro e w12 ho
  obtain ⟨v12, rfl, o12, _, h12, _⟩ := H11.out.read ho
  rw [HF.out] at o12
  have o12' : Own w12 v12 (((if 2 ≤ n then newB else oldB).drop 0).take 3) := o12
  obtain ⟨q1, q2, q3, q4⟩ := switch_tail n
  obtain ⟨a12, c12, e12, _, _, _, l12, _⟩ := o12'.form
  have hst := run_str l12 q2 c12
  rw [q1] at e12 hst
  subst e12
  have BF := Lib.hid (h12.below)
  have BG := Lib.hid (H10.out.below)
  clear ho o12 o12' h12 l12 q1 q2 hrd
  by_cases hbig : 2 ≤ n
  · rw [q3 hbig] at hst
    clear q3 q4
    go_wp2_with fail
    go_ret
    exact ⟨rfl, BG.out.trans (BF.out.mono BG.out.size)⟩
  · rw [q4 hbig] at hst
    clear q3 q4
    go_wp2_with fail
    go_ret
    exact ⟨rfl, BG.out.trans (BF.out.mono BG.out.size)⟩

theorem switch_any (w : World) (n : Int) (a : Option Addr) (len cap : Nat) (keep : List Bool) (h : BRow w a len cap keep) (torn : Int) :
    Calls Try.prog 7 #[.int .i64 n, .slice a len cap, .int .i64 torn] w fun e w' => e = .returned (.bool true) ∧ Below w.heap.size w w' := by
  rcases Nat.lt_or_ge 10 len with h1 | h1
  · exact switch_long w n a len cap keep h torn h1
  · exact switch_short w n a len cap keep h torn h1
end Go.Proofs.Ytpmjbnhpalanhaa.disk
