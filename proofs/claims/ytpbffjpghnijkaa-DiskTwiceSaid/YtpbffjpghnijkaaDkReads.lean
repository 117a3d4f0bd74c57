/-
  THE WALK OF "DiskReads".
-/
import Derived.Test.YtpbffjpghnijkaaDkFrame
namespace Go.Proofs.Ytpbffjpghnijkaa.disk
open Go.RowKit Go.Maps

/-- Bytes of the law's own, written. -/
theorem Held.write {W : World} {X : Nat → Prop} {w : World} {p n : Nat} {S : St} (h : Held W X w p S n) {a : Option Addr} {m c : Nat} {l : List Int} (hl : Leads w a l) (hm : l.length = m) (hb : Byte l) (hs : l.length ≤ 100000000) (hX : ∀ b off, a = some ⟨b, off, none⟩ → l ≠ [] → X b ∨ b < W.heap.size) (hn : n ≤ 10000000) (s : ByteArray) (hss : s.size ≤ maxLen) (at_ : Int) :
    Calls Try.prog 14 #[.pointer (some ⟨p, 0, none⟩), .string s, .int .i64 at_, .slice a m c] w fun e w' => e = .returned (.int .i64 (S.write s.data.toList at_ l).1) ∧ Held W X w' p (S.write s.data.toList at_ l).2 (n + 2) ∧ Kept X w w' := by
  subst hm
  refine (writes_any w p S n h.disk hn s hss at_ a l.length c l ⟨hl, rfl, hb, fun b off e hne hf => ?_, hs⟩).mono fun e w' ho => h.out ho
  rcases hX b off e hne with h1 | h1
  · exact hf.2.2 h1
  · have := hf.1; omega

theorem Own.leads {w : World} {a : Option Addr} {m c : Nat} {l : List Int} (h : Own w (.slice a m c) l) : m = l.length ∧ Leads w a l := by
  obtain ⟨a', c', e, _, _, _, hl, _⟩ := h.form
  simp at e
  obtain ⟨rfl, rfl, rfl⟩ := e
  exact ⟨rfl, hl⟩
theorem Held.keepAll {W : World} {X : Nat → Prop} {w : World} {p n : Nat} {S : St} (h : Held W X w p S n) : Held W (fun _ => False) w p S n := h.fewer fun _ e => e.elim

/-- The loop under way: tot bytes are read. -/
structure Reading (W : World) (b p y : Nat) (A : FileA) (tot : Nat) (wr : World) : Prop where
  held : Held W (fun _ => False) wr p (One (within 5000) aName b A [] [⟨some b, [], aName⟩] (-1) 2 (tot : Int)) (4 + y)
  le : tot ≤ y * 1000

set_option maxRecDepth 100000 in
set_option maxHeartbeats 1000000 in
theorem readings_any (w : World) (a : Option Addr) (len cap : Nat) (ns : List Int) (h : Nums w a len ns) : Calls Try.prog 4 #[.slice a len cap] w fun e w' => e = .returned (.bool true) ∧ Below w.heap.size w w' := by
  have hmost := h.most
  have HN := Lib.hid h
  clear h
  go_enter Try.func4, Try.ntmps4
  go_wp2_with fail
  refine (begun_any w).mono ?_
  rintro e w1 ⟨rfl, h1⟩
  have H1 := Lib.hid h1
  clear h1
  go_wp2_with fail
  refine (new_any w1 5000).mono ?_
  rintro e w2 ho
  obtain ⟨p, rfl, h2, _⟩ := held_new (W := w) (X := fun _ => False) (fun _ e => e.elim) H1.out ho
  have H2 := Lib.hid h2
  clear ho h2
  go_wp2_with fail
  refine (create_any w2 p _ 0 H2.out.disk (by omega) ⟨#[97]⟩ (by decide)).mono ?_
  rintro e w3 ⟨b, _, _, _, ho⟩
  rw [aData, One.create aGood] at ho
  obtain ⟨rfl, h3, _⟩ := H2.out.out ho
  obtain ⟨w4, r4, o4, b4⟩ := run_make_bytes w3 1000 (by omega)
  have H3 := Lib.hid (h3.mine b4)
  have r4' : (Instr.makeSlice 22 (.int .i64 1000) (.int .i64 1000)).run Try.prog w3 = .ok (.slice (some ⟨w3.heap.size, 0, none⟩) 1000 1000) w4 := r4
  have O4 := Lib.hid o4
  have hsz4 := O4.out.lt (g := w3.heap.size) rfl
  clear ho h3 r4 o4 b4
  go_wp2_with fail
  refine (H3.out.write (l := List.replicate 1000 0) O4.out.leads.2 List.length_replicate (Byte.zeros 1000) (by rw [List.length_replicate]; omega) (fun b' off e _ => .inl (.inr (by
    obtain ⟨rfl, _⟩ : w3.heap.size = b' ∧ 0 = off := by simpa using e
    exact ⟨Nat.le_refl _, hsz4⟩))) (by omega) ⟨#[97]⟩ (by decide) ((0 : Nat) : Int)).mono ?_
  rintro e w5 ⟨he, h5, _⟩
  rw [aData, One.write 0 _ (by decide) (Nat.zero_le _) (by rw [List.length_replicate]; decide)] at he h5
  subst he
  obtain ⟨A, hA⟩ : ∃ A, FileA.write ⟨[], [], []⟩ 0 (List.replicate 1000 0) = A := ⟨_, rfl⟩
  have hlen : A.now.length = 1000 := by
    rw [← hA]
    unfold FileA.write
    rw [if_neg (by simp), laidL_length _ _ _ (by simp), List.length_replicate]
    rfl
  rw [hA] at h5
  have start : Reading w b p 0 A 0 w5 := ⟨h5.keepAll, Nat.zero_le _⟩
  have ST := Lib.hid start
  have HL := Lib.hid hlen
  clear h5 hA hlen start r4' O4 hsz4
  go_wp2_with fail
  go_loopw [6, 5] (fun i t wr => ∃ (y tot : Nat), y ≤ len ∧ y ≤ 30 ∧ i = .int .i64 (y : Int) ∧ t = .int .i64 (tot : Int) ∧ Reading w b p y A tot wr) (fun i _ _ => 30 - (intOf i).toNat)
  case atStart => exact ⟨0, 0, Nat.zero_le _, Nat.zero_le _, rfl, rfl, ST.out⟩
  case round =>
    obtain ⟨y, tot, hy, hy30, rfl, rfl, hF⟩ := hrel
    have HF := Lib.hid hF
    have hle := hF.le
    clear hF
    by_cases hlt : y < len
    · by_cases h30 : y < 30
      · obtain ⟨b0, off, rfl, hcs⟩ : ∃ b0 off, a = some ⟨b0, off, none⟩ ∧ ∀ i, i < len → w.cell? ⟨b0, off + i, none⟩ = some (.int .i64 (ns.getD i 0)) := by
          rcases HN.out.cells with h0 | h0
          · omega
          · exact h0
        obtain ⟨x, hx⟩ : ∃ x, ns.getD y 0 = x := ⟨_, rfl⟩
        have hsm := HN.out.small y hlt
        have hcw := hcs y hlt
        rw [hx] at hcw hsm
        obtain ⟨hsm1, hsm2⟩ := hsm
        have hb0 : b0 < w.heap.size := block_lt_of_cell hcw
        have hc : wr.cell? ⟨b0, off + y, none⟩ = some (.int .i64 x) := (HF.out.held.below.cell (p := ⟨b0, off + y, none⟩) hb0).trans hcw
        clear hcs hcw hx
        by_cases hgood : 0 ≤ x ∧ x ≤ 1000
        · obtain ⟨k, rfl⟩ : ∃ k : Nat, x = k := ⟨x.toNat, by omega⟩
          have hk : k ≤ 1000 := by omega
          have hki : ¬ (1000 : Int) < (k : Int) := by omega
          clear hgood
          go_wp2_with fail
          refine (read_good wr p _ _ HF.out.held.disk ⟨#[97]⟩ (by decide) 0 k b One.look (by rw [One.file, HL.out]; omega) (by omega)).mono ?_
          rintro e w7 ho
          obtain ⟨v7, rfl, o7, _, h7, _⟩ := HF.out.held.read ho
          have nxt : Reading w b p (y + 1) A (tot + k) w7 := ⟨h7, by omega⟩
          have NX := Lib.hid nxt
          obtain ⟨a7, c7, e7, _⟩ := o7.form
          subst e7
          have hc7 : w7.cell? ⟨b0, off + y, none⟩ = some (.int .i64 (k : Int)) := by
            have := nxt.held.below.cell (p := ⟨b0, off + y, none⟩) hb0
            rw [this, ← HF.out.held.below.cell (p := ⟨b0, off + y, none⟩) hb0]
            exact hc
          clear ho o7 h7 nxt
          go_wp2_with fail
          go_roundw
          case rel => exact ⟨y + 1, tot + k, by omega, by omega, by go_num, by go_num, NX.out⟩
          case measure => simp [intOf]; omega
        · by_cases hneg : x < 0
          · clear hgood
            go_wp2_with fail
            refine (read_bad wr p _ _ HF.out.held.disk ⟨#[97]⟩ (by decide) 0 x b One.look (.inr (.inl hneg))).mono ?_
            rintro e w7 ⟨rfl, rfl⟩
            have nxt : Reading w b p (y + 1) A tot wr := ⟨⟨HF.out.held.disk.more (by omega), HF.out.held.below, HF.out.held.user⟩, by omega⟩
            have NX := Lib.hid nxt
            clear nxt
            go_wp2_with fail
            go_roundw
            case rel => exact ⟨y + 1, tot, by omega, by omega, by go_num, rfl, NX.out⟩
            case measure => simp [intOf]; omega
          · have hbig : ¬ x ≤ 1000 := by omega
            clear hgood
            go_wp2_with fail
            refine (read_bad wr p _ _ HF.out.held.disk ⟨#[97]⟩ (by decide) 0 x b One.look (.inr (.inr (.inr (by rw [One.file, HL.out]; omega))))).mono ?_
            rintro e w7 ⟨rfl, rfl⟩
            have nxt : Reading w b p (y + 1) A tot wr := ⟨⟨HF.out.held.disk.more (by omega), HF.out.held.below, HF.out.held.user⟩, by omega⟩
            have NX := Lib.hid nxt
            clear nxt
            go_wp2_with fail
            go_roundw
            case rel => exact ⟨y + 1, tot, by omega, by omega, by go_num, rfl, NX.out⟩
            case measure => simp [intOf]; omega
      · go_wp2_with fail
        refine (reads_any wr p _ _ HF.out.held.disk).mono ?_
        rintro e w7 ⟨rfl, rfl⟩
        rw [show (One (within 5000) aName b A [] [⟨some b, [], aName⟩] (-1) 2 (tot : Int)).reads = (tot : Int) from rfl]
        go_wp2_with fail
        refine (calls_any wr p _ _ HF.out.held.disk).mono ?_
        rintro e w7 ⟨rfl, rfl⟩
        rw [show (One (within 5000) aName b A [] [⟨some b, [], aName⟩] (-1) 2 (tot : Int)).calls = 2 from rfl]
        go_wp2_with fail
        go_ret
        exact ⟨rfl, HF.out.held.below⟩
    · go_wp2_with fail
      refine (reads_any wr p _ _ HF.out.held.disk).mono ?_
      rintro e w7 ⟨rfl, rfl⟩
      rw [show (One (within 5000) aName b A [] [⟨some b, [], aName⟩] (-1) 2 (tot : Int)).reads = (tot : Int) from rfl]
      go_wp2_with fail
      refine (calls_any wr p _ _ HF.out.held.disk).mono ?_
      rintro e w7 ⟨rfl, rfl⟩
      rw [show (One (within 5000) aName b A [] [⟨some b, [], aName⟩] (-1) 2 (tot : Int)).calls = 2 from rfl]
      go_wp2_with fail
      go_ret
      exact ⟨rfl, HF.out.held.below⟩
end Go.Proofs.Ytpbffjpghnijkaa.disk
