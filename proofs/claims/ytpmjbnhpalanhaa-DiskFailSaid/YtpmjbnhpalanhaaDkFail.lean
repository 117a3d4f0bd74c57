/-
  THE WALK OF "DiskFail".
-/
import Derived.Test.YtpmjbnhpalanhaaDkBegun
namespace Go.Proofs.Ytpmjbnhpalanhaa.disk
open Go.RowKit Go.Maps

theorem FileA.write_one {A : FileA} {x : Int} : (A.write A.now.length [x]).now.length = A.now.length + 1 := by
  unfold FileA.write
  rw [if_neg (by simp)]
  rw [laidL_length _ _ _ (by simp)]
  simp

/-- The loop under way: y calls are made; the n-th fails. -/
structure Failing (W : World) (b p n y : Nat) (A : FileA) (wr : World) : Prop where
  held : Held W (fun _ => False) wr p (One (within 2000) aName b A [] [⟨some b, [], aName⟩] (if y ≤ n then (n : Int) - y else -1) (1 + y) 0) (2 + 2 * y)
  len : A.now.length = if y ≤ n then y else y - 1

theorem Failing.next {W : World} {b p n y : Nat} {A : FileA} {wr : World} (h : Failing W b p n y A wr) (hy : y < 20) (x : Int) :
    (One (within 2000) aName b A [] [⟨some b, [], aName⟩] (if y ≤ n then (n : Int) - y else -1) (1 + y) 0).write aName (A.now.length : Int) [x] =
      if y = n then (3, One (within 2000) aName b A [] [⟨some b, [], aName⟩] (if y + 1 ≤ n then (n : Int) - ((y + 1 : Nat) : Int) else -1) (1 + ((y + 1 : Nat) : Int)) 0)
      else (0, One (within 2000) aName b (A.write A.now.length [x]) [] [⟨some b, [], aName⟩] (if y + 1 ≤ n then (n : Int) - ((y + 1 : Nat) : Int) else -1) (1 + ((y + 1 : Nat) : Int)) 0) := by
  have hl := h.len
  have ec : (1 : Int) + ((y + 1 : Nat) : Int) = 1 + (y : Int) + 1 := by omega
  rw [ec]
  by_cases e : y = n
  · subst e
    rw [if_pos (Nat.le_refl _), if_pos rfl, if_neg (by omega), Int.sub_self, One.write_fails]
  · rw [if_neg e]
    have hA : A.now.length ≤ 20 := by rw [hl]; split <;> omega
    by_cases h1 : y < n
    · rw [if_pos (by omega), if_pos (by omega)]
      rw [One.write A.now.length [x] (by omega) (Nat.le_refl _) (by show ((A.now.length + 1 : Nat) : Int) ≤ 2000; omega)]
      congr 2
      unfold less
      rw [if_neg (by omega)]
      omega
    · rw [if_neg (by omega), if_neg (by omega)]
      rw [One.write A.now.length [x] (by omega) (Nat.le_refl _) (by show ((A.now.length + 1 : Nat) : Int) ≤ 2000; omega)]
      rfl

set_option maxRecDepth 100000 in
set_option maxHeartbeats 1000000 in
theorem fails_any (w : World) (n k : Int) (_ : -9223372036854775808 ≤ n ∧ n ≤ 9223372036854775807) (_ : -9223372036854775808 ≤ k ∧ k ≤ 9223372036854775807) : Calls Try.prog 6 #[.int .i64 n, .int .i64 k] w fun e w' => e = .returned (.bool true) ∧ Below w.heap.size w w' := by
  by_cases hout : n < 0 ∨ 20 < n ∨ k < 0 ∨ 20 < k
  · by_cases c1 : n < 0
    · clear hout
      go_enter Try.func6, Try.ntmps6
      go_wp2_with fail
      refine (begun_any w).mono ?_
      rintro e w1 ⟨rfl, h1⟩
      have H1 := Lib.hid h1
      clear h1
      go_wp2_with fail
      go_ret
      exact ⟨rfl, H1.out⟩
    · by_cases c2 : 20 < n
      · clear hout
        go_enter Try.func6, Try.ntmps6
        go_wp2_with fail
        refine (begun_any w).mono ?_
        rintro e w1 ⟨rfl, h1⟩
        have H1 := Lib.hid h1
        clear h1
        go_wp2_with fail
        go_ret
        exact ⟨rfl, H1.out⟩
      · by_cases c3 : k < 0
        · clear hout
          go_enter Try.func6, Try.ntmps6
          go_wp2_with fail
          refine (begun_any w).mono ?_
          rintro e w1 ⟨rfl, h1⟩
          have H1 := Lib.hid h1
          clear h1
          go_wp2_with fail
          go_ret
          exact ⟨rfl, H1.out⟩
        · have c4 : 20 < k := by omega
          clear hout
          go_enter Try.func6, Try.ntmps6
          go_wp2_with fail
          refine (begun_any w).mono ?_
          rintro e w1 ⟨rfl, h1⟩
          have H1 := Lib.hid h1
          clear h1
          go_wp2_with fail
          go_ret
          exact ⟨rfl, H1.out⟩
  · obtain ⟨nn, rfl⟩ : ∃ nn : Nat, n = nn := ⟨n.toNat, by omega⟩
    obtain ⟨kk, rfl⟩ : ∃ kk : Nat, k = kk := ⟨k.toNat, by omega⟩
    have hn : nn ≤ 20 := by omega
    have hk : kk ≤ 20 := by omega
    have hn' : ¬ (20 : Int) < (nn : Int) := by omega
    have hk' : ¬ (20 : Int) < (kk : Int) := by omega
    clear hout
    go_enter Try.func6, Try.ntmps6
    go_wp2_with fail
    refine (begun_any w).mono ?_
    rintro e w1 ⟨rfl, h1⟩
    have H1 := Lib.hid h1
    clear h1
    go_wp2_with fail
    refine (new_any w1 2000).mono ?_
    rintro e w2 ho
    obtain ⟨p, rfl, h2, _⟩ := held_new (W := w) (X := fun _ => False) (fun _ e => e.elim) H1.out ho
    have H2 := Lib.hid h2
    clear ho h2
    go_wp2_with fail
    refine (create_any w2 p _ 0 H2.out.disk (by omega) ⟨#[97]⟩ (by decide)).mono ?_
    rintro e w3 ⟨b, _, _, _, ho⟩
    rw [aData, One.create aGood] at ho
    obtain ⟨rfl, h3, _⟩ := H2.out.out ho
    have H3 := Lib.hid h3
    clear ho h3
    go_wp2_with fail
    refine (fail_any w3 p _ _ H3.out.disk (nn : Int) (by omega)).mono ?_
    rintro e w4 ho
    obtain ⟨rfl, h4, _⟩ := H3.out.out ho
    have start : Failing w b p nn 0 ⟨[], [], []⟩ w4 := by
      refine ⟨?_, by simp⟩
      have := h4
      unfold St.failing at this
      rw [show max (nn : Int) (-1) = (nn : Int) by omega] at this
      rw [if_pos (Nat.zero_le _)]
      exact this
    have ST := Lib.hid start
    clear ho h4 start
    go_wp2_with fail
    go_loopw [8, 7] (fun i a wr => ∃ (y : Nat) (A : FileA), y ≤ kk ∧ i = .int .i64 (y : Int) ∧ a = .int .i64 (A.now.length : Int) ∧ Failing w b p nn y A wr) (fun i _ _ => kk - (intOf i).toNat)
    case atStart => exact ⟨0, _, Nat.zero_le _, rfl, rfl, ST.out⟩
    case round =>
      obtain ⟨y, A, hy, rfl, rfl, hF⟩ := hrel
      have HF := Lib.hid hF
      clear hF
      by_cases hlt : y < kk
      · go_wp2_with fail
        have hx : Byte [((y : Nat) : Int)] := by
          intro c hc
          obtain rfl : c = (y : Int) := by simpa using hc
          omega
        refine (HF.out.held.text [(y : Int)] 5 (0, 0) hx (by simp) (by omega) ⟨#[97]⟩ (by decide) (A.now.length : Int) 1).mono ?_
        rintro e w5 ⟨he, h5, _⟩
        rw [aData, HF.out.next (by omega) (y : Int)] at he h5
        by_cases e1 : y = nn
        · rw [if_pos e1] at he h5
          subst he
          have nxt : Failing w b p nn (y + 1) A w5 := ⟨h5, by have := HF.out.len; rw [if_pos (by omega)] at this; rw [if_neg (by omega)]; omega⟩
          have NX := Lib.hid nxt
          clear nxt h5 hx
          have e1' : (y : Int) = (nn : Int) := by omega
          go_wp2_with fail
          go_roundw
          case rel => exact ⟨y + 1, A, by omega, by go_num, rfl, NX.out⟩
          case measure => simp [intOf]; omega
        · rw [if_neg e1] at he h5
          subst he
          have hwl := FileA.write_one (A := A) (x := (y : Int))
          have nxt : Failing w b p nn (y + 1) (A.write A.now.length [(y : Int)]) w5 := ⟨h5, by rw [hwl]; have := HF.out.len; split at this <;> split <;> omega⟩
          have NX := Lib.hid nxt
          have hlen : A.now.length ≤ 20 := by have := HF.out.len; split at this <;> omega
          have e1' : ¬ (y : Int) = (nn : Int) := by omega
          have HWL := Lib.hid hwl
          clear nxt h5 hx hwl
          go_wp2_with fail
          go_roundw
          case rel => exact ⟨y + 1, _, by omega, by go_num, by rw [HWL.out]; go_num, NX.out⟩
          case measure => simp [intOf]; omega
      · obtain rfl : y = kk := by omega
        go_wp2_with fail
        refine (size_any wr p _ _ HF.out.held.disk ⟨#[97]⟩ (by decide)).mono ?_
        rintro e w5 ⟨rfl, rfl⟩
        rw [aData, One.size]
        go_wp2_with fail
        refine (calls_any wr p _ _ HF.out.held.disk).mono ?_
        rintro e w5 ⟨rfl, rfl⟩
        have hcalls : (One (within 2000) aName b A [] [⟨some b, [], aName⟩] (if y ≤ nn then (nn : Int) - y else -1) (1 + y) 0).calls = (y : Int) + 1 := by show (1 : Int) + y = y + 1; omega
        rw [hcalls]
        go_wp2_with fail
        go_ret
        exact ⟨rfl, HF.out.held.below⟩
end Go.Proofs.Ytpmjbnhpalanhaa.disk
