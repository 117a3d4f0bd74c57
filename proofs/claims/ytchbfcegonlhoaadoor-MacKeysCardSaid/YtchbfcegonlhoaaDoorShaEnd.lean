/-
  THE WALKS OF "sha.New" and "(*sha.Hash).end".
-/
import Derived.Test.YtchbfcegonlhoaaDoorShaWrite
namespace Go.Proofs.YtchbfcegonlhoaaDoor.sha
open Go.RowKit

/-- A Hash's noughts. -/
def z64 : List Int := List.replicate 64 0
theorem zeroHash (w : World) : (zeroValue 56).run Tryd.prog w = .ok (.agg (hashCells ⟨0, 0, 0, 0, 0, 0, 0, 0⟩ z64 0).toArray) w := by kernel_rfl
theorem initHash : (((((((((hashCells ⟨0, 0, 0, 0, 0, 0, 0, 0⟩ z64 0).set 0 (.int .u32 1779033703)).set 1 (.int .u32 3144134277)).set 2 (.int .u32 1013904242)).set 3 (.int .u32 2773480762)).set 4 (.int .u32 1359893119)).set 5 (.int .u32 2600822924)).set 6 (.int .u32 528734635)).set 7 (.int .u32 1541459225)) = hashCells (stAt [] 0) z64 0 := by rfl
theorem len73 : ¬ (hashCells ⟨0, 0, 0, 0, 0, 0, 0, 0⟩ z64 0).length < 8 := by decide

theorem new_any (w : World) :
    Calls Tryd.prog 18 #[] w fun e w' => e = .returned (.pointer (some ⟨w.heap.size, 0, none⟩)) ∧ IsHash w' w.heap.size [] ∧ Below w.heap.size w w' := by
  have hz := zeroHash
  have hl := len73
  have hi := initHash
  generalize hashCells ⟨0, 0, 0, 0, 0, 0, 0, 0⟩ z64 0 = h0 at hz hl hi
  have HI := Lib.hid hi
  clear hi
  have hs : ¬ h0.toArray.size < 8 := by simpa using hl
  go_enter Tryd.func18, Tryd.ntmps18
  go_wp2
  go_ret
  refine ⟨rfl, ⟨z64, rfl, Byte.zeros 64, Whole.new_ rfl ?_⟩, (Below.refl _ _).alloc (Nat.le_refl _) _⟩
  exact congrArg List.toArray HI.out

/-- 73 noughts. -/
def z73 : List Int := List.replicate 73 0
theorem zero73 (w : World) : (zeroValue 66).run Tryd.prog w = .ok (.agg (u8s z73).toArray) w := by kernel_rfl
theorem z73_0 : (u8s z73)[0]? = some (.int .u8 0) := by rfl

/-- What the end's bytes are behind k rounds. -/
def endAt (n q k : Nat) : List Int := 128 :: (List.replicate q 0 ++ ((eight ((n : Int) * 8)).take k ++ List.replicate (72 - q - k) 0))
theorem eight_length (n : Int) : (eight n).length = 8 := rfl
theorem endAt_length (n q k : Nat) (hq : q ≤ 63) (hk : k ≤ 8) : (endAt n q k).length = 73 := by
  simp [endAt, eight_length]; omega
theorem endAt_zero (n q : Nat) (hq : q ≤ 63) : u8s (endAt n q 0) = (u8s z73).set 0 (.int .u8 128) := by
  have h : endAt n q 0 = z73.set 0 128 := by
    rw [endAt, List.take_zero, List.nil_append, List.replicate_append_replicate, show q + (72 - q - 0) = 72 by omega]; rfl
  rw [h]; rfl
theorem endAt_set (n q k : Nat) (hq : q ≤ 63) (hk : k < 8) : (u8s (endAt n q k)).set (1 + q + k) (.int .u8 ((eight ((n : Int) * 8)).getD k 0)) = u8s (endAt n q (k + 1)) := by
  have h8 := eight_length ((n : Int) * 8)
  have h : (endAt n q k).set (1 + q + k) ((eight ((n : Int) * 8)).getD k 0) = endAt n q (k + 1) := by
    unfold endAt
    generalize eight ((n : Int) * 8) = e at h8
    rw [show 1 + q + k = (q + k) + 1 by omega, List.set_cons_succ, List.set_append_right _ _ (by simp), List.length_replicate, show q + k - q = k by omega,
      List.set_append_right _ _ (by rw [List.length_take]; omega), List.length_take, show k - min k e.length = 0 by omega, show 72 - q - k = (72 - q - (k + 1)) + 1 by omega, List.replicate_succ, List.set_cons_zero,
      List.take_succ_eq_append_getElem (by omega), List.append_assoc, List.getD_eq_getElem?_getD, List.getElem?_eq_getElem (by omega)]
    rfl
  rw [← h]; simp [u8s, List.map_set]
theorem endAt_eight (n q : Nat) (hq : q = (119 - n % 64) % 64) : (endAt n q 8).take (9 + q) = pad n := by
  have h8 := eight_length ((n : Int) * 8)
  unfold endAt pad
  rw [← hq]
  generalize eight ((n : Int) * 8) = e at h8
  rw [show e.take 8 = e from List.take_of_length_le (by omega), show 9 + q = (q + 8) + 1 by omega, List.take_succ_cons, ← List.append_assoc, List.take_append_of_le_length (by rw [List.length_append, List.length_replicate]; omega),
    List.take_of_length_le (by rw [List.length_append, List.length_replicate]; omega)]
theorem eight_at (m : Int) (k : Nat) (hk : k < 8) : (eight m).getD k 0 = m / 2 ^ (8 * (7 - k)) % 256 := by
  rcases (show k = 0 ∨ k = 1 ∨ k = 2 ∨ k = 3 ∨ k = 4 ∨ k = 5 ∨ k = 6 ∨ k = 7 by omega) with rfl | rfl | rfl | rfl | rfl | rfl | rfl | rfl
  all_goals simp [eight]
theorem run_front (g m : Nat) (hm : m ≤ 72) (w : World) : (Instr.sliceAt 66 (.pointer (some ⟨g, 0, none⟩)) none (some (.int .i64 (m : Int))) none).run Tryd.prog w = .ok (.slice (some ⟨g, 0, none⟩) m 73) w := by
  have hl : Tryd.prog.arrayLen 66 = 73 := by kernel_rfl
  have he : Tryd.prog.elem 66 = 5 := by kernel_rfl
  have hs : (sizeOf 5).run Tryd.prog w = .ok 1 w := by kernel_rfl
  rw [run_sliceAt_array_h w 66 ⟨g, 0, none⟩ (by rw [hl, he]; exact Tryd.underlying66) .i64 (m : Int) (by omega) (by rw [hl]; omega), he, hs, hl]
  simp [Result.andThen, slicedAt, Addr.add_mid]
theorem pad_byte (n : Nat) : Byte (pad n) := by
  intro c hc
  rw [pad] at hc
  rcases List.mem_cons.1 hc with rfl | hc
  · omega
  · rcases List.mem_append.1 hc with hc | hc
    · rw [List.eq_of_mem_replicate hc]; omega
    · simp only [eight, List.mem_cons, List.not_mem_nil, or_false] at hc
      omega

theorem only_of_below {a w : World} {row : Option Nat} (h : Below a.heap.size a w) : a.grownBy w row := ⟨h.os, h.tape, h.output, h.size, fun i hi _ => h.block i hi⟩

set_option maxRecDepth 100000 in
set_option maxHeartbeats 1000000 in
theorem end_any (g : Nat) (t : List Int) (w : World) (hT : Tab w) (hg0 : g ≠ 0) (hH : IsHash w g t) (hn : t.length ≤ 1000000) :
    Calls Tryd.prog 30 #[.pointer (some ⟨g, 0, none⟩)] w fun e w' => e = .returned (.tuple #[]) ∧ IsHash w' g (padded t) ∧ w.grownBy w' (some g) := by
  have hgl : g < w.heap.size := by obtain ⟨_, _, _, h⟩ := hH; exact h.lt
  have HT := Lib.hid hT
  have HH := Lib.hid hH
  obtain ⟨junk, j1, j2, j3⟩ := hH
  have hsz := size_at j1 j3
  have hpd : padded t = t ++ pad t.length := rfl
  generalize hnu : t.length = n at *
  have HPD := Lib.hid hpd
  have HNU := Lib.hid hnu
  have J3 := Lib.hid j3
  obtain ⟨q, hq⟩ : ∃ q, q = (119 - n % 64) % 64 := ⟨_, rfl⟩
  have hq63 : q ≤ 63 := by omega
  have hqi : ((119 : Int) - (n : Int)) % 64 = (q : Int) := by omega
  have HQ := Lib.hid hq
  have hz := zero73
  have hz0 := z73_0
  clear hT j1 j2 j3 hnu hpd hq
  go_enter Tryd.func30, Tryd.ntmps30
  go_wp2_with (first
        | (go_at_call 28; refine (filled_any g n (by omega) _ hsz).mono ?_; rintro e w' ⟨rfl, rfl⟩)
        | fail)
  clear hz hz0 hqi
  go_loopw [6, 19] (fun _ i wr => ∃ k : Nat, k ≤ 8 ∧ i = .int .i64 k ∧ Whole wr w.heap.size 66 (u8s (endAt n q k)) ∧ Below w.heap.size w wr) (fun _ i _ => 8 - (intOf i).toNat)
  case atStart => exact ⟨0, by omega, rfl, Whole.new_ rfl (by rw [endAt_zero n q hq63]), (Below.refl _ _).alloc (Nat.le_refl _) _⟩
  case round =>
    obtain ⟨k, hk, rfl, h1, hbel⟩ := hrel
    by_cases hlt : k < 8
    · have hc : wr.cell? ⟨w.heap.size, 1 + q + k, none⟩ = _ := (h1.at_ _).trans (u8s_at _ (by rw [endAt_length _ _ _ hq63 hk]; omega))
      have hf := h1.free (1 + q + k)
      generalize (endAt n q k).getD (1 + q + k) 0 = z at hc
      have hset := endAt_set n q k hq63 hlt
      have HSET := Lib.hid hset
      have H1 := Lib.hid h1
      have HBel := Lib.hid hbel
      clear hset h1 hbel
      go_wp2_with fail
      have hset := HSET.out
      rw [eight_at _ k hlt] at hset
      have h2 := H1.out.put (1 + q + k) (.int .u8 ((n : Int) * 8 / 2 ^ (8 * (7 - k)) % 256))
      rw [hset] at h2
      exact ⟨⟨k + 1, by omega, by go_num, h2, HBel.out.setCell (Nat.le_refl _) _⟩, by simp [intOf]; omega⟩
    · obtain rfl : k = 8 := by omega
      have hfr : ∀ w1, (Instr.sliceAt 66 (.pointer (some ⟨w.heap.size, 0, none⟩)) none (some (.int .i64 (1 + (q : Int) + 8))) none).run Tryd.prog w1 = .ok (.slice (some ⟨w.heap.size, 0, none⟩) (1 + q + 8) 73) w1 := by
        intro w1
        have h := run_front w.heap.size (1 + q + 8) (by omega) w1
        rwa [show ((1 + q + 8 : Nat) : Int) = 1 + (q : Int) + 8 by omega] at h
      have hp := Leads.of_whole (o := 0) (n := 9 + q) (l := pad n) h1 (by rw [List.drop_zero]; unfold u8s; rw [← List.map_take, endAt_eight n q HQ.out])
      have hgt := hbel.block g hgl
      have hh : IsHash wr g t := by
        obtain ⟨junk, i1, i2, i3⟩ := HH.out
        exact ⟨junk, i1, i2, i3.keep hbel hgl⟩
      have C := write_any g t (some ⟨w.heap.size, 0, none⟩) (pad n) (1 + q + 8) 73 wr (HT.out.later hbel) hg0 hh hp (.inr (fun b off e => by injection e with e; injection e with e; omega)) (pad_byte n) (by rw [pad_length, ← HQ.out]; omega) (by omega) (by omega) (by rw [HNU.out]; omega)
      rw [← HPD.out] at C
      have CH := Lib.hid C
      have HBel := Lib.hid hbel
      clear C hh hp h1 hgt hbel
      go_wp2_with (first | (go_at_call 19; refine CH.out.mono ?_; rintro e w2 ⟨rfl, h3, h4⟩; have H3 := Lib.hid h3; have H4 := Lib.hid h4; clear h3 h4) | fail)
      go_end0
      exact ⟨rfl, H3.out, only_trans (only_of_below HBel.out) H4.out⟩
end Go.Proofs.YtchbfcegonlhoaaDoor.sha
