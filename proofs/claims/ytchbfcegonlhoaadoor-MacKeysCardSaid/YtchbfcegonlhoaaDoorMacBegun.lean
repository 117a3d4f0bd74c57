/-
  THE WALK OF 'stillroomlaw3.begun'.
-/
import Derived.Test.YtchbfcegonlhoaaDoorMacCheckF
import Derived.Test.YtchbfcegonlhoaaDoorShaHex
import Derived.Lib.SlBytesConst
namespace Go.Proofs.YtchbfcegonlhoaaDoor.sha
open Go.RowKit

def foxKey : List Int := [107, 101, 121]
def foxText : List Int := [84, 104, 101, 32, 113, 117, 105, 99, 107, 32, 98, 114, 111, 119, 110, 32, 102, 111, 120, 32, 106, 117, 109, 112, 115, 32, 111, 118, 101, 114, 32, 116, 104, 101, 32, 108, 97, 122, 121, 32, 100, 111, 103]
theorem fox_tag : (tagOf foxKey foxText).take 4 = [247, 188, 131, 244] := by decide +kernel
theorem fox_hex : strOfNums (hexOf [247, 188, 131, 244]) = ⟨#[102, 55, 98, 99, 56, 51, 102, 52]⟩ := by rfl
theorem foxKey_byte : Byte foxKey := by unfold Byte foxKey; decide
theorem foxText_byte : Byte foxText := by unfold Byte foxText; decide

/-- A slice of bytes written out, as one step; its run under one name. -/
theorem wpList_lit {P : Program} {ops : Array Oper} {rest : List Oper} {o : Oper} {a : Act} {w : World} {Q : Exit → Act → World → Prop} (hw : Region.wanted o (yielded ops a.tmps) = true) (t : TypeId) (len : Nat) (parts : Array (Nat × Operand)) (ho : o.op = .buildSlice t len parts)
    (v : Value) (w' : World) (hrun : (Instr.buildSlice t len (parts.map fun (i, x) => (i, a.eval x))).run P w = .ok v w')
    (h : wpList P ops Q rest (a.put o.dst v) w') : wpList P ops Q (o :: rest) a w := by
  refine wpList_step fun K hK => ?_
  rw [if_pos hw]
  unfold Oper.wp execOp
  simp only [ho, Sem.run_bind, hrun, Result.andThen_ok]
  exact hK _ _ h

theorem leads_new (w : World) (l : List Int) (fr : Nat × Nat) : Leads (w.alloc (.cells (u8s l).toArray 5 fr)) (some ⟨w.heap.size, 0, none⟩) l := by
  refine .inr ⟨_, 0, rfl, fun i hi => ?_⟩
  have h : (w.alloc (.cells (u8s l).toArray 5 fr)).heap[w.heap.size]? = some (.cells (u8s l).toArray 5 fr) := heap_alloc_new w _
  rw [cell_of_row _ w.heap.size (0 + i) (u8s l).toArray 5 fr h, List.getElem?_toArray, Nat.zero_add]
  exact u8s_at l hi

set_option maxRecDepth 100000 in
set_option maxHeartbeats 1000000 in
theorem begun3_any (w : World) (hT : Tab w) :
    Calls Tryd.prog 12 #[] w fun e w' => e = .returned (.bool true) ∧ Below w.heap.size w w' := by
  have HT := Lib.hid hT
  have hz := zero32
  have kc := fun (w : World) (C : Array Value) (n c : Nat) => Lib.run_convert_bytes_const (P := Tryd.prog) w 22 5 C n c Tryd.underlying22 Tryd.underlying5
  have kc2 : ∀ (w : World) (C0 C : Array Value) (fr : Nat × Nat) (n c : Nat), (convert 22 22 (.slice (some ⟨w.heap.size + 1, 0, none⟩) n c)).run Tryd.prog ((w.alloc (.cells C0 5 fr)).alloc (.cells C 5)) = .ok (.slice (some ⟨w.heap.size + 1, 0, none⟩) n c) ((w.alloc (.cells C0 5 fr)).alloc (.cells C 5 (C.size, C.size + 1))) := by
    intro w C0 C fr n c
    have h := kc (w.alloc (.cells C0 5 fr)) C n c
    rwa [show (w.alloc (.cells C0 5 fr)).heap.size = w.heap.size + 1 by simp] at h
  obtain ⟨w2, hw2⟩ : ∃ w2, (w.alloc (.cells (u8s foxKey).toArray 5 (3, 4))).alloc (.cells (u8s foxText).toArray 5 (43, 44)) = w2 := ⟨_, rfl⟩
  have b2 : Below w.heap.size w w2 := by rw [← hw2]; exact ((Below.refl _ _).alloc (Nat.le_refl _) _).alloc (by simp) _
  have r1 : Row w2 (some ⟨w.heap.size, 0, none⟩) 3 3 foxKey := ⟨rfl, Nat.le_refl _, by omega, (fun e => by cases e), by rw [← hw2]; exact (leads_new w foxKey (3, 4)).later ((Below.refl _ _).alloc (Nat.le_refl _) _), foxKey_byte⟩
  have r2 : Row w2 (some ⟨w.heap.size + 1, 0, none⟩) 43 43 foxText := ⟨rfl, Nat.le_refl _, by omega, (fun e => by cases e), by rw [← hw2]; have h := leads_new (w.alloc (.cells (u8s foxKey).toArray 5 (3, 4))) foxText (43, 44); rwa [show (w.alloc (.cells (u8s foxKey).toArray 5 (3, 4))).heap.size = w.heap.size + 1 by simp] at h, foxText_byte⟩
  obtain ⟨T, hTg⟩ : ∃ T, tagOf foxKey foxText = T := ⟨_, rfl⟩
  have hTl : T.length = 32 := by rw [← hTg]; exact tagOf_length _ _
  have hTy : Byte T := by rw [← hTg]; exact tagOf_byte _ _
  have hT4 : T.take 4 = [247, 188, 131, 244] := by rw [← hTg]; exact fox_tag
  have HI32 := Lib.hid (show (Tryd.prog.info? 25).map (·.size) = some (u8s T).toArray.size by rw [u8s_size, hTl]; exact info32)
  have S2 := macSum_any _ foxKey 3 3 _ foxText 43 43 w2 (hT.later b2) r1 r2 (by omega) (by omega)
  rw [hTg] at S2
  have SS := Lib.hid S2
  subst hw2
  have B2 := Lib.hid b2
  have HTG := Lib.hid hTg
  have HTL := Lib.hid hTl
  have HTY := Lib.hid hTy
  have HT4 := Lib.hid hT4
  clear hT r1 r2 b2 S2 hTg hTl hTy hT4
  go_enter Tryd.func12, Tryd.ntmps12
  go_wp2_with (first
    | ((with_reducible show wpList _ _ _ _ _ _); refine wpList_lit (by rfl) 22 43 _ rfl (.slice (some ⟨_, 0, none⟩) 43 43) (World.alloc _ (.cells (u8s foxText).toArray 5)) (by kernel_rfl) ?_)
    | fail)
  refine SS.out.mono ?_
  rintro e w3 ⟨rfl, h3⟩
  have B3 := Lib.hid (B2.out.trans (h3.mono B2.out.size))
  clear h3 SS B2
  go_wp2_with (first
    | ((with_reducible show wpList _ _ _ _ _ _); refine wpList_store_as rfl 25 (.tmp 1) (.tmp 6) rfl w3.heap.size 0 (u8s T).toArray rfl rfl (by exact (Whole.new_ (l := u8s z32) rfl rfl).there _ _ (by rw [u8s_size, HTL.out]; exact Nat.le_refl 32)) HI32.out (u8s_one _) ?_; intro w4 hw4; have L4 := Lib.hid (laid hw4 rfl (by rw [u8s_length, HTL.out]; rfl)); clear hw4; have B4 := Lib.hid (B3.out.trans (L4.out.2.mono B3.out.size)))
    | fail)
  refine (hex_any (some ⟨w3.heap.size, 0, none⟩) (T.take 4) 4 32 w4 (Leads.of_whole (o := 0) (n := 4) L4.out.1 (by rw [List.drop_zero]; simp [u8s, List.map_take])) (HTY.out.take 4) (by rw [HT4.out]; rfl) (by omega)).mono ?_
  rintro e w5 ⟨rfl, h5⟩
  rw [HT4.out, fox_hex]
  have B5 := Lib.hid (B4.out.trans (h5.mono B4.out.size))
  have K5 := Lib.hid (L4.out.1.kept h5)
  clear h5 L4 B4 B3 hz
  go_wp2_with (first
    | ((with_reducible show wpList _ _ _ _ _ _); refine wpList_lit (by rfl) 22 43 _ rfl (.slice (some ⟨_, 0, none⟩) 43 43) (World.alloc _ (.cells (u8s foxText).toArray 5)) (by kernel_rfl) ?_)
    | fail)
  have b7 : Below w5.heap.size w5 ((w5.alloc (.cells (u8s foxKey).toArray 5 (3, 4))).alloc (.cells (u8s foxText).toArray 5 (43, 44))) := ((Below.refl _ _).alloc (Nat.le_refl _) _).alloc (by simp) _
  have l1 : Leads ((w5.alloc (.cells (u8s foxKey).toArray 5 (3, 4))).alloc (.cells (u8s foxText).toArray 5 (43, 44))) (some ⟨w5.heap.size, 0, none⟩) foxKey := (leads_new w5 foxKey (3, 4)).later ((Below.refl _ _).alloc (Nat.le_refl _) _)
  have l2 : Leads ((w5.alloc (.cells (u8s foxKey).toArray 5 (3, 4))).alloc (.cells (u8s foxText).toArray 5 (43, 44))) (some ⟨w5.heap.size + 1, 0, none⟩) foxText := by
    have h := leads_new (w5.alloc (.cells (u8s foxKey).toArray 5 (3, 4))) foxText (43, 44)
    rwa [show (w5.alloc (.cells (u8s foxKey).toArray 5 (3, 4))).heap.size = w5.heap.size + 1 by simp] at h
  have l3 : Leads ((w5.alloc (.cells (u8s foxKey).toArray 5 (3, 4))).alloc (.cells (u8s foxText).toArray 5 (43, 44))) (some ⟨w3.heap.size, 0, none⟩) T := Leads.of_whole (o := 0) (n := 32) (K5.out.kept b7) (by rw [List.drop_zero, List.take_of_length_le (by rw [u8s_length, HTL.out]; exact Nat.le_refl _)])
  have C7 := check_any (some ⟨w5.heap.size, 0, none⟩) foxKey 3 3 (some ⟨w5.heap.size + 1, 0, none⟩) foxText 43 43 (some ⟨w3.heap.size, 0, none⟩) T 32 32 _ (HT.out.later (B5.out.trans (b7.mono B5.out.size))) ⟨rfl, Nat.le_refl _, by omega, (fun e => by cases e), l1, foxKey_byte⟩ ⟨rfl, Nat.le_refl _, by omega, (fun e => by cases e), l2, foxText_byte⟩ ⟨HTL.out, Nat.le_refl _, by omega, (fun e => by cases e), l3, HTY.out⟩ (by omega) (by omega)
  rw [HTG.out, decide_eq_true (rfl : T = T)] at C7
  refine C7.mono ?_
  rintro e w8 ⟨rfl, h8⟩
  have B8 := Lib.hid (B5.out.trans ((b7.trans (h8.mono b7.size)).mono B5.out.size))
  clear C7 h8 b7 l1 l2 l3 K5 B5
  go_wp2
  go_ret
  exact ⟨rfl, B8.out⟩
end Go.Proofs.YtchbfcegonlhoaaDoor.sha
