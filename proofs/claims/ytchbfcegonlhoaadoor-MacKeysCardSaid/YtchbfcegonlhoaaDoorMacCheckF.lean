/-
  CONTRACT of mac.Check: is a tag just the tag?
-/
import Derived.Test.YtchbfcegonlhoaaDoorMacSum
namespace Go.Proofs.YtchbfcegonlhoaaDoor.sha
open Go.RowKit

set_option maxRecDepth 100000 in
set_option maxHeartbeats 1000000 in
theorem check_any (a0 : Option Addr) (K : List Int) (n0 cap0 : Nat) (a1 : Option Addr) (l : List Int) (n1 cap1 : Nat) (a2 : Option Addr) (t : List Int) (n2 cap2 : Nat) (w : World) (hT : Tab w) (h0 : Row w a0 n0 cap0 K) (h1 : Row w a1 n1 cap1 l) (h2 : Row w a2 n2 cap2 t) (hn0 : n0 ≤ 100000) (hn1 : n1 ≤ 100000) :
    Calls Tryd.prog 15 #[.slice a0 n0 cap0, .slice a1 n1 cap1, .slice a2 n2 cap2] w fun e w' => e = .returned (.bool (decide (t = tagOf K l))) ∧ Below w.heap.size w w' := by
  obtain ⟨i0, hi0, _, hi1, _⟩ := info_parts byte_info
  have HI0 := Lib.hid hi0
  have HI1 := Lib.hid hi1
  clear hi0 hi1
  have HS := Lib.hid (macSum_any a0 K n0 cap0 a1 l n1 cap1 w hT h0 h1 hn0 hn1)
  have H2 := Lib.hid h2
  have hz32 := zero32
  obtain ⟨T, hTg⟩ : ∃ T, tagOf K l = T := ⟨_, rfl⟩
  have hTl : T.length = 32 := by rw [← hTg]; exact tagOf_length _ _
  have hTy : Byte T := by rw [← hTg]; exact tagOf_byte _ _
  rw [hTg] at HS ⊢
  have HI32 := Lib.hid (show (Tryd.prog.info? 25).map (·.size) = some (u8s T).toArray.size by rw [u8s_size, hTl]; exact info32)
  have HTL := Lib.hid hTl
  have HTY := Lib.hid hTy
  have hmost := h2.most
  have hle := h2.le
  clear hT h0 h1 h2 hTg hTl hTy
  by_cases hlen : n2 = 32
  · subst hlen
    have htl : t.length = 32 := H2.out.length
    obtain ⟨b2, o2, rfl⟩ : ∃ b off, a2 = some ⟨b, off, none⟩ := by
      rcases H2.out.bytes with h | ⟨b, off, rfl, _⟩
      · rw [h] at htl; simp at htl
      · exact ⟨b, off, rfl⟩
    have HTT := Lib.hid htl
    clear htl
    go_enter Tryd.func15, Tryd.ntmps15
    go_wp2_with fail
    refine HS.out.mono ?_
    rintro e w2 ⟨rfl, hb2⟩
    have B2 := Lib.hid hb2
    clear hb2 HS
    go_wp2_with (first
      | ((with_reducible show wpList _ _ _ _ _ _); refine wpList_store_as rfl 25 (.tmp 7) (.tmp 13) rfl w2.heap.size 0 (u8s T).toArray rfl rfl (by exact (Whole.new_ (l := u8s z32) rfl rfl).there _ _ (by rw [u8s_size, HTL.out]; exact Nat.le_refl 32)) HI32.out (u8s_one _) ?_; intro w3 hw3; have L3 := Lib.hid (laid hw3 rfl (by rw [u8s_length, HTL.out]; rfl)); clear hw3; have B3 := Lib.hid (B2.out.trans (L3.out.2.mono B2.out.size)))
      | ((with_reducible show wpList _ _ _ _ _ _); refine wpList_load_row rfl 25 (.tmp 7) rfl w2.heap.size rfl 25 (u8s T).toArray (0, 0) _ (by exact L3.out.1) Tryd.underlying25 rfl HI32.out ?_)
      | fail)
    clear hz32
    go_loopw [8, 9, 10, 18] (fun d _ _ i wr => ∃ k : Nat, k ≤ 32 ∧ d = .int .u8 (apartB T t k) ∧ i = .int .i64 k ∧ w3 = wr) (fun _ _ _ i _ => 32 - (intOf i).toNat)
    case atStart => exact ⟨0, by omega, rfl, rfl, rfl⟩
    case round =>
      obtain ⟨k, hk, rfl, rfl, rfl⟩ := hrel
      by_cases hlt : k < 32
      · have hidx := fun wz => run_index_array (P := Tryd.prog) (t := 25) (e := 5) (n := 32) (cs := (u8s T).toArray) (k := k) .i64 Tryd.underlying25 Tryd.underlying5 HI0.out HI1.out hlt (by rw [List.getElem?_toArray]; exact u8s_at T (by rw [HTL.out]; exact hlt)) wz
        have hc2 : w3.cell? ⟨b2, o2 + k, none⟩ = some (.int .u8 (t.getD k 0)) := by
          rcases H2.out.bytes with h | ⟨b, off, e, hc⟩
          · have := HTT.out; rw [h] at this; simp at this
          · injection e with e; injection e with e1 e2; subst e1; subst e2
            have := hc k (by rw [HTT.out]; exact hlt)
            exact (B3.out.cell (p := ⟨b2, o2 + k, none⟩) (block_lt_of_cell this)).trans this
        have hx : bits .xor .u8 (T.getD k 0) (t.getD k 0) = xb (T.getD k 0) (t.getD k 0) := rfl
        have ho : bits .or .u8 (apartB T t k) (xb (T.getD k 0) (t.getD k 0)) = apartB T t (k + 1) := rfl
        generalize xb (T.getD k 0) (t.getD k 0) = z at hx ho
        generalize T.getD k 0 = x at hx hidx
        generalize t.getD k 0 = y at hx hc2
        have HO := Lib.hid ho
        obtain ⟨d, hd⟩ : ∃ d, apartB T t k = d := ⟨_, rfl⟩
        rw [hd] at ho ⊢
        obtain ⟨d2, hd2⟩ : ∃ d, apartB T t (k + 1) = d := ⟨_, rfl⟩
        rw [hd2] at ho
        have HD2 := Lib.hid hd2
        clear HO hd hd2
        go_wp2_with fail
        exact ⟨⟨k + 1, by omega, by rw [HD2.out], by go_num, by first | rfl | trivial⟩, by simp [intOf]; omega⟩
      · obtain rfl : k = 32 := by omega
        have hall := apartB_all HTY.out H2.out.byte HTL.out HTT.out
        by_cases ht : t = T
        · rw [hall.2 ht.symm]
          go_wp2
          go_ret
          exact ⟨by rw [decide_eq_true ht]; rfl, B3.out⟩
        · have hne : ¬ apartB T t 32 = 0 := fun e => ht (hall.1 e).symm
          generalize apartB T t 32 = d at hne
          clear hall
          go_wp2
          go_ret
          exact ⟨by rw [decide_eq_false ht, show (d == 0) = false from by rw [beq_eq_false_iff_ne]; exact hne]; rfl, B3.out⟩
  · have hd : ¬ t = T := fun e => by have h1 := H2.out.length; have h2 := HTL.out; rw [e] at h1; omega
    rw [decide_eq_false hd]
    have hne : ((n2 : Int) == 32) = false := by rw [beq_eq_false_iff_ne]; omega
    have hne2 : ¬ (n2 : Int) = 32 := by omega
    clear hd
    go_enter Tryd.func15, Tryd.ntmps15
    go_wp2_with fail
    refine HS.out.mono ?_
    rintro e w2 ⟨rfl, hb2⟩
    have B2 := Lib.hid hb2
    clear hb2 HS
    go_wp2_with (first
      | ((with_reducible show wpList _ _ _ _ _ _); refine wpList_store_as rfl 25 (.tmp 7) (.tmp 13) rfl w2.heap.size 0 (u8s T).toArray rfl rfl (by exact (Whole.new_ (l := u8s z32) rfl rfl).there _ _ (by rw [u8s_size, HTL.out]; exact Nat.le_refl 32)) HI32.out (u8s_one _) ?_; intro w3 hw3; have L3 := Lib.hid (laid hw3 rfl (by rw [u8s_length, HTL.out]; rfl)); clear hw3; have B3 := Lib.hid (B2.out.trans (L3.out.2.mono B2.out.size)))
      | fail)
    go_ret
    exact ⟨rfl, B3.out⟩
end Go.Proofs.YtchbfcegonlhoaaDoor.sha
