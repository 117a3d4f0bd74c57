/-
  THE WALK OF 'MacCheck', a byte of the tag perhaps turned.
-/
import Derived.Test.YtchbfcegonlhoaaDoorMacSteps
namespace Go.Proofs.YtchbfcegonlhoaaDoor.sha
open Go.RowKit

set_option maxRecDepth 100000 in
set_option maxHeartbeats 4000000 in
theorem macCheck_at (a0 : Option Addr) (len0 cap0 : Nat) (l0 : List Int) (a1 : Option Addr) (len1 cap1 : Nat) (l1 : List Int) (n : Nat) (x cut : Int) (w : World) (hT : Tab w) (h0 : Row w a0 len0 cap0 l0) (h1 : Row w a1 len1 cap1 l1) (hat : n ≤ 9223372036854775807) (hx : 0 ≤ x ∧ x ≤ 255) (hcut : -9223372036854775808 ≤ cut ∧ cut ≤ 9223372036854775807) :
    Calls Tryd.prog 6 #[.slice a0 len0 cap0, .slice a1 len1 cap1, .int .i64 (n : Int), .int .u8 x, .int .i64 cut] w fun e w' => e = .returned (.bool true) ∧ Below w.heap.size w w' := by
  have HB := Lib.hid (begun3_any w hT)
  have HS := fun w1 => Lib.hid (short_any a0 len0 cap0 80 w1 h0.le h0.nil (by omega))
  have HS1 := fun w1 => Lib.hid (short_any a1 len1 cap1 100 w1 h1.le h1.nil (by omega))
  have HT := Lib.hid hT
  have hs := h0.short 80
  have hs1 := h1.short 100
  have HR := Lib.hid hs
  have HR1 := Lib.hid hs1
  obtain ⟨p, hp⟩ : ∃ p, min len0 80 = p := ⟨_, rfl⟩
  have hp2 : p ≤ 80 := by omega
  simp only [hp] at HS HR
  obtain ⟨q1, hq⟩ : ∃ q, min len1 100 = q := ⟨_, rfl⟩
  have hq2 : q1 ≤ 100 := by omega
  simp only [hq] at HS1 HR1
  obtain ⟨L, hL⟩ : ∃ L, l0.take 80 = L := ⟨_, rfl⟩
  rw [hL] at HR
  obtain ⟨p1, hL1⟩ : ∃ L, l1.take 100 = L := ⟨_, rfl⟩
  rw [hL1] at HR1
  obtain ⟨T, hTg⟩ : ∃ T, tagOf L p1 = T := ⟨_, rfl⟩
  have hTl : T.length = 32 := by rw [← hTg]; exact tagOf_length _ _
  have hTy : Byte T := by rw [← hTg]; exact tagOf_byte _ _
  have HI32 := Lib.hid (show (Tryd.prog.info? 25).map (·.size) = some (u8s T).toArray.size by rw [u8s_size, hTl]; exact info32)
  have HTG := Lib.hid hTg
  have HTL := Lib.hid hTl
  have HTY := Lib.hid hTy
  have HC := fun (wx : World) (ax : Option Addr) (t : List Int) (nx cx : Nat) (hb : Below w.heap.size w wx) (hr : Row wx ax nx cx t) => Lib.hid (by have h := check_any a0 L p cap0 a1 p1 q1 cap1 ax t nx cx wx (HT.out.later hb) (HR.out.later hb) (HR1.out.later hb) hr (by omega) (by omega); rwa [HTG.out] at h)
  have hz := zero32
  clear hT h0 hs hp hL h1 hs1 hq hL1 hTg hTl hTy
  go_enter Tryd.func6, Tryd.ntmps6
  go_wp2_with fail
  refine HB.out.mono ?_
  rintro e w1 ⟨rfl, hb1⟩
  have KB1 := Lib.hid hb1
  clear hb1 HB
  go_wp2_with fail
  refine (HS _).out.mono ?_
  rintro e w' ⟨rfl, rfl⟩
  clear HS
  go_wp2_with fail
  refine (HS1 _).out.mono ?_
  rintro e w' ⟨rfl, rfl⟩
  clear HS1
  go_wp2_with fail
  have S2 := macSum_any a0 L p cap0 a1 p1 q1 cap1 w1 (HT.out.later KB1.out) (HR.out.later KB1.out) (HR1.out.later KB1.out) (by omega) (by omega)
  rw [HTG.out] at S2
  refine S2.mono ?_
  rintro e w2 ⟨rfl, h2⟩
  have B2 := Lib.hid (KB1.out.trans (h2.mono KB1.out.size))
  clear S2 h2 KB1
  obtain ⟨q, hq⟩ : ∃ q, n % 32 = q := ⟨_, rfl⟩
  have hq32 : q < 32 := by omega
  have hmod : (n : Int).tmod 32 = (q : Int) := by rw [Int.tmod_eq_emod_of_nonneg (by omega)]; omega
  have hge : (0 : Int) ≤ (n : Int) := by omega
  clear hq
  go_wp2_with (first
    | ((with_reducible show wpList _ _ _ _ _ _); refine wpList_store_as rfl 25 (.tmp 12) (.tmp 24) rfl w2.heap.size 0 (u8s T).toArray rfl rfl (by exact (Whole.new_ (l := u8s z32) rfl rfl).there _ _ (by rw [u8s_size, HTL.out]; exact Nat.le_refl 32)) HI32.out (u8s_one _) ?_; intro w3 hw3; have L3 := Lib.hid (laid hw3 rfl (by rw [u8s_length, HTL.out]; rfl)); clear hw3; have B3 := Lib.hid (B2.out.trans (L3.out.2.mono B2.out.size)); have hs3 := L3.out.1.lt)
    | ((with_reducible show wpList _ _ _ _ _ _); refine wpList_load_row rfl 25 (.tmp 12) rfl w2.heap.size rfl 25 (u8s T).toArray (0, 0) _ (by exact L3.out.1) Tryd.underlying25 rfl HI32.out ?_)
    | ((with_reducible show wpList _ _ _ _ _ _); refine wpList_store_as rfl 25 (.tmp 13) (.tmp 25) rfl w3.heap.size 0 (u8s T).toArray rfl rfl (by exact (Whole.new_ (l := u8s z32) rfl rfl).there _ _ (by rw [u8s_size, HTL.out]; exact Nat.le_refl 32)) HI32.out (u8s_one _) ?_; intro w4 hw4; have L4 := Lib.hid (laid hw4 rfl (by rw [u8s_length, HTL.out]; rfl)); clear hw4; have T4 := Lib.hid (L3.out.1.kept L4.out.2); have B4 := Lib.hid (B3.out.trans (L4.out.2.mono B3.out.size)); have c4 := (L4.out.1.at_ q).trans (u8s_at T (by rw [HTL.out]; exact hq32)); have f4 := L4.out.1.free q; have hxb : bits .xor .u8 (T.getD q 0) x = xb (T.getD q 0) x := rfl; obtain ⟨y, hy⟩ : ∃ y, xb (T.getD q 0) x = y := ⟨_, rfl⟩; rw [hy] at hxb; have HY := Lib.hid hy; clear hy; have hb0 := HTY.out.at (i := q) (by rw [HTL.out]; exact hq32); generalize T.getD q 0 = t0 at c4 hxb HY hb0)
    | fail)
  have hby := xb_byte hb0 (show 0 ≤ x ∧ x < 256 by omega)
  rw [HY.out] at hby
  obtain ⟨U, hU⟩ : ∃ U, T.set q y = U := ⟨_, rfl⟩
  have hUl : U.length = 32 := by rw [← hU, List.length_set]; exact HTL.out
  have hUy : Byte U := by
    rw [← hU]
    intro c hc
    rcases List.mem_or_eq_of_mem_set hc with h | h
    · exact HTY.out c h
    · rw [h]; exact hby
  have u5 := L4.out.1.put q (.int .u8 y)
  rw [show (u8s T).set q (.int .u8 y) = u8s (T.set q y) by simp [u8s, List.map_set], hU] at u5
  have t5 := T4.out.apart (p := ⟨w3.heap.size, q, none⟩) (by show w2.heap.size ≠ w3.heap.size; omega) (.int .u8 y)
  have b5 := B4.out.setCell (p := ⟨w3.heap.size, q, none⟩) (by show w.heap.size ≤ w3.heap.size; exact B3.out.size) (.int .u8 y)
  obtain ⟨w5, hw5⟩ : ∃ w5, w4.setCell ⟨w3.heap.size, q, none⟩ (.int .u8 y) = w5 := ⟨_, rfl⟩
  rw [hw5] at u5 t5 b5 ⊢
  clear hw5 hU hby c4 f4 hxb hb0 HY hmod hge
  obtain ⟨bv, hbv⟩ : ∃ bv, decide (U = T) = bv := ⟨_, rfl⟩
  have heq := fun wz => bytes_eq U T hUl HTL.out wz
  rw [hbv] at heq
  have hng := noGuard
  have HBV := Lib.hid hbv
  have HUL := Lib.hid hUl
  have HUY := Lib.hid hUy
  have HI32' := Lib.hid (show (Tryd.prog.info? 25).map (·.size) = some (u8s T).length by rw [u8s_length, HTL.out]; exact info32)
  have HI32U := Lib.hid (show (Tryd.prog.info? 25).map (·.size) = some (u8s U).length by rw [u8s_length, hUl]; exact info32)
  have C1 := HC w5.drew (some ⟨w2.heap.size, 0, none⟩) T 32 32 (below_draws b5 1) (Row.whole (w := w5.drew) t5 HTL.out HTY.out)
  rw [decide_eq_true (rfl : T = T)] at C1
  have T5 := Lib.hid t5
  have U5 := Lib.hid u5
  have B5 := Lib.hid b5
  clear t5 u5 b5 hbv hUl hUy hz L3 L4 T4 B3 B4 B2
  refine wp_region_any (by kernel_rfl) ?_
  change wpAny _ _ _ _ _ _ _ (World.drew _)
  refine wpAny_take (i := 0) (v := ?_) rfl (by kernel_rfl) (by kernel_rfl) (by kernel_rfl) (fun _ _ _ h => h) (Or.inl ⟨by rfl, ?_⟩) ?_
  rotate_left
  · intro w; go_simp
    first | done | with_reducible rfl
  refine wpAny_take (i := 1) (v := ?_) rfl (by kernel_rfl) (by kernel_rfl) (by kernel_rfl) (fun _ _ _ h => h) (Or.inl ⟨by rfl, ?_⟩) ?_
  rotate_left
  · intro w; go_simp
    first | done | with_reducible rfl
  refine wpAny_take (i := 2) (v := ?_) rfl (by kernel_rfl) (by kernel_rfl) (by kernel_rfl) (fun _ _ _ h => h) (Or.inl ⟨by rfl, ?_⟩) ?_
  rotate_left
  · intro w; go_simp
    first | done | with_reducible rfl
  refine wpAny_ready (rs := [3]) (by kernel_rfl) (by simp) ?_
  refine AllReady.cons rfl (fun KK hK => ?_) AllReady.nil
  go_simp
  refine C1.out.mono ?_
  rintro e wA ⟨rfl, hA⟩
  have TA := Lib.hid (Whole.kept (w := w5.drew) T5.out hA)
  have UA := Lib.hid (Whole.kept (w := w5.drew) U5.out hA)
  have BA := Lib.hid ((show Below w.heap.size w w5.drew from below_draws B5.out 1).trans (hA.mono (by exact B5.out.size)))
  have RTA := Lib.hid (range_whole TA.out HTL.out)
  have RUA := Lib.hid (range_whole UA.out HUL.out)
  have C2 := HC wA (some ⟨w3.heap.size, 0, none⟩) U 32 32 BA.out (Row.whole UA.out HUL.out HUY.out)
  rw [HBV.out] at C2
  clear hA C1 T5 U5 B5
  refine hK _ _ ?_; clear hK KK
  refine wpAny_take (i := 4) (v := ?_) rfl (by kernel_rfl) (by kernel_rfl) (by kernel_rfl) (fun _ _ _ h => h) (Or.inl ⟨by rfl, ?_⟩) ?_
  rotate_left
  · intro w; go_simp
    first | done | with_reducible rfl
  refine wpAny_take (i := 5) (v := ?_) rfl (by kernel_rfl) (by kernel_rfl) (by kernel_rfl) (fun _ _ _ h => h) (Or.inl ⟨by rfl, ?_⟩) ?_
  rotate_left
  · intro w; go_simp
    first | done | with_reducible rfl
  refine wpAny_take (i := 6) (v := ?_) rfl (by kernel_rfl) (by kernel_rfl) (by kernel_rfl) (fun _ _ _ h => h) (Or.inl ⟨by rfl, ?_⟩) ?_
  rotate_left
  · intro w; go_simp
    first | done | with_reducible rfl
  refine wpAny_take (i := 7) (v := ?_) rfl (by kernel_rfl) (by kernel_rfl) (by kernel_rfl) (fun _ _ _ h => h) (Or.inl ⟨by rfl, ?_⟩) ?_
  rotate_left
  · intro w; go_simp
    first | done | with_reducible rfl
  refine wpAny_ready (rs := [8, 9, 10]) (by kernel_rfl) (by simp) ?_
  refine (AllReady.cons rfl (fun KK hK => ?_) (ready_load rfl 25 (.tmp 13) rfl w3.heap.size 0 (by go_simp) (u8s U) _ RUA.out Tryd.underlying25 rfl HI32U.out (by rfl) ?_ (ready_load rfl 25 (.tmp 12) rfl w2.heap.size 0 (by go_simp) (u8s T) _ RTA.out Tryd.underlying25 rfl HI32'.out (by rfl) ?_ AllReady.nil)))
  · skip
    go_simp
    refine C2.out.mono ?_
    rintro e wB ⟨rfl, hB⟩
    have TB := Lib.hid (Whole.kept TA.out hB)
    have UB := Lib.hid (Whole.kept UA.out hB)
    have BB := Lib.hid (BA.out.trans (hB.mono BA.out.size))
    have RTB := Lib.hid (range_whole TB.out HTL.out)
    have RUB := Lib.hid (range_whole UB.out HUL.out)
    clear hB
    refine hK _ _ ?_; clear hK KK
    refine wpAny_ready (rs := [9, 10]) (by kernel_rfl) (by simp) ?_
    refine (ready_load rfl 25 (.tmp 13) rfl w3.heap.size 0 (by go_simp) (u8s U) _ RUB.out Tryd.underlying25 rfl HI32U.out (by rfl) ?_ (ready_load rfl 25 (.tmp 12) rfl w2.heap.size 0 (by go_simp) (u8s T) _ RTB.out Tryd.underlying25 rfl HI32'.out (by rfl) ?_ AllReady.nil))
    · skip
      refine wpAny_ready (rs := [10]) (by kernel_rfl) (by simp) ?_
      refine (ready_load rfl 25 (.tmp 12) rfl w2.heap.size 0 (by go_simp) (u8s T) _ RTB.out Tryd.underlying25 rfl HI32'.out (by rfl) ?_ AllReady.nil)
      · skip
        refine wpAny_take (i := 11) (v := ?_) rfl (by kernel_rfl) (by kernel_rfl) (by kernel_rfl) (fun _ _ _ h => h) (Or.inl ⟨by rfl, ?_⟩) ?_
        rotate_left
        · intro w; go_simp
          first | done | with_reducible rfl
        (try simp only [List.getElem_toArray, List.getElem_cons_succ, List.getElem_cons_zero, Act.put, List.setIfInBounds_toArray, List.set_cons_succ, List.set_cons_zero])
        refine wpAny_take (i := 12) (v := ?_) rfl (by kernel_rfl) (by kernel_rfl) (by kernel_rfl) (fun _ _ _ h => h) (Or.inl ⟨by rfl, ?_⟩) ?_
        rotate_left
        · intro w; go_simp
          first | done | with_reducible rfl
        (try simp only [List.getElem_toArray, List.getElem_cons_succ, List.getElem_cons_zero, Act.put, List.setIfInBounds_toArray, List.set_cons_succ, List.set_cons_zero])
        refine wpAny_take (i := 13) (v := ?_) rfl (by kernel_rfl) (by kernel_rfl) (by kernel_rfl) (fun _ _ _ h => h) (Or.inl ⟨by rfl, ?_⟩) ?_
        rotate_left
        · intro w; go_simp
          first | done | with_reducible rfl
        (try simp only [List.getElem_toArray, List.getElem_cons_succ, List.getElem_cons_zero, Act.put, List.setIfInBounds_toArray, List.set_cons_succ, List.set_cons_zero])
        refine wpAny_take (i := 14) (v := ?_) rfl (by kernel_rfl) (by kernel_rfl) (by kernel_rfl) (fun _ _ _ h => h) (Or.inl ⟨by rfl, ?_⟩) ?_
        rotate_left
        · intro w; go_simp
          first | done | with_reducible rfl
        (try simp only [List.getElem_toArray, List.getElem_cons_succ, List.getElem_cons_zero, Act.put, List.setIfInBounds_toArray, List.set_cons_succ, List.set_cons_zero])
        refine wpAny_take (i := 15) (v := ?_) rfl (by kernel_rfl) (by kernel_rfl) (by kernel_rfl) (fun _ _ _ h => h) (Or.inl ⟨by rfl, ?_⟩) ?_
        rotate_left
        · intro w; go_simp
          first | done | with_reducible rfl
        (try simp only [List.getElem_toArray, List.getElem_cons_succ, List.getElem_cons_zero, Act.put, List.setIfInBounds_toArray, List.set_cons_succ, List.set_cons_zero])
        refine wpAny_take (i := 16) (v := ?_) rfl (by kernel_rfl) (by kernel_rfl) (by kernel_rfl) (fun _ _ _ h => h) (Or.inl ⟨by rfl, ?_⟩) ?_
        rotate_left
        · intro w; go_simp
          first | done | with_reducible rfl
        (try simp only [List.getElem_toArray, List.getElem_cons_succ, List.getElem_cons_zero, Act.put, List.setIfInBounds_toArray, List.set_cons_succ, List.set_cons_zero])
        refine wpAny_take (i := 17) (v := ?_) rfl (by kernel_rfl) (by kernel_rfl) (by kernel_rfl) (fun _ _ _ h => h) (Or.inl ⟨by rfl, ?_⟩) ?_
        rotate_left
        · intro w; go_simp
          first | done | with_reducible rfl
        (try simp only [List.getElem_toArray, List.getElem_cons_succ, List.getElem_cons_zero, Act.put, List.setIfInBounds_toArray, List.set_cons_succ, List.set_cons_zero])
        clear C2 RTA RUA RTB RUB heq TA UA BA UB
        refine wpAny_ready (rs := [18]) (by kernel_rfl) (by simp) ?_
        refine AllReady.cons rfl (fun KK hK => ?_) AllReady.nil
        go_simp
        refine hK _ _ ?_; clear hK KK
        (try simp only [List.getElem_toArray, List.getElem_cons_succ, List.getElem_cons_zero, Act.put, List.setIfInBounds_toArray, List.set_cons_succ, List.set_cons_zero])
        obtain ⟨c, wD, gA, vD, runD, hvD, ownD, belD, -⟩ := tail_append (w := wB) w2.heap.size T HTL.out HTY.out (by exact TB.out)
        have TD := Lib.hid (Whole.kept TB.out belD)
        have BD := Lib.hid (BB.out.trans (belD.mono BB.out.size))
        have C3 := HC wD _ _ _ _ BD.out ownD
        rw [decide_eq_false (show ¬ T ++ [0] = T from fun e => by have h := congrArg List.length e; rw [List.length_append] at h; simp at h)] at C3
        have RunD := Lib.hid runD
        clear belD ownD runD BB
        refine wpAny_ready (rs := [19]) (by kernel_rfl) (by simp) ?_
        refine AllReady.cons rfl (fun KK hK => ?_) AllReady.nil
        refine step_append_run (.tmp 52) (.tmp 53) _ _ (by rfl) rfl rfl rfl rfl RunD.out ?_
        refine hK _ _ ?_; clear hK KK RunD
        subst hvD
        (try simp only [List.getElem_toArray, List.getElem_cons_succ, List.getElem_cons_zero, Act.put, List.setIfInBounds_toArray, List.set_cons_succ, List.set_cons_zero])
        refine wpAny_ready (rs := [20]) (by kernel_rfl) (by simp) ?_
        refine AllReady.cons rfl (fun KK hK => ?_) AllReady.nil
        go_simp
        refine C3.out.mono ?_
        rintro e wE ⟨rfl, hE⟩
        have TE := Lib.hid (Whole.kept TD.out hE)
        have BE := Lib.hid (BD.out.trans (hE.mono BD.out.size))
        clear hE C3 TD BD TB
        refine hK _ _ ?_; clear hK KK
        (try simp only [List.getElem_toArray, List.getElem_cons_succ, List.getElem_cons_zero, Act.put, List.setIfInBounds_toArray, List.set_cons_succ, List.set_cons_zero])
        refine wpAny_take (i := 21) (v := ?_) rfl (by kernel_rfl) (by kernel_rfl) (by kernel_rfl) (fun _ _ _ h => h) (Or.inl ⟨by rfl, ?_⟩) ?_
        rotate_left
        · intro w; go_simp
          first | done | with_reducible rfl
        (try simp only [List.getElem_toArray, List.getElem_cons_succ, List.getElem_cons_zero, Act.put, List.setIfInBounds_toArray, List.set_cons_succ, List.set_cons_zero])
        refine wpAny_take (i := 22) (v := ?_) rfl (by kernel_rfl) (by kernel_rfl) (by kernel_rfl) (fun _ _ _ h => h) (Or.inl ⟨by rfl, ?_⟩) ?_
        rotate_left
        · intro w; go_simp
          first | done | with_reducible rfl
        (try simp only [List.getElem_toArray, List.getElem_cons_succ, List.getElem_cons_zero, Act.put, List.setIfInBounds_toArray, List.set_cons_succ, List.set_cons_zero])
        refine wpAny_take (i := 23) (v := ?_) rfl (by kernel_rfl) (by kernel_rfl) (by kernel_rfl) (fun _ _ _ h => h) (Or.inl ⟨by rfl, ?_⟩) ?_
        rotate_left
        · intro w; go_simp
          first | done | with_reducible rfl
        (try simp only [List.getElem_toArray, List.getElem_cons_succ, List.getElem_cons_zero, Act.put, List.setIfInBounds_toArray, List.set_cons_succ, List.set_cons_zero])
        refine wpAny_done (by kernel_rfl) ?_ _
        (try simp only [List.getElem_toArray, List.getElem_cons_succ, List.getElem_cons_zero, Act.put, List.setIfInBounds_toArray, List.set_cons_succ, List.set_cons_zero])
        rcases (show cut < 0 ∨ (¬ cut < 0 ∧ 31 < cut) ∨ (0 ≤ cut ∧ cut ≤ 31) by omega) with k1 | ⟨k1, k2⟩ | ⟨k1, k2⟩
        · go_wp2
          go_ret
          exact ⟨rfl, BE.out⟩
        · go_wp2
          go_ret
          exact ⟨rfl, BE.out⟩
        · obtain ⟨k, rfl⟩ : ∃ k : Nat, cut = (k : Int) := ⟨cut.toNat, by omega⟩
          have k3 : ¬ (k : Int) < 0 := by omega
          have k4 : ¬ (31 : Int) < (k : Int) := by omega
          have hfr := fun wz => run_front32 w2.heap.size k (by omega) wz
          have C4 := HC wE (some ⟨w2.heap.size, 0, none⟩) (T.take k) k 32 BE.out (Row.of_whole TE.out k (by rw [HTL.out]; omega) rfl (by omega) (by omega) HTY.out)
          rw [decide_eq_false (show ¬ T.take k = T from fun e => by have h := congrArg List.length e; rw [List.length_take, HTL.out] at h; omega)] at C4
          clear k1 k2
          go_wp2_with fail
          refine C4.out.mono ?_
          rintro e wF ⟨rfl, hF⟩
          have BF := Lib.hid (BE.out.trans (hF.mono BE.out.size))
          clear hF C4
          go_wp2
          go_ret
          exact ⟨rfl, BF.out⟩
    · skip
      refine wpAny_ready (rs := [9]) (by kernel_rfl) (by simp) ?_
      refine (ready_load rfl 25 (.tmp 13) rfl w3.heap.size 0 (by go_simp) (u8s U) _ RUB.out Tryd.underlying25 rfl HI32U.out (by rfl) ?_ AllReady.nil)
      · skip
        refine wpAny_take (i := 11) (v := ?_) rfl (by kernel_rfl) (by kernel_rfl) (by kernel_rfl) (fun _ _ _ h => h) (Or.inl ⟨by rfl, ?_⟩) ?_
        rotate_left
        · intro w; go_simp
          first | done | with_reducible rfl
        (try simp only [List.getElem_toArray, List.getElem_cons_succ, List.getElem_cons_zero, Act.put, List.setIfInBounds_toArray, List.set_cons_succ, List.set_cons_zero])
        refine wpAny_take (i := 12) (v := ?_) rfl (by kernel_rfl) (by kernel_rfl) (by kernel_rfl) (fun _ _ _ h => h) (Or.inl ⟨by rfl, ?_⟩) ?_
        rotate_left
        · intro w; go_simp
          first | done | with_reducible rfl
        (try simp only [List.getElem_toArray, List.getElem_cons_succ, List.getElem_cons_zero, Act.put, List.setIfInBounds_toArray, List.set_cons_succ, List.set_cons_zero])
        refine wpAny_take (i := 13) (v := ?_) rfl (by kernel_rfl) (by kernel_rfl) (by kernel_rfl) (fun _ _ _ h => h) (Or.inl ⟨by rfl, ?_⟩) ?_
        rotate_left
        · intro w; go_simp
          first | done | with_reducible rfl
        (try simp only [List.getElem_toArray, List.getElem_cons_succ, List.getElem_cons_zero, Act.put, List.setIfInBounds_toArray, List.set_cons_succ, List.set_cons_zero])
        refine wpAny_take (i := 14) (v := ?_) rfl (by kernel_rfl) (by kernel_rfl) (by kernel_rfl) (fun _ _ _ h => h) (Or.inl ⟨by rfl, ?_⟩) ?_
        rotate_left
        · intro w; go_simp
          first | done | with_reducible rfl
        (try simp only [List.getElem_toArray, List.getElem_cons_succ, List.getElem_cons_zero, Act.put, List.setIfInBounds_toArray, List.set_cons_succ, List.set_cons_zero])
        refine wpAny_take (i := 15) (v := ?_) rfl (by kernel_rfl) (by kernel_rfl) (by kernel_rfl) (fun _ _ _ h => h) (Or.inl ⟨by rfl, ?_⟩) ?_
        rotate_left
        · intro w; go_simp
          first | done | with_reducible rfl
        (try simp only [List.getElem_toArray, List.getElem_cons_succ, List.getElem_cons_zero, Act.put, List.setIfInBounds_toArray, List.set_cons_succ, List.set_cons_zero])
        refine wpAny_take (i := 16) (v := ?_) rfl (by kernel_rfl) (by kernel_rfl) (by kernel_rfl) (fun _ _ _ h => h) (Or.inl ⟨by rfl, ?_⟩) ?_
        rotate_left
        · intro w; go_simp
          first | done | with_reducible rfl
        (try simp only [List.getElem_toArray, List.getElem_cons_succ, List.getElem_cons_zero, Act.put, List.setIfInBounds_toArray, List.set_cons_succ, List.set_cons_zero])
        refine wpAny_take (i := 17) (v := ?_) rfl (by kernel_rfl) (by kernel_rfl) (by kernel_rfl) (fun _ _ _ h => h) (Or.inl ⟨by rfl, ?_⟩) ?_
        rotate_left
        · intro w; go_simp
          first | done | with_reducible rfl
        (try simp only [List.getElem_toArray, List.getElem_cons_succ, List.getElem_cons_zero, Act.put, List.setIfInBounds_toArray, List.set_cons_succ, List.set_cons_zero])
        clear C2 RTA RUA RTB RUB heq TA UA BA UB
        refine wpAny_ready (rs := [18]) (by kernel_rfl) (by simp) ?_
        refine AllReady.cons rfl (fun KK hK => ?_) AllReady.nil
        go_simp
        refine hK _ _ ?_; clear hK KK
        (try simp only [List.getElem_toArray, List.getElem_cons_succ, List.getElem_cons_zero, Act.put, List.setIfInBounds_toArray, List.set_cons_succ, List.set_cons_zero])
        obtain ⟨c, wD, gA, vD, runD, hvD, ownD, belD, -⟩ := tail_append (w := wB) w2.heap.size T HTL.out HTY.out (by exact TB.out)
        have TD := Lib.hid (Whole.kept TB.out belD)
        have BD := Lib.hid (BB.out.trans (belD.mono BB.out.size))
        have C3 := HC wD _ _ _ _ BD.out ownD
        rw [decide_eq_false (show ¬ T ++ [0] = T from fun e => by have h := congrArg List.length e; rw [List.length_append] at h; simp at h)] at C3
        have RunD := Lib.hid runD
        clear belD ownD runD BB
        refine wpAny_ready (rs := [19]) (by kernel_rfl) (by simp) ?_
        refine AllReady.cons rfl (fun KK hK => ?_) AllReady.nil
        refine step_append_run (.tmp 52) (.tmp 53) _ _ (by rfl) rfl rfl rfl rfl RunD.out ?_
        refine hK _ _ ?_; clear hK KK RunD
        subst hvD
        (try simp only [List.getElem_toArray, List.getElem_cons_succ, List.getElem_cons_zero, Act.put, List.setIfInBounds_toArray, List.set_cons_succ, List.set_cons_zero])
        refine wpAny_ready (rs := [20]) (by kernel_rfl) (by simp) ?_
        refine AllReady.cons rfl (fun KK hK => ?_) AllReady.nil
        go_simp
        refine C3.out.mono ?_
        rintro e wE ⟨rfl, hE⟩
        have TE := Lib.hid (Whole.kept TD.out hE)
        have BE := Lib.hid (BD.out.trans (hE.mono BD.out.size))
        clear hE C3 TD BD TB
        refine hK _ _ ?_; clear hK KK
        (try simp only [List.getElem_toArray, List.getElem_cons_succ, List.getElem_cons_zero, Act.put, List.setIfInBounds_toArray, List.set_cons_succ, List.set_cons_zero])
        refine wpAny_take (i := 21) (v := ?_) rfl (by kernel_rfl) (by kernel_rfl) (by kernel_rfl) (fun _ _ _ h => h) (Or.inl ⟨by rfl, ?_⟩) ?_
        rotate_left
        · intro w; go_simp
          first | done | with_reducible rfl
        (try simp only [List.getElem_toArray, List.getElem_cons_succ, List.getElem_cons_zero, Act.put, List.setIfInBounds_toArray, List.set_cons_succ, List.set_cons_zero])
        refine wpAny_take (i := 22) (v := ?_) rfl (by kernel_rfl) (by kernel_rfl) (by kernel_rfl) (fun _ _ _ h => h) (Or.inl ⟨by rfl, ?_⟩) ?_
        rotate_left
        · intro w; go_simp
          first | done | with_reducible rfl
        (try simp only [List.getElem_toArray, List.getElem_cons_succ, List.getElem_cons_zero, Act.put, List.setIfInBounds_toArray, List.set_cons_succ, List.set_cons_zero])
        refine wpAny_take (i := 23) (v := ?_) rfl (by kernel_rfl) (by kernel_rfl) (by kernel_rfl) (fun _ _ _ h => h) (Or.inl ⟨by rfl, ?_⟩) ?_
        rotate_left
        · intro w; go_simp
          first | done | with_reducible rfl
        (try simp only [List.getElem_toArray, List.getElem_cons_succ, List.getElem_cons_zero, Act.put, List.setIfInBounds_toArray, List.set_cons_succ, List.set_cons_zero])
        refine wpAny_done (by kernel_rfl) ?_ _
        (try simp only [List.getElem_toArray, List.getElem_cons_succ, List.getElem_cons_zero, Act.put, List.setIfInBounds_toArray, List.set_cons_succ, List.set_cons_zero])
        rcases (show cut < 0 ∨ (¬ cut < 0 ∧ 31 < cut) ∨ (0 ≤ cut ∧ cut ≤ 31) by omega) with k1 | ⟨k1, k2⟩ | ⟨k1, k2⟩
        · go_wp2
          go_ret
          exact ⟨rfl, BE.out⟩
        · go_wp2
          go_ret
          exact ⟨rfl, BE.out⟩
        · obtain ⟨k, rfl⟩ : ∃ k : Nat, cut = (k : Int) := ⟨cut.toNat, by omega⟩
          have k3 : ¬ (k : Int) < 0 := by omega
          have k4 : ¬ (31 : Int) < (k : Int) := by omega
          have hfr := fun wz => run_front32 w2.heap.size k (by omega) wz
          have C4 := HC wE (some ⟨w2.heap.size, 0, none⟩) (T.take k) k 32 BE.out (Row.of_whole TE.out k (by rw [HTL.out]; omega) rfl (by omega) (by omega) HTY.out)
          rw [decide_eq_false (show ¬ T.take k = T from fun e => by have h := congrArg List.length e; rw [List.length_take, HTL.out] at h; omega)] at C4
          clear k1 k2
          go_wp2_with fail
          refine C4.out.mono ?_
          rintro e wF ⟨rfl, hF⟩
          have BF := Lib.hid (BE.out.trans (hF.mono BE.out.size))
          clear hF C4
          go_wp2
          go_ret
          exact ⟨rfl, BF.out⟩
  · skip
    refine wpAny_ready (rs := [8, 10]) (by kernel_rfl) (by simp) ?_
    refine (AllReady.cons rfl (fun KK hK => ?_) (ready_load rfl 25 (.tmp 12) rfl w2.heap.size 0 (by go_simp) (u8s T) _ RTA.out Tryd.underlying25 rfl HI32'.out (by rfl) ?_ AllReady.nil))
    · skip
      go_simp
      refine C2.out.mono ?_
      rintro e wB ⟨rfl, hB⟩
      have TB := Lib.hid (Whole.kept TA.out hB)
      have UB := Lib.hid (Whole.kept UA.out hB)
      have BB := Lib.hid (BA.out.trans (hB.mono BA.out.size))
      have RTB := Lib.hid (range_whole TB.out HTL.out)
      have RUB := Lib.hid (range_whole UB.out HUL.out)
      clear hB
      refine hK _ _ ?_; clear hK KK
      refine wpAny_ready (rs := [10]) (by kernel_rfl) (by simp) ?_
      refine (ready_load rfl 25 (.tmp 12) rfl w2.heap.size 0 (by go_simp) (u8s T) _ RTB.out Tryd.underlying25 rfl HI32'.out (by rfl) ?_ AllReady.nil)
      · skip
        refine wpAny_take (i := 11) (v := ?_) rfl (by kernel_rfl) (by kernel_rfl) (by kernel_rfl) (fun _ _ _ h => h) (Or.inl ⟨by rfl, ?_⟩) ?_
        rotate_left
        · intro w; go_simp
          first | done | with_reducible rfl
        (try simp only [List.getElem_toArray, List.getElem_cons_succ, List.getElem_cons_zero, Act.put, List.setIfInBounds_toArray, List.set_cons_succ, List.set_cons_zero])
        refine wpAny_take (i := 12) (v := ?_) rfl (by kernel_rfl) (by kernel_rfl) (by kernel_rfl) (fun _ _ _ h => h) (Or.inl ⟨by rfl, ?_⟩) ?_
        rotate_left
        · intro w; go_simp
          first | done | with_reducible rfl
        (try simp only [List.getElem_toArray, List.getElem_cons_succ, List.getElem_cons_zero, Act.put, List.setIfInBounds_toArray, List.set_cons_succ, List.set_cons_zero])
        refine wpAny_take (i := 13) (v := ?_) rfl (by kernel_rfl) (by kernel_rfl) (by kernel_rfl) (fun _ _ _ h => h) (Or.inl ⟨by rfl, ?_⟩) ?_
        rotate_left
        · intro w; go_simp
          first | done | with_reducible rfl
        (try simp only [List.getElem_toArray, List.getElem_cons_succ, List.getElem_cons_zero, Act.put, List.setIfInBounds_toArray, List.set_cons_succ, List.set_cons_zero])
        refine wpAny_take (i := 14) (v := ?_) rfl (by kernel_rfl) (by kernel_rfl) (by kernel_rfl) (fun _ _ _ h => h) (Or.inl ⟨by rfl, ?_⟩) ?_
        rotate_left
        · intro w; go_simp
          first | done | with_reducible rfl
        (try simp only [List.getElem_toArray, List.getElem_cons_succ, List.getElem_cons_zero, Act.put, List.setIfInBounds_toArray, List.set_cons_succ, List.set_cons_zero])
        refine wpAny_take (i := 15) (v := ?_) rfl (by kernel_rfl) (by kernel_rfl) (by kernel_rfl) (fun _ _ _ h => h) (Or.inl ⟨by rfl, ?_⟩) ?_
        rotate_left
        · intro w; go_simp
          first | done | with_reducible rfl
        (try simp only [List.getElem_toArray, List.getElem_cons_succ, List.getElem_cons_zero, Act.put, List.setIfInBounds_toArray, List.set_cons_succ, List.set_cons_zero])
        refine wpAny_take (i := 16) (v := ?_) rfl (by kernel_rfl) (by kernel_rfl) (by kernel_rfl) (fun _ _ _ h => h) (Or.inl ⟨by rfl, ?_⟩) ?_
        rotate_left
        · intro w; go_simp
          first | done | with_reducible rfl
        (try simp only [List.getElem_toArray, List.getElem_cons_succ, List.getElem_cons_zero, Act.put, List.setIfInBounds_toArray, List.set_cons_succ, List.set_cons_zero])
        refine wpAny_take (i := 17) (v := ?_) rfl (by kernel_rfl) (by kernel_rfl) (by kernel_rfl) (fun _ _ _ h => h) (Or.inl ⟨by rfl, ?_⟩) ?_
        rotate_left
        · intro w; go_simp
          first | done | with_reducible rfl
        (try simp only [List.getElem_toArray, List.getElem_cons_succ, List.getElem_cons_zero, Act.put, List.setIfInBounds_toArray, List.set_cons_succ, List.set_cons_zero])
        clear C2 RTA RUA RTB RUB heq TA UA BA UB
        refine wpAny_ready (rs := [18]) (by kernel_rfl) (by simp) ?_
        refine AllReady.cons rfl (fun KK hK => ?_) AllReady.nil
        go_simp
        refine hK _ _ ?_; clear hK KK
        (try simp only [List.getElem_toArray, List.getElem_cons_succ, List.getElem_cons_zero, Act.put, List.setIfInBounds_toArray, List.set_cons_succ, List.set_cons_zero])
        obtain ⟨c, wD, gA, vD, runD, hvD, ownD, belD, -⟩ := tail_append (w := wB) w2.heap.size T HTL.out HTY.out (by exact TB.out)
        have TD := Lib.hid (Whole.kept TB.out belD)
        have BD := Lib.hid (BB.out.trans (belD.mono BB.out.size))
        have C3 := HC wD _ _ _ _ BD.out ownD
        rw [decide_eq_false (show ¬ T ++ [0] = T from fun e => by have h := congrArg List.length e; rw [List.length_append] at h; simp at h)] at C3
        have RunD := Lib.hid runD
        clear belD ownD runD BB
        refine wpAny_ready (rs := [19]) (by kernel_rfl) (by simp) ?_
        refine AllReady.cons rfl (fun KK hK => ?_) AllReady.nil
        refine step_append_run (.tmp 52) (.tmp 53) _ _ (by rfl) rfl rfl rfl rfl RunD.out ?_
        refine hK _ _ ?_; clear hK KK RunD
        subst hvD
        (try simp only [List.getElem_toArray, List.getElem_cons_succ, List.getElem_cons_zero, Act.put, List.setIfInBounds_toArray, List.set_cons_succ, List.set_cons_zero])
        refine wpAny_ready (rs := [20]) (by kernel_rfl) (by simp) ?_
        refine AllReady.cons rfl (fun KK hK => ?_) AllReady.nil
        go_simp
        refine C3.out.mono ?_
        rintro e wE ⟨rfl, hE⟩
        have TE := Lib.hid (Whole.kept TD.out hE)
        have BE := Lib.hid (BD.out.trans (hE.mono BD.out.size))
        clear hE C3 TD BD TB
        refine hK _ _ ?_; clear hK KK
        (try simp only [List.getElem_toArray, List.getElem_cons_succ, List.getElem_cons_zero, Act.put, List.setIfInBounds_toArray, List.set_cons_succ, List.set_cons_zero])
        refine wpAny_take (i := 21) (v := ?_) rfl (by kernel_rfl) (by kernel_rfl) (by kernel_rfl) (fun _ _ _ h => h) (Or.inl ⟨by rfl, ?_⟩) ?_
        rotate_left
        · intro w; go_simp
          first | done | with_reducible rfl
        (try simp only [List.getElem_toArray, List.getElem_cons_succ, List.getElem_cons_zero, Act.put, List.setIfInBounds_toArray, List.set_cons_succ, List.set_cons_zero])
        refine wpAny_take (i := 22) (v := ?_) rfl (by kernel_rfl) (by kernel_rfl) (by kernel_rfl) (fun _ _ _ h => h) (Or.inl ⟨by rfl, ?_⟩) ?_
        rotate_left
        · intro w; go_simp
          first | done | with_reducible rfl
        (try simp only [List.getElem_toArray, List.getElem_cons_succ, List.getElem_cons_zero, Act.put, List.setIfInBounds_toArray, List.set_cons_succ, List.set_cons_zero])
        refine wpAny_take (i := 23) (v := ?_) rfl (by kernel_rfl) (by kernel_rfl) (by kernel_rfl) (fun _ _ _ h => h) (Or.inl ⟨by rfl, ?_⟩) ?_
        rotate_left
        · intro w; go_simp
          first | done | with_reducible rfl
        (try simp only [List.getElem_toArray, List.getElem_cons_succ, List.getElem_cons_zero, Act.put, List.setIfInBounds_toArray, List.set_cons_succ, List.set_cons_zero])
        refine wpAny_done (by kernel_rfl) ?_ _
        (try simp only [List.getElem_toArray, List.getElem_cons_succ, List.getElem_cons_zero, Act.put, List.setIfInBounds_toArray, List.set_cons_succ, List.set_cons_zero])
        rcases (show cut < 0 ∨ (¬ cut < 0 ∧ 31 < cut) ∨ (0 ≤ cut ∧ cut ≤ 31) by omega) with k1 | ⟨k1, k2⟩ | ⟨k1, k2⟩
        · go_wp2
          go_ret
          exact ⟨rfl, BE.out⟩
        · go_wp2
          go_ret
          exact ⟨rfl, BE.out⟩
        · obtain ⟨k, rfl⟩ : ∃ k : Nat, cut = (k : Int) := ⟨cut.toNat, by omega⟩
          have k3 : ¬ (k : Int) < 0 := by omega
          have k4 : ¬ (31 : Int) < (k : Int) := by omega
          have hfr := fun wz => run_front32 w2.heap.size k (by omega) wz
          have C4 := HC wE (some ⟨w2.heap.size, 0, none⟩) (T.take k) k 32 BE.out (Row.of_whole TE.out k (by rw [HTL.out]; omega) rfl (by omega) (by omega) HTY.out)
          rw [decide_eq_false (show ¬ T.take k = T from fun e => by have h := congrArg List.length e; rw [List.length_take, HTL.out] at h; omega)] at C4
          clear k1 k2
          go_wp2_with fail
          refine C4.out.mono ?_
          rintro e wF ⟨rfl, hF⟩
          have BF := Lib.hid (BE.out.trans (hF.mono BE.out.size))
          clear hF C4
          go_wp2
          go_ret
          exact ⟨rfl, BF.out⟩
    · skip
      refine wpAny_take (i := 11) (v := ?_) rfl (by kernel_rfl) (by kernel_rfl) (by kernel_rfl) (fun _ _ _ h => h) (Or.inl ⟨by rfl, ?_⟩) ?_
      rotate_left
      · intro w; go_simp
        first | done | with_reducible rfl
      (try simp only [List.getElem_toArray, List.getElem_cons_succ, List.getElem_cons_zero, Act.put, List.setIfInBounds_toArray, List.set_cons_succ, List.set_cons_zero])
      refine wpAny_ready (rs := [8]) (by kernel_rfl) (by simp) ?_
      refine (AllReady.cons rfl (fun KK hK => ?_) AllReady.nil)
      · skip
        go_simp
        refine C2.out.mono ?_
        rintro e wB ⟨rfl, hB⟩
        have TB := Lib.hid (Whole.kept TA.out hB)
        have UB := Lib.hid (Whole.kept UA.out hB)
        have BB := Lib.hid (BA.out.trans (hB.mono BA.out.size))
        have RTB := Lib.hid (range_whole TB.out HTL.out)
        have RUB := Lib.hid (range_whole UB.out HUL.out)
        clear hB
        refine hK _ _ ?_; clear hK KK
        refine wpAny_take (i := 12) (v := ?_) rfl (by kernel_rfl) (by kernel_rfl) (by kernel_rfl) (fun _ _ _ h => h) (Or.inl ⟨by rfl, ?_⟩) ?_
        rotate_left
        · intro w; go_simp
          first | done | with_reducible rfl
        (try simp only [List.getElem_toArray, List.getElem_cons_succ, List.getElem_cons_zero, Act.put, List.setIfInBounds_toArray, List.set_cons_succ, List.set_cons_zero])
        refine wpAny_take (i := 13) (v := ?_) rfl (by kernel_rfl) (by kernel_rfl) (by kernel_rfl) (fun _ _ _ h => h) (Or.inl ⟨by rfl, ?_⟩) ?_
        rotate_left
        · intro w; go_simp
          first | done | with_reducible rfl
        (try simp only [List.getElem_toArray, List.getElem_cons_succ, List.getElem_cons_zero, Act.put, List.setIfInBounds_toArray, List.set_cons_succ, List.set_cons_zero])
        refine wpAny_take (i := 14) (v := ?_) rfl (by kernel_rfl) (by kernel_rfl) (by kernel_rfl) (fun _ _ _ h => h) (Or.inl ⟨by rfl, ?_⟩) ?_
        rotate_left
        · intro w; go_simp
          first | done | with_reducible rfl
        (try simp only [List.getElem_toArray, List.getElem_cons_succ, List.getElem_cons_zero, Act.put, List.setIfInBounds_toArray, List.set_cons_succ, List.set_cons_zero])
        refine wpAny_take (i := 15) (v := ?_) rfl (by kernel_rfl) (by kernel_rfl) (by kernel_rfl) (fun _ _ _ h => h) (Or.inl ⟨by rfl, ?_⟩) ?_
        rotate_left
        · intro w; go_simp
          first | done | with_reducible rfl
        (try simp only [List.getElem_toArray, List.getElem_cons_succ, List.getElem_cons_zero, Act.put, List.setIfInBounds_toArray, List.set_cons_succ, List.set_cons_zero])
        refine wpAny_take (i := 16) (v := ?_) rfl (by kernel_rfl) (by kernel_rfl) (by kernel_rfl) (fun _ _ _ h => h) (Or.inl ⟨by rfl, ?_⟩) ?_
        rotate_left
        · intro w; go_simp
          first | done | with_reducible rfl
        (try simp only [List.getElem_toArray, List.getElem_cons_succ, List.getElem_cons_zero, Act.put, List.setIfInBounds_toArray, List.set_cons_succ, List.set_cons_zero])
        refine wpAny_take (i := 17) (v := ?_) rfl (by kernel_rfl) (by kernel_rfl) (by kernel_rfl) (fun _ _ _ h => h) (Or.inl ⟨by rfl, ?_⟩) ?_
        rotate_left
        · intro w; go_simp
          first | done | with_reducible rfl
        (try simp only [List.getElem_toArray, List.getElem_cons_succ, List.getElem_cons_zero, Act.put, List.setIfInBounds_toArray, List.set_cons_succ, List.set_cons_zero])
        clear C2 RTA RUA RTB RUB heq TA UA BA UB
        refine wpAny_ready (rs := [18]) (by kernel_rfl) (by simp) ?_
        refine AllReady.cons rfl (fun KK hK => ?_) AllReady.nil
        go_simp
        refine hK _ _ ?_; clear hK KK
        (try simp only [List.getElem_toArray, List.getElem_cons_succ, List.getElem_cons_zero, Act.put, List.setIfInBounds_toArray, List.set_cons_succ, List.set_cons_zero])
        obtain ⟨c, wD, gA, vD, runD, hvD, ownD, belD, -⟩ := tail_append (w := wB) w2.heap.size T HTL.out HTY.out (by exact TB.out)
        have TD := Lib.hid (Whole.kept TB.out belD)
        have BD := Lib.hid (BB.out.trans (belD.mono BB.out.size))
        have C3 := HC wD _ _ _ _ BD.out ownD
        rw [decide_eq_false (show ¬ T ++ [0] = T from fun e => by have h := congrArg List.length e; rw [List.length_append] at h; simp at h)] at C3
        have RunD := Lib.hid runD
        clear belD ownD runD BB
        refine wpAny_ready (rs := [19]) (by kernel_rfl) (by simp) ?_
        refine AllReady.cons rfl (fun KK hK => ?_) AllReady.nil
        refine step_append_run (.tmp 52) (.tmp 53) _ _ (by rfl) rfl rfl rfl rfl RunD.out ?_
        refine hK _ _ ?_; clear hK KK RunD
        subst hvD
        (try simp only [List.getElem_toArray, List.getElem_cons_succ, List.getElem_cons_zero, Act.put, List.setIfInBounds_toArray, List.set_cons_succ, List.set_cons_zero])
        refine wpAny_ready (rs := [20]) (by kernel_rfl) (by simp) ?_
        refine AllReady.cons rfl (fun KK hK => ?_) AllReady.nil
        go_simp
        refine C3.out.mono ?_
        rintro e wE ⟨rfl, hE⟩
        have TE := Lib.hid (Whole.kept TD.out hE)
        have BE := Lib.hid (BD.out.trans (hE.mono BD.out.size))
        clear hE C3 TD BD TB
        refine hK _ _ ?_; clear hK KK
        (try simp only [List.getElem_toArray, List.getElem_cons_succ, List.getElem_cons_zero, Act.put, List.setIfInBounds_toArray, List.set_cons_succ, List.set_cons_zero])
        refine wpAny_take (i := 21) (v := ?_) rfl (by kernel_rfl) (by kernel_rfl) (by kernel_rfl) (fun _ _ _ h => h) (Or.inl ⟨by rfl, ?_⟩) ?_
        rotate_left
        · intro w; go_simp
          first | done | with_reducible rfl
        (try simp only [List.getElem_toArray, List.getElem_cons_succ, List.getElem_cons_zero, Act.put, List.setIfInBounds_toArray, List.set_cons_succ, List.set_cons_zero])
        refine wpAny_take (i := 22) (v := ?_) rfl (by kernel_rfl) (by kernel_rfl) (by kernel_rfl) (fun _ _ _ h => h) (Or.inl ⟨by rfl, ?_⟩) ?_
        rotate_left
        · intro w; go_simp
          first | done | with_reducible rfl
        (try simp only [List.getElem_toArray, List.getElem_cons_succ, List.getElem_cons_zero, Act.put, List.setIfInBounds_toArray, List.set_cons_succ, List.set_cons_zero])
        refine wpAny_take (i := 23) (v := ?_) rfl (by kernel_rfl) (by kernel_rfl) (by kernel_rfl) (fun _ _ _ h => h) (Or.inl ⟨by rfl, ?_⟩) ?_
        rotate_left
        · intro w; go_simp
          first | done | with_reducible rfl
        (try simp only [List.getElem_toArray, List.getElem_cons_succ, List.getElem_cons_zero, Act.put, List.setIfInBounds_toArray, List.set_cons_succ, List.set_cons_zero])
        refine wpAny_done (by kernel_rfl) ?_ _
        (try simp only [List.getElem_toArray, List.getElem_cons_succ, List.getElem_cons_zero, Act.put, List.setIfInBounds_toArray, List.set_cons_succ, List.set_cons_zero])
        rcases (show cut < 0 ∨ (¬ cut < 0 ∧ 31 < cut) ∨ (0 ≤ cut ∧ cut ≤ 31) by omega) with k1 | ⟨k1, k2⟩ | ⟨k1, k2⟩
        · go_wp2
          go_ret
          exact ⟨rfl, BE.out⟩
        · go_wp2
          go_ret
          exact ⟨rfl, BE.out⟩
        · obtain ⟨k, rfl⟩ : ∃ k : Nat, cut = (k : Int) := ⟨cut.toNat, by omega⟩
          have k3 : ¬ (k : Int) < 0 := by omega
          have k4 : ¬ (31 : Int) < (k : Int) := by omega
          have hfr := fun wz => run_front32 w2.heap.size k (by omega) wz
          have C4 := HC wE (some ⟨w2.heap.size, 0, none⟩) (T.take k) k 32 BE.out (Row.of_whole TE.out k (by rw [HTL.out]; omega) rfl (by omega) (by omega) HTY.out)
          rw [decide_eq_false (show ¬ T.take k = T from fun e => by have h := congrArg List.length e; rw [List.length_take, HTL.out] at h; omega)] at C4
          clear k1 k2
          go_wp2_with fail
          refine C4.out.mono ?_
          rintro e wF ⟨rfl, hF⟩
          have BF := Lib.hid (BE.out.trans (hF.mono BE.out.size))
          clear hF C4
          go_wp2
          go_ret
          exact ⟨rfl, BF.out⟩
  · skip
    refine wpAny_ready (rs := [8, 9]) (by kernel_rfl) (by simp) ?_
    refine (AllReady.cons rfl (fun KK hK => ?_) (ready_load rfl 25 (.tmp 13) rfl w3.heap.size 0 (by go_simp) (u8s U) _ RUA.out Tryd.underlying25 rfl HI32U.out (by rfl) ?_ AllReady.nil))
    · skip
      go_simp
      refine C2.out.mono ?_
      rintro e wB ⟨rfl, hB⟩
      have TB := Lib.hid (Whole.kept TA.out hB)
      have UB := Lib.hid (Whole.kept UA.out hB)
      have BB := Lib.hid (BA.out.trans (hB.mono BA.out.size))
      have RTB := Lib.hid (range_whole TB.out HTL.out)
      have RUB := Lib.hid (range_whole UB.out HUL.out)
      clear hB
      refine hK _ _ ?_; clear hK KK
      refine wpAny_ready (rs := [9]) (by kernel_rfl) (by simp) ?_
      refine (ready_load rfl 25 (.tmp 13) rfl w3.heap.size 0 (by go_simp) (u8s U) _ RUB.out Tryd.underlying25 rfl HI32U.out (by rfl) ?_ AllReady.nil)
      · skip
        refine wpAny_take (i := 11) (v := ?_) rfl (by kernel_rfl) (by kernel_rfl) (by kernel_rfl) (fun _ _ _ h => h) (Or.inl ⟨by rfl, ?_⟩) ?_
        rotate_left
        · intro w; go_simp
          first | done | with_reducible rfl
        (try simp only [List.getElem_toArray, List.getElem_cons_succ, List.getElem_cons_zero, Act.put, List.setIfInBounds_toArray, List.set_cons_succ, List.set_cons_zero])
        refine wpAny_take (i := 12) (v := ?_) rfl (by kernel_rfl) (by kernel_rfl) (by kernel_rfl) (fun _ _ _ h => h) (Or.inl ⟨by rfl, ?_⟩) ?_
        rotate_left
        · intro w; go_simp
          first | done | with_reducible rfl
        (try simp only [List.getElem_toArray, List.getElem_cons_succ, List.getElem_cons_zero, Act.put, List.setIfInBounds_toArray, List.set_cons_succ, List.set_cons_zero])
        refine wpAny_take (i := 13) (v := ?_) rfl (by kernel_rfl) (by kernel_rfl) (by kernel_rfl) (fun _ _ _ h => h) (Or.inl ⟨by rfl, ?_⟩) ?_
        rotate_left
        · intro w; go_simp
          first | done | with_reducible rfl
        (try simp only [List.getElem_toArray, List.getElem_cons_succ, List.getElem_cons_zero, Act.put, List.setIfInBounds_toArray, List.set_cons_succ, List.set_cons_zero])
        refine wpAny_take (i := 14) (v := ?_) rfl (by kernel_rfl) (by kernel_rfl) (by kernel_rfl) (fun _ _ _ h => h) (Or.inl ⟨by rfl, ?_⟩) ?_
        rotate_left
        · intro w; go_simp
          first | done | with_reducible rfl
        (try simp only [List.getElem_toArray, List.getElem_cons_succ, List.getElem_cons_zero, Act.put, List.setIfInBounds_toArray, List.set_cons_succ, List.set_cons_zero])
        refine wpAny_take (i := 15) (v := ?_) rfl (by kernel_rfl) (by kernel_rfl) (by kernel_rfl) (fun _ _ _ h => h) (Or.inl ⟨by rfl, ?_⟩) ?_
        rotate_left
        · intro w; go_simp
          first | done | with_reducible rfl
        (try simp only [List.getElem_toArray, List.getElem_cons_succ, List.getElem_cons_zero, Act.put, List.setIfInBounds_toArray, List.set_cons_succ, List.set_cons_zero])
        refine wpAny_take (i := 16) (v := ?_) rfl (by kernel_rfl) (by kernel_rfl) (by kernel_rfl) (fun _ _ _ h => h) (Or.inl ⟨by rfl, ?_⟩) ?_
        rotate_left
        · intro w; go_simp
          first | done | with_reducible rfl
        (try simp only [List.getElem_toArray, List.getElem_cons_succ, List.getElem_cons_zero, Act.put, List.setIfInBounds_toArray, List.set_cons_succ, List.set_cons_zero])
        refine wpAny_take (i := 17) (v := ?_) rfl (by kernel_rfl) (by kernel_rfl) (by kernel_rfl) (fun _ _ _ h => h) (Or.inl ⟨by rfl, ?_⟩) ?_
        rotate_left
        · intro w; go_simp
          first | done | with_reducible rfl
        (try simp only [List.getElem_toArray, List.getElem_cons_succ, List.getElem_cons_zero, Act.put, List.setIfInBounds_toArray, List.set_cons_succ, List.set_cons_zero])
        clear C2 RTA RUA RTB RUB heq TA UA BA UB
        refine wpAny_ready (rs := [18]) (by kernel_rfl) (by simp) ?_
        refine AllReady.cons rfl (fun KK hK => ?_) AllReady.nil
        go_simp
        refine hK _ _ ?_; clear hK KK
        (try simp only [List.getElem_toArray, List.getElem_cons_succ, List.getElem_cons_zero, Act.put, List.setIfInBounds_toArray, List.set_cons_succ, List.set_cons_zero])
        obtain ⟨c, wD, gA, vD, runD, hvD, ownD, belD, -⟩ := tail_append (w := wB) w2.heap.size T HTL.out HTY.out (by exact TB.out)
        have TD := Lib.hid (Whole.kept TB.out belD)
        have BD := Lib.hid (BB.out.trans (belD.mono BB.out.size))
        have C3 := HC wD _ _ _ _ BD.out ownD
        rw [decide_eq_false (show ¬ T ++ [0] = T from fun e => by have h := congrArg List.length e; rw [List.length_append] at h; simp at h)] at C3
        have RunD := Lib.hid runD
        clear belD ownD runD BB
        refine wpAny_ready (rs := [19]) (by kernel_rfl) (by simp) ?_
        refine AllReady.cons rfl (fun KK hK => ?_) AllReady.nil
        refine step_append_run (.tmp 52) (.tmp 53) _ _ (by rfl) rfl rfl rfl rfl RunD.out ?_
        refine hK _ _ ?_; clear hK KK RunD
        subst hvD
        (try simp only [List.getElem_toArray, List.getElem_cons_succ, List.getElem_cons_zero, Act.put, List.setIfInBounds_toArray, List.set_cons_succ, List.set_cons_zero])
        refine wpAny_ready (rs := [20]) (by kernel_rfl) (by simp) ?_
        refine AllReady.cons rfl (fun KK hK => ?_) AllReady.nil
        go_simp
        refine C3.out.mono ?_
        rintro e wE ⟨rfl, hE⟩
        have TE := Lib.hid (Whole.kept TD.out hE)
        have BE := Lib.hid (BD.out.trans (hE.mono BD.out.size))
        clear hE C3 TD BD TB
        refine hK _ _ ?_; clear hK KK
        (try simp only [List.getElem_toArray, List.getElem_cons_succ, List.getElem_cons_zero, Act.put, List.setIfInBounds_toArray, List.set_cons_succ, List.set_cons_zero])
        refine wpAny_take (i := 21) (v := ?_) rfl (by kernel_rfl) (by kernel_rfl) (by kernel_rfl) (fun _ _ _ h => h) (Or.inl ⟨by rfl, ?_⟩) ?_
        rotate_left
        · intro w; go_simp
          first | done | with_reducible rfl
        (try simp only [List.getElem_toArray, List.getElem_cons_succ, List.getElem_cons_zero, Act.put, List.setIfInBounds_toArray, List.set_cons_succ, List.set_cons_zero])
        refine wpAny_take (i := 22) (v := ?_) rfl (by kernel_rfl) (by kernel_rfl) (by kernel_rfl) (fun _ _ _ h => h) (Or.inl ⟨by rfl, ?_⟩) ?_
        rotate_left
        · intro w; go_simp
          first | done | with_reducible rfl
        (try simp only [List.getElem_toArray, List.getElem_cons_succ, List.getElem_cons_zero, Act.put, List.setIfInBounds_toArray, List.set_cons_succ, List.set_cons_zero])
        refine wpAny_take (i := 23) (v := ?_) rfl (by kernel_rfl) (by kernel_rfl) (by kernel_rfl) (fun _ _ _ h => h) (Or.inl ⟨by rfl, ?_⟩) ?_
        rotate_left
        · intro w; go_simp
          first | done | with_reducible rfl
        (try simp only [List.getElem_toArray, List.getElem_cons_succ, List.getElem_cons_zero, Act.put, List.setIfInBounds_toArray, List.set_cons_succ, List.set_cons_zero])
        refine wpAny_done (by kernel_rfl) ?_ _
        (try simp only [List.getElem_toArray, List.getElem_cons_succ, List.getElem_cons_zero, Act.put, List.setIfInBounds_toArray, List.set_cons_succ, List.set_cons_zero])
        rcases (show cut < 0 ∨ (¬ cut < 0 ∧ 31 < cut) ∨ (0 ≤ cut ∧ cut ≤ 31) by omega) with k1 | ⟨k1, k2⟩ | ⟨k1, k2⟩
        · go_wp2
          go_ret
          exact ⟨rfl, BE.out⟩
        · go_wp2
          go_ret
          exact ⟨rfl, BE.out⟩
        · obtain ⟨k, rfl⟩ : ∃ k : Nat, cut = (k : Int) := ⟨cut.toNat, by omega⟩
          have k3 : ¬ (k : Int) < 0 := by omega
          have k4 : ¬ (31 : Int) < (k : Int) := by omega
          have hfr := fun wz => run_front32 w2.heap.size k (by omega) wz
          have C4 := HC wE (some ⟨w2.heap.size, 0, none⟩) (T.take k) k 32 BE.out (Row.of_whole TE.out k (by rw [HTL.out]; omega) rfl (by omega) (by omega) HTY.out)
          rw [decide_eq_false (show ¬ T.take k = T from fun e => by have h := congrArg List.length e; rw [List.length_take, HTL.out] at h; omega)] at C4
          clear k1 k2
          go_wp2_with fail
          refine C4.out.mono ?_
          rintro e wF ⟨rfl, hF⟩
          have BF := Lib.hid (BE.out.trans (hF.mono BE.out.size))
          clear hF C4
          go_wp2
          go_ret
          exact ⟨rfl, BF.out⟩
    · skip
      refine wpAny_take (i := 11) (v := ?_) rfl (by kernel_rfl) (by kernel_rfl) (by kernel_rfl) (fun _ _ _ h => h) (Or.inl ⟨by rfl, ?_⟩) ?_
      rotate_left
      · intro w; go_simp
        first | done | with_reducible rfl
      (try simp only [List.getElem_toArray, List.getElem_cons_succ, List.getElem_cons_zero, Act.put, List.setIfInBounds_toArray, List.set_cons_succ, List.set_cons_zero])
      refine wpAny_ready (rs := [8]) (by kernel_rfl) (by simp) ?_
      refine (AllReady.cons rfl (fun KK hK => ?_) AllReady.nil)
      · skip
        go_simp
        refine C2.out.mono ?_
        rintro e wB ⟨rfl, hB⟩
        have TB := Lib.hid (Whole.kept TA.out hB)
        have UB := Lib.hid (Whole.kept UA.out hB)
        have BB := Lib.hid (BA.out.trans (hB.mono BA.out.size))
        have RTB := Lib.hid (range_whole TB.out HTL.out)
        have RUB := Lib.hid (range_whole UB.out HUL.out)
        clear hB
        refine hK _ _ ?_; clear hK KK
        refine wpAny_take (i := 12) (v := ?_) rfl (by kernel_rfl) (by kernel_rfl) (by kernel_rfl) (fun _ _ _ h => h) (Or.inl ⟨by rfl, ?_⟩) ?_
        rotate_left
        · intro w; go_simp
          first | done | with_reducible rfl
        (try simp only [List.getElem_toArray, List.getElem_cons_succ, List.getElem_cons_zero, Act.put, List.setIfInBounds_toArray, List.set_cons_succ, List.set_cons_zero])
        refine wpAny_take (i := 13) (v := ?_) rfl (by kernel_rfl) (by kernel_rfl) (by kernel_rfl) (fun _ _ _ h => h) (Or.inl ⟨by rfl, ?_⟩) ?_
        rotate_left
        · intro w; go_simp
          first | done | with_reducible rfl
        (try simp only [List.getElem_toArray, List.getElem_cons_succ, List.getElem_cons_zero, Act.put, List.setIfInBounds_toArray, List.set_cons_succ, List.set_cons_zero])
        refine wpAny_take (i := 14) (v := ?_) rfl (by kernel_rfl) (by kernel_rfl) (by kernel_rfl) (fun _ _ _ h => h) (Or.inl ⟨by rfl, ?_⟩) ?_
        rotate_left
        · intro w; go_simp
          first | done | with_reducible rfl
        (try simp only [List.getElem_toArray, List.getElem_cons_succ, List.getElem_cons_zero, Act.put, List.setIfInBounds_toArray, List.set_cons_succ, List.set_cons_zero])
        refine wpAny_take (i := 15) (v := ?_) rfl (by kernel_rfl) (by kernel_rfl) (by kernel_rfl) (fun _ _ _ h => h) (Or.inl ⟨by rfl, ?_⟩) ?_
        rotate_left
        · intro w; go_simp
          first | done | with_reducible rfl
        (try simp only [List.getElem_toArray, List.getElem_cons_succ, List.getElem_cons_zero, Act.put, List.setIfInBounds_toArray, List.set_cons_succ, List.set_cons_zero])
        refine wpAny_take (i := 16) (v := ?_) rfl (by kernel_rfl) (by kernel_rfl) (by kernel_rfl) (fun _ _ _ h => h) (Or.inl ⟨by rfl, ?_⟩) ?_
        rotate_left
        · intro w; go_simp
          first | done | with_reducible rfl
        (try simp only [List.getElem_toArray, List.getElem_cons_succ, List.getElem_cons_zero, Act.put, List.setIfInBounds_toArray, List.set_cons_succ, List.set_cons_zero])
        refine wpAny_take (i := 17) (v := ?_) rfl (by kernel_rfl) (by kernel_rfl) (by kernel_rfl) (fun _ _ _ h => h) (Or.inl ⟨by rfl, ?_⟩) ?_
        rotate_left
        · intro w; go_simp
          first | done | with_reducible rfl
        (try simp only [List.getElem_toArray, List.getElem_cons_succ, List.getElem_cons_zero, Act.put, List.setIfInBounds_toArray, List.set_cons_succ, List.set_cons_zero])
        clear C2 RTA RUA RTB RUB heq TA UA BA UB
        refine wpAny_ready (rs := [18]) (by kernel_rfl) (by simp) ?_
        refine AllReady.cons rfl (fun KK hK => ?_) AllReady.nil
        go_simp
        refine hK _ _ ?_; clear hK KK
        (try simp only [List.getElem_toArray, List.getElem_cons_succ, List.getElem_cons_zero, Act.put, List.setIfInBounds_toArray, List.set_cons_succ, List.set_cons_zero])
        obtain ⟨c, wD, gA, vD, runD, hvD, ownD, belD, -⟩ := tail_append (w := wB) w2.heap.size T HTL.out HTY.out (by exact TB.out)
        have TD := Lib.hid (Whole.kept TB.out belD)
        have BD := Lib.hid (BB.out.trans (belD.mono BB.out.size))
        have C3 := HC wD _ _ _ _ BD.out ownD
        rw [decide_eq_false (show ¬ T ++ [0] = T from fun e => by have h := congrArg List.length e; rw [List.length_append] at h; simp at h)] at C3
        have RunD := Lib.hid runD
        clear belD ownD runD BB
        refine wpAny_ready (rs := [19]) (by kernel_rfl) (by simp) ?_
        refine AllReady.cons rfl (fun KK hK => ?_) AllReady.nil
        refine step_append_run (.tmp 52) (.tmp 53) _ _ (by rfl) rfl rfl rfl rfl RunD.out ?_
        refine hK _ _ ?_; clear hK KK RunD
        subst hvD
        (try simp only [List.getElem_toArray, List.getElem_cons_succ, List.getElem_cons_zero, Act.put, List.setIfInBounds_toArray, List.set_cons_succ, List.set_cons_zero])
        refine wpAny_ready (rs := [20]) (by kernel_rfl) (by simp) ?_
        refine AllReady.cons rfl (fun KK hK => ?_) AllReady.nil
        go_simp
        refine C3.out.mono ?_
        rintro e wE ⟨rfl, hE⟩
        have TE := Lib.hid (Whole.kept TD.out hE)
        have BE := Lib.hid (BD.out.trans (hE.mono BD.out.size))
        clear hE C3 TD BD TB
        refine hK _ _ ?_; clear hK KK
        (try simp only [List.getElem_toArray, List.getElem_cons_succ, List.getElem_cons_zero, Act.put, List.setIfInBounds_toArray, List.set_cons_succ, List.set_cons_zero])
        refine wpAny_take (i := 21) (v := ?_) rfl (by kernel_rfl) (by kernel_rfl) (by kernel_rfl) (fun _ _ _ h => h) (Or.inl ⟨by rfl, ?_⟩) ?_
        rotate_left
        · intro w; go_simp
          first | done | with_reducible rfl
        (try simp only [List.getElem_toArray, List.getElem_cons_succ, List.getElem_cons_zero, Act.put, List.setIfInBounds_toArray, List.set_cons_succ, List.set_cons_zero])
        refine wpAny_take (i := 22) (v := ?_) rfl (by kernel_rfl) (by kernel_rfl) (by kernel_rfl) (fun _ _ _ h => h) (Or.inl ⟨by rfl, ?_⟩) ?_
        rotate_left
        · intro w; go_simp
          first | done | with_reducible rfl
        (try simp only [List.getElem_toArray, List.getElem_cons_succ, List.getElem_cons_zero, Act.put, List.setIfInBounds_toArray, List.set_cons_succ, List.set_cons_zero])
        refine wpAny_take (i := 23) (v := ?_) rfl (by kernel_rfl) (by kernel_rfl) (by kernel_rfl) (fun _ _ _ h => h) (Or.inl ⟨by rfl, ?_⟩) ?_
        rotate_left
        · intro w; go_simp
          first | done | with_reducible rfl
        (try simp only [List.getElem_toArray, List.getElem_cons_succ, List.getElem_cons_zero, Act.put, List.setIfInBounds_toArray, List.set_cons_succ, List.set_cons_zero])
        refine wpAny_done (by kernel_rfl) ?_ _
        (try simp only [List.getElem_toArray, List.getElem_cons_succ, List.getElem_cons_zero, Act.put, List.setIfInBounds_toArray, List.set_cons_succ, List.set_cons_zero])
        rcases (show cut < 0 ∨ (¬ cut < 0 ∧ 31 < cut) ∨ (0 ≤ cut ∧ cut ≤ 31) by omega) with k1 | ⟨k1, k2⟩ | ⟨k1, k2⟩
        · go_wp2
          go_ret
          exact ⟨rfl, BE.out⟩
        · go_wp2
          go_ret
          exact ⟨rfl, BE.out⟩
        · obtain ⟨k, rfl⟩ : ∃ k : Nat, cut = (k : Int) := ⟨cut.toNat, by omega⟩
          have k3 : ¬ (k : Int) < 0 := by omega
          have k4 : ¬ (31 : Int) < (k : Int) := by omega
          have hfr := fun wz => run_front32 w2.heap.size k (by omega) wz
          have C4 := HC wE (some ⟨w2.heap.size, 0, none⟩) (T.take k) k 32 BE.out (Row.of_whole TE.out k (by rw [HTL.out]; omega) rfl (by omega) (by omega) HTY.out)
          rw [decide_eq_false (show ¬ T.take k = T from fun e => by have h := congrArg List.length e; rw [List.length_take, HTL.out] at h; omega)] at C4
          clear k1 k2
          go_wp2_with fail
          refine C4.out.mono ?_
          rintro e wF ⟨rfl, hF⟩
          have BF := Lib.hid (BE.out.trans (hF.mono BE.out.size))
          clear hF C4
          go_wp2
          go_ret
          exact ⟨rfl, BF.out⟩
end Go.Proofs.YtchbfcegonlhoaaDoor.sha
