/-
  CONTRACT of mac.Sum: the tag.
-/
import Derived.Test.YtchbfcegonlhoaaDoorMacBlock
import Derived.Test.YtchbfcegonlhoaaDoorMacKeyed
namespace Go.Proofs.YtchbfcegonlhoaaDoor.sha
open Go.RowKit

set_option maxRecDepth 100000 in
set_option maxHeartbeats 1000000 in
theorem macSum_any (a0 : Option Addr) (K : List Int) (n0 cap0 : Nat) (a1 : Option Addr) (l : List Int) (n1 cap1 : Nat) (w : World) (hT : Tab w) (h0 : Row w a0 n0 cap0 K) (h1 : Row w a1 n1 cap1 l) (hn0 : n0 ≤ 100000) (hn1 : n1 ≤ 100000) :
    Calls Tryd.prog 13 #[.slice a0 n0 cap0, .slice a1 n1 cap1] w fun e w' => e = .returned (.agg (u8s (tagOf K l)).toArray) ∧ Below w.heap.size w w' := by
  have HT := Lib.hid hT
  have H0 := Lib.hid h0
  have H1 := Lib.hid h1
  have hz := zero64b
  have hz32 := zero32
  have b1 : Below w.heap.size w (w.alloc (.cells (u8s z32).toArray 25)) := (Below.refl _ _).alloc (Nat.le_refl _) _
  have o1 : Whole (w.alloc (.cells (u8s z32).toArray 25)) w.heap.size 25 (u8s z32) := Whole.new_ rfl rfl
  have B1 := Lib.hid b1
  have O1 := Lib.hid o1
  have HI64 := Lib.hid (show (Tryd.prog.info? 48).map (·.size) = some (u8s (block K)).toArray.size by rw [u8s_size, block_length]; exact info64b)
  obtain ⟨I, hI⟩ : ∃ I, digest (xored (block K) 54 ++ l) = I := ⟨_, rfl⟩
  have hIl : I.length = 32 := by rw [← hI]; exact digest_length _
  have hIy : Byte I := by rw [← hI]; exact digest_byte _
  obtain ⟨T, hTg⟩ : ∃ T, tagOf K l = T := ⟨_, rfl⟩
  have hTg2 : digest (xored (block K) 92 ++ I) = T := by rw [← hTg, ← hI]; rfl
  have hTl : T.length = 32 := by rw [← hTg]; exact tagOf_length _ _
  have HI32 := Lib.hid (show (Tryd.prog.info? 25).map (·.size) = some (u8s I).toArray.size by rw [u8s_size, hIl]; exact info32)
  have HI32T := Lib.hid (show (Tryd.prog.info? 25).map (·.size) = some (u8s T).toArray.size by rw [u8s_size, hTl]; exact info32)
  have HII := Lib.hid hI
  have HIL := Lib.hid hIl
  have HIY := Lib.hid hIy
  have HTG := Lib.hid hTg2
  have HTL := Lib.hid hTl
  rw [hTg]
  clear hT h0 h1 b1 o1 hI hIl hIy hTg hTg2 hTl
  go_enter Tryd.func13, Tryd.ntmps13
  go_wp2_with fail
  have r0 := H0.out.later B1.out
  refine (keyBlock_any a0 K n0 cap0 _ (HT.out.later B1.out) r0.bytes r0.byte r0.length r0.le r0.most hn0).mono ?_
  rintro e w2 ⟨rfl, h2⟩
  have e1 : (w.alloc (.cells (u8s z32).toArray 25)).heap.size = w.heap.size + 1 := by simp
  have b2 := B1.out.trans (h2.mono B1.out.size)
  have o2 := O1.out.kept h2
  have hs2 := o2.lt
  have B2 := Lib.hid b2
  have O2 := Lib.hid o2
  clear r0 h2 b2 o2 B1 O1 e1
  go_wp2_with (first
    | ((with_reducible show wpList _ _ _ _ _ _); refine wpList_store_as rfl 48 (.tmp 5) (.tmp 8) rfl w2.heap.size 0 (u8s (block K)).toArray rfl rfl (by exact (Whole.new_ (l := u8s z64b) rfl rfl).there _ _ (by rw [u8s_size, block_length]; exact Nat.le_refl 64)) HI64.out (u8s_one _) ?_; intro w3 hw3; have L3 := Lib.hid (laid hw3 rfl (by rw [u8s_length, block_length]; rfl)); clear hw3; have O3 := Lib.hid (O2.out.kept L3.out.2); have B3 := Lib.hid (B2.out.trans (L3.out.2.mono B2.out.size)))
    | ((with_reducible show wpList _ _ _ _ _ _); refine wpList_load_row rfl 48 (.tmp 5) rfl w2.heap.size rfl 48 (u8s (block K)).toArray (0, 0) _ (by exact L3.out.1) Tryd.underlying48 rfl HI64.out ?_)
    | fail)
  have r1 := H1.out.later B3.out
  refine (keyed_any (block K) (block_length K) (block_byte H0.out.byte) 54 (by omega) a1 l n1 cap1 w3 (HT.out.later B3.out) r1.bytes r1.byte r1.length r1.le r1.most hn1).mono ?_
  rintro e w4 ⟨rfl, h4⟩
  rw [HII.out]
  have k4 := L3.out.1.kept h4
  have o4 := O3.out.kept h4
  have b4 := B3.out.trans (h4.mono B3.out.size)
  have hs4 := k4.lt
  have K4 := Lib.hid k4
  have O4 := Lib.hid o4
  have B4 := Lib.hid b4
  clear r1 h4 k4 o4 b4 L3 O3 B3 hz
  go_wp2_with (first
    | ((with_reducible show wpList _ _ _ _ _ _); refine wpList_store_as rfl 25 (.tmp 6) (.tmp 11) rfl w4.heap.size 0 (u8s I).toArray rfl rfl (by exact (Whole.new_ (l := u8s z32) rfl rfl).there _ _ (by rw [u8s_size, HIL.out]; exact Nat.le_refl 32)) HI32.out (u8s_one _) ?_; intro w5 hw5; have L5 := Lib.hid (laid hw5 rfl (by rw [u8s_length, HIL.out]; rfl)); clear hw5; have O5 := Lib.hid (O4.out.kept L5.out.2); have K5 := Lib.hid (K4.out.kept L5.out.2); have B5 := Lib.hid (B4.out.trans (L5.out.2.mono B4.out.size)))
    | fail)
  clear hz32
  have rg : w5.drew.rangeAt w2.heap.size 0 (u8s (block K)) := by
    have h := Whole.range (w := w5.drew) K5.out 0 64
    rwa [List.drop_zero, List.take_of_length_le (by rw [u8s_length, block_length]; exact Nat.le_refl _)] at h
  have RG := Lib.hid rg
  have HI64' := Lib.hid (show (Tryd.prog.info? 48).map (·.size) = some (u8s (block K)).length by rw [u8s_length, block_length]; exact info64b)
  have B6 := Lib.hid (show Below w.heap.size w w5.drew from below_draws B5.out 1)
  have D6 := Lib.hid (show Leads w5.drew (some ⟨w4.heap.size, 0, none⟩) I from Leads.of_whole (o := 0) (n := 32) (t := 25) (cs := u8s I) L5.out.1 (by rw [List.drop_zero, List.take_of_length_le (by rw [u8s_length, HIL.out]; exact Nat.le_refl _)]))
  clear rg
  refine wp_region_any (by kernel_rfl) ?_
  change wpAny _ _ _ _ _ _ _ (World.drew _)
  refine wpAny_take (i := 1) (v := ?_) rfl (by kernel_rfl) (by kernel_rfl) (by kernel_rfl) (fun _ _ _ h => h) (Or.inl ⟨by rfl, ?_⟩) ?_
  rotate_left
  · intro w; go_simp
    first | done | with_reducible rfl
  refine wpAny_ready (rs := [0]) (by kernel_rfl) (by simp) ?_
  refine ready_load rfl 48 (.tmp 5) rfl w2.heap.size 0 (by go_simp) (u8s (block K)) _ RG.out Tryd.underlying48 rfl HI64'.out (by rfl) ?_ AllReady.nil
  refine wpAny_ready (rs := [2]) (by kernel_rfl) (by simp) ?_
  refine AllReady.cons rfl (fun KK hK => ?_) AllReady.nil
  go_simp
  refine (keyed_any (block K) (block_length K) (block_byte H0.out.byte) 92 (by omega) _ I 32 32 _ (HT.out.later B6.out) D6.out HIY.out HIL.out (Nat.le_refl _) (by omega) (by omega)).mono ?_
  rintro e w6 ⟨rfl, h6⟩
  rw [HTG.out]
  have o6 : Whole w6 w.heap.size 25 (u8s z32) := Whole.kept (w := w5.drew) O5.out h6
  have b6 := B6.out.trans (h6.mono B6.out.size)
  have hth : w6.there w.heap.size 0 (u8s T).toArray.size := o6.there _ _ (by rw [u8s_size, HTL.out]; exact Nat.le_refl 32)
  have k7 := o6.lay (u8s T) 0 (by rw [u8s_length, HTL.out]; exact Nat.le_refl 32)
  rw [lay_all _ _ (by rw [u8s_length, u8s_length, HTL.out]; rfl)] at k7
  have b7 := below_lay (u8s T) w.heap.size 0 b6 (Nat.le_refl _)
  have HTH := Lib.hid hth
  have K7 := Lib.hid k7
  have B7 := Lib.hid b7
  clear h6 o6 b6 hth k7 b7
  refine hK _ _ ?_; clear hK KK
  refine wpAny_ready (rs := [3]) (by kernel_rfl) (by simp) ?_
  refine ready_store rfl 25 (.tmp 4) (.tmp 14) rfl w.heap.size 0 (u8s T).toArray (by go_simp) (by go_simp) HTH.out HI32T.out (u8s_one _) (by rfl) ?_ AllReady.nil
  intro w7 hw7
  have k8 := K7.out
  have b8 := B7.out
  rw [show w6.setCells w.heap.size 0 (u8s T) = w7 from hw7] at k8 b8
  have K8 := Lib.hid k8
  have B8 := Lib.hid b8
  clear hw7 k8 b8
  refine wpAny_done (by kernel_rfl) ?_ _
  simp only [List.getElem_toArray, List.getElem_cons_succ, List.getElem_cons_zero, Act.put]
  go_wp2
  exact bodyPost_ret (results_cell_row rfl _ _ w.heap.size 25 (u8s T).toArray (0, 0) _ rfl K8.out Tryd.underlying25 rfl HI32T.out) rfl ⟨rfl, B8.out⟩
end Go.Proofs.YtchbfcegonlhoaaDoor.sha
