/-
  CONTRACT of mac.keyBlock: a key as one block.
-/
import Derived.Test.YtchbfcegonlhoaaDoorMacMath
import Derived.Test.YtchbfcegonlhoaaDoorRefQuick
import Derived.Test.YtchbfcegonlhoaaDoorRefLast
namespace Go.Proofs.YtchbfcegonlhoaaDoor.sha
open Go.RowKit

/-- A copy of bytes, perhaps none, into a block that is known whole. -/
theorem wpList_copy_bytes {P : Program} {ops : Array Oper} {rest : List Oper} {o : Oper} {a : Act} {w : World} {Q : Exit → Act → World → Prop} (hgd : o.guard = none) (d s : Operand) (dT sT : TypeId)
    (ho : o.op = .call { callee := .builtin .copy, args := #[d, s], argTypes := #[dT, sT] }) (elem : TypeId) (hu : P.underlying dT = some (.slice elem)) (hsz : (P.info? elem).map (·.size) = some 1)
    (g off dLen dCap : Nat) (A : Option Addr) (sLen sCap : Nat) (hd : a.eval d = .slice (some ⟨g, off, none⟩) dLen dCap) (hs : a.eval s = .slice A sLen sCap)
    (t : TypeId) (L : List Int) (hW : Whole w g t (u8s L)) (cs : List Int) (m : Nat) (hm : cs.length = m) (hn : m = Nat.min sLen dLen) (hl : Leads w A cs) (hfit : off + cs.length ≤ L.length)
    (h : ∀ w2, Hid (Whole w2 g t (u8s (L.take off ++ (cs ++ L.drop (off + cs.length))))) → Hid (w.grownBy w2 (some g)) → wpList P ops Q rest (a.put o.dst (.int .i64 (m : Int))) w2) : wpList P ops Q (o :: rest) a w := by
  by_cases hpos : 0 < cs.length
  · refine wpList_copy_into hgd d s dT sT ho elem hu hsz g off dLen dCap A sLen sCap hd hs t (u8s L) hW cs m hm hn hl hpos (by rw [u8s_length]; exact hfit) ?_
    intro w2 h1 h2
    rw [u8s_splice] at h1
    exact h w2 h1 h2
  · obtain rfl : cs = [] := List.eq_nil_of_length_eq_zero (by omega)
    obtain rfl : m = 0 := by simpa using hm.symm
    have hrun := run_copy_none (P := P) w dT sT o.type elem (some ⟨g, off, none⟩) A dLen dCap sLen sCap hu hsz hn.symm
    refine wpList_plain hgd fun K hK => ?_
    have h' := h w (by
                             have e : L.take off ++ (([] : List Int) ++ L.drop (off + ([] : List Int).length)) = L := by simp
                             rw [e]; exact hW) ⟨rfl, rfl, rfl, Nat.le_refl _, fun _ _ _ => rfl⟩
    unfold Oper.wp execOp
    simp only [ho, resolve, invoke, builtin, Sem.run_bind, Sem.run_pure, Result.andThen_ok, List.map_toArray, List.map_cons, List.map_nil, hd, hs, hrun]
    exact hK _ _ h'

def z64b : List Int := List.replicate 64 0
theorem zero64b (w : World) : (zeroValue 48).run Tryd.prog w = .ok (.agg (u8s z64b).toArray) w := by kernel_rfl

set_option maxRecDepth 100000 in
set_option maxHeartbeats 1000000 in
theorem keyBlock_short (a : Option Addr) (K : List Int) (n cap : Nat) (w : World) (hl : Leads w a K) (hn : K.length = n) (hlen : n ≤ 64) :
    Calls Tryd.prog 24 #[.slice a n cap] w fun e w' => e = .returned (.agg (u8s (block K)).toArray) ∧ Below w.heap.size w w' := by
  have HLD := Lib.hid hl
  have HN := Lib.hid hn
  have hz := zero64b
  have c1 : ¬ (64 : Int) < (n : Int) := by omega
  have hbl : z64b.take 0 ++ (K ++ z64b.drop (0 + K.length)) = block K := by
    rw [block_short (by omega), List.take_zero, List.nil_append, Nat.zero_add, onto, z64b, List.drop_replicate]
  have HBL := Lib.hid hbl
  obtain ⟨w1, hw1⟩ : ∃ w1, (w.alloc (.cells (u8s z64b).toArray 48)).alloc (.cells (u8s z64b).toArray 48) = w1 := ⟨_, rfl⟩
  have b1 : Below w.heap.size w w1 := by rw [← hw1]; exact ((Below.refl _ _).alloc (Nat.le_refl _) _).alloc (by simp) _
  have r1 : Whole w1 w.heap.size 48 (u8s z64b) := by rw [← hw1]; exact (Whole.new_ rfl rfl).more _
  have k1 : Whole w1 (w.heap.size + 1) 48 (u8s z64b) := by rw [← hw1]; exact Whole.new_ (by simp) rfl
  have B1 := Lib.hid b1
  have R1 := Lib.hid r1
  have K1 := Lib.hid k1
  have HW1 := Lib.hid hw1
  clear hl hn hbl b1 r1 k1 hw1
  have HI64 := Lib.hid (show (Tryd.prog.info? 48).map (·.size) = some (u8s (block K)).toArray.size by rw [u8s_size, block_length]; exact info64b)
  go_enter Tryd.func24, Tryd.ntmps24
  go_wp2_with (first
    | (refine wpList_copy_bytes rfl (.tmp 14) (.tmp 15) 22 22 rfl 5 Tryd.underlying22 info1 (w.heap.size + 1) 0 64 64 a n cap rfl rfl 48 z64b (by rw [show _ = w1 from HW1.out]; exact K1.out) K n HN.out (Nat.min_eq_left hlen).symm (by rw [show _ = w1 from HW1.out]; exact HLD.out.later B1.out) (by rw [HN.out]; show 0 + n ≤ 64; omega) ?_; rw [show _ = w1 from HW1.out]; intro w2 hk2 hg2; have k3 := hk2.out; rw [HBL.out] at k3; have r2 := R1.out.grown hg2.out (by intro e; injection e with e; omega); have b2 := below_only B1.out hg2.out (by omega) B1.out.size; have hth : w2.there w.heap.size 0 (u8s (block K)).toArray.size := r2.there _ _ (by rw [u8s_size, block_length]; exact Nat.le_refl 64); have k5 := r2.lay (u8s (block K)) 0 (by rw [u8s_length, block_length]; exact Nat.le_refl 64); rw [lay_all _ _ (by rw [u8s_length, u8s_length, block_length]; rfl)] at k5; have b5 := below_lay (u8s (block K)) w.heap.size 0 b2 (Nat.le_refl _); have K3 := Lib.hid k3; have HTH := Lib.hid hth; have K5 := Lib.hid k5; have B5 := Lib.hid b5; clear k3 r2 b2 hth k5 b5 hk2 hg2)
    | ((with_reducible show wpList _ _ _ _ _ _); refine wpList_load_row rfl 48 (.tmp 3) rfl (w.heap.size + 1) rfl 48 (u8s (block K)).toArray (0, 0) _ (by exact K3.out) Tryd.underlying48 rfl HI64.out ?_)
    | ((with_reducible show wpList _ _ _ _ _ _); refine wpList_store_mid rfl 48 (.tmp 2) (.tmp 17) rfl w.heap.size 0 (u8s (block K)).toArray rfl rfl HTH.out HI64.out (u8s_one _) ?_)
    | fail)
  exact bodyPost_ret (results_cell_row rfl _ _ w.heap.size 48 (u8s (block K)).toArray (0, 0) _ rfl K5.out Tryd.underlying48 rfl HI64.out) rfl ⟨rfl, B5.out⟩

set_option maxRecDepth 100000 in
set_option maxHeartbeats 1000000 in
theorem keyBlock_long (a : Option Addr) (K : List Int) (n cap : Nat) (w : World) (hT : Tab w) (hl : Leads w a K) (hy : Byte K) (hn : K.length = n) (hlc : n ≤ cap) (hcap : cap ≤ 9223372036854775807) (hlen : 64 < n) (hlen2 : n ≤ 100000) :
    Calls Tryd.prog 24 #[.slice a n cap] w fun e w' => e = .returned (.agg (u8s (block K)).toArray) ∧ Below w.heap.size w w' := by
  have HT := Lib.hid hT
  have HLD := Lib.hid hl
  have HY := Lib.hid hy
  have HN := Lib.hid hn
  have hz := zero64b
  have hz32 := zero32
  have c1 : (64 : Int) < (n : Int) := by omega
  have hbl : z64b.take 0 ++ (digest K ++ z64b.drop (0 + (digest K).length)) = block K := by
    rw [block_long (by omega), List.take_zero, List.nil_append, Nat.zero_add, onto, z64b, List.drop_replicate]
  have HBL := Lib.hid hbl
  obtain ⟨w1, hw1⟩ : ∃ w1, (w.alloc (.cells (u8s z64b).toArray 48)).alloc (.cells (u8s z64b).toArray 48) = w1 := ⟨_, rfl⟩
  have b1 : Below w.heap.size w w1 := by rw [← hw1]; exact ((Below.refl _ _).alloc (Nat.le_refl _) _).alloc (by simp) _
  have r1 : Whole w1 w.heap.size 48 (u8s z64b) := by rw [← hw1]; exact (Whole.new_ rfl rfl).more _
  have k1 : Whole w1 (w.heap.size + 1) 48 (u8s z64b) := by rw [← hw1]; exact Whole.new_ (by simp) rfl
  have B1 := Lib.hid b1
  have R1 := Lib.hid r1
  have K1 := Lib.hid k1
  have HW1 := Lib.hid hw1
  have HI64 := Lib.hid (show (Tryd.prog.info? 48).map (·.size) = some (u8s (block K)).toArray.size by rw [u8s_size, block_length]; exact info64b)
  have HI32 := Lib.hid (show (Tryd.prog.info? 25).map (·.size) = some (u8s (digest K)).toArray.size by rw [u8s_size, digest_length]; exact info32)
  clear hT hl hy hn hbl b1 r1 k1 hw1
  go_enter Tryd.func24, Tryd.ntmps24
  go_wp2_with fail
  rw [show _ = w1 from HW1.out]
  refine (ssum_any a K n cap w1 (HT.out.later B1.out) (HLD.out.later B1.out) HY.out HN.out hlc hcap (by omega)).mono ?_
  rintro e w2 ⟨rfl, h2⟩
  have r2 := R1.out.kept h2
  have k2 := K1.out.kept h2
  have b2 := B1.out.trans (h2.mono B1.out.size)
  have R2 := Lib.hid r2
  have K2 := Lib.hid k2
  have B2 := Lib.hid b2
  have hs2 := k2.lt
  clear r2 k2 b2 h2 hz
  go_wp2_with (first
    | ((with_reducible show wpList _ _ _ _ _ _); refine wpList_store_as rfl 25 (.tmp 4) (.tmp 9) rfl w2.heap.size 0 (u8s (digest K)).toArray rfl rfl (by exact (Whole.new_ (l := u8s z32) rfl rfl).there _ _ (by rw [u8s_size, digest_length]; exact Nat.le_refl 32)) HI32.out (u8s_one _) ?_; intro w3 hw3; have L3 := Lib.hid (laid hw3 rfl (by rw [u8s_length, digest_length]; rfl)); clear hw3; have R3 := Lib.hid (R2.out.kept L3.out.2); have K3 := Lib.hid (K2.out.kept L3.out.2); have B3 := Lib.hid (B2.out.trans (L3.out.2.mono B2.out.size)); have D3 := Lib.hid (Leads.of_whole (o := 0) (n := 32) L3.out.1 (by rw [List.drop_zero, List.take_of_length_le (by rw [u8s_length, digest_length]; exact Nat.le_refl _)])))
    | fail)
  go_region_law (first
    | (refine step_copy_into rfl (.tmp 10) (.tmp 11) 22 22 rfl 5 Tryd.underlying22 info1 (w.heap.size + 1) 0 64 64 _ 32 32 rfl rfl 48 z64b (by exact K3.out) (digest K) 32 (digest_length K) (by rfl) (by exact D3.out) (by rw [digest_length]; omega) (by rw [digest_length]; show 0 + 32 ≤ 64; omega) ?_; intro w4 hk4 hg4))
  all_goals
    have k3 := hk4.out
    rw [HBL.out] at k3
    have r4 : Whole w4 w.heap.size 48 (u8s z64b) := Whole.grown (by exact R3.out) hg4.out (by intro e; injection e with e; omega)
    have b4 : Below w.heap.size w w4 := below_only (by exact below_draws B3.out 1) hg4.out (by omega) (by exact B3.out.size)
    have hth : w4.there w.heap.size 0 (u8s (block K)).toArray.size := r4.there _ _ (by rw [u8s_size, block_length]; exact Nat.le_refl 64)
    have k5 := r4.lay (u8s (block K)) 0 (by rw [u8s_length, block_length]; exact Nat.le_refl 64)
    rw [lay_all _ _ (by rw [u8s_length, u8s_length, block_length]; rfl)] at k5
    have b5 := below_lay (u8s (block K)) w.heap.size 0 b4 (Nat.le_refl _)
    have K4 := Lib.hid k3
    have HTH := Lib.hid hth
    have K5 := Lib.hid k5
    have B5 := Lib.hid b5
    clear k3 r4 b4 hth k5 b5 hk4 hg4
    go_wp2_with (first
      | ((with_reducible show wpList _ _ _ _ _ _); refine wpList_load_row rfl 48 (.tmp 3) rfl (w.heap.size + 1) rfl 48 (u8s (block K)).toArray (0, 0) _ (by exact K4.out) Tryd.underlying48 rfl HI64.out ?_)
      | ((with_reducible show wpList _ _ _ _ _ _); refine wpList_store_mid rfl 48 (.tmp 2) (.tmp 13) rfl w.heap.size 0 (u8s (block K)).toArray rfl rfl HTH.out HI64.out (u8s_one _) ?_)
      | fail)
    exact bodyPost_ret (results_cell_row rfl _ _ w.heap.size 48 (u8s (block K)).toArray (0, 0) _ rfl K5.out Tryd.underlying48 rfl HI64.out) rfl ⟨rfl, B5.out⟩

theorem keyBlock_any (a : Option Addr) (K : List Int) (n cap : Nat) (w : World) (hT : Tab w) (hl : Leads w a K) (hy : Byte K) (hn : K.length = n) (hlc : n ≤ cap) (hcap : cap ≤ 9223372036854775807) (hlen : n ≤ 100000) :
    Calls Tryd.prog 24 #[.slice a n cap] w fun e w' => e = .returned (.agg (u8s (block K)).toArray) ∧ Below w.heap.size w w' := by
  by_cases h : 64 < n
  · exact keyBlock_long a K n cap w hT hl hy hn hlc hcap h hlen
  · exact keyBlock_short a K n cap w hl hn (by omega)
end Go.Proofs.YtchbfcegonlhoaaDoor.sha
