/-
  THE WALK OF 'sha.mix': one block is taken into a state.
-/
import Derived.Test.YtchbfcegonlhoaaDoorShaSpread
namespace Go.Proofs.YtchbfcegonlhoaaDoor.sha
open Go.RowKit

def Tab (w : World) : Prop := ∀ k, k < 64 → w.cell? ⟨0, k, none⟩ = some (.int .u32 (W (roundWords.getD k 0)))
theorem Tab.later {w w' : World} (h : Tab w) (hb : Below w.heap.size w w') : Tab w' := by
  intro k hk
  have h0 := h k hk
  rw [hb.cell (p := ⟨0, k, none⟩) (block_lt_of_cell h0)]; exact h0
theorem Tab.drawn {w : World} (h : Tab w) (n : Nat) : Tab (w.drewN n) := h

theorem info8 : (Tryd.prog.info? 45).map (·.size) = some 8 := by kernel_rfl
theorem info64b : (Tryd.prog.info? 48).map (·.size) = some 64 := by kernel_rfl
theorem info64 : (Tryd.prog.info? 44).map (·.size) = some 64 := by kernel_rfl

theorem tri_at (x : BitVec 32) (i j k : Int) (hi : Turns i.toNat ∧ 0 ≤ i) (hj : Turns j.toNat ∧ 0 ≤ j) (hk : Turns k.toNat ∧ 0 ≤ k) (w : World) :
    Calls Tryd.prog 38 #[.int .u32 (W x), .int .i64 i, .int .i64 j, .int .i64 k] w fun e w' => e = .returned (.int .u32 (W (tri x i.toNat j.toNat k.toNat))) ∧ w = w' := by
  have h := turned_any x i.toNat j.toNat k.toNat hi.1 hj.1 hk.1 w
  rwa [Int.toNat_of_nonneg hi.2, Int.toNat_of_nonneg hj.2, Int.toNat_of_nonneg hk.2] at h

theorem tri_quiet2 (x : BitVec 32) (i j k : Int) (hi : Turns i.toNat ∧ 0 ≤ i) (hj : Turns j.toNat ∧ 0 ≤ j) (hk : Turns k.toNat ∧ 0 ≤ k) (w : World) (a n : Nat) :
    Calls Tryd.prog 38 #[.int .u32 (W x), .int .i64 i, .int .i64 j, .int .i64 k] (w.drewN (a + n)) fun e w'' => e = .returned (.int .u32 (W (tri x i.toNat j.toNat k.toNat))) ∧ ∃ m, w'' = w.drewN (a + m) :=
  (tri_at x i j k hi hj hk _).mono fun _ _ h => ⟨h.1, n, h.2.symm⟩
theorem word_info : (Tryd.prog.info? 43).map (fun i => (i.zero, i.size, i.bytes)) = some (some (.int .u32 0), 1, 4) := by kernel_rfl

set_option maxRecDepth 100000 in
set_option maxHeartbeats 1000000 in
theorem mix_any (s : St) (b : List Int) (hb : b.length = 64) (hy : Byte b) (w : World) (hT : Tab w) :
    Calls Tryd.prog 29 #[.agg (u32s s.list).toArray, .agg (u8s b).toArray] w fun e w' => e = .returned (.agg (u32s (mixed s b).list).toArray) ∧ Below w.heap.size w w' := by
  have hm : mixed s b = s.plus (rnds roundWords (sched b) s 64) := rfl
  have hs := fun w => spread_any b hb hy w
  have hxl := sched_length b
  have hT' := hT
  unfold Tab at hT'
  obtain ⟨ks, hks⟩ : ∃ ks, roundWords = ks := ⟨_, rfl⟩
  obtain ⟨xs, hxs⟩ : ∃ xs, sched b = xs := ⟨_, rfl⟩
  simp only [hxs] at hs hxl
  rw [hxs, hks] at hm
  rw [hks] at hT'
  have HKS : Hid (∀ w, Tab w → ∀ k, k < 64 → w.cell? ⟨0, k, none⟩ = some (.int .u32 (W (ks.getD k 0)))) := by
    intro w h; rw [← hks]; exact h
  clear hxs hks
  have HS := fun w => Lib.hid (hs w)
  have HM := Lib.hid hm
  have HXL := Lib.hid hxl
  have hib : (Tryd.prog.info? 48).map (·.size) = some (u8s b).toArray.size := by rw [u8s_size, hb]; exact info64b
  have HIB := Lib.hid hib; clear hib hb hs hm hT'
  have hiw : (Tryd.prog.info? 44).map (·.size) = some (u32s xs).toArray.size := by rw [u32s_size, hxl]; exact info64
  have HIW := Lib.hid hiw; clear hiw hxl
  have HT := Lib.hid hT; clear hT
  go_enter Tryd.func29, Tryd.ntmps29
  go_wp2_with (first
    | (refine wpList_load_row rfl 48 (.tmp 3) rfl (w.heap.size + 1) rfl 48 (u8s b).toArray (0, 0) _ (by exact (Whole.new_ (l := u8s b) (by simp) rfl).more _) Tryd.underlying48 rfl HIB.out ?_)
    | fail)
  refine (HS _).out.mono ?_; rintro e w1 ⟨rfl, hb1⟩
  have hz1 : w.heap.size + 1 + 1 + 1 ≤ w1.heap.size := by have := hb1.size; simpa using this
  have k2 : Whole w1 w.heap.size 45 (u32s s.list) := Whole.kept (((Whole.new_ rfl rfl).more _).more _) hb1
  have k4 : Whole w1 (w.heap.size + 1 + 1) 45 (u32s [0, 0, 0, 0, 0, 0, 0, 0]) := Whole.kept (Whole.new_ (by simp) (by rfl)) hb1
  have kb : Below w.heap.size w w1 := ((((Below.refl _ _).alloc (Nat.le_refl _) _).alloc (by simp) _).alloc (by simp; omega) _).trans (hb1.mono (by simp; omega))
  have HB1 := Lib.hid kb
  have K2 := Lib.hid k2
  have K4 := Lib.hid k4
  clear hb1 kb k2 k4
  go_wp2_with (first
    | (refine wpList_store_as rfl 44 (.tmp 5) (.tmp 21) rfl w1.heap.size 0 (u32s xs).toArray rfl rfl (by exact (Whole.new_ (l := u32s (List.replicate 64 0)) rfl (by rfl)).there _ _ (by rw [u32s_size]; simp [u32s_length, HXL.out])) HIW.out (u32s_one _) ?_; intro w2 hw2; have HW2 := Lib.hid hw2; clear hw2)
    | fail)
  have k2 : Whole w2 w.heap.size 45 (u32s s.list) := by rw [← HW2.out]; exact (K2.out.more _).lay_apart _ _ _ (by omega)
  have k4 : Whole w2 (w.heap.size + 1 + 1) 45 (u32s [0, 0, 0, 0, 0, 0, 0, 0]) := by rw [← HW2.out]; exact (K4.out.more _).lay_apart _ _ _ (by omega)
  have k5 : Whole w2 w1.heap.size 44 (u32s xs) := by
    rw [← HW2.out]
    have h := Whole.lay (u32s xs) 0 (Whole.new_ (w := w1) (t := 44) (l := u32s (List.replicate 64 0)) rfl rfl) (by simp [u32s_length, HXL.out])
    rwa [lay_all _ _ (by simp [u32s_length, HXL.out])] at h
  have kb : Below w.heap.size w w2 := by rw [← HW2.out]; exact below_lay _ _ _ (HB1.out.alloc (by omega) _) (by omega)
  have kT : Tab w2 := HT.out.later kb
  have c0 : w2.cell? ⟨w.heap.size, 0, none⟩ = some (.int .u32 (W s.a)) := k2.at_ 0
  have c1 : w2.cell? ⟨w.heap.size, 1, none⟩ = some (.int .u32 (W s.b)) := k2.at_ 1
  have c2 : w2.cell? ⟨w.heap.size, 2, none⟩ = some (.int .u32 (W s.c)) := k2.at_ 2
  have c3 : w2.cell? ⟨w.heap.size, 3, none⟩ = some (.int .u32 (W s.d)) := k2.at_ 3
  have c4 : w2.cell? ⟨w.heap.size, 4, none⟩ = some (.int .u32 (W s.e)) := k2.at_ 4
  have c5 : w2.cell? ⟨w.heap.size, 5, none⟩ = some (.int .u32 (W s.f)) := k2.at_ 5
  have c6 : w2.cell? ⟨w.heap.size, 6, none⟩ = some (.int .u32 (W s.g)) := k2.at_ 6
  have c7 : w2.cell? ⟨w.heap.size, 7, none⟩ = some (.int .u32 (W s.h)) := k2.at_ 7
  have K4' := Lib.hid k4
  have K5 := Lib.hid k5
  have KB := Lib.hid kb
  have KT := Lib.hid kT
  clear k2 k4 k5 kb kT HW2 K2 K4 HB1 HT
  go_quiet (fail)
  go_wp2_with fail
  go_quiet (fail)
  go_wp2_with (first
    | (refine wpList_load_row rfl 44 (.tmp 5) rfl w1.heap.size rfl 44 (u32s xs).toArray (0, 0) _ (by exact K5.out) Tryd.underlying44 rfl HIW.out ?_)
    | fail)
  clear K5
  go_loopw [6, 7, 8, 9, 10, 11, 12, 13, 39] (fun a b' c d e f g h i wr => ∃ k : Nat, k ≤ 64 ∧ i = .int .i64 k ∧ (∃ n, wr = w2.drewN n) ∧
      a = .int .u32 (W (rnds ks xs s k).a) ∧ b' = .int .u32 (W (rnds ks xs s k).b) ∧ c = .int .u32 (W (rnds ks xs s k).c) ∧ d = .int .u32 (W (rnds ks xs s k).d) ∧
      e = .int .u32 (W (rnds ks xs s k).e) ∧ f = .int .u32 (W (rnds ks xs s k).f) ∧ g = .int .u32 (W (rnds ks xs s k).g) ∧ h = .int .u32 (W (rnds ks xs s k).h)) (fun _ _ _ _ _ _ _ _ i _ => 64 - (intOf i).toNat)
  case atStart => exact ⟨0, by omega, rfl, ⟨_, rfl⟩, rfl, rfl, rfl, rfl, rfl, rfl, rfl, rfl⟩
  case round =>
    obtain ⟨k, hk, rfl, ⟨nd, rfl⟩, rfl, rfl, rfl, rfl, rfl, rfl, rfl, rfl⟩ := hrel
    by_cases hlt : k < 64
    · have HR : Hid (rnds ks xs s (k + 1) = rnd (rnds ks xs s k) (ks.getD k 0) (xs.getD k 0)) := rfl
      have hx : (u32s xs).toArray[k]? = some (.int .u32 (W (xs.getD k 0))) := by
        rw [List.getElem?_toArray]; exact u32s_at _ (by rw [HXL.out]; exact hlt)
      have hk0 := HKS.out _ KT.out k hlt
      generalize hg : rnds ks xs s (k + 1) = r1 at HR
      have HG := Lib.hid hg; clear hg
      generalize rnds ks xs s k = r at *
      generalize xs.getD k 0 = x at *
      generalize ks.getD k 0 = y at *
      obtain ⟨i0, hi0, _, hi1, _⟩ := info_parts word_info
      have hix := fun w => run_index_array (P := Tryd.prog) .i64 Tryd.underlying44 Tryd.underlying43 hi0 hi1 hlt hx w
      clear hx hi0 hi1
      obtain ⟨ra, rb, rc, rd, re, rf, rg, rh⟩ := r
      have hr : r1 = ⟨rh + tri re 6 11 25 + choice re rf rg + y + x + (tri ra 2 13 22 + most ra rb rc), ra, rb, rc, rd + (rh + tri re 6 11 25 + choice re rf rg + y + x), re, rf, rg⟩ := HR.out
      clear HR
      have p1 := W_and re rf
      have p2 := W_not re
      have p3 := W_and (~~~ re) rg
      have p4 : bits .xor .u32 (W (re &&& rf)) (W (~~~ re &&& rg)) = W (choice re rf rg) := W_xor (re &&& rf) (~~~ re &&& rg)
      have q1 := W_and ra rb
      have q2 := W_and ra rc
      have q3 := W_xor (ra &&& rb) (ra &&& rc)
      have q4 := W_and rb rc
      have q5 : bits .xor .u32 (W (ra &&& rb ^^^ ra &&& rc)) (W (rb &&& rc)) = W (most ra rb rc) := W_xor (ra &&& rb ^^^ ra &&& rc) (rb &&& rc)
      generalize ~~~ re = ne at *
      have s1 := W_add rh (tri re 6 11 25)
      generalize choice re rf rg = ch at *
      generalize most ra rb rc = mo at *
      have s2 := W_add (rh + tri re 6 11 25) ch
      have s3 := W_add (rh + tri re 6 11 25 + ch) y
      have s4 := W_add (rh + tri re 6 11 25 + ch + y) x
      have s5 := W_add (tri ra 2 13 22) mo
      generalize hS : rh + tri re 6 11 25 + ch + y + x = t at *
      generalize hU : tri ra 2 13 22 + mo = u at *
      have s6 := W_add t u
      have s7 := W_add rd t
      have HR := Lib.hid hr; clear hr hS hU
      go_wp2_with fail
      go_quiet ((go_at_call 38; exact tri_quiet2 _ _ _ _ (by unfold Turns; decide) (by unfold Turns; decide) (by unfold Turns; decide) _ _ _))
      go_wp2_with (first | ((with_reducible refine (tri_at _ _ _ _ (by unfold Turns; decide) (by unfold Turns; decide) (by unfold Turns; decide) _).mono ?_); rintro e w' ⟨rfl, rfl⟩) | fail)
      have er : rnds ks xs s (k + 1) = ⟨t + u, ra, rb, rc, rd + t, re, rf, rg⟩ := HG.out.trans HR.out
      refine ⟨⟨k + 1, by omega, by go_num, ⟨_, rfl⟩, ?_⟩, by simp [intOf]; omega⟩
      rw [er, s6, s7]
      exact ⟨rfl, rfl, rfl, rfl, rfl, rfl, rfl, rfl⟩
    · have hk64 : k = 64 := by omega
      subst hk64
      have HMr := HM.out
      generalize rnds ks xs s 64 = r at *
      have hme := congrArg (fun z => (u32s z.list).toArray) HMr
      clear HMr HM HKS HS HXL HIW
      obtain ⟨ra, rb, rc, rd, re, rf, rg, rh⟩ := r
      have a0 := W_add s.a ra
      have a1 := W_add s.b rb
      have a2 := W_add s.c rc
      have a3 := W_add s.d rd
      have a4 := W_add s.e re
      have a5 := W_add s.f rf
      have a6 := W_add s.g rg
      have a7 := W_add s.h rh
      have hi8 : (Tryd.prog.info? 45).map (·.size) = some (u32s (s.plus ⟨ra, rb, rc, rd, re, rf, rg, rh⟩).list).toArray.size := by rw [u32s_size]; exact info8
      have HI8 := Lib.hid hi8; clear hi8
      have hth : (w2.drewN nd).there (w.heap.size + 1 + 1) 0 (u32s (s.plus ⟨ra, rb, rc, rd, re, rf, rg, rh⟩).list).toArray.size := (K4'.out.draws nd).there _ _ (by rw [u32s_size, u32s_length]; exact Nat.le_refl 8)
      have HTH := Lib.hid hth; clear hth
      have HME := Lib.hid hme; clear hme
      go_wp2_with (first
        | (refine wpList_store_as rfl 45 (.tmp 4) (.tmp 123) rfl (w.heap.size + 1 + 1) 0 (u32s (s.plus ⟨ra, rb, rc, rd, re, rf, rg, rh⟩).list).toArray rfl rfl (by exact HTH.out) HI8.out (u32s_one _) ?_; intro w3 hw3; have HW3 := Lib.hid hw3; clear hw3)
        | fail)
      have k4 := Whole.lay (u32s (s.plus ⟨ra, rb, rc, rd, re, rf, rg, rh⟩).list) 0 (K4'.out.draws nd) (by rw [u32s_length, u32s_length]; exact Nat.le_refl 8)
      rw [lay_all _ _ (by rw [u32s_length, u32s_length]; rfl)] at k4
      have kb := below_lay (u32s (s.plus ⟨ra, rb, rc, rd, re, rf, rg, rh⟩).list) (w.heap.size + 1 + 1) 0 (below_draws KB.out nd) (by omega)
      rw [show (w2.drewN nd).setCells (w.heap.size + 1 + 1) 0 (u32s (s.plus ⟨ra, rb, rc, rd, re, rf, rg, rh⟩).list) = w3 from HW3.out] at k4 kb
      exact bodyPost_ret (results_cell_row rfl _ _ (w.heap.size + 1 + 1) 45 (u32s (s.plus ⟨ra, rb, rc, rd, re, rf, rg, rh⟩).list).toArray (0, 0) _ rfl k4 Tryd.underlying45 rfl HI8.out) rfl ⟨by rw [HME.out], kb⟩
end Go.Proofs.YtchbfcegonlhoaaDoor.sha
