/-
  CONTRACTS of manifest.within, manifest.put, (*manifest.reader).next, bytes.Equal.
-/
import Derived.Test.YtpgclhpobijdeaaDoorMnRow
import Derived.Test.YtpgclhpobijdeaaDoorMRec

import Derived.Lib.MinMax
import Derived.Laws.AppendOwn
namespace Go.Proofs.YtpgclhpobijdeaaDoor.man
open Go.RowKit Go.Proofs.YtpgclhpobijdeaaDoor.disk Go.Proofs.YtpgclhpobijdeaaDoor.recd Go.Proofs.YtpgclhpobijdeaaDoor.num Go.Proofs.YtpgclhpobijdeaaDoor.scan
set_option linter.unusedVariables false

theorem within_any (n : Nat) (w : World) : Calls Tryd.prog 51 #[.int .u64 (n : Int)] w fun e w' => e = .returned (.bool (decide (1 ≤ n ∧ n ≤ 1099511627776))) ∧ w = w' := by
  by_cases h1 : (1 : Int) ≤ (n : Int)
  · by_cases h2 : (n : Int) ≤ 1099511627776
    · go_enter Tryd.func51, Tryd.ntmps51
      go_wp2
      go_ret
      exact ⟨ret_bool (by have : 1 ≤ n := by omega
                          have : n ≤ 1099511627776 := by omega
                          simp [*]), rfl⟩
    · go_enter Tryd.func51, Tryd.ntmps51
      go_wp2
      go_ret
      exact ⟨ret_bool (by have : ¬ n ≤ 1099511627776 := by omega
                          simp [*]), rfl⟩
  · go_enter Tryd.func51, Tryd.ntmps51
    go_wp2
    go_ret
    exact ⟨ret_bool (by have : ¬ 1 ≤ n := by omega
                        simp [*]), rfl⟩

/-- Blocks that are not the row's own stay. -/
def Others (w : World) (v : Value) (w' : World) (v' : Value) : Prop := w.heap.size ≤ w'.heap.size ∧ ∀ g, g < w.heap.size → v.ownBlock ≠ some g → w'.heap[g]? = w.heap[g]? ∧ v'.ownBlock ≠ some g
theorem Others.refl (w : World) (v : Value) : Others w v w v := ⟨Nat.le_refl _, fun g _ h => ⟨rfl, h⟩⟩
theorem Others.trans {w w1 w2 : World} {v v1 v2 : Value} (h : Others w v w1 v1) (k : Others w1 v1 w2 v2) : Others w v w2 v2 :=
  ⟨Nat.le_trans h.1 k.1, fun g hg hv => by
    obtain ⟨a1, a2⟩ := h.2 g hg hv
    obtain ⟨b1, b2⟩ := k.2 g (Nat.lt_of_lt_of_le hg h.1) a2
    exact ⟨b1.trans a1, b2⟩⟩
/-- What a call made is appended: other blocks stay. -/
theorem put_apart {w0 w w1 : World} {v : Value} {l m : List Int} {e : Ending} (h : Grow w0 l v w) (n : Nat) (hn : m.length = n) (hm : Made w m e w1) (hs : l.length + n ≤ 1000000000) :
    ∃ a cap v' w', e = .returned (.slice a n cap) ∧ (Builtin.append_ #[44, 44] 44 #[v, .slice a n cap]).run Tryd.prog w1 = .ok v' w' ∧ Grow w0 (l ++ m) v' w' ∧ Others w v w' v' := by
  subst hn
  obtain ⟨u, rfl, o, nb, bl⟩ := hm
  obtain ⟨a, cap, rfl, _, _, hn, hl, _⟩ := o.form
  obtain ⟨v', w', hr, ho, hg, hv⟩ := append_row (h.own.later bl) a m.length cap m hl rfl (fun e => (hn e).2) hs
  have hsz := bl.size
  refine ⟨a, cap, v', w', rfl, hr, h.step bl ho hg hv, Nat.le_trans hsz hg.size, fun g hg1 hg2 => ⟨(hg.block g (by omega) (fun e => hg2 e.symm)).trans (bl.block g hg1), ?_⟩⟩
  rcases hv with hv | hv
  · rw [hv]; exact hg2
  · rw [hv]; intro e; injection e with e; omega

/-- Bytes in a slice without room. -/
def Full (w0 : World) (l : List Int) (v : Value) (w : World) : Prop := ∃ g, v = .slice (some ⟨g, 0, none⟩) l.length l.length ∧ Leads w (some ⟨g, 0, none⟩) l ∧ g < w.heap.size ∧ Below w0.heap.size w0 w
theorem append_full {w : World} (b : Addr) (xs : List Int) (n : Nat) (hn : xs.length = n) (hb : Leads w (some b) xs) (a : Addr) (ys : List Int) (m cap : Nat) (hm : ys.length = m) (ha : Leads w (some a) ys) (h0 : 0 < m) (hs : n + m ≤ 1000000) :
    ∃ c w', (Builtin.append_ #[44, 44] 44 #[.slice (some b) n n, .slice (some a) m cap]).run Tryd.prog w = .ok (.slice (some ⟨w.heap.size, 0, none⟩) (n + m) c) w' ∧ Own w' (.slice (some ⟨w.heap.size, 0, none⟩) (n + m) c) (xs ++ ys) ∧ Below w.heap.size w w' := by
  subst hn
  subst hm
  obtain ⟨i0, hi, hz0, hz1, hz2⟩ := info_parts byte_info
  have cells : ∀ (p : Addr) (l : List Int), Leads w (some p) l → ∀ j u, (u8s l)[j]? = some u → w.cell? (p.add j) = some u := by
    intro p l hl j u hu
    rcases hl with rfl | ⟨g, off, he', hc⟩
    · simp [u8s] at hu
    · have hj : j < l.length := by
        have := (List.getElem?_eq_some_iff.1 hu).1
        rwa [u8s_length] at this
      rw [u8s_at l hj] at hu
      obtain rfl : p = ⟨g, off, none⟩ := Option.some.inj he'
      rw [← hu, ← hc j hj, Addr.add_mid]
  have hge := grownCap_ge w (xs.length + ys.length) xs.length 5
  have hcm : grownCap w (xs.length + ys.length) xs.length 5 ≤ maxLen := grownCap_le_maxLen w (xs.length + ys.length) xs.length 5 (by unfold maxLen; omega)
  have hr := run_append_grow (P := Tryd.prog) w 44 44 5 i0 (.int .u8 0) Tryd.underlying44 hi hz0 b xs.length xs.length (u8s xs) (by rw [u8s_length, hz1, Nat.mul_one]) (cells b xs hb) a ys.length cap (u8s ys) (by rw [u8s_length, hz1, Nat.mul_one]) (cells a ys ha) (by omega) (by omega) (growslice_fits (by omega) (by rw [hz2]; omega))
  have hzc : (Value.int .u8 0).cells = #[Value.int .u8 0] := rfl
  rw [hzc] at hr
  refine ⟨_, _, hr, ?_, ((below_draws (Below.refl _ _) 1).alloc (Nat.le_refl _) _)⟩
  have hl : (u8s (xs ++ ys)).length = xs.length + ys.length := by rw [u8s_length, List.length_append]
  rw [show xs.length + ys.length = (xs ++ ys).length from (List.length_append ..).symm]
  refine Own.mk_ (heap_alloc_new w.drew _) ?_ (by rw [List.length_append]; exact hge) (by rw [List.length_append]; exact hcm) ?_
  · simp only [Array.size_append, List.size_toArray, size_zeroCells, u8s_length, List.length_cons, List.length_nil]
    rw [List.length_append]
    omega
  · simp only [Array.toList_append]
    rw [show (u8s xs).toArray.toList ++ (u8s ys).toArray.toList = u8s (xs ++ ys) by simp [u8s], List.length_append, ← hl]
    exact List.take_left
theorem put_apart_full {w0 w w1 : World} {v : Value} {l m : List Int} {e : Ending} (h : Full w0 l v w) (n : Nat) (hn : m.length = n) (h0 : 0 < n) (hm : Made w m e w1) (hs : l.length + n ≤ 1000000) :
    ∃ a cap v' w', e = .returned (.slice a n cap) ∧ (Builtin.append_ #[44, 44] 44 #[v, .slice a n cap]).run Tryd.prog w1 = .ok v' w' ∧ Grow w0 (l ++ m) v' w' ∧ Others w v w' v' := by
  subst hn
  obtain ⟨u, rfl, o, nb, bl⟩ := hm
  obtain ⟨a, cap, rfl, _, _, hn, hl, _⟩ := o.form
  obtain ⟨g0, rfl, hg0, _, hb⟩ := h
  obtain ⟨ad, rfl⟩ : ∃ ad, a = some ad := by
    cases a with
    | none => have := (hn rfl).1; omega
    | some ad => exact ⟨ad, rfl⟩
  obtain ⟨c, w', hr, ho, b2⟩ := append_full (w := w1) ⟨g0, 0, none⟩ l l.length rfl (hg0.later bl) ad m m.length cap rfl hl h0 hs
  have hsz := bl.size
  have hsz0 := hb.size
  refine ⟨_, cap, _, w', rfl, hr, ⟨ho, fun g hg => ?_, (hb.trans (bl.mono hsz0)).trans (b2.mono (Nat.le_trans hsz0 hsz))⟩, Nat.le_trans hsz b2.size, fun g hg1 _ => ⟨(b2.block g (by omega)).trans (bl.block g hg1), ?_⟩⟩
  · injection hg with hg
    have hg : w1.heap.size = g := hg
    omega
  · intro e
    injection e with e
    have e : w1.heap.size = g := e
    omega

def catN (ns : List Nat) : List Int := ns.flatMap fun n => be n 6
theorem catN_length : ∀ l : List Nat, (catN l).length = 6 * l.length
  | [] => rfl
  | s :: l => by rw [catN, List.flatMap_cons, List.length_append, be_length, List.length_cons]; have := catN_length l; unfold catN at this; omega
theorem catN_take {ns : List Nat} {i : Nat} (h : i < ns.length) : catN (ns.take (i + 1)) = catN (ns.take i) ++ be (ns.getD i 0) 6 := by
  rw [catN, List.take_succ_eq_append_getElem h, List.flatMap_append, List.getD_eq_getElem?_getD, List.getElem?_eq_getElem h]
  simp [catN]

def PutInv (w0 w : World) (v : Value) (l : List Int) (ns : List Nat) (n g k : Nat) (u : Value) (wr : World) : Prop := Others w v wr u ∧ (Grow w0 (l ++ catN (ns.take k)) u wr ∨ (k = 0 ∧ Full w0 l u wr)) ∧ u.ownBlock ≠ some g ∧ g < wr.heap.size ∧ ∀ i, i < n → wr.cell? ⟨g, i, none⟩ = some (.int .u64 ((ns.getD i 0 : Nat) : Int))
set_option maxRecDepth 100000 in
theorem put_all {w0 w : World} {v : Value} {l : List Int} (hG : Grow w0 l v w ∨ Full w0 l v w) (g n cap : Nat) (ns : List Nat) (hg : v.ownBlock ≠ some g) (hgs : g < w.heap.size) (hn : ns.length = n) (hn1 : 0 < n) (hn2 : n ≤ 100) (hl : l.length ≤ 100000)
    (hc : ∀ i, i < n → w.cell? ⟨g, i, none⟩ = some (.int .u64 ((ns.getD i 0 : Nat) : Int))) (hb : ∀ x ∈ ns, x < 18446744073709551616) :
    Calls Tryd.prog 30 #[v, .slice (some ⟨g, 0, none⟩) n cap] w fun e w' => ∃ v', e = .returned v' ∧ Grow w0 (l ++ catN ns) v' w' ∧ Others w v w' v' := by
  have HN := Lib.hid hn
  have HL := Lib.hid hl
  have HB := Lib.hid hb
  have G0 : Hid (PutInv w0 w v l ns n g 0 v w) := ⟨Others.refl _ _, by rw [List.take_zero, catN]; simpa using hG, hg, hgs, hc⟩
  clear hG hg hgs hn hl hb hc
  go_enter Tryd.func30, Tryd.ntmps30
  go_wp2_with fail
  go_loopw [0, 6, 9] (fun u _ i wr => ∃ k : Nat, k ≤ n ∧ i = .int .i64 (k : Int) ∧ Hid (PutInv w0 w v l ns n g k u wr)) (fun _ _ i _ => n - (intOf i).toNat)
  case atStart => exact ⟨0, Nat.zero_le _, rfl, G0⟩
  case round =>
    obtain ⟨k, hk, rfl, hR⟩ := hrel
    by_cases hlt : k < n
    · have hck := hR.out.2.2.2.2 k hlt
      have hkI : (k : Int) < (n : Int) := by omega
      obtain ⟨x, hx⟩ : ∃ x, ns.getD k 0 = x := ⟨_, rfl⟩
      have hxb : x < 18446744073709551616 := by
        rw [← hx, List.getD_eq_getElem?_getD, List.getElem?_eq_getElem (by rw [HN.out]; exact hlt)]
        exact HB.out _ (List.getElem_mem _)
      rw [hx] at hck
      have CP := Lib.hid (put_any x 6 (by omega) wr)
      have HXE := Lib.hid hx
      clear hx
      go_wp2_with fail
      refine CP.out.mono ?_
      rintro e w1 hm
      obtain ⟨a, cp, v', w2, rfl, hr, hG, hK⟩ : ∃ a cap v' w', e = .returned (.slice a 6 cap) ∧ (Builtin.append_ #[44, 44] 44 #[u0, .slice a 6 cap]).run Tryd.prog w1 = .ok v' w' ∧ Grow w0 ((l ++ catN (ns.take k)) ++ be x 6) v' w' ∧ Others wr u0 w' v' := by
        rcases hR.out.2.1 with h | ⟨h0, h⟩
        · exact put_apart h 6 (be_length _ _) hm (by rw [List.length_append, catN_length, List.length_take]; have := HL.out; omega)
        · subst h0
          rw [List.take_zero, show l ++ catN [] = l by simp [catN]]
          exact put_apart_full h 6 (be_length _ _) (by omega) hm (by have := HL.out; omega)
      have FIN : Hid (∃ k2 : Nat, k2 ≤ n ∧ Value.int .i64 ((k : Int) + 1) = .int .i64 (k2 : Int) ∧ Hid (PutInv w0 w v l ns n g k2 v' w2)) := by
        obtain ⟨hO, _, h2, h3, h4⟩ := hR.out
        obtain ⟨hb1, hb2⟩ := hK.2 g h3 h2
        refine ⟨k + 1, by omega, by rw [Int.natCast_add]; rfl, hO.trans hK, by rw [catN_take (by rw [HN.out]; exact hlt), ← List.append_assoc, HXE.out]; exact .inl hG, hb2, ?_, fun i hi => by rw [← h4 i hi]; exact World.cell?_of_block (a := ⟨g, i, none⟩) hb1⟩
        refine Nat.lt_of_not_le fun hge => ?_
        rw [Array.getElem?_eq_none hge, Array.getElem?_eq_getElem h3] at hb1
        cases hb1
      have HR := Lib.hid hr
      clear hR hr hG hK hm hck CP
      go_wp2_with ((with_reducible show wpList _ _ _ (⟨some 16, _, _, _, _, _⟩ :: _) _ _); refine wpList_append_run 44 (.tmp 13) (.tmp 15) _ _ rfl rfl rfl rfl rfl HR.out ?_)
      refine ⟨FIN.out, ?_⟩
      show n - ((k : Int) + 1).toNat < n - (k : Int).toNat
      omega
    · obtain rfl : k = n := by omega
      have FIN : Hid (Grow w0 (l ++ catN ns) u0 wr ∧ Others w v wr u0) := by
        refine Lib.hid ⟨?_, hR.out.1⟩
        rcases hR.out.2.1 with h | ⟨h0, _⟩
        · rw [List.take_of_length_le (by rw [HN.out]; exact Nat.le_refl _)] at h; exact h
        · omega
      clear hR
      go_wp2_with fail
      go_ret
      exact ⟨_, rfl, FIN.out.1, FIN.out.2⟩

theorem equal_any (w : World) (a b : Option Addr) (n m ca cb : Nat) (l k : List Int) (hl : Leads w a l) (hk : Leads w b k) (bl : Byte l) (bk : Byte k) :
    Calls Tryd.prog 33 #[.slice a l.length ca, .slice b k.length cb] w fun e w' => e = .returned (.bool (decide (l = k))) ∧ w = w' := by
  have r1 := recd.run_str hl bl ca
  have r2 := recd.run_str hk bk cb
  have hc : ((recd.str l).toList == (recd.str k).toList) = decide (l = k) := by rw [str_beq bl, bs_str bk]
  generalize l.length = n at r1
  generalize k.length = m at r2
  generalize recd.str l = s at r1 hc
  generalize recd.str k = u at r2 hc
  generalize decide (l = k) = r at hc
  clear hl hk bl bk
  have HC := Lib.hid hc
  clear hc
  go_enter Tryd.func33, Tryd.ntmps33
  go_wp2_with fail
  go_ret
  exact ⟨by rw [HC.out]; rfl, rfl⟩

end Go.Proofs.YtpgclhpobijdeaaDoor.man
