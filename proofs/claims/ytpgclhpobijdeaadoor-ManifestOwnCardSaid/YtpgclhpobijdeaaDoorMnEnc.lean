/-
  CONTRACT of manifest.Encode.
-/
import Derived.Test.YtpgclhpobijdeaaDoorMnMay
import Derived.Test.YtpgclhpobijdeaaDoorMDkC
import Derived.Lib.SlBytesConst
namespace Go.Proofs.YtpgclhpobijdeaaDoor.man
open Go.RowKit Go.Proofs.YtpgclhpobijdeaaDoor.disk Go.Proofs.YtpgclhpobijdeaaDoor.recd Go.Proofs.YtpgclhpobijdeaaDoor.num Go.Proofs.YtpgclhpobijdeaaDoor.scan
set_option linter.unusedVariables false

/-- New numbers. -/
theorem nums_new (w : World) (ns : List Nat) (cs : Array Value) (h : cs = (ns.map fun (n : Nat) => Value.int .u64 (n : Int)).toArray) : (∀ i, i < ns.length → (w.alloc (.cells cs 32)).cell? ⟨w.heap.size, i, none⟩ = some (.int .u64 ((ns.getD i 0 : Nat) : Int))) ∧ Below w.heap.size w (w.alloc (.cells cs 32)) ∧ w.heap.size < (w.alloc (.cells cs 32)).heap.size := by
  subst h
  refine ⟨fun i hi => ?_, (Below.refl _ _).alloc (Nat.le_refl _) _, by simp⟩
  rw [cell_of_row _ w.heap.size i _ _ _ (heap_alloc_new w _)]
  simp [List.getElem?_map, List.getElem?_eq_getElem hi, List.getD_eq_getElem?_getD]
/-- The mark. -/
theorem full_new (w0 w : World) (cs : Array Value) (fr : Nat × Nat) (l : List Int) (n : Nat) (h : cs = (u8s l).toArray) (hb : Below w0.heap.size w0 w) (hn : l.length = n) : Full w0 l (.slice (some ⟨w.heap.size, 0, none⟩) n n) (w.alloc (.cells cs 5 fr)) := by
  subst h
  subst hn
  exact ⟨w.heap.size, rfl, leads_cells (heap_alloc_new w _), by simp, hb.alloc hb.size _⟩
/-- A number is put behind the others. -/
theorem put_new {w0 w : World} {v : Value} {l : List Int} (hG : Grow w0 l v w ∨ Full w0 l v w) (g0 : Nat) (hg0 : g0 = w.heap.size) (ns : List Nat) (cs : Array Value) (n : Nat) (h : cs = (ns.map fun (n : Nat) => Value.int .u64 (n : Int)).toArray) (hn : ns.length = n) (hn1 : 0 < n) (hn2 : n ≤ 100) (hl : l.length ≤ 100000) (hb : ∀ x ∈ ns, x < 18446744073709551616) :
    Calls Tryd.prog 30 #[v, .slice (some ⟨g0, 0, none⟩) n n] (w.alloc (.cells cs 32)) fun e w' => ∃ v', e = .returned v' ∧ Grow w0 (l ++ catN ns) v' w' ∧ Others w v w' v' := by
  subst hg0
  obtain ⟨h1, h2, h3⟩ := nums_new w ns cs h
  have hlt : ∀ g, v.ownBlock = some g → g < w.heap.size := by
    rcases hG with hG | ⟨g, rfl, hg, hlt0, hb0⟩
    · exact fun g hg => hG.own.lt hg
    · intro g' e
      injection e with e
      have e : g = g' := e
      omega
  refine (put_all (l := l) (w0 := w0) (v := v) ?_ _ n n ns (fun e => by have := hlt _ e; omega) h3 hn hn1 hn2 hl (fun i hi => h1 i (by omega)) hb).mono ?_
  rotate_left
  · rintro e w' ⟨v', rfl, a1, a2, a3⟩
    exact ⟨v', rfl, a1, by have := h2.size; omega, fun g hg hv => by
      obtain ⟨b1, b2⟩ := a3 g (by have := h2.size; omega) hv
      exact ⟨b1.trans (h2.block g hg), b2⟩⟩
  rcases hG with hG | ⟨g, e, hg, hlt0, hb0⟩
  · exact .inl (hG.later h2)
  · exact 
    .inr ⟨g, e, hg.later h2, by omega, hb0.trans (h2.mono hb0.size)⟩

theorem nums_take {l : List Int} {i : Nat} (h : i < l.length) : nums (l.take (i + 1)) = nums (l.take i) ++ be (l.getD i 0).toNat 6 := by
  rw [nums, List.take_succ_eq_append_getElem h, List.flatMap_append, List.getD_eq_getElem?_getD, List.getElem?_eq_getElem h]
  simp [nums]
theorem flat_take {l : List Ten} {k : Nat} {t : Ten} (h : l[k]? = some t) : (l.take (k + 1)).flatMap encT = (l.take k).flatMap encT ++ encT t := by
  obtain ⟨hk, rfl⟩ := List.getElem?_eq_some_iff.1 h
  rw [List.take_succ_eq_append_getElem hk, List.flatMap_append]
  simp
set_option maxRecDepth 100000 in
set_option maxHeartbeats 2000000 in
theorem manEncode_any (a : Option Addr) (len cap : Nat) (xs : List TS) (w : World) (h : TRow w a len cap xs) :
    Calls Tryd.prog 16 #[.slice a len cap] w (Made w (encO (tens xs))) := by
  have HR := Lib.hid h
  have HL := Lib.hid h.length
  have hmx : (len : Int) ≤ 9223372036854775807 := by have := h.le; have := h.most; omega
  have hcm := manMay_any a len cap xs w h
  cases hmb : mayB (tens xs) with
  | false =>
    rw [hmb] at hcm
    have CM := Lib.hid hcm
    have HE : Hid (encO (tens xs) = []) := Lib.hid (by rw [encO, hmb]; rfl)
    clear h hcm hmb
    go_enter Tryd.func16, Tryd.ntmps16
    go_wp2_with fail
    refine CM.out.mono ?_
    rintro en w1 ⟨rfl, b1⟩
    have B1 := Lib.hid b1
    clear b1
    go_wp2_with fail
    go_ret
    exact ⟨_, rfl, by rw [HE.out]; exact Own.none_ _, (fun g hg => by cases hg), B1.out⟩
  | true =>
    rw [hmb] at hcm
    have CM := Lib.hid hcm
    have HMB := Lib.hid hmb
    have hl6 : len ≤ 6 := by have := mayB_len hmb; rw [tens_length] at this; have := h.length; omega
    clear h hcm hmb
    have kc := fun (w : World) (C : Array Value) (n c : Nat) => Lib.run_convert_bytes_const (P := Tryd.prog) w 44 5 C n c Tryd.underlying44 Tryd.underlying5
    go_enter Tryd.func16, Tryd.ntmps16
    go_wp2_with fail
    refine CM.out.mono ?_
    rintro en w1 ⟨rfl, b1⟩
    have F1 := Lib.hid (full_new w w1 #[.int .u8 109, .int .u8 97, .int .u8 110, .int .u8 58] (4, 5) markL 4 rfl b1 rfl)
    have B1 := Lib.hid b1
    clear b1
    go_wp2_with fail
    with_reducible refine (put_new (.inr F1.out) (w1.heap.size + 1) (by simp) [len] #[.int .u64 (len : Int)] 1 rfl rfl (by omega) (by omega) (by decide) (by intro x hx; rw [List.mem_singleton.1 hx]; omega)).mono ?_
    rintro en w2 ⟨v2, rfl, g2, _⟩
    have G2 := Lib.hid g2
    clear g2 F1 CM B1
    have G0 : Hid (Grow w (markL ++ be len 6 ++ ((tens xs).take 0).flatMap encT) v2 w2) := Lib.hid (by rw [List.take_zero, List.flatMap_nil, List.append_nil]; exact (show catN [len] = be len 6 by simp [catN]) ▸ G2.out)
    clear G2
    go_wp2_with fail
    go_loopw [3, 5, 7, 20] (fun u _ _ i wr => ∃ k : Nat, k ≤ len ∧ i = .int .i64 (k : Int) ∧ Hid (Grow w (markL ++ be len 6 ++ ((tens xs).take k).flatMap encT) u wr)) (fun _ _ _ i _ => len - (intOf i).toNat)
    case atStart => exact ⟨0, Nat.zero_le _, rfl, G0⟩
    case round =>
      obtain ⟨k, hk, rfl, hG⟩ := hrel
      by_cases hlt : k < len
      · have hkI : (k : Int) < (len : Int) := by omega
        obtain ⟨b, off, x, rfl, hx, hmem, hfx, hsx, c0, c1, c2, c3, c4, c5⟩ := (HR.out.later hG.out.below).at_ hlt
        have h1 := mayB_one HMB.out x.t (List.mem_map.2 ⟨x, hmem, rfl⟩)
        obtain ⟨⟨id, ep, qu, nx, ns, sg⟩, sa, sn, sc⟩ := x
        simp only at c0 c1 c2 c3 c4 c5
        have hh := oneB_head h1
        have hs := oneB_segs h1
        have hfid := hfx.id
        simp only at hh hs hfid hsx
        obtain ⟨q, rfl⟩ := Int.eq_ofNat_of_zero_le (show 0 ≤ qu by omega)
        obtain ⟨m, rfl⟩ := Int.eq_ofNat_of_zero_le (show 0 ≤ ns by omega)
        have hsl := hsx.length
        have HSX := Lib.hid hsx
        have HSW := Lib.hid (HR.out.tens _ hmem).2
        simp only at HSW
        have HPN : Hid (∀ g, u3.ownBlock = some g → g ≠ wr.heap.size) := Lib.hid fun g hg => by have := hG.out.own.lt hg; omega
        have HX := Lib.hid hx
        have HS := Lib.hid hs
        have HSL := Lib.hid hsl
        clear hsx hx hs hmem h1 hfx
        obtain ⟨p, hp⟩ : ∃ p, wr.heap.size = p := ⟨_, rfl⟩
        obtain ⟨wa, hwa⟩ : ∃ wa, wr.alloc (.cells #[.int .u32 (id : Int), .int .u64 (ep : Int), .int .i64 (q : Int), .int .u64 (nx : Int), .int .i64 (m : Int), .slice sa sn sc] 34) = wa := ⟨_, rfl⟩
        have ba : Below wr.heap.size wr wa := by rw [← hwa]; exact (Below.refl _ _).alloc (Nat.le_refl _) _
        have wh : Whole wa p 34 [.int .u32 (id : Int), .int .u64 (ep : Int), .int .i64 (q : Int), .int .u64 (nx : Int), .int .i64 (m : Int), .slice sa sn sc] := by rw [← hwa]; exact Whole.new_ hp.symm rfl
        have GA := Lib.hid (hG.out.later ba)
        have SA := Lib.hid (HSX.out.later ba)
        have WA := Lib.hid hwa
        have HP := Lib.hid hp
        have WH := Lib.hid wh
        have HLEN : Hid ((markL ++ be len 6 ++ ((tens xs).take k).flatMap encT).length ≤ 3000) := by
          have e := encs_length (l := (tens xs).take k) fun t ht => (oneB_head (mayB_one HMB.out t (List.mem_of_mem_take ht))).2.2.2.2.2.2.2.2
          have e2 : ((tens xs).take k).length ≤ 6 := by rw [List.length_take]; omega
          refine Lib.hid ?_
          simp only [List.length_append, be_length, markL, List.length_cons, List.length_nil]
          omega
        have e1 : IntKind.u64.wrap (id : Int) = (id : Int) := by rw [IntKind.wrap_u64]; omega
        have e2 : IntKind.u64.wrap (q : Int) = (q : Int) := by rw [IntKind.wrap_u64]; omega
        have e3 : IntKind.u64.wrap (m : Int) = (m : Int) := by rw [IntKind.wrap_u64]; omega
        have e4 : IntKind.u64.wrap (sn : Int) = (sn : Int) := by rw [IntKind.wrap_u64]; omega
        clear hwa ba wh hG HSX
        go_upto_region 7 with fail
        rw [WA.out]
        obtain ⟨z0, z1, z2, z3, z4, z5⟩ := ten6 WH.out
        clear c0 c1 c2 c3 c4 c5 hp WA
        go_wp2_with fail
        refine (put_new (.inl GA.out) wa.heap.size rfl [id, ep, q, nx, m, sn] #[.int .u64 (id : Int), .int .u64 (ep : Int), .int .u64 (q : Int), .int .u64 (nx : Int), .int .u64 (m : Int), .int .u64 (sn : Int)] 6 rfl rfl (by omega) (by omega) (by have := HLEN.out; omega) (by intro y hy; simp only [List.mem_cons, List.not_mem_nil, or_false] at hy; omega)).mono ?_
        rintro en w3 ⟨v3, rfl, g3, o3⟩
        have hp3 : Whole w3 p 34 [.int .u32 (id : Int), .int .u64 (ep : Int), .int .i64 (q : Int), .int .u64 (nx : Int), .int .i64 (m : Int), .slice sa sn sc] := Whole.same WH.out (o3.2 p WH.out.lt (fun e => HPN.out _ e HP.out.symm)).1
        obtain ⟨_, _, _, _, _, y5⟩ := ten6 hp3
        have SEGW : Hid (SegsAt w sa sn sc sg) := HSW
        have G3 : Hid (Grow w (markL ++ be len 6 ++ ((tens xs).take k).flatMap encT ++ catN [id, ep, q, nx, m, sn] ++ nums (sg.take 0)) v3 w3) := Lib.hid (by rw [List.take_zero, show nums [] = [] from rfl, List.append_nil]; exact g3)
        have hsn : (sn : Int) ≤ 60 := by omega
        clear z0 z1 z2 z3 z4 z5 g3 o3 hp3 WH SA GA
        go_wp2_with fail
        go_loopw [3, 7, 47] (fun u _ i wr => ∃ j : Nat, j ≤ sn ∧ i = .int .i64 (j : Int) ∧ Hid (Grow w (markL ++ be len 6 ++ ((tens xs).take k).flatMap encT ++ catN [id, ep, q, nx, m, sn] ++ nums (sg.take j)) u wr)) (fun _ _ i _ => sn - (intOf i).toNat)
        case atStart => exact ⟨0, Nat.zero_le _, rfl, G3⟩
        case round =>
          obtain ⟨j, hj, rfl, hGj⟩ := hrel
          by_cases hjl : j < sn
          · have hjI : (j : Int) < (sn : Int) := by omega
            obtain ⟨sb, so, rfl, hsc⟩ : ∃ b off, sa = some ⟨b, off, none⟩ ∧ ∀ i, i < sn → wr.cell? ⟨b, off + i, none⟩ = some (.int .i64 (sg.getD i 0)) := by
              rcases (SEGW.out.later hGj.out.below).cells with h | h
              · omega
              · exact h
            have hck := hsc j hjl
            have hsm := HS.out (sg.getD j 0) (by rw [List.getD_eq_getElem?_getD, List.getElem?_eq_getElem (by rw [HSL.out]; exact hjl)]; exact List.getElem_mem _)
            have hnt := nums_take (l := sg) (i := j) (by rw [HSL.out]; exact hjl)
            obtain ⟨s, hse⟩ : ∃ s, sg.getD j 0 = s := ⟨_, rfl⟩
            rw [hse] at hck hsm hnt
            obtain ⟨y, rfl⟩ := Int.eq_ofNat_of_zero_le (show 0 ≤ s by omega)
            have e5 : IntKind.u64.wrap (y : Int) = (y : Int) := by rw [IntKind.wrap_u64]; omega
            have HNT := Lib.hid hnt
            have HSM := Lib.hid hsm
            have HLJ : Hid ((markL ++ be len 6 ++ ((tens xs).take k).flatMap encT ++ catN [id, ep, q, nx, m, sn] ++ nums (sg.take j)).length ≤ 4000) := by
              have := HLEN.out
              have := nums_length (sg.take j)
              have : (sg.take j).length ≤ 60 := by rw [List.length_take]; omega
              have := catN_length [id, ep, q, nx, m, sn]
              refine Lib.hid ?_
              rw [List.length_append, List.length_append]
              simp only [List.length_cons, List.length_nil] at *
              omega
            clear hsc hnt hsm hse
            go_wp2_with fail
            refine (put_new (.inl hGj.out) _ rfl [y] #[.int .u64 (y : Int)] 1 rfl rfl (by omega) (by omega) (by have := HLJ.out; omega) (by intro z hz; rw [List.mem_singleton.1 hz]; have := HSM.out; omega)).mono ?_
            rintro en w4 ⟨v4, rfl, g4, _⟩
            have G4 : Hid (Grow w (markL ++ be len 6 ++ ((tens xs).take k).flatMap encT ++ catN [id, ep, q, nx, m, sn] ++ nums (sg.take (j + 1))) v4 w4) := Lib.hid (by rw [HNT.out, ← List.append_assoc]; exact (show catN [y] = be y 6 by simp [catN]) ▸ g4)
            clear g4 hGj hck
            go_wp2_with fail
            refine ⟨⟨j + 1, by omega, by rw [Int.natCast_add]; rfl, G4⟩, ?_⟩
            show sn - ((j : Int) + 1).toNat < sn - (j : Int).toNat
            omega
          · obtain rfl : j = sn := by omega
            have G5 : Hid (Grow w (markL ++ be len 6 ++ ((tens xs).take (k + 1)).flatMap encT) u3 wr) := Lib.hid (by
              have := hGj.out
              rw [List.take_of_length_le (l := sg) (by rw [HSL.out]; exact Nat.le_refl _)] at this
              rw [flat_take (tens_at HX.out)]
              have e : encT ⟨id, ep, (q : Int), nx, (m : Int), sg⟩ = catN [id, ep, q, nx, m, j] ++ nums sg := by
                simp [encT, catN, HSL.out, List.append_assoc]
              simp only
              rw [e, ← List.append_assoc, ← List.append_assoc]
              simpa only [List.append_assoc] using this)
            clear hGj
            go_wp2_with fail
            refine ⟨⟨k + 1, by omega, by rw [Int.natCast_add]; rfl, G5⟩, ?_⟩
            show len - ((k : Int) + 1).toNat < len - (k : Int).toNat
            omega
      · obtain rfl : k = len := by omega
        have F : Hid (Made w (encO (tens xs)) (.returned u3) wr) := by
          have := hG.out
          rw [List.take_of_length_le (by rw [tens_length, HL.out]; exact Nat.le_refl _)] at this
          rw [encO, if_pos HMB.out, enc, tens_length, HL.out]
          exact Lib.hid ⟨_, rfl, this.own, this.new_, this.below⟩
        clear hG
        go_wp2_with fail
        go_ret
        exact F.out
end Go.Proofs.YtpgclhpobijdeaaDoor.man
