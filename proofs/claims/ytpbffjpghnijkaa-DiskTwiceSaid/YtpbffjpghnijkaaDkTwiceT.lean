/-
  'stillroomlaw5.DiskTwice' FROM ITS FIRST CRASH ON, taken out of the translation. Written by wip/tools/twicet.py.
-/
import Derived.Test.YtpbffjpghnijkaaDkTwiceR
namespace Go.Proofs.Ytpbffjpghnijkaa.disk
open Go.RowKit Go.Maps
set_option linter.unusedVariables false

def startsAt (n : Nat) : Code → Bool
  | .region k _ _ => k == n
  | .seq a _ => startsAt n a
  | _ => false
def fromAt (n : Nat) : Code → Code
  | .seq a b => if startsAt n a then .seq a b else fromAt n b
  | c => c
def firstOf : Code → Code
  | .seq a _ => a
  | c => c
noncomputable def twiceFrom (n : Nat) : Code := fromAt n (Try.f9.body.getD .skip)

theorem Disk.sorted {R : Nat → Prop} {w : World} {p n : Nat} {S : St} (h : Disk R w p S n) : S.now.Pairwise fun p q => bytesBefore p.1 q.1 = true := by
  obtain ⟨C, mn, ms, wv, h⟩ := h
  exact h.now.sorted
/-- The names' slice: nil, or a row of its own. -/
theorem names_form {w w' : World} {d : Dir} {v : Value} (h : w'.ownsRow w.heap.size 9 1 v d.length (d.map fun p => encStr p.1)) :
    ∃ a cap, v = .slice a d.length cap ∧ d.length ≤ cap ∧ cap ≤ 9223372036854775807 ∧ (0 < d.length → ∃ g, a = some ⟨g, 0, none⟩ ∧ w.heap.size ≤ g ∧ ∀ i q, d[i]? = some q → w'.cell? ⟨g, i, none⟩ = some (.string ⟨q.1.toArray⟩)) := by
  have hc := fun g hg => World.ownsRow.cells h (g := g) hg
  have hlt := World.ownsRow.lt h
  rcases h.2 with ⟨rfl, h0⟩ | ⟨g, cap, cur, rfl, _, _, h1, h2, _, _⟩
  · exact ⟨none, 0, by rw [h0], by omega, by omega, fun h => by omega⟩
  · unfold maxLen at h2
    refine ⟨_, cap, rfl, h1, by omega, fun _ => ⟨g, rfl, (hlt g rfl).1, fun i q hq => ?_⟩⟩
    have := hc g rfl i (encStr q.1) (by rw [List.getElem?_map, hq]; rfl)
    rwa [Addr.add_mid, Nat.zero_add] at this

set_option maxRecDepth 100000 in
set_option maxHeartbeats 8000000 in
theorem twice_tail {z0 z4 z5 z6 z7 z8 z9 z11 z12 z13 z14 z15 z16 z17 z18 z19 z20 z21 z22 z23 z24 z25 z26 z27 z28 z29 z30 z31 z32 z33 z34 z35 z36 z37 z38 z39 z40 z41 z42 z43 z44 z45 z46 z47 z48 z49 z50 z51 z52 z53 z54 z55 z56 z57 z58 z59 z60 z61 z62 z63 z64 z65 z66 z67 z68 z69 z70 z71 z72 z73 z74 z75 z76 z77 z78 z79 z80 z81 z82 z83 z84 z85 z86 z87 z88 z89 z90 z91 z92 z93 z94 z95 z96 z97 z98 z99 z100 z101 z102 z103 z104 z105 z106 z107 z108 z109 z110 z111 z112 z113 z114 z115 z116 z117 z118 z119 z120 z121 z122 z123 z124 z125 z126 z127 z128 z129 z130 z131 z132 z133 z134 z135 z136 z137 z138 z139 z140 z141 z142 z143 z144 z145 z146 : Value} (W w : World) (p n : Nat) (S : St) (nn torn : Int) (ka : Option Addr) (kn kc : Nat) (keep : List Bool)
    (H : Held W (fun _ => False) w p S n) (hn : n ≤ 1000) (hk : Bools w ka kn keep)
    (K9 : Act → World → Prop) (hK9 : ∀ a w', Code.wp Try.prog (twiceFrom 21) (bodyPost Try.prog Try.f9 fun e w' => e = .returned (.bool true) ∧ Below W.heap.size W w') a w' → K9 a w') :
    Code.wp Try.prog (firstOf (twiceFrom 20)) (Exit.then K9 (bodyPost Try.prog Try.f9 fun e w' => e = .returned (.bool true) ∧ Below W.heap.size W w')) ⟨#[z0, .int .i64 nn, .slice ka kn kc, .int .i64 torn, z4, z5, z6, z7, z8, z9, .pointer (some ⟨p, 0, none⟩), z11, z12, z13, z14, z15, z16, z17, z18, z19, z20, z21, z22, z23, z24, z25, z26, z27, z28, z29, z30, z31, z32, z33, z34, z35, z36, z37, z38, z39, z40, z41, z42, z43, z44, z45, z46, z47, z48, z49, z50, z51, z52, z53, z54, z55, z56, z57, z58, z59, z60, z61, z62, z63, z64, z65, z66, z67, z68, z69, z70, z71, z72, z73, z74, z75, z76, z77, z78, z79, z80, z81, z82, z83, z84, z85, z86, z87, z88, z89, z90, z91, z92, z93, z94, z95, z96, z97, z98, z99, z100, z101, z102, z103, z104, z105, z106, z107, z108, z109, z110, z111, z112, z113, z114, z115, z116, z117, z118, z119, z120, z121, z122, z123, z124, z125, z126, z127, z128, z129, z130, z131, z132, z133, z134, z135, z136, z137, z138, z139, z140, z141, z142, z143, z144, z145, z146], []⟩ w := by
  conv => arg 2; whnf
  have HH := Lib.hid H
  have HK9 := Lib.hid hK9
  have CR := Lib.hid (H.crash (by omega) nn ka kn kc keep hk torn)
  clear H hK9 hk
  go_wp2_with fail
  refine CR.out.mono ?_
  rintro en w1 ⟨p1, S1, rfl, h1, ⟨-, -, -, -, hw1, hs1⟩, hb1⟩
  have H1 := Lib.hid h1
  have HB1 := Lib.hid hb1
  have CR2 := Lib.hid (h1.crash (by omega) 0 none 0 0 [] (bools_nil w1) (-1))
  have hl0 := St.leftDir_none hw1 hs1 (min (0 : Int).toNat S1.wait.length)
  rw [hl0] at CR2
  have B1 := Lib.hid (HH.out.below.trans (h1.below.mono HH.out.below.size))
  clear h1 hb1 CR hw1 hs1 hl0
  go_wp2_with fail
  refine HK9.out _ _ ?_
  conv => arg 2; whnf
  clear HK9
  go_wp2_with fail
  refine CR2.out.mono ?_
  rintro en w2 ⟨p2, S2, rfl, h2, -, hb2⟩
  have hag := Built.same_at (HB1.out.again hb2)
  have hd0 := HB1.out.dirty_none
  have b12 := h2.below
  have tw : TwoD w.heap.size w1.heap.size w2.heap.size w2 p1 p2 S1 S2 (2 * n) (2 * (2 * n)) :=
    ⟨(H1.out.disk.mono (R' := fun k => w.heap.size ≤ k ∧ k < w1.heap.size) fun k hk hr => ⟨hr.1, hk⟩).later b12, h2.disk.mono fun k hk hr => ⟨hr.1, hk⟩, Nat.le_refl _⟩
  have srt1 := H1.out.disk.sorted
  have srt2 := h2.disk.sorted
  have ok1 := H1.out.disk.ok
  have fit1 := fun b hb => H1.out.disk.fit (b := b) hb
  have hlm : w.heap.size ≤ w1.heap.size := H1.out.below.size
  have hmh : w1.heap.size ≤ w2.heap.size := b12.size
  have hN2 : S1.now.length ≤ 2 * n := ok1.now
  have lk : ∀ i, i < S1.now.length → ∃ nm ba bb, S1.now[i]? = some (nm, ba) ∧ S2.now[i]? = some (nm, bb) ∧ S1.file ba = S2.file bb ∧ dlook nm S1.now = some ba ∧ dlook nm S2.now = some bb ∧ nm.length ≤ maxLen ∧ (S1.file ba).now.length ≤ 4194304 ∧ Byte (S1.file ba).now := by
    intro i hi
    have hi2 : i < S2.now.length := by rw [hag.1]; exact hi
    have q1 : S1.now[i]? = some S1.now[i] := List.getElem?_eq_getElem hi
    have q2 : S2.now[i]? = some S2.now[i] := List.getElem?_eq_getElem hi2
    have m1 : S1.now[i] ∈ S1.now := List.getElem_mem hi
    have m2 : S2.now[i] ∈ S2.now := List.getElem_mem hi2
    obtain ⟨⟨nm, ba⟩, hx1⟩ : ∃ x, S1.now[i] = x := ⟨_, rfl⟩
    obtain ⟨⟨nm2, bb⟩, hx2⟩ : ∃ x, S2.now[i] = x := ⟨_, rfl⟩
    rw [hx1] at q1 m1
    rw [hx2] at q2 m2
    obtain ⟨e1, e2⟩ := hag.2 i _ _ q1 q2
    simp only at e1 e2
    subst e1
    have ft := fit1 ba (ok1.inow _ m1)
    exact ⟨nm, ba, bb, q1, q2, e2, dlook_of_mem (srt1.imp fun hab e => by rw [e, WideAt.bytes_irrefl] at hab; cases hab) m1, dlook_of_mem (srt2.imp fun hab e => by rw [e, WideAt.bytes_irrefl] at hab; cases hab) m2, ok1.lnow _ m1, ft.most, ft.bnow⟩
  have hN := hag.1
  have LK := Lib.hid lk
  have TW := Lib.hid tw
  have B2 := Lib.hid (B1.out.trans (b12.mono B1.out.size))
  clear lk tw h2 hb2 hag srt1 srt2 ok1 fit1 b12 H1 HB1 CR2 B1
  obtain ⟨N, hNN⟩ : ∃ N, S1.now.length = N := ⟨_, rfl⟩
  have LN1 := Lib.hid (lnames_any w2 p1 S1 (2 * n) TW.out.a (by omega))
  go_wp2_with fail
  refine LN1.out.mono ?_
  rintro en w3 ⟨v3, rfl, o3, -, b3⟩
  obtain ⟨a3, c3, rfl, hc3, hc3m, hg3⟩ := names_form o3
  have TW3 := Lib.hid (TW.out.later b3)
  have LN2 := Lib.hid (lnames_any w3 p2 S2 (2 * (2 * n)) TW3.out.b (by omega))
  have HG3 := Lib.hid hg3
  have B3 := Lib.hid b3
  clear o3 b3 hg3 LN1
  go_wp2_with fail
  refine LN2.out.mono ?_
  rintro en w4 ⟨v4, rfl, o4, -, b4⟩
  obtain ⟨a4, c4, rfl, hc4, hc4m, hg4⟩ := names_form o4
  have TW4 := Lib.hid (TW3.out.later b4)
  have DI := Lib.hid (dirty_any w4 p1 S1 (2 * n) TW4.out.a (by omega))
  have HG4 := Lib.hid hg4
  have B4 := Lib.hid b4
  rw [hN]
  clear o4 b4 hg4 LN2
  have LK0 := LK.out
  rw [hN] at HG4 hc4
  rw [hNN] at HG3 HG4 hc3 hc4 hN2 LK0 ⊢
  have LKN := Lib.hid LK0
  clear LK0 LK hN hNN
  have hd0I : (S1.dirty : Int) = 0 := by rw [hd0]; rfl
  go_wp2_with fail
  refine DI.out.mono ?_
  rintro en w5 ⟨rfl, b5⟩
  rw [hd0I]
  have TW5 := Lib.hid (TW4.out.later b5)
  have b35 : Below w3.heap.size w3 w5 := B4.out.trans (b5.mono B4.out.size)
  have B5 := Lib.hid (B2.out.trans ((B3.out.trans (b35.mono B3.out.size)).mono B2.out.size))
  have hn3 : ∀ i nm ba, S1.now[i]? = some (nm, ba) → ∀ g, a3 = some ⟨g, 0, none⟩ → 0 < N → w5.cell? ⟨g, i, none⟩ = some (.string ⟨nm.toArray⟩) ∧ w2.heap.size ≤ g := by
    intro i nm ba hq g hg h0
    obtain ⟨g', e, h1, h2⟩ := HG3.out h0
    rw [hg] at e
    injection e with e
    injection e with e
    subst e
    have := h2 i _ hq
    exact ⟨(b35.cell (p := ⟨g, i, none⟩) (block_lt_of_cell this)).trans this, h1⟩
  have hn4 : ∀ i nm bb, S2.now[i]? = some (nm, bb) → ∀ g, a4 = some ⟨g, 0, none⟩ → 0 < N → w5.cell? ⟨g, i, none⟩ = some (.string ⟨nm.toArray⟩) ∧ w2.heap.size ≤ g := by
    intro i nm ba hq g hg h0
    obtain ⟨g', e, h1, h2⟩ := HG4.out h0
    rw [hg] at e
    injection e with e
    injection e with e
    subst e
    have := h2 i _ hq
    exact ⟨(b5.cell (p := ⟨g, i, none⟩) (block_lt_of_cell this)).trans this, Nat.le_trans B3.out.size h1⟩
  have HN3 := Lib.hid hn3
  have HN4 := Lib.hid hn4
  have HL := Lib.hid HH.out.below.size
  clear hn3 hn4 b35 b5 DI TW TW3 TW4 B2 B3 B4 HH hd0 hd0I
  go_wp2_with fail
  go_loopw [17] (fun iv wr => ∃ (i : Nat) (Sa Sb : St), iv = .int .i64 (i : Int) ∧ i ≤ N ∧ TwoD w.heap.size w1.heap.size w2.heap.size wr p1 p2 Sa Sb (2 * n + i) (2 * (2 * n) + i) ∧ Sa.now = S1.now ∧ Sa.file = S1.file ∧ Sb.now = S2.now ∧ Sb.file = S2.file ∧ Turn (fun k => w.heap.size ≤ k ∧ k < w2.heap.size) w5 wr) (fun iv _ => ((N : Int) - intOf iv).toNat)
  case atStart => exact ⟨0, S1, S2, rfl, Nat.zero_le _, TW5.out, rfl, rfl, rfl, rfl, Turn.refl _ _⟩
  case round =>
    obtain ⟨i, Sa, Sb, rfl, hi, ht, e1, e2, e3, e4, htu⟩ := hrel
    by_cases hiN : i < N
    · obtain ⟨g3, rfl, -, -⟩ := HG3.out (by omega)
      obtain ⟨g4, rfl, -, -⟩ := HG4.out (by omega)
      obtain ⟨nm, ba, bb, q1, q2, ef, l1, l2, hnl, hfl, hfb⟩ := LKN.out i hiN
      obtain ⟨x1, y1⟩ := HN3.out i nm ba q1 g3 rfl (by omega)
      obtain ⟨x2, y2⟩ := HN4.out i nm bb q2 g4 rfl (by omega)
      refine twice_round2 wr w.heap.size w1.heap.size w2.heap.size p1 p2 g3 g4 N c3 c4 i (2 * n + i) (2 * (2 * n) + i) ba bb (S1.file ba).now.length Sa Sb ⟨nm.toArray⟩ (S1.file ba).now hiN (by omega) hc3 hc4 (by omega) (by omega) ht hlm hmh y1 y2 (turn_cell htu x1 (fun h => by omega)) (turn_cell htu x2 (fun h => by omega)) (by show nm.toArray.size ≤ _; simpa using hnl) (by rw [e1]; exact l1) (by rw [e3]; exact l2) (by rw [e2]) (by rw [e4, ← ef]) rfl hfl hfb _ ?_
      intro w' Sa' Sb' hT f1 f2 f3 f4 ht' u18 u19 u20 u21 u95 u96 u97 u98 u99 u100 u101 u102 u103 u104 u105 u106 u107 u108 u109 u110 u111 u112 u113 u114 u115 u116 u117 u118 u119 u120 u121 u122 u123 u124 u125 u126 u127 u128 u129 u130 u131 u132 u133 u134 u135 u136 u137 u138 u139 u140 u141 u142 u143 u144 u145 u146
      go_roundw
      case rel => exact ⟨_, _, _, _, _, _, _, _, _, _, _, _, _, _, _, _, _, _, _, _, _, _, _, _, _, _, _, _, _, _, _, _, _, _, _, _, _, _, _, _, _, _, _, _, _, _, _, _, _, _, _, _, _, _, _, _, _, _, ⟨i + 1, Sa', Sb', by rw [Int.natCast_add]; rfl, by omega, hT, f1.trans e1, f2.trans e2, f3.trans e3, f4.trans e4, htu.trans ht' (fun k _ h => h)⟩, rfl⟩
      case measure =>
        show ((N : Int) - ((i : Int) + 1)).toNat < ((N : Int) - (i : Int)).toNat
        omega
    · obtain rfl : i = N := by omega
      have bf : Below W.heap.size W wr := B5.out.trans (htu.below (fun k h => Nat.le_trans HL.out h.1) B5.out.size)
      have BF := Lib.hid bf
      have hii : ¬ (i : Int) < (i : Int) := by omega
      clear ht e1 e2 e3 e4 htu bf
      go_wp2_with fail
      go_ret
      exact ⟨rfl, BF.out⟩
end Go.Proofs.Ytpbffjpghnijkaa.disk
