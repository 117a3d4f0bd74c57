/-
  THE ROUNDS OF 'stillroomlaw5.DiskTwice', taken out of the translation. Written by wip/tools/twice.py.
-/
import Derived.Test.YtpbffjpghnijkaaDkOps2
import Derived.Test.YtpbffjpghnijkaaDkBegun
import Derived.Test.YtpbffjpghnijkaaDkReads
import Derived.Test.YtpbffjpghnijkaaDkRest
import Derived.StillTailTactics
import Derived.Deep.RegionHeld3
namespace Go.Proofs.Ytpbffjpghnijkaa.disk
open Go.RowKit Go.Maps
set_option linter.unusedVariables false

def loopsOf : Code → List Code
  | .loop c => c :: loopsOf c
  | .seq a b => loopsOf a ++ loopsOf b
  | .block _ c => loopsOf c
  | .scope c => loopsOf c
  | .cond _ a b => loopsOf a ++ loopsOf b
  | _ => []
noncomputable def twiceBody (i : Nat) : Code := ((Try.f9.body.map loopsOf).getD []).getD i .skip

set_option maxRecDepth 100000 in
set_option maxHeartbeats 8000000 in
theorem twice_round {z1 z2 z3 z4 z5 z6 z7 z8 z9 z12 z13 z14 z15 z16 z17 z18 z19 z20 z21 z22 z23 z24 z25 z26 z27 z28 z29 z30 z31 z32 z33 z34 z35 z36 z37 z38 z39 z40 z41 z42 z43 z44 z45 z46 z47 z48 z49 z50 z51 z52 z53 z54 z55 z56 z57 z58 z59 z60 z61 z62 z63 z64 z65 z66 z67 z68 z69 z70 z71 z72 z73 z74 z75 z76 z77 z78 z79 z80 z81 z82 z83 z84 z85 z86 z87 z88 z89 z90 z91 z92 z93 z94 z95 z96 z97 z98 z99 z100 z101 z102 z103 z104 z105 z106 z107 z108 z109 z110 z111 z112 z113 z114 z115 z116 z117 z118 z119 z120 z121 z122 z123 z124 z125 z126 z127 z128 z129 z130 z131 z132 z133 z134 z135 z136 z137 z138 z139 z140 z141 z142 z143 z144 z145 z146 : Value} (W w : World) (b off len cap p q n : Nat) (S : St) (kd nn mm : Int) (nm tt : ByteArray) (ba ka : Option Addr) (bn bc kn kc : Nat) (bl : List Int)
    (hq1 : q < len) (hq2 : q < 20) (hn : n ≤ 1000) (hlen : len ≤ 9223372036854775807) (hnm : nm.size ≤ maxLen) (htt : tt.size ≤ maxLen) (hrow : Row W ba bn bc bl) (hk : kn ≤ kc) (hk0 : ka = none → kn = 0 ∧ kc = 0)
    (c0 : w.cell? ⟨b, off + q * 7, none⟩ = some (.int .i64 kd)) (c1 : w.cell? ⟨b, off + q * 7 + 1, none⟩ = some (.int .i64 nn)) (c2 : w.cell? ⟨b, off + q * 7 + 2, none⟩ = some (.int .i64 mm)) (c3 : w.cell? ⟨b, off + q * 7 + 3, none⟩ = some (.string nm)) (c4 : w.cell? ⟨b, off + q * 7 + 4, none⟩ = some (.string tt)) (c5 : w.cell? ⟨b, off + q * 7 + 5, none⟩ = some (.slice ba bn bc)) (c6 : w.cell? ⟨b, off + q * 7 + 6, none⟩ = some (.slice ka kn kc)) (hH : Held W (fun _ => False) w p S n)
    (Q : Exit → Act → World → Prop) (hq : ∀ w' S' n', n' ≤ n + 2 → Held W (fun _ => False) w' p S' n' → ∀ (u12 u26 u27 u28 u29 u30 u31 u32 u33 u34 u35 u36 u37 u38 u39 u40 u41 u42 u43 u44 u45 u46 u47 u48 u49 u50 u51 u52 u53 u54 u55 u56 u57 u58 u59 u60 u61 u62 u63 u64 u65 u66 u67 u68 : Value), Q .normal ⟨#[.slice (some ⟨b, off, none⟩) len cap, z1, z2, z3, z4, z5, z6, z7, z8, z9, .pointer (some ⟨p, 0, none⟩), .int .i64 ((q : Int) + 1), u12, z13, z14, z15, z16, z17, z18, z19, z20, z21, z22, z23, z24, z25, u26, u27, u28, u29, u30, u31, u32, u33, u34, u35, u36, u37, u38, u39, u40, u41, u42, u43, u44, u45, u46, u47, u48, u49, u50, u51, u52, u53, u54, u55, u56, u57, u58, u59, u60, u61, u62, u63, u64, u65, u66, u67, u68, z69, z70, z71, z72, z73, z74, z75, z76, z77, z78, z79, z80, z81, z82, z83, z84, z85, z86, z87, z88, z89, z90, z91, z92, z93, z94, z95, z96, z97, z98, z99, z100, z101, z102, z103, z104, z105, z106, z107, z108, z109, z110, z111, z112, z113, z114, z115, z116, z117, z118, z119, z120, z121, z122, z123, z124, z125, z126, z127, z128, z129, z130, z131, z132, z133, z134, z135, z136, z137, z138, z139, z140, z141, z142, z143, z144, z145, z146], []⟩ w') :
    Code.wp Try.prog (twiceBody 0) Q ⟨#[.slice (some ⟨b, off, none⟩) len cap, z1, z2, z3, z4, z5, z6, z7, z8, z9, .pointer (some ⟨p, 0, none⟩), .int .i64 (q : Int), z12, z13, z14, z15, z16, z17, z18, z19, z20, z21, z22, z23, z24, z25, z26, z27, z28, z29, z30, z31, z32, z33, z34, z35, z36, z37, z38, z39, z40, z41, z42, z43, z44, z45, z46, z47, z48, z49, z50, z51, z52, z53, z54, z55, z56, z57, z58, z59, z60, z61, z62, z63, z64, z65, z66, z67, z68, z69, z70, z71, z72, z73, z74, z75, z76, z77, z78, z79, z80, z81, z82, z83, z84, z85, z86, z87, z88, z89, z90, z91, z92, z93, z94, z95, z96, z97, z98, z99, z100, z101, z102, z103, z104, z105, z106, z107, z108, z109, z110, z111, z112, z113, z114, z115, z116, z117, z118, z119, z120, z121, z122, z123, z124, z125, z126, z127, z128, z129, z130, z131, z132, z133, z134, z135, z136, z137, z138, z139, z140, z141, z142, z143, z144, z145, z146], []⟩ w := by
  conv => arg 2; whnf
  have hqI : (q : Int) < (len : Int) := by omega
  have hqJ : (q : Int) < 20 := by omega
  have CC := cutOp_any kd nn mm nm tt ba ka bn bc kn kc hnm htt hrow.le hrow.nil hk hk0
  have hsh := hrow.short 300
  have hz2 := cutS_size nm 40
  obtain ⟨nm2, h1⟩ : ∃ x, cutS nm 40 = x := ⟨_, rfl⟩
  obtain ⟨tt2, h2⟩ : ∃ x, cutS tt 40 = x := ⟨_, rfl⟩
  obtain ⟨bn2, h3⟩ : ∃ x, min bn 300 = x := ⟨_, rfl⟩
  obtain ⟨kn2, h4⟩ : ∃ x, min kn 40 = x := ⟨_, rfl⟩
  obtain ⟨part, h5⟩ : ∃ x, bl.take 300 = x := ⟨_, rfl⟩
  rw [h1, h2, h3, h4] at CC
  rw [h3, h5] at hsh
  rw [h1] at hz2
  have hbn2 : bn2 ≤ 300 := by omega
  have hnm2 : nm2.size ≤ maxLen := by unfold maxLen; omega
  have HCC := Lib.hid CC
  have HSH := Lib.hid hsh
  have HH := Lib.hid hH
  have HQ := Lib.hid hq
  clear CC hsh hH hq h1 h2 h3 h4 h5 hrow hz2
  go_wp2_with fail
  refine (HCC.out _).mono ?_
  rintro en w1 ⟨rfl, b1⟩
  obtain ⟨x, hx⟩ : ∃ x, w1.heap.size = x := ⟨_, rfl⟩
  obtain ⟨w2, hw2⟩ : ∃ w2, w1.alloc (.cells #[.int .i64 kd, .int .i64 nn, .int .i64 mm, .string nm2, .string tt2, .slice ba bn2 bc, .slice ka kn2 kc] 50) = w2 := ⟨_, rfl⟩
  have wh : Whole w2 x 50 [.int .i64 kd, .int .i64 nn, .int .i64 mm, .string nm2, .string tt2, .slice ba bn2 bc, .slice ka kn2 kc] := by rw [← hw2]; exact Whole.new_ hx.symm rfl
  have b2 : Below w.heap.size w w2 := by rw [← hw2]; exact b1.alloc b1.size _
  have HW2 := Lib.hid hw2
  have H2 := Lib.hid (HH.out.later b2)
  obtain ⟨y0, y1, y2, y3, y4, y5, y6, -, -, -, -⟩ := whole7 wh
  clear b1 b2 wh c0 c1 c2 c3 c4 c5 c6 HCC HH hw2
  by_cases hk0 : kd = 0
  · subst hk0
    go_wp2_with fail
    rw [HW2.out]
    refine (create_any w2 p S n H2.out.disk (by omega) nm2 hnm2).mono ?_
    rintro en w3 ⟨b3, _, _, _, ho⟩
    obtain ⟨rfl, h3, _⟩ := H2.out.out ho
    have FF := Lib.hid (HQ.out w3 _ (n + 2) (Nat.le_refl _) h3)
    clear ho h3 HQ y0 y1 y2 y3 y4 y5 y6
    go_wp2_with fail
    exact FF.out _ _ _ _ _ _ _ _ _ _ _ _ _ _ _ _ _ _ _ _ _ _ _ _ _ _ _ _ _ _ _ _ _ _ _ _ _ _ _ _ _ _ _ _
  by_cases hk1 : kd = 1
  · subst hk1
    go_wp2_with fail
    rw [HW2.out]
    have hg : Given (Free W.heap.size (fun _ => False) w2) w2 ba bn2 part := ⟨HSH.out.bytes.later H2.out.below, HSH.out.length, HSH.out.byte, (fun b off e hne hf => by
      obtain ⟨b', off', e', hlt⟩ := HSH.out.bytes.lt hne
      rw [e] at e'
      obtain ⟨rfl, _⟩ : b = b' ∧ off = off' := by simpa using e'
      have := hf.1
      omega), by omega⟩
    refine (writes_any w2 p S n H2.out.disk (by omega) nm2 hnm2 nn ba bn2 bc part hg).mono ?_
    rintro en w3 ho
    obtain ⟨rfl, h3, _⟩ := H2.out.out ho
    have FF := Lib.hid (HQ.out w3 _ (n + 2) (Nat.le_refl _) h3)
    clear ho h3 HQ hg y0 y1 y2 y3 y4 y5 y6
    go_wp2_with fail
    exact FF.out _ _ _ _ _ _ _ _ _ _ _ _ _ _ _ _ _ _ _ _ _ _ _ _ _ _ _ _ _ _ _ _ _ _ _ _ _ _ _ _ _ _ _ _
  by_cases hk2 : kd = 2
  · subst hk2
    go_wp2_with fail
    rw [HW2.out]
    refine (syncs_any w2 p S n H2.out.disk (by omega) nm2 hnm2).mono ?_
    rintro en w3 ho
    obtain ⟨rfl, h3, _⟩ := H2.out.out ho
    have FF := Lib.hid (HQ.out w3 _ (n + 2) (Nat.le_refl _) h3)
    clear ho h3 HQ y0 y1 y2 y3 y4 y5 y6
    go_wp2_with fail
    exact FF.out _ _ _ _ _ _ _ _ _ _ _ _ _ _ _ _ _ _ _ _ _ _ _ _ _ _ _ _ _ _ _ _ _ _ _ _ _ _ _ _ _ _ _ _
  by_cases hk3 : kd = 3
  · subst hk3
    go_wp2_with fail
    rw [HW2.out]
    refine (syncdir_any w2 p S n H2.out.disk (by omega)).mono ?_
    rintro en w3 ho
    obtain ⟨rfl, h3, _⟩ := H2.out.out ho
    have FF := Lib.hid (HQ.out w3 _ (n + 1) (by omega) h3)
    clear ho h3 HQ y0 y1 y2 y3 y4 y5 y6
    go_wp2_with fail
    exact FF.out _ _ _ _ _ _ _ _ _ _ _ _ _ _ _ _ _ _ _ _ _ _ _ _ _ _ _ _ _ _ _ _ _ _ _ _ _ _ _ _ _ _ _ _
  have e0 : (kd == 0) = false := by simp; omega
  have e1 : (kd == 1) = false := by simp; omega
  have e2 : (kd == 2) = false := by simp; omega
  have e3 : (kd == 3) = false := by simp; omega
  have FF := Lib.hid (HQ.out w2 S n (by omega) H2.out)
  clear HQ
  go_wp2_with fail
  rw [HW2.out]
  exact FF.out _ _ _ _ _ _ _ _ _ _ _ _ _ _ _ _ _ _ _ _ _ _ _ _ _ _ _ _ _ _ _ _ _ _ _ _ _ _ _ _ _ _ _ _
/-- Two disks, one built behind the other. -/
structure TwoD (lo mid hi : Nat) (w : World) (pa pb : Nat) (Sa Sb : St) (na nb : Nat) : Prop where
  a : Disk (fun k => lo ≤ k ∧ k < mid) w pa Sa na
  b : Disk (fun k => mid ≤ k ∧ k < hi) w pb Sb nb
  hi : hi ≤ w.heap.size
theorem TwoD.later {lo mid hi : Nat} {w w' : World} {pa pb : Nat} {Sa Sb : St} {na nb : Nat} (h : TwoD lo mid hi w pa pb Sa Sb na nb) (hb : Below w.heap.size w w') : TwoD lo mid hi w' pa pb Sa Sb na nb := ⟨h.a.later hb, h.b.later hb, Nat.le_trans h.hi hb.size⟩
theorem size_of {S : St} {nm : Nm} {b : Nat} (h : dlook nm S.now = some b) : S.size nm = ((S.file b).now.length : Int) := by unfold St.size; rw [h]
theorem turn_cell {R : Nat → Prop} {w w' : World} {g o : Nat} {v : Value} (ht : Turn R w w') (h : w.cell? ⟨g, o, none⟩ = some v) (hR : ¬ R g) : w'.cell? ⟨g, o, none⟩ = some v := (ht.cell (block_lt_of_cell h) hR).trans h

set_option maxRecDepth 100000 in
set_option maxHeartbeats 8000000 in
theorem twice_round2 {z0 z1 z2 z3 z4 z5 z6 z7 z8 z9 z10 z11 z12 z18 z19 z20 z21 z22 z23 z24 z25 z26 z27 z28 z29 z30 z31 z32 z33 z34 z35 z36 z37 z38 z39 z40 z41 z42 z43 z44 z45 z46 z47 z48 z49 z50 z51 z52 z53 z54 z55 z56 z57 z58 z59 z60 z61 z62 z63 z64 z65 z66 z67 z68 z69 z70 z71 z72 z73 z74 z75 z76 z77 z78 z79 z80 z81 z82 z83 z84 z85 z86 z87 z88 z89 z90 z91 z92 z93 z94 z95 z96 z97 z98 z99 z100 z101 z102 z103 z104 z105 z106 z107 z108 z109 z110 z111 z112 z113 z114 z115 z116 z117 z118 z119 z120 z121 z122 z123 z124 z125 z126 z127 z128 z129 z130 z131 z132 z133 z134 z135 z136 z137 z138 z139 z140 z141 z142 z143 z144 z145 z146 : Value} (w : World) (lo mid hi pa pb gl gm len cl cm i na nb ba bb M : Nat) (Sa Sb : St) (s : ByteArray) (L : List Int)
    (hil : i < len) (hlen : len ≤ 9223372036854775807) (hcl : len ≤ cl) (hcm : len ≤ cm) (hna : na ≤ 10000000) (hnb : nb ≤ 10000000) (H : TwoD lo mid hi w pa pb Sa Sb na nb) (hlm : lo ≤ mid) (hmh : mid ≤ hi)
    (hgl : hi ≤ gl) (hgm : hi ≤ gm) (cl0 : w.cell? ⟨gl, i, none⟩ = some (.string s)) (cm0 : w.cell? ⟨gm, i, none⟩ = some (.string s)) (hs : s.size ≤ maxLen)
    (la : dlook s.data.toList Sa.now = some ba) (lb : dlook s.data.toList Sb.now = some bb) (fa : (Sa.file ba).now = L) (fb : (Sb.file bb).now = L) (hLM : L.length = M) (hM : M ≤ 4194304) (hLB : Byte L)
    (Q : Exit → Act → World → Prop) (hq : ∀ w' Sa' Sb', TwoD lo mid hi w' pa pb Sa' Sb' (na + 1) (nb + 1) → Sa'.now = Sa.now → Sa'.file = Sa.file → Sb'.now = Sb.now → Sb'.file = Sb.file → Turn (fun k => lo ≤ k ∧ k < hi) w w' → ∀ (u18 u19 u20 u21 u95 u96 u97 u98 u99 u100 u101 u102 u103 u104 u105 u106 u107 u108 u109 u110 u111 u112 u113 u114 u115 u116 u117 u118 u119 u120 u121 u122 u123 u124 u125 u126 u127 u128 u129 u130 u131 u132 u133 u134 u135 u136 u137 u138 u139 u140 u141 u142 u143 u144 u145 u146 : Value), Q .normal ⟨#[z0, z1, z2, z3, z4, z5, z6, z7, z8, z9, z10, z11, z12, .pointer (some ⟨pa, 0, none⟩), .pointer (some ⟨pb, 0, none⟩), .slice (some ⟨gl, 0, none⟩) len cl, .slice (some ⟨gm, 0, none⟩) len cm, .int .i64 ((i : Int) + 1), u18, u19, u20, u21, z22, z23, z24, z25, z26, z27, z28, z29, z30, z31, z32, z33, z34, z35, z36, z37, z38, z39, z40, z41, z42, z43, z44, z45, z46, z47, z48, z49, z50, z51, z52, z53, z54, z55, z56, z57, z58, z59, z60, z61, z62, z63, z64, z65, z66, z67, z68, z69, z70, z71, z72, z73, z74, z75, z76, z77, z78, z79, z80, z81, z82, z83, z84, z85, z86, z87, z88, z89, z90, z91, z92, z93, z94, u95, u96, u97, u98, u99, u100, u101, u102, u103, u104, u105, u106, u107, u108, u109, u110, u111, u112, u113, u114, u115, u116, u117, u118, u119, u120, u121, u122, u123, u124, u125, u126, u127, u128, u129, u130, u131, u132, u133, u134, u135, u136, u137, u138, u139, u140, u141, u142, u143, u144, u145, u146], []⟩ w') :
    Code.wp Try.prog (twiceBody 1) Q ⟨#[z0, z1, z2, z3, z4, z5, z6, z7, z8, z9, z10, z11, z12, .pointer (some ⟨pa, 0, none⟩), .pointer (some ⟨pb, 0, none⟩), .slice (some ⟨gl, 0, none⟩) len cl, .slice (some ⟨gm, 0, none⟩) len cm, .int .i64 (i : Int), z18, z19, z20, z21, z22, z23, z24, z25, z26, z27, z28, z29, z30, z31, z32, z33, z34, z35, z36, z37, z38, z39, z40, z41, z42, z43, z44, z45, z46, z47, z48, z49, z50, z51, z52, z53, z54, z55, z56, z57, z58, z59, z60, z61, z62, z63, z64, z65, z66, z67, z68, z69, z70, z71, z72, z73, z74, z75, z76, z77, z78, z79, z80, z81, z82, z83, z84, z85, z86, z87, z88, z89, z90, z91, z92, z93, z94, z95, z96, z97, z98, z99, z100, z101, z102, z103, z104, z105, z106, z107, z108, z109, z110, z111, z112, z113, z114, z115, z116, z117, z118, z119, z120, z121, z122, z123, z124, z125, z126, z127, z128, z129, z130, z131, z132, z133, z134, z135, z136, z137, z138, z139, z140, z141, z142, z143, z144, z145, z146], []⟩ w := by
  conv => arg 2; whnf
  have hiI : (i : Int) < (len : Int) := by omega
  have H1 := Lib.hid H
  have HQ := Lib.hid hq
  clear H hq
  go_wp2_with fail
  have bd1 : Below w.heap.size w w.drew := below_draws (Below.refl _ _) 1
  have td1 := H1.out.later bd1
  have sz1 : Calls Try.prog 18 #[.pointer (some ⟨pa, 0, none⟩), .string s] w.drew fun e w'' => e = .returned (.int .i64 (M : Int)) ∧ w'' = w.drew := (size_any w.drew pa Sa na td1.a s hs).mono fun e w'' h => ⟨by rw [h.1, size_of la, fa, hLM], h.2.symm⟩
  have rd1 : Calls Try.prog 17 #[.pointer (some ⟨pa, 0, none⟩), .string s, .int .i64 0, .int .i64 (M : Int)] w.drew (ReadOut (fun k => lo ≤ k ∧ k < mid) w.drew pa (0, L, { Sa with reads := Sa.reads + (M : Int) }) (na + 1)) := by
    have h := read_good w.drew pa Sa na td1.a s hs 0 M _ la (by rw [fa, hLM]; omega) (by omega)
    rw [fa, List.drop_zero, ← hLM, List.take_length, hLM] at h
    exact h
  have RD1 := Lib.hid rd1
  have SZ1 := Lib.hid sz1
  have TD1 := Lib.hid td1
  have BD1 := Lib.hid bd1
  have n1 : w.drew.cell? ⟨gl, i, none⟩ = some (.string s) := cl0
  clear sz1 td1 bd1 rd1
  go_region_held3 (fun W => W.cell? ⟨gl, i, none⟩ = some (.string s)) (first | exact n1 | exact m1)
    (first
      | (go_at_call 18; refine SZ1.out.mono ?_; rintro en wq ⟨rfl, rfl⟩)
      | (go_at_call 17; refine RD1.out.mono ?_; rintro en w1 ⟨v1, rfl, o1, nw1, d1, t1⟩; have m1 : w1.cell? ⟨gl, i, none⟩ = some (.string s) := turn_cell t1 n1 (fun h => by omega); have O1 := Lib.hid o1; have NW1 := Lib.hid nw1; have D1 := Lib.hid d1; have T1 := Lib.hid t1; clear o1 nw1 d1 t1))
  clear n1 SZ1 RD1
  have o1 := O1.out
  have nw1 := NW1.out
  have d1 := D1.out
  have t1 := T1.out
  obtain ⟨x1, cx1, rfl, _, _, _, l1, _⟩ := o1.form
  rw [hLM] at o1 nw1 ⊢
  have ta : Turn (fun k => lo ≤ k ∧ k < hi) w w1 := (Turn.of_below (R := fun k => lo ≤ k ∧ k < hi) BD1.out).trans t1 (fun k _ h => ⟨h.1, by omega⟩)
  have cm1 := turn_cell ta cm0 (fun h => by omega)
  have H2 : Hid (TwoD lo mid hi w1 pa pb _ Sb (na + 1) nb) := ⟨d1, TD1.out.b.turned t1 (fun k h1 h2 => by omega), Nat.le_trans H1.out.hi ta.size⟩
  have ng1 : ∀ g, (Value.slice x1 M cx1).ownBlock = some g → hi ≤ g := fun g hg => by
    have := nw1 g hg
    have := TD1.out.hi
    omega
  have O1x := Lib.hid o1
  have TA := Lib.hid ta
  have CL1 := Lib.hid (turn_cell ta cl0 (fun h => by omega))
  have CM1 := Lib.hid cm1
  clear ta o1 nw1 d1 t1 l1 cl0 cm0 O1 NW1 D1 T1 m1
  go_wp2_with fail
  have bd2 : Below w1.heap.size w1 w1.drew := below_draws (Below.refl _ _) 1
  have td2 := H2.out.later bd2
  have sz2 : Calls Try.prog 18 #[.pointer (some ⟨pb, 0, none⟩), .string s] w1.drew fun e w'' => e = .returned (.int .i64 (M : Int)) ∧ w'' = w1.drew := (size_any w1.drew pb Sb nb td2.b s hs).mono fun e w'' h => ⟨by rw [h.1, size_of lb, fb, hLM], h.2.symm⟩
  have rd2 : Calls Try.prog 17 #[.pointer (some ⟨pb, 0, none⟩), .string s, .int .i64 0, .int .i64 (M : Int)] w1.drew (ReadOut (fun k => mid ≤ k ∧ k < hi) w1.drew pb (0, L, { Sb with reads := Sb.reads + (M : Int) }) (nb + 1)) := by
    have h := read_good w1.drew pb Sb nb td2.b s hs 0 M _ lb (by rw [fb, hLM]; omega) (by omega)
    rw [fb, List.drop_zero, ← hLM, List.take_length, hLM] at h
    exact h
  have RD2 := Lib.hid rd2
  have SZ2 := Lib.hid sz2
  have TD2 := Lib.hid td2
  have BD2 := Lib.hid bd2
  have n2 : w1.drew.cell? ⟨gm, i, none⟩ = some (.string s) := cm1
  clear sz2 td2 bd2 rd2
  go_region_held3 (fun W => W.cell? ⟨gm, i, none⟩ = some (.string s)) (first | exact n2 | exact m2)
    (first
      | (go_at_call 18; refine SZ2.out.mono ?_; rintro en wq ⟨rfl, rfl⟩)
      | (go_at_call 17; refine RD2.out.mono ?_; rintro en w2 ⟨v2, rfl, o2, nw2, d2, t2⟩; have m2 : w2.cell? ⟨gm, i, none⟩ = some (.string s) := turn_cell t2 n2 (fun h => by omega); have O2 := Lib.hid o2; have NW2 := Lib.hid nw2; have D2 := Lib.hid d2; have T2 := Lib.hid t2; clear o2 nw2 d2 t2))
  clear n2 SZ2 RD2
  have o2 := O2.out
  have nw2 := NW2.out
  have d2 := D2.out
  have t2 := T2.out
  obtain ⟨x2, cx2, rfl, _, _, _, l2, _⟩ := o2.form
  rw [hLM] at o2 nw2 ⊢
  have tb : Turn (fun k => lo ≤ k ∧ k < hi) w1 w2 := (Turn.of_below (R := fun k => lo ≤ k ∧ k < hi) BD2.out).trans t2 (fun k hk h => ⟨by omega, h.2⟩)
  have o1x : Own w2 (.slice x1 M cx1) L := by
    exact O1x.out.turned tb (fun g hg h => by have := ng1 g hg; omega)
  have cl2 := turn_cell tb CL1.out (fun h => by omega)
  have cm2 := turn_cell tb CM1.out (fun h => by omega)
  have HF : Hid (TwoD lo mid hi w2.drew pa pb _ _ (na + 1) (nb + 1)) := TwoD.later (w := w2) ⟨TD2.out.a.turned t2 (fun k h1 h2 => by omega), d2, Nat.le_trans TD2.out.hi t2.size⟩ (below_draws (Below.refl _ _) 1)
  have tf : Turn (fun k => lo ≤ k ∧ k < hi) w w2.drew := (TA.out.trans tb (fun k _ h => h)).draws 1
  have TF := Lib.hid tf
  have e1 : w2.drew.cell? ⟨gl, i, none⟩ = some (.string s) := cl2
  have e2 : w2.drew.cell? ⟨gm, i, none⟩ = some (.string s) := cm2
  have l1x : Leads w2.drew x1 L := by
    obtain ⟨a', c', e, -, -, -, hl, -⟩ := o1x.form
    rw [hLM] at e
    injection e with e1 e2 e3
    subst e1
    exact hl.later (below_draws (Below.refl _ _) 1)
  have v1 : (convert 22 9 (.slice x1 M cx1)).run Try.prog w2.drew = .ok (.string (str L)) w2.drew := by
    have h := run_str l1x hLB cx1
    rwa [hLM] at h
  have v2 : (convert 22 9 (.slice x2 M cx2)).run Try.prog w2.drew = .ok (.string (str L)) w2.drew := by
    have h := run_str (l2.later (below_draws (Below.refl _ _) 1)) hLB cx2
    rwa [hLM] at h
  obtain ⟨T, hT⟩ : ∃ T, str L = T := ⟨_, rfl⟩
  rw [hT] at v1 v2
  clear tb o1x cl2 cm2 tf l1x hT o2 nw2 d2 t2 l2 O2 NW2 D2 T2 m2 ng1 TA O1x TD1 TD2 BD1 BD2 H1 H2 CL1 CM1
  go_wp2_with fail
  go_still (by kernel_rfl)
  change Exit.then _ _ _ _ w2.drew
  obtain ⟨w4, hw4⟩ : ∃ w4, w2.drew = w4 := ⟨_, rfl⟩
  rw [hw4] at HF TF ⊢
  clear v1 v2 e1 e2 hw4
  have FF := Lib.hid (HQ.out w4 _ _ HF.out rfl rfl rfl rfl TF.out)
  clear HQ HF TF
  go_wp2_with fail
  exact FF.out _ _ _ _ _ _ _ _ _ _ _ _ _ _ _ _ _ _ _ _ _ _ _ _ _ _ _ _ _ _ _ _ _ _ _ _ _ _ _ _ _ _ _ _ _ _ _ _ _ _ _ _ _ _ _ _
end Go.Proofs.Ytpbffjpghnijkaa.disk
