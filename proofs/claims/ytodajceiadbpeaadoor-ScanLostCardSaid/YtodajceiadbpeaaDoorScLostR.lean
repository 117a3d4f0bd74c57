/-
  THE THIRD LOOP's ROUND of 'stillroomlaw7.ScanLost', taken out of the translation. Written by wip/tools/lostround.py.
-/
import Derived.Test.YtodajceiadbpeaaDoorScEq
import Derived.Test.YtodajceiadbpeaaDoorRcREnc
import Derived.Deep.RegionHeld3
import Derived.StillTailTactics
namespace Go.Proofs.YtodajceiadbpeaaDoor.scan
open Go.RowKit Go.Proofs.YtodajceiadbpeaaDoor.disk Go.Proofs.YtodajceiadbpeaaDoor.recd Go.Proofs.YtodajceiadbpeaaDoor.num
set_option linter.unusedVariables false

def loopsOf : Code → List Code
  | .loop c => c :: loopsOf c
  | .seq a b => loopsOf a ++ loopsOf b
  | .block _ c => loopsOf c
  | .scope c => loopsOf c
  | .cond _ a b => loopsOf a ++ loopsOf b
  | _ => []
noncomputable def lostBody (i : Nat) : Code := ((Tryd.f4.body.map loopsOf).getD []).getD i .skip

set_option maxRecDepth 100000 in
set_option maxHeartbeats 8000000 in
theorem lost_round_p {z2 z3 z4 z5 z6 z7 z8 z9 z10 z12 z13 z14 z15 z16 z17 z21 z22 z23 z24 z25 z26 z27 z28 z29 z30 z31 z32 z33 z34 z35 z36 z37 z38 z39 z40 z41 z42 z43 z44 z45 z46 z47 z48 z49 z50 z51 z52 z53 z54 z55 z56 z57 z58 z59 z60 z61 z62 z63 z64 z65 z66 z67 z68 z69 z70 z71 z72 z73 z74 z75 z76 z77 z78 z79 z80 z81 z82 z83 z84 z85 z86 z87 z88 z89 z90 z91 z92 z93 z94 z95 z96 z97 z98 z99 z100 z101 z102 z103 z104 z105 z106 z107 z108 z109 z110 z111 z112 z113 z114 z115 z116 z117 z118 z119 z120 z121 z122 z123 z124 z125 z126 z127 z128 z129 z130 z131 z132 z133 z134 z135 z136 z137 z138 z139 z140 z141 z142 z143 z144 z145 z146 z147 z148 z149 z150 z151 z152 z153 z154 z155 z156 z157 z158 z159 z160 z161 z162 z163 z164 z165 z166 z167 z168 z169 z170 z171 z172 z173 z174 z175 z176 z177 z178 z179 z180 z181 z182 z183 z184 z185 z186 z187 z188 z189 z190 z191 z192 z193 z194 z195 z196 z197 z198 z199 z200 : Value} (q cv p M ce c9 g ge gm i k3 N A A2 : Nat) (kd : Int) (t e o s : Nat) (b : ByteArray) (E : List Int) (W : World)
    (hi : i < M) (hM : M < q) (hq8 : q ≤ 8) (hp : p < q) (hk3 : p + 1 = k3) (hk3q : k3 < q) (hA : A + N = A2) (hA2 : A2 ≤ 10000)
    (en : ∀ W, Calls Tryd.prog 10 #[.agg #[.int .i64 kd, .int .u32 (t : Int), .int .u64 (e : Int), .int .u64 (o : Int), .int .u64 (s : Int), .string b]] W (Made W E)) (hle : E.length = N)
    (cq : ∀ W, Calls Tryd.prog 17 #[.agg #[.int .i64 kd, .int .u32 (t : Int), .int .u64 (e : Int), .int .u64 (o : Int), .int .u64 (s : Int), .string b], .agg #[.int .i64 kd, .int .u32 (t : Int), .int .u64 (e : Int), .int .u64 (o : Int), .int .u64 (s : Int), .string b]] W fun e w' => e = .returned (.bool true) ∧ Below W.heap.size W w')
    (f0 : W.cell? ⟨gm, i * 7, none⟩ = some (.int .i64 (A : Int))) (ek : W.cell? ⟨ge, k3, none⟩ = some (.int .i64 (A2 : Int))) (d0 : W.cell? ⟨g, k3 * 6, none⟩ = some (.int .i64 kd)) (d1 : W.cell? ⟨g, k3 * 6 + 1, none⟩ = some (.int .u32 (t : Int))) (d2 : W.cell? ⟨g, k3 * 6 + 2, none⟩ = some (.int .u64 (e : Int))) (d3 : W.cell? ⟨g, k3 * 6 + 3, none⟩ = some (.int .u64 (o : Int))) (d4 : W.cell? ⟨g, k3 * 6 + 4, none⟩ = some (.int .u64 (s : Int))) (d5 : W.cell? ⟨g, k3 * 6 + 5, none⟩ = some (.string b)) (f1 : W.cell? ⟨gm, i * 7 + 1, none⟩ = some (.int .i64 kd)) (f2 : W.cell? ⟨gm, i * 7 + 2, none⟩ = some (.int .u32 (t : Int))) (f3 : W.cell? ⟨gm, i * 7 + 3, none⟩ = some (.int .u64 (e : Int))) (f4 : W.cell? ⟨gm, i * 7 + 4, none⟩ = some (.int .u64 (o : Int))) (f5 : W.cell? ⟨gm, i * 7 + 5, none⟩ = some (.int .u64 (s : Int))) (f6 : W.cell? ⟨gm, i * 7 + 6, none⟩ = some (.string b))
    (Q : Exit → Act → World → Prop) (hq : ∀ W', Below W.heap.size W W' → ∀ (u139 u140 u141 u142 u143 u144 u145 u146 u147 u148 u149 u150 u151 u152 u153 u154 u155 u156 u157 u158 u159 u160 u161 u162 u163 u164 u165 u166 u167 u168 u169 u170 u171 u172 u173 u174 u175 u176 u177 u178 u179 u180 u181 u182 u183 u184 u185 u186 u187 u188 u189 u190 u191 : Value), Q .normal ⟨#[.slice (some ⟨g, 0, none⟩) q cv, .int .i64 (p : Int), z2, z3, z4, z5, z6, z7, z8, z9, z10, .slice (some ⟨ge, 0, none⟩) q ce, z12, z13, z14, z15, z16, z17, .slice (some ⟨gm, 0, none⟩) M c9, .int .i64 ((k3 : Int) + 1), .int .i64 ((i : Int) + 1), z21, z22, z23, z24, z25, z26, z27, z28, z29, z30, z31, z32, z33, z34, z35, z36, z37, z38, z39, z40, z41, z42, z43, z44, z45, z46, z47, z48, z49, z50, z51, z52, z53, z54, z55, z56, z57, z58, z59, z60, z61, z62, z63, z64, z65, z66, z67, z68, z69, z70, z71, z72, z73, z74, z75, z76, z77, z78, z79, z80, z81, z82, z83, z84, z85, z86, z87, z88, z89, z90, z91, z92, z93, z94, z95, z96, z97, z98, z99, z100, z101, z102, z103, z104, z105, z106, z107, z108, z109, z110, z111, z112, z113, z114, z115, z116, z117, z118, z119, z120, z121, z122, z123, z124, z125, z126, z127, z128, z129, z130, z131, z132, z133, z134, z135, z136, z137, z138, u139, u140, u141, u142, u143, u144, u145, u146, u147, u148, u149, u150, u151, u152, u153, u154, u155, u156, u157, u158, u159, u160, u161, u162, u163, u164, u165, u166, u167, u168, u169, u170, u171, u172, u173, u174, u175, u176, u177, u178, u179, u180, u181, u182, u183, u184, u185, u186, u187, u188, u189, u190, u191, z192, z193, z194, z195, z196, z197, z198, z199, z200], []⟩ W') :
    Code.wp Tryd.prog (lostBody 2) Q ⟨#[.slice (some ⟨g, 0, none⟩) q cv, .int .i64 (p : Int), z2, z3, z4, z5, z6, z7, z8, z9, z10, .slice (some ⟨ge, 0, none⟩) q ce, z12, z13, z14, z15, z16, z17, .slice (some ⟨gm, 0, none⟩) M c9, .int .i64 (p : Int), .int .i64 (i : Int), z21, z22, z23, z24, z25, z26, z27, z28, z29, z30, z31, z32, z33, z34, z35, z36, z37, z38, z39, z40, z41, z42, z43, z44, z45, z46, z47, z48, z49, z50, z51, z52, z53, z54, z55, z56, z57, z58, z59, z60, z61, z62, z63, z64, z65, z66, z67, z68, z69, z70, z71, z72, z73, z74, z75, z76, z77, z78, z79, z80, z81, z82, z83, z84, z85, z86, z87, z88, z89, z90, z91, z92, z93, z94, z95, z96, z97, z98, z99, z100, z101, z102, z103, z104, z105, z106, z107, z108, z109, z110, z111, z112, z113, z114, z115, z116, z117, z118, z119, z120, z121, z122, z123, z124, z125, z126, z127, z128, z129, z130, z131, z132, z133, z134, z135, z136, z137, z138, z139, z140, z141, z142, z143, z144, z145, z146, z147, z148, z149, z150, z151, z152, z153, z154, z155, z156, z157, z158, z159, z160, z161, z162, z163, z164, z165, z166, z167, z168, z169, z170, z171, z172, z173, z174, z175, z176, z177, z178, z179, z180, z181, z182, z183, z184, z185, z186, z187, z188, z189, z190, z191, z192, z193, z194, z195, z196, z197, z198, z199, z200], []⟩ W := by
  conv => arg 2; whnf
  have hiI : (i : Int) < (M : Int) := by omega
  have hkI : (p : Int) < (q : Int) := by omega
  have hk3I : (k3 : Int) < (q : Int) := by omega
  have hsub : IntKind.i64.wrap ((A2 : Int) - (N : Int)) = (A : Int) := by rw [IntKind.wrap_i64]; omega
  have CE := Lib.hid en
  have CQ := Lib.hid cq
  have HLE := Lib.hid hle
  have HQ := Lib.hid hq
  have FCT := Lib.hid (And.intro f1 (And.intro f2 (And.intro f3 (And.intro f4 (And.intro f5 f6)))))
  have hk3J : (p : Int) + 1 = (k3 : Int) := by omega
  clear en cq hle hq f1 f2 f3 f4 f5 f6 hA hA2 hk3
  go_wp2_with fail
  have f0x : W.drew.cell? ⟨gm, i * 7, none⟩ = some (.int .i64 (A : Int)) := f0
  have ekx : W.drew.cell? ⟨ge, k3, none⟩ = some (.int .i64 (A2 : Int)) := ek
  have d0x : W.drew.cell? ⟨g, k3 * 6, none⟩ = some (.int .i64 kd) := d0
  have d1x : W.drew.cell? ⟨g, k3 * 6 + 1, none⟩ = some (.int .u32 (t : Int)) := d1
  have d2x : W.drew.cell? ⟨g, k3 * 6 + 2, none⟩ = some (.int .u64 (e : Int)) := d2
  have d3x : W.drew.cell? ⟨g, k3 * 6 + 3, none⟩ = some (.int .u64 (o : Int)) := d3
  have d4x : W.drew.cell? ⟨g, k3 * 6 + 4, none⟩ = some (.int .u64 (s : Int)) := d4
  have d5x : W.drew.cell? ⟨g, k3 * 6 + 5, none⟩ = some (.string b) := d5
  have BX : Hid (Below W.heap.size W W.drew) := below_draws (Below.refl _ _) 1
  go_region_held3 (fun W => W.cell? ⟨gm, i * 7, none⟩ = some (.int .i64 (A : Int)) ∧ W.cell? ⟨ge, k3, none⟩ = some (.int .i64 (A2 : Int)) ∧ W.cell? ⟨g, k3 * 6, none⟩ = some (.int .i64 kd) ∧ W.cell? ⟨g, k3 * 6 + 1, none⟩ = some (.int .u32 (t : Int)) ∧ W.cell? ⟨g, k3 * 6 + 2, none⟩ = some (.int .u64 (e : Int)) ∧ W.cell? ⟨g, k3 * 6 + 3, none⟩ = some (.int .u64 (o : Int)) ∧ W.cell? ⟨g, k3 * 6 + 4, none⟩ = some (.int .u64 (s : Int)) ∧ W.cell? ⟨g, k3 * 6 + 5, none⟩ = some (.string b)) (first | exact ⟨f0x, ekx, d0x, d1x, d2x, d3x, d4x, d5x⟩ | exact ⟨f0y, eky, d0y, d1y, d2y, d3y, d4y, d5y⟩)
    (first | (go_at_call 10; refine (CE.out _).mono ?_; rintro en w5 ⟨v5, rfl, o5, _, b5⟩; obtain ⟨a5, c5, rfl, _, _, _, _, _⟩ := o5.form; have f0y : w5.cell? ⟨gm, i * 7, none⟩ = some (.int .i64 (A : Int)) := (b5.cell (p := ⟨gm, i * 7, none⟩) (by exact block_lt_of_cell f0)).trans (by exact f0x); have eky : w5.cell? ⟨ge, k3, none⟩ = some (.int .i64 (A2 : Int)) := (b5.cell (p := ⟨ge, k3, none⟩) (by exact block_lt_of_cell ek)).trans (by exact ekx); have d0y : w5.cell? ⟨g, k3 * 6, none⟩ = some (.int .i64 kd) := (b5.cell (p := ⟨g, k3 * 6, none⟩) (by exact block_lt_of_cell d0)).trans (by exact d0x); have d1y : w5.cell? ⟨g, k3 * 6 + 1, none⟩ = some (.int .u32 (t : Int)) := (b5.cell (p := ⟨g, k3 * 6 + 1, none⟩) (by exact block_lt_of_cell d1)).trans (by exact d1x); have d2y : w5.cell? ⟨g, k3 * 6 + 2, none⟩ = some (.int .u64 (e : Int)) := (b5.cell (p := ⟨g, k3 * 6 + 2, none⟩) (by exact block_lt_of_cell d2)).trans (by exact d2x); have d3y : w5.cell? ⟨g, k3 * 6 + 3, none⟩ = some (.int .u64 (o : Int)) := (b5.cell (p := ⟨g, k3 * 6 + 3, none⟩) (by exact block_lt_of_cell d3)).trans (by exact d3x); have d4y : w5.cell? ⟨g, k3 * 6 + 4, none⟩ = some (.int .u64 (s : Int)) := (b5.cell (p := ⟨g, k3 * 6 + 4, none⟩) (by exact block_lt_of_cell d4)).trans (by exact d4x); have d5y : w5.cell? ⟨g, k3 * 6 + 5, none⟩ = some (.string b) := (b5.cell (p := ⟨g, k3 * 6 + 5, none⟩) (by exact block_lt_of_cell d5)).trans (by exact d5x); rw [HLE.out]; have B5 : Hid (Below W.heap.size W w5) := (BX.out.trans b5); clear o5 b5))
  all_goals
    clear f0x ekx d0x d1x d2x d3x d4x d5x f0 ek d0 d1 d2 d3 d4 d5
    obtain ⟨f1, f2, f3, f4, f5, f6⟩ := FCT.out
    have g1 : w5.cell? ⟨gm, i * 7 + 1, none⟩ = some (.int .i64 kd) := (B5.out.cell (p := ⟨gm, i * 7 + 1, none⟩) (block_lt_of_cell f1)).trans f1
    have g2 : w5.cell? ⟨gm, i * 7 + 2, none⟩ = some (.int .u32 (t : Int)) := (B5.out.cell (p := ⟨gm, i * 7 + 2, none⟩) (block_lt_of_cell f2)).trans f2
    have g3 : w5.cell? ⟨gm, i * 7 + 3, none⟩ = some (.int .u64 (e : Int)) := (B5.out.cell (p := ⟨gm, i * 7 + 3, none⟩) (block_lt_of_cell f3)).trans f3
    have g4 : w5.cell? ⟨gm, i * 7 + 4, none⟩ = some (.int .u64 (o : Int)) := (B5.out.cell (p := ⟨gm, i * 7 + 4, none⟩) (block_lt_of_cell f4)).trans f4
    have g5 : w5.cell? ⟨gm, i * 7 + 5, none⟩ = some (.int .u64 (s : Int)) := (B5.out.cell (p := ⟨gm, i * 7 + 5, none⟩) (block_lt_of_cell f5)).trans f5
    have g6 : w5.cell? ⟨gm, i * 7 + 6, none⟩ = some (.string b) := (B5.out.cell (p := ⟨gm, i * 7 + 6, none⟩) (block_lt_of_cell f6)).trans f6
    clear f1 f2 f3 f4 f5 f6 hsub
    go_wp2_with fail
    go_still_tail 9, (by kernel_rfl)
    change wpList _ _ _ _ _ (w5.drewN 1)
    have B6 := Lib.hid (below_draws B5.out 1)
    obtain ⟨w6, hw6⟩ : ∃ w6, w5.drewN 1 = w6 := ⟨_, rfl⟩
    rw [hw6] at B6 ⊢
    clear hw6 g1 g2 g3 g4 g5 g6 f0y eky d0y d1y d2y d3y d4y d5y B5
    go_wp2_with fail
    refine (CQ.out _).mono ?_
    rintro en w7' ⟨rfl, b7'⟩
    have FF := Lib.hid (HQ.out w7' (B6.out.trans (b7'.mono B6.out.size)))
    clear b7' B6 CQ CE HQ
    go_wp2_with fail
    exact FF.out _ _ _ _ _ _ _ _ _ _ _ _ _ _ _ _ _ _ _ _ _ _ _ _ _ _ _ _ _ _ _ _ _ _ _ _ _ _ _ _ _ _ _ _ _ _ _ _ _ _ _ _ _
set_option maxRecDepth 100000 in
set_option maxHeartbeats 8000000 in
theorem lost_round_k {z2 z3 z4 z5 z6 z7 z8 z9 z10 z12 z13 z14 z15 z16 z17 z21 z22 z23 z24 z25 z26 z27 z28 z29 z30 z31 z32 z33 z34 z35 z36 z37 z38 z39 z40 z41 z42 z43 z44 z45 z46 z47 z48 z49 z50 z51 z52 z53 z54 z55 z56 z57 z58 z59 z60 z61 z62 z63 z64 z65 z66 z67 z68 z69 z70 z71 z72 z73 z74 z75 z76 z77 z78 z79 z80 z81 z82 z83 z84 z85 z86 z87 z88 z89 z90 z91 z92 z93 z94 z95 z96 z97 z98 z99 z100 z101 z102 z103 z104 z105 z106 z107 z108 z109 z110 z111 z112 z113 z114 z115 z116 z117 z118 z119 z120 z121 z122 z123 z124 z125 z126 z127 z128 z129 z130 z131 z132 z133 z134 z135 z136 z137 z138 z139 z140 z141 z142 z143 z144 z145 z146 z147 z148 z149 z150 z151 z152 z153 z154 z155 z156 z157 z158 z159 z160 z161 z162 z163 z164 z165 z166 z167 z168 z169 z170 z171 z172 z173 z174 z175 z176 z177 z178 z179 z180 z181 z182 z183 z184 z185 z186 z187 z188 z189 z190 z191 z192 z193 z194 z195 z196 z197 z198 z199 z200 : Value} (q cv p M ce c9 g ge gm i k N A A2 : Nat) (kd : Int) (t e o s : Nat) (b : ByteArray) (E : List Int) (W : World)
    (hi : i < M) (hM : M < q) (hq8 : q ≤ 8) (hp : p < q) (hkp : k ≠ p) (hk3q : k < q) (hA : A + N = A2) (hA2 : A2 ≤ 10000)
    (en : ∀ W, Calls Tryd.prog 10 #[.agg #[.int .i64 kd, .int .u32 (t : Int), .int .u64 (e : Int), .int .u64 (o : Int), .int .u64 (s : Int), .string b]] W (Made W E)) (hle : E.length = N)
    (cq : ∀ W, Calls Tryd.prog 17 #[.agg #[.int .i64 kd, .int .u32 (t : Int), .int .u64 (e : Int), .int .u64 (o : Int), .int .u64 (s : Int), .string b], .agg #[.int .i64 kd, .int .u32 (t : Int), .int .u64 (e : Int), .int .u64 (o : Int), .int .u64 (s : Int), .string b]] W fun e w' => e = .returned (.bool true) ∧ Below W.heap.size W w')
    (f0 : W.cell? ⟨gm, i * 7, none⟩ = some (.int .i64 (A : Int))) (ek : W.cell? ⟨ge, k, none⟩ = some (.int .i64 (A2 : Int))) (d0 : W.cell? ⟨g, k * 6, none⟩ = some (.int .i64 kd)) (d1 : W.cell? ⟨g, k * 6 + 1, none⟩ = some (.int .u32 (t : Int))) (d2 : W.cell? ⟨g, k * 6 + 2, none⟩ = some (.int .u64 (e : Int))) (d3 : W.cell? ⟨g, k * 6 + 3, none⟩ = some (.int .u64 (o : Int))) (d4 : W.cell? ⟨g, k * 6 + 4, none⟩ = some (.int .u64 (s : Int))) (d5 : W.cell? ⟨g, k * 6 + 5, none⟩ = some (.string b)) (f1 : W.cell? ⟨gm, i * 7 + 1, none⟩ = some (.int .i64 kd)) (f2 : W.cell? ⟨gm, i * 7 + 2, none⟩ = some (.int .u32 (t : Int))) (f3 : W.cell? ⟨gm, i * 7 + 3, none⟩ = some (.int .u64 (e : Int))) (f4 : W.cell? ⟨gm, i * 7 + 4, none⟩ = some (.int .u64 (o : Int))) (f5 : W.cell? ⟨gm, i * 7 + 5, none⟩ = some (.int .u64 (s : Int))) (f6 : W.cell? ⟨gm, i * 7 + 6, none⟩ = some (.string b))
    (Q : Exit → Act → World → Prop) (hq : ∀ W', Below W.heap.size W W' → ∀ (u139 u140 u141 u142 u143 u144 u145 u146 u147 u148 u149 u150 u151 u152 u153 u154 u155 u156 u157 u158 u159 u160 u161 u162 u163 u164 u165 u166 u167 u168 u169 u170 u171 u172 u173 u174 u175 u176 u177 u178 u179 u180 u181 u182 u183 u184 u185 u186 u187 u188 u189 u190 u191 : Value), Q .normal ⟨#[.slice (some ⟨g, 0, none⟩) q cv, .int .i64 (p : Int), z2, z3, z4, z5, z6, z7, z8, z9, z10, .slice (some ⟨ge, 0, none⟩) q ce, z12, z13, z14, z15, z16, z17, .slice (some ⟨gm, 0, none⟩) M c9, .int .i64 ((k : Int) + 1), .int .i64 ((i : Int) + 1), z21, z22, z23, z24, z25, z26, z27, z28, z29, z30, z31, z32, z33, z34, z35, z36, z37, z38, z39, z40, z41, z42, z43, z44, z45, z46, z47, z48, z49, z50, z51, z52, z53, z54, z55, z56, z57, z58, z59, z60, z61, z62, z63, z64, z65, z66, z67, z68, z69, z70, z71, z72, z73, z74, z75, z76, z77, z78, z79, z80, z81, z82, z83, z84, z85, z86, z87, z88, z89, z90, z91, z92, z93, z94, z95, z96, z97, z98, z99, z100, z101, z102, z103, z104, z105, z106, z107, z108, z109, z110, z111, z112, z113, z114, z115, z116, z117, z118, z119, z120, z121, z122, z123, z124, z125, z126, z127, z128, z129, z130, z131, z132, z133, z134, z135, z136, z137, z138, u139, u140, u141, u142, u143, u144, u145, u146, u147, u148, u149, u150, u151, u152, u153, u154, u155, u156, u157, u158, u159, u160, u161, u162, u163, u164, u165, u166, u167, u168, u169, u170, u171, u172, u173, u174, u175, u176, u177, u178, u179, u180, u181, u182, u183, u184, u185, u186, u187, u188, u189, u190, u191, z192, z193, z194, z195, z196, z197, z198, z199, z200], []⟩ W') :
    Code.wp Tryd.prog (lostBody 2) Q ⟨#[.slice (some ⟨g, 0, none⟩) q cv, .int .i64 (p : Int), z2, z3, z4, z5, z6, z7, z8, z9, z10, .slice (some ⟨ge, 0, none⟩) q ce, z12, z13, z14, z15, z16, z17, .slice (some ⟨gm, 0, none⟩) M c9, .int .i64 (k : Int), .int .i64 (i : Int), z21, z22, z23, z24, z25, z26, z27, z28, z29, z30, z31, z32, z33, z34, z35, z36, z37, z38, z39, z40, z41, z42, z43, z44, z45, z46, z47, z48, z49, z50, z51, z52, z53, z54, z55, z56, z57, z58, z59, z60, z61, z62, z63, z64, z65, z66, z67, z68, z69, z70, z71, z72, z73, z74, z75, z76, z77, z78, z79, z80, z81, z82, z83, z84, z85, z86, z87, z88, z89, z90, z91, z92, z93, z94, z95, z96, z97, z98, z99, z100, z101, z102, z103, z104, z105, z106, z107, z108, z109, z110, z111, z112, z113, z114, z115, z116, z117, z118, z119, z120, z121, z122, z123, z124, z125, z126, z127, z128, z129, z130, z131, z132, z133, z134, z135, z136, z137, z138, z139, z140, z141, z142, z143, z144, z145, z146, z147, z148, z149, z150, z151, z152, z153, z154, z155, z156, z157, z158, z159, z160, z161, z162, z163, z164, z165, z166, z167, z168, z169, z170, z171, z172, z173, z174, z175, z176, z177, z178, z179, z180, z181, z182, z183, z184, z185, z186, z187, z188, z189, z190, z191, z192, z193, z194, z195, z196, z197, z198, z199, z200], []⟩ W := by
  conv => arg 2; whnf
  have hiI : (i : Int) < (M : Int) := by omega
  have hkI : (k : Int) < (q : Int) := by omega
  have hk3I : (k : Int) < (q : Int) := by omega
  have hsub : IntKind.i64.wrap ((A2 : Int) - (N : Int)) = (A : Int) := by rw [IntKind.wrap_i64]; omega
  have CE := Lib.hid en
  have CQ := Lib.hid cq
  have HLE := Lib.hid hle
  have HQ := Lib.hid hq
  have FCT := Lib.hid (And.intro f1 (And.intro f2 (And.intro f3 (And.intro f4 (And.intro f5 f6)))))
  have hkpI : ¬ (k : Int) = (p : Int) := by omega
  have hkpb : ((k : Int) == (p : Int)) = false := by simp; omega
  clear en cq hle hq f1 f2 f3 f4 f5 f6 hA hA2 hkp
  go_wp2_with fail
  have f0x : W.drew.cell? ⟨gm, i * 7, none⟩ = some (.int .i64 (A : Int)) := f0
  have ekx : W.drew.cell? ⟨ge, k, none⟩ = some (.int .i64 (A2 : Int)) := ek
  have d0x : W.drew.cell? ⟨g, k * 6, none⟩ = some (.int .i64 kd) := d0
  have d1x : W.drew.cell? ⟨g, k * 6 + 1, none⟩ = some (.int .u32 (t : Int)) := d1
  have d2x : W.drew.cell? ⟨g, k * 6 + 2, none⟩ = some (.int .u64 (e : Int)) := d2
  have d3x : W.drew.cell? ⟨g, k * 6 + 3, none⟩ = some (.int .u64 (o : Int)) := d3
  have d4x : W.drew.cell? ⟨g, k * 6 + 4, none⟩ = some (.int .u64 (s : Int)) := d4
  have d5x : W.drew.cell? ⟨g, k * 6 + 5, none⟩ = some (.string b) := d5
  have BX : Hid (Below W.heap.size W W.drew) := below_draws (Below.refl _ _) 1
  go_region_held3 (fun W => W.cell? ⟨gm, i * 7, none⟩ = some (.int .i64 (A : Int)) ∧ W.cell? ⟨ge, k, none⟩ = some (.int .i64 (A2 : Int)) ∧ W.cell? ⟨g, k * 6, none⟩ = some (.int .i64 kd) ∧ W.cell? ⟨g, k * 6 + 1, none⟩ = some (.int .u32 (t : Int)) ∧ W.cell? ⟨g, k * 6 + 2, none⟩ = some (.int .u64 (e : Int)) ∧ W.cell? ⟨g, k * 6 + 3, none⟩ = some (.int .u64 (o : Int)) ∧ W.cell? ⟨g, k * 6 + 4, none⟩ = some (.int .u64 (s : Int)) ∧ W.cell? ⟨g, k * 6 + 5, none⟩ = some (.string b)) (first | exact ⟨f0x, ekx, d0x, d1x, d2x, d3x, d4x, d5x⟩ | exact ⟨f0y, eky, d0y, d1y, d2y, d3y, d4y, d5y⟩)
    (first | (go_at_call 10; refine (CE.out _).mono ?_; rintro en w5 ⟨v5, rfl, o5, _, b5⟩; obtain ⟨a5, c5, rfl, _, _, _, _, _⟩ := o5.form; have f0y : w5.cell? ⟨gm, i * 7, none⟩ = some (.int .i64 (A : Int)) := (b5.cell (p := ⟨gm, i * 7, none⟩) (by exact block_lt_of_cell f0)).trans (by exact f0x); have eky : w5.cell? ⟨ge, k, none⟩ = some (.int .i64 (A2 : Int)) := (b5.cell (p := ⟨ge, k, none⟩) (by exact block_lt_of_cell ek)).trans (by exact ekx); have d0y : w5.cell? ⟨g, k * 6, none⟩ = some (.int .i64 kd) := (b5.cell (p := ⟨g, k * 6, none⟩) (by exact block_lt_of_cell d0)).trans (by exact d0x); have d1y : w5.cell? ⟨g, k * 6 + 1, none⟩ = some (.int .u32 (t : Int)) := (b5.cell (p := ⟨g, k * 6 + 1, none⟩) (by exact block_lt_of_cell d1)).trans (by exact d1x); have d2y : w5.cell? ⟨g, k * 6 + 2, none⟩ = some (.int .u64 (e : Int)) := (b5.cell (p := ⟨g, k * 6 + 2, none⟩) (by exact block_lt_of_cell d2)).trans (by exact d2x); have d3y : w5.cell? ⟨g, k * 6 + 3, none⟩ = some (.int .u64 (o : Int)) := (b5.cell (p := ⟨g, k * 6 + 3, none⟩) (by exact block_lt_of_cell d3)).trans (by exact d3x); have d4y : w5.cell? ⟨g, k * 6 + 4, none⟩ = some (.int .u64 (s : Int)) := (b5.cell (p := ⟨g, k * 6 + 4, none⟩) (by exact block_lt_of_cell d4)).trans (by exact d4x); have d5y : w5.cell? ⟨g, k * 6 + 5, none⟩ = some (.string b) := (b5.cell (p := ⟨g, k * 6 + 5, none⟩) (by exact block_lt_of_cell d5)).trans (by exact d5x); rw [HLE.out]; have B5 : Hid (Below W.heap.size W w5) := (BX.out.trans b5); clear o5 b5))
  all_goals
    clear f0x ekx d0x d1x d2x d3x d4x d5x f0 ek d0 d1 d2 d3 d4 d5
    obtain ⟨f1, f2, f3, f4, f5, f6⟩ := FCT.out
    have g1 : w5.cell? ⟨gm, i * 7 + 1, none⟩ = some (.int .i64 kd) := (B5.out.cell (p := ⟨gm, i * 7 + 1, none⟩) (block_lt_of_cell f1)).trans f1
    have g2 : w5.cell? ⟨gm, i * 7 + 2, none⟩ = some (.int .u32 (t : Int)) := (B5.out.cell (p := ⟨gm, i * 7 + 2, none⟩) (block_lt_of_cell f2)).trans f2
    have g3 : w5.cell? ⟨gm, i * 7 + 3, none⟩ = some (.int .u64 (e : Int)) := (B5.out.cell (p := ⟨gm, i * 7 + 3, none⟩) (block_lt_of_cell f3)).trans f3
    have g4 : w5.cell? ⟨gm, i * 7 + 4, none⟩ = some (.int .u64 (o : Int)) := (B5.out.cell (p := ⟨gm, i * 7 + 4, none⟩) (block_lt_of_cell f4)).trans f4
    have g5 : w5.cell? ⟨gm, i * 7 + 5, none⟩ = some (.int .u64 (s : Int)) := (B5.out.cell (p := ⟨gm, i * 7 + 5, none⟩) (block_lt_of_cell f5)).trans f5
    have g6 : w5.cell? ⟨gm, i * 7 + 6, none⟩ = some (.string b) := (B5.out.cell (p := ⟨gm, i * 7 + 6, none⟩) (block_lt_of_cell f6)).trans f6
    clear f1 f2 f3 f4 f5 f6 hsub
    go_wp2_with fail
    go_still_tail 9, (by kernel_rfl)
    change wpList _ _ _ _ _ (w5.drewN 1)
    have B6 := Lib.hid (below_draws B5.out 1)
    obtain ⟨w6, hw6⟩ : ∃ w6, w5.drewN 1 = w6 := ⟨_, rfl⟩
    rw [hw6] at B6 ⊢
    clear hw6 g1 g2 g3 g4 g5 g6 f0y eky d0y d1y d2y d3y d4y d5y B5
    go_wp2_with fail
    refine (CQ.out _).mono ?_
    rintro en w7' ⟨rfl, b7'⟩
    have FF := Lib.hid (HQ.out w7' (B6.out.trans (b7'.mono B6.out.size)))
    clear b7' B6 CQ CE HQ
    go_wp2_with fail
    exact FF.out _ _ _ _ _ _ _ _ _ _ _ _ _ _ _ _ _ _ _ _ _ _ _ _ _ _ _ _ _ _ _ _ _ _ _ _ _ _ _ _ _ _ _ _ _ _ _ _ _ _ _ _ _
end Go.Proofs.YtodajceiadbpeaaDoor.scan
