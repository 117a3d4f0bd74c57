/-
  A ROUND OF THE reference's "digest" (its fifth loop, taken out of the translation): one round of the 64.
-/
import Derived.Test.YtchbfcegonlhoaaDoorRefSmall
import Derived.Test.YtchbfcegonlhoaaDoorRefDigMath
import Derived.Test.YtchbfcegonlhoaaDoorShaSum
import Derived.Deep.RegionLaw
import Derived.BigRegion
import Derived.Deep.QuietTactic
import Derived.BigQuiet
import Derived.IntWalk
namespace Go.Proofs.YtchbfcegonlhoaaDoor.sha
open Go.RowKit

def loopsOf : Code → List Code
  | .loop c => c :: loopsOf c
  | .seq a b => loopsOf a ++ loopsOf b
  | .block _ c => loopsOf c
  | .scope c => loopsOf c
  | .cond _ a b => loopsOf a ++ loopsOf b
  | _ => []
noncomputable def digBody (i : Nat) : Code := ((Tryd.f23.body.map loopsOf).getD []).getD i .skip

set_option maxRecDepth 100000 in
set_option maxHeartbeats 4000000 in
theorem dig_round (c0 c1 c2 c3 c5 c6 c7 c8 c10 c11 c12 c13 c16 c17 c18 c19 c20 c21 c22 c23 c24 c25 c26 c27 c28 c29 c30 c31 c32 c33 c34 c35 c36 c37 c38 c39 c40 c41 c42 c43 c44 c45 c46 c47 c48 c49 c50 c51 c52 c53 c54 c55 c56 c57 c58 c59 c60 c61 c62 c63 c64 c65 c66 c67 c68 c69 c70 c71 c72 c73 c74 c75 c76 c77 c78 c79 c80 c81 c82 c83 c84 c85 c86 c87 c88 c89 c90 c91 c92 c93 c94 c95 c96 c97 c98 c99 c100 c101 c102 c103 c104 c105 c106 c107 c108 c109 c110 c111 c112 c113 c114 c115 c116 c117 c118 c119 c120 c121 c122 c123 c124 c125 c126 c127 c128 c129 c130 c131 c132 c133 c134 c135 c136 c137 c138 c139 c140 c141 c142 c143 c144 c145 c146 c147 c148 c149 c150 c151 c152 c153 c154 c155 c156 c157 c158 c159 c160 c161 c162 c163 c164 c165 c166 c167 c168 c169 c170 c171 c172 c173 c174 c175 c176 c177 c178 c179 c180 c181 c182 c183 c184 c185 c186 c187 c188 c189 c190 c191 c192 c193 c194 c195 c196 c197 c198 c199 c200 c201 c202 c203 c204 c205 c206 c207 c208 c209 c210 c211 c212 c213 c214 c215 c216 c217 c218 c219 c220 c221 c222 c223 c224 c225 c226 c227 c228 c229 c230 c231 c232 c233 c234 c235 c236 c237 : Value) (gk gw gv k : Nat) (hk : k < 64) (y x : BitVec 32) (r : St) (wr : World)
    (ck2 : wr.cell? ⟨gk, k, none⟩ = some (.int .u32 (W y))) (cx2 : wr.cell? ⟨gw, k, none⟩ = some (.int .u32 (W x))) (hv : Whole wr gv 45 (u32s r.list)) (Q : Exit → Act → World → Prop)
    (hq : ∀ (u16 u17 u18 u19 u20 u121 u122 u123 u124 u125 u126 u127 u128 u129 u130 u131 u132 u133 u134 u135 u136 u137 u138 u139 u140 u141 u142 u143 u144 u145 u146 u147 u148 u149 u150 u151 u152 u153 u154 u155 u156 u157 u158 u159 u160 u161 u162 u163 u164 u165 u166 u167 u168 u169 u170 u171 u172 u173 u174 u175 u176 u177 u178 u179 u180 u181 u182 u183 u184 u185 u186 u187 u188 u189 u190 u191 u192 u193 u194 u195 u196 u197 u198 u199 u200 u201 u202 u203 u204 u205 u206 u207 u208 u209 u210 u211 : Value) (w' : World), Whole w' gv 45 (u32s (rnd r y x).list) → (∀ B w0, B ≤ gv → Below B w0 wr → Below B w0 w') → Q .normal ⟨#[c0, c1, c2, c3, .pointer (some ⟨gk, 0, none⟩), c5, c6, c7, c8, .pointer (some ⟨gw, 0, none⟩), c10, c11, c12, c13, .pointer (some ⟨gv, 0, none⟩), .int .i64 ((k : Int) + 1), u16, u17, u18, u19, u20, c21, c22, c23, c24, c25, c26, c27, c28, c29, c30, c31, c32, c33, c34, c35, c36, c37, c38, c39, c40, c41, c42, c43, c44, c45, c46, c47, c48, c49, c50, c51, c52, c53, c54, c55, c56, c57, c58, c59, c60, c61, c62, c63, c64, c65, c66, c67, c68, c69, c70, c71, c72, c73, c74, c75, c76, c77, c78, c79, c80, c81, c82, c83, c84, c85, c86, c87, c88, c89, c90, c91, c92, c93, c94, c95, c96, c97, c98, c99, c100, c101, c102, c103, c104, c105, c106, c107, c108, c109, c110, c111, c112, c113, c114, c115, c116, c117, c118, c119, c120, u121, u122, u123, u124, u125, u126, u127, u128, u129, u130, u131, u132, u133, u134, u135, u136, u137, u138, u139, u140, u141, u142, u143, u144, u145, u146, u147, u148, u149, u150, u151, u152, u153, u154, u155, u156, u157, u158, u159, u160, u161, u162, u163, u164, u165, u166, u167, u168, u169, u170, u171, u172, u173, u174, u175, u176, u177, u178, u179, u180, u181, u182, u183, u184, u185, u186, u187, u188, u189, u190, u191, u192, u193, u194, u195, u196, u197, u198, u199, u200, u201, u202, u203, u204, u205, u206, u207, u208, u209, u210, u211, c212, c213, c214, c215, c216, c217, c218, c219, c220, c221, c222, c223, c224, c225, c226, c227, c228, c229, c230, c231, c232, c233, c234, c235, c236, c237], []⟩ w') :
    Code.wp Tryd.prog (digBody 4) Q ⟨#[c0, c1, c2, c3, .pointer (some ⟨gk, 0, none⟩), c5, c6, c7, c8, .pointer (some ⟨gw, 0, none⟩), c10, c11, c12, c13, .pointer (some ⟨gv, 0, none⟩), .int .i64 (k : Int), c16, c17, c18, c19, c20, c21, c22, c23, c24, c25, c26, c27, c28, c29, c30, c31, c32, c33, c34, c35, c36, c37, c38, c39, c40, c41, c42, c43, c44, c45, c46, c47, c48, c49, c50, c51, c52, c53, c54, c55, c56, c57, c58, c59, c60, c61, c62, c63, c64, c65, c66, c67, c68, c69, c70, c71, c72, c73, c74, c75, c76, c77, c78, c79, c80, c81, c82, c83, c84, c85, c86, c87, c88, c89, c90, c91, c92, c93, c94, c95, c96, c97, c98, c99, c100, c101, c102, c103, c104, c105, c106, c107, c108, c109, c110, c111, c112, c113, c114, c115, c116, c117, c118, c119, c120, c121, c122, c123, c124, c125, c126, c127, c128, c129, c130, c131, c132, c133, c134, c135, c136, c137, c138, c139, c140, c141, c142, c143, c144, c145, c146, c147, c148, c149, c150, c151, c152, c153, c154, c155, c156, c157, c158, c159, c160, c161, c162, c163, c164, c165, c166, c167, c168, c169, c170, c171, c172, c173, c174, c175, c176, c177, c178, c179, c180, c181, c182, c183, c184, c185, c186, c187, c188, c189, c190, c191, c192, c193, c194, c195, c196, c197, c198, c199, c200, c201, c202, c203, c204, c205, c206, c207, c208, c209, c210, c211, c212, c213, c214, c215, c216, c217, c218, c219, c220, c221, c222, c223, c224, c225, c226, c227, c228, c229, c230, c231, c232, c233, c234, c235, c236, c237], []⟩ wr := by
  conv => arg 2; whnf
  obtain ⟨ra, rb, rc, rd, re, rf, rg, rh⟩ := r
  have hr' : rnd ⟨ra, rb, rc, rd, re, rf, rg, rh⟩ y x = ⟨rh + tri re 6 11 25 + choice re rf rg + y + x + (tri ra 2 13 22 + most ra rb rc), ra, rb, rc, rd + (rh + tri re 6 11 25 + choice re rf rg + y + x), re, rf, rg⟩ := rfl
  rw [hr'] at hq
  clear hr'
  have c0 : wr.cell? ⟨gv, 0, none⟩ = some (.int .u32 (W ra)) := hv.at_ 0
  have c1 : wr.cell? ⟨gv, 1, none⟩ = some (.int .u32 (W rb)) := hv.at_ 1
  have c2 : wr.cell? ⟨gv, 2, none⟩ = some (.int .u32 (W rc)) := hv.at_ 2
  have c3 : wr.cell? ⟨gv, 3, none⟩ = some (.int .u32 (W rd)) := hv.at_ 3
  have c4 : wr.cell? ⟨gv, 4, none⟩ = some (.int .u32 (W re)) := hv.at_ 4
  have c5 : wr.cell? ⟨gv, 5, none⟩ = some (.int .u32 (W rf)) := hv.at_ 5
  have c6 : wr.cell? ⟨gv, 6, none⟩ = some (.int .u32 (W rg)) := hv.at_ 6
  have c7 : wr.cell? ⟨gv, 7, none⟩ = some (.int .u32 (W rh)) := hv.at_ 7
  have g1 := W_xor (rotr re 6) (rotr re 11)
  have g2 : bits .xor .u32 (W (rotr re 6 ^^^ rotr re 11)) (W (rotr re 25)) = W (tri re 6 11 25) := W_xor _ _
  have g3 := W_xor (rotr ra 2) (rotr ra 13)
  have g4 : bits .xor .u32 (W (rotr ra 2 ^^^ rotr ra 13)) (W (rotr ra 22)) = W (tri ra 2 13 22) := W_xor _ _
  have p1 := W_and re rf
  have p2 := W_not re
  have p3 := W_and (~~~ re) rg
  have p4 : bits .xor .u32 (W (re &&& rf)) (W (~~~ re &&& rg)) = W (choice re rf rg) := W_xor (re &&& rf) (~~~ re &&& rg)
  have q1 := W_and ra rb
  have q2 := W_and ra rc
  have q3 := W_xor (ra &&& rb) (ra &&& rc)
  have q4 := W_and rb rc
  have q5 : bits .xor .u32 (W (ra &&& rb ^^^ ra &&& rc)) (W (rb &&& rc)) = W (most ra rb rc) := W_xor (ra &&& rb ^^^ ra &&& rc) (rb &&& rc)
  generalize ~~~ re = ne at p2 p3 p4
  generalize tri re 6 11 25 = te at g2 hq
  generalize tri ra 2 13 22 = ta at g4 hq
  have d1 := W_add rh te
  generalize choice re rf rg = ch at p4 hq
  generalize most ra rb rc = mo at q5 hq
  have d2 := W_add (rh + te) ch
  have d3 := W_add (rh + te + ch) y
  have d4 := W_add (rh + te + ch + y) x
  have d5 := W_add ta mo
  generalize rh + te + ch + y + x = tt at d4 hq
  generalize ta + mo = uu at d5 hq
  have d6 := W_add tt uu
  have d7 := W_add rd tt
  have hth : ∀ m, (wr.drewN m).there gv 0 (u32s (St.mk (tt + uu) ra rb rc (rd + tt) re rf rg).list).toArray.size := fun m => (hv.draws m).there _ _ (by rw [u32s_size, u32s_length]; exact Nat.le_refl 8)
  have hi8 : (Tryd.prog.info? 45).map (·.size) = some (u32s (St.mk (tt + uu) ra rb rc (rd + tt) re rf rg).list).toArray.size := by rw [u32s_size]; exact info8
  have HV := Lib.hid hv
  have HTH := Lib.hid hth
  have HI8 := Lib.hid hi8
  have HQ := Lib.hid hq
  clear hv hth hi8 hq
  go_wp2_with fail
  go_quiet ((go_at_call 36; exact rturn_quiet _ _ (by unfold Turns; decide) _ _))
  go_wp2_with fail
  go_quiet (fail)
  go_wp2_with fail
  go_quiet ((go_at_call 36; exact rturn_quiet2 _ _ (by unfold Turns; decide) _ _ _))
  go_wp2_with (first
    | ((with_reducible show wpList _ _ _ _ _ _); refine wpList_store_as rfl 45 (.tmp 14) (.tmp 211) rfl gv 0 (u32s (St.mk (tt + uu) ra rb rc (rd + tt) re rf rg).list).toArray rfl rfl (by exact HTH.out _) HI8.out (u32s_one _) ?_; intro w7 hw7; have HW7 := Lib.hid hw7; clear hw7)
    | fail)
  refine HQ.out _ _ _ _ _ _ _ _ _ _ _ _ _ _ _ _ _ _ _ _ _ _ _ _ _ _ _ _ _ _ _ _ _ _ _ _ _ _ _ _ _ _ _ _ _ _ _ _ _ _ _ _ _ _ _ _ _ _ _ _ _ _ _ _ _ _ _ _ _ _ _ _ _ _ _ _ _ _ _ _ _ _ _ _ _ _ _ _ _ _ _ _ _ _ _ _ w7 ?_ ?_
  · rw [← HW7.out]
    have key : ∀ m : Nat, Whole ((wr.drewN m).setCells gv 0 (u32s (St.mk (tt + uu) ra rb rc (rd + tt) re rf rg).list)) gv 45 (u32s (St.mk (tt + uu) ra rb rc (rd + tt) re rf rg).list) := by
      intro m
      have h := Whole.lay (u32s (St.mk (tt + uu) ra rb rc (rd + tt) re rf rg).list) 0 (HV.out.draws m) (by rw [u32s_length, u32s_length]; exact Nat.le_refl 8)
      rw [lay_all _ _ (by rw [u32s_length, u32s_length]; rfl)] at h
      exact h
    exact key _
  · intro B w0 hB hb
    rw [← HW7.out]
    exact below_lay _ _ _ (below_draws hb _) hB
end Go.Proofs.YtchbfcegonlhoaaDoor.sha
