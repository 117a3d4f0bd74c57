/-
  THE CHECK LOOP's ROUND of "DiskTorn", taken out of the translation.
-/
import Derived.Test.YtfkiifcglgnakaaDkTornA
namespace Go.Proofs.Ytfkiifcglgnakaa.disk
open Go.RowKit Go.Maps

def loopsOf : Code → List Code
  | .loop c => c :: loopsOf c
  | .seq a b => loopsOf a ++ loopsOf b
  | .block _ c => loopsOf c
  | .scope c => loopsOf c
  | .cond _ a b => loopsOf a ++ loopsOf b
  | _ => []
noncomputable def tornBody (i : Nat) : Code := ((Try.f3.body.map loopsOf).getD []).getD i .skip

set_option maxRecDepth 100000 in
set_option maxHeartbeats 16000000 in
theorem torn_round (k5 k6 k7 k8 k9 k10 k11 k12 k14 k16 k17 k19 k23 k24 k25 k26 k27 k28 k29 k30 k31 k32 k33 k34 k35 k36 k37 k38 k39 k40 k41 k42 k43 k44 k45 k46 k47 k48 k49 k50 k51 k52 k53 k54 k55 k56 k57 k58 k59 k60 k61 k62 k63 k64 k65 k66 k67 k68 k69 k70 k71 k72 k73 k74 k75 k76 k77 k78 k79 k80 k81 k82 k83 k84 k85 k86 k87 k88 k89 k90 k91 k92 k93 k94 k95 k96 k97 k98 k99 k100 k101 k102 k103 k104 k105 k106 k107 k108 k109 k110 k111 k112 k113 k114 k115 k116 k117 k118 k119 k120 k121 k122 k123 k124 k125 k126 k127 k128 k129 k130 k131 k132 k133 k134 k135 k136 k137 k138 k139 k140 k141 k142 k143 k144 k145 k146 k147 k148 k149 k150 k151 k152 k153 k154 k155 k156 k157 k158 k159 k160 k161 k162 k163 k164 k165 k166 k167 k168 k169 k170 k171 k172 k173 k174 k175 k176 k177 k178 k179 k180 k181 k182 k183 k184 k185 k186 k187 k188 k189 k190 k191 k192 : Value) (y q M capb len cap nl c10 ll c12 fi z g gn gx : Nat) (ab a : Option Addr) (torn lst : Int) (keep : List Bool) (xv nv ov : Int) (w : World)
    (hz : z < ll) (hln : ll ≤ nl) (hnl : nl ≤ 1000) (hlen : len ≤ 60) (hM1 : M ≤ 400) (hfi1 : fi ≤ 10) (hK : Bools w a len keep)
    (cx : w.cell? ⟨gx, z, none⟩ = some (.int .u8 xv)) (cn : w.cell? ⟨gn, z, none⟩ = some (.int .u8 nv)) (ho : z < y → w.cell? ⟨g, z, none⟩ = some (.int .u8 ov)) (hoz : ¬ z < y → ov = 0)
    (hl : 0 < M → lst = (((q + M - 1) / 64 : Nat) : Int))
    (hxv : xv = if (0 < M ∧ fi ≤ z / 64 ∧ z / 64 ≤ (q + M - 1) / 64) ∧ z % 64 < takes keep torn (z / 64 - fi) then nv else ov)
    (Q : Exit → Act → World → Prop) (hq : ∀ (u23 u24 u25 u26 u27 u123 u124 u125 u126 u127 u128 u129 u130 u131 u132 u133 u134 u135 u136 u137 u138 u139 u140 u141 u142 u143 u144 u145 u146 u147 u148 u149 u150 u151 u152 u153 u154 u155 u156 u157 u158 u159 u160 u161 u162 u163 u164 u165 u166 u167 u168 u169 u170 u171 u172 u173 u174 u175 u176 u177 u178 u179 u180 u181 u182 u183 u184 u185 u186 u187 u188 u189 u190 u191 u192 : Value), Q .normal ⟨#[.int .i64 (y : Int), .int .i64 (q : Int), .slice ab M capb, .slice a len cap, .int .i64 torn, k5, k6, k7, k8, k9, k10, k11, k12, .slice (some ⟨g, 0, none⟩) y y, k14, .slice (some ⟨gn, 0, none⟩) nl c10, k16, k17, .slice (some ⟨gx, 0, none⟩) ll c12, k19, .int .i64 (fi : Int), .int .i64 lst, .int .i64 ((z : Int) + 1), u23, u24, u25, u26, u27, k28, k29, k30, k31, k32, k33, k34, k35, k36, k37, k38, k39, k40, k41, k42, k43, k44, k45, k46, k47, k48, k49, k50, k51, k52, k53, k54, k55, k56, k57, k58, k59, k60, k61, k62, k63, k64, k65, k66, k67, k68, k69, k70, k71, k72, k73, k74, k75, k76, k77, k78, k79, k80, k81, k82, k83, k84, k85, k86, k87, k88, k89, k90, k91, k92, k93, k94, k95, k96, k97, k98, k99, k100, k101, k102, k103, k104, k105, k106, k107, k108, k109, k110, k111, k112, k113, k114, k115, k116, k117, k118, k119, k120, k121, k122, u123, u124, u125, u126, u127, u128, u129, u130, u131, u132, u133, u134, u135, u136, u137, u138, u139, u140, u141, u142, u143, u144, u145, u146, u147, u148, u149, u150, u151, u152, u153, u154, u155, u156, u157, u158, u159, u160, u161, u162, u163, u164, u165, u166, u167, u168, u169, u170, u171, u172, u173, u174, u175, u176, u177, u178, u179, u180, u181, u182, u183, u184, u185, u186, u187, u188, u189, u190, u191, u192], []⟩ w) :
    Code.wp Try.prog (tornBody 1) Q ⟨#[.int .i64 (y : Int), .int .i64 (q : Int), .slice ab M capb, .slice a len cap, .int .i64 torn, k5, k6, k7, k8, k9, k10, k11, k12, .slice (some ⟨g, 0, none⟩) y y, k14, .slice (some ⟨gn, 0, none⟩) nl c10, k16, k17, .slice (some ⟨gx, 0, none⟩) ll c12, k19, .int .i64 (fi : Int), .int .i64 lst, .int .i64 (z : Int), k23, k24, k25, k26, k27, k28, k29, k30, k31, k32, k33, k34, k35, k36, k37, k38, k39, k40, k41, k42, k43, k44, k45, k46, k47, k48, k49, k50, k51, k52, k53, k54, k55, k56, k57, k58, k59, k60, k61, k62, k63, k64, k65, k66, k67, k68, k69, k70, k71, k72, k73, k74, k75, k76, k77, k78, k79, k80, k81, k82, k83, k84, k85, k86, k87, k88, k89, k90, k91, k92, k93, k94, k95, k96, k97, k98, k99, k100, k101, k102, k103, k104, k105, k106, k107, k108, k109, k110, k111, k112, k113, k114, k115, k116, k117, k118, k119, k120, k121, k122, k123, k124, k125, k126, k127, k128, k129, k130, k131, k132, k133, k134, k135, k136, k137, k138, k139, k140, k141, k142, k143, k144, k145, k146, k147, k148, k149, k150, k151, k152, k153, k154, k155, k156, k157, k158, k159, k160, k161, k162, k163, k164, k165, k166, k167, k168, k169, k170, k171, k172, k173, k174, k175, k176, k177, k178, k179, k180, k181, k182, k183, k184, k185, k186, k187, k188, k189, k190, k191, k192], []⟩ w := by
  conv => arg 2; whnf
  obtain ⟨si, hsi⟩ : ∃ si, z / 64 = si := ⟨_, rfl⟩
  obtain ⟨ri, hri⟩ : ∃ ri, z % 64 = ri := ⟨_, rfl⟩
  rw [hsi, hri] at hxv
  have hsI : (z : Int) / 64 = (si : Int) := by omega
  have hrI : (z : Int) % 64 = (ri : Int) := by omega
  have hr64 : ri < 64 := by omega
  have hs : si ≤ 16 := by omega
  have HXV := Lib.hid hxv
  have HQ := Lib.hid hq
  have HO := Lib.hid ho
  have HOZ := Lib.hid hoz
  have HK := Lib.hid hK
  clear hxv hq hsi hri ho hoz hK
  by_cases d1 : 0 < M
  · have hl' := hl d1
    obtain ⟨li, hli⟩ : ∃ li, (q + M - 1) / 64 = li := ⟨_, rfl⟩
    rw [hli] at HXV hl'
    subst hl'
    clear hli hl
    by_cases d2 : fi ≤ si
    · by_cases d3 : si ≤ li
      · obtain ⟨k, hk⟩ : ∃ k, si - fi = k := ⟨_, rfl⟩
        have hkI : (si : Int) - (fi : Int) = (k : Int) := by omega
        rw [hk] at HXV
        have htk : takes keep torn k = if (k : Int) = torn then 32 else if keep.getD k false then 64 else 0 := rfl
        have HTK := Lib.hid htk
        clear hk htk
        by_cases d4 : (k : Int) = torn
        · subst d4
          have htv : takes keep (k : Int) k = 32 := by rw [HTK.out, if_pos rfl]
          by_cases d5 : ri < 32
          · clear HTK
            have hxx : nv = xv := by
              symm
              rw [HXV.out]
              rw [if_pos ⟨⟨d1, d2, d3⟩, by rw [htv]; exact d5⟩]
            subst hxx
            by_cases hey : z < y
            · have co := HO.out hey
              clear HXV
              go_wp2_with fail
              exact HQ.out _ _ _ _ _ _ _ _ _ _ _ _ _ _ _ _ _ _ _ _ _ _ _ _ _ _ _ _ _ _ _ _ _ _ _ _ _ _ _ _ _ _ _ _ _ _ _ _ _ _ _ _ _ _ _ _ _ _ _ _ _ _ _ _ _ _ _ _ _ _ _ _ _ _ _
            · have hov := HOZ.out hey
              subst hov
              clear HXV
              go_wp2_with fail
              exact HQ.out _ _ _ _ _ _ _ _ _ _ _ _ _ _ _ _ _ _ _ _ _ _ _ _ _ _ _ _ _ _ _ _ _ _ _ _ _ _ _ _ _ _ _ _ _ _ _ _ _ _ _ _ _ _ _ _ _ _ _ _ _ _ _ _ _ _ _ _ _ _ _ _ _ _ _
          · clear HTK
            have hxx : ov = xv := by
              symm
              rw [HXV.out]
              rw [if_neg (fun e => d5 (by rw [htv] at e; exact e.2))]
            subst hxx
            by_cases hey : z < y
            · have co := HO.out hey
              clear HXV
              go_wp2_with fail
              exact HQ.out _ _ _ _ _ _ _ _ _ _ _ _ _ _ _ _ _ _ _ _ _ _ _ _ _ _ _ _ _ _ _ _ _ _ _ _ _ _ _ _ _ _ _ _ _ _ _ _ _ _ _ _ _ _ _ _ _ _ _ _ _ _ _ _ _ _ _ _ _ _ _ _ _ _ _
            · have hov := HOZ.out hey
              subst hov
              clear HXV
              go_wp2_with fail
              exact HQ.out _ _ _ _ _ _ _ _ _ _ _ _ _ _ _ _ _ _ _ _ _ _ _ _ _ _ _ _ _ _ _ _ _ _ _ _ _ _ _ _ _ _ _ _ _ _ _ _ _ _ _ _ _ _ _ _ _ _ _ _ _ _ _ _ _ _ _ _ _ _ _ _ _ _ _
        · by_cases d6 : k < len
          · obtain ⟨bk, ok, rfl, ck⟩ := bools_at HK.out k d6
            cases d7 : keep.getD k false
            · have htv : takes keep torn k = 0 := by rw [HTK.out, if_neg d4, d7]; rfl
              rw [d7] at ck
              clear HTK
              have hxx : ov = xv := by
                symm
                rw [HXV.out]
                rw [if_neg (fun e => by rw [htv] at e; exact absurd e.2 (by omega))]
              subst hxx
              by_cases hey : z < y
              · have co := HO.out hey
                clear HXV
                go_wp2_with fail
                exact HQ.out _ _ _ _ _ _ _ _ _ _ _ _ _ _ _ _ _ _ _ _ _ _ _ _ _ _ _ _ _ _ _ _ _ _ _ _ _ _ _ _ _ _ _ _ _ _ _ _ _ _ _ _ _ _ _ _ _ _ _ _ _ _ _ _ _ _ _ _ _ _ _ _ _ _ _
              · have hov := HOZ.out hey
                subst hov
                clear HXV
                go_wp2_with fail
                exact HQ.out _ _ _ _ _ _ _ _ _ _ _ _ _ _ _ _ _ _ _ _ _ _ _ _ _ _ _ _ _ _ _ _ _ _ _ _ _ _ _ _ _ _ _ _ _ _ _ _ _ _ _ _ _ _ _ _ _ _ _ _ _ _ _ _ _ _ _ _ _ _ _ _ _ _ _
            · have htv : takes keep torn k = 64 := by rw [HTK.out, if_neg d4, d7]; rfl
              rw [d7] at ck
              clear HTK
              have hxx : nv = xv := by
                symm
                rw [HXV.out]
                rw [if_pos ⟨⟨d1, d2, d3⟩, by rw [htv]; exact hr64⟩]
              subst hxx
              by_cases hey : z < y
              · have co := HO.out hey
                clear HXV
                go_wp2_with fail
                exact HQ.out _ _ _ _ _ _ _ _ _ _ _ _ _ _ _ _ _ _ _ _ _ _ _ _ _ _ _ _ _ _ _ _ _ _ _ _ _ _ _ _ _ _ _ _ _ _ _ _ _ _ _ _ _ _ _ _ _ _ _ _ _ _ _ _ _ _ _ _ _ _ _ _ _ _ _
              · have hov := HOZ.out hey
                subst hov
                clear HXV
                go_wp2_with fail
                exact HQ.out _ _ _ _ _ _ _ _ _ _ _ _ _ _ _ _ _ _ _ _ _ _ _ _ _ _ _ _ _ _ _ _ _ _ _ _ _ _ _ _ _ _ _ _ _ _ _ _ _ _ _ _ _ _ _ _ _ _ _ _ _ _ _ _ _ _ _ _ _ _ _ _ _ _ _
          · have htv : takes keep torn k = 0 := by
              rw [HTK.out, if_neg d4, List.getD_eq_getElem?_getD, List.getElem?_eq_none (by rw [HK.out.length]; omega)]; rfl
            clear HTK
            have hxx : ov = xv := by
              symm
              rw [HXV.out]
              rw [if_neg (fun e => by rw [htv] at e; exact absurd e.2 (by omega))]
            subst hxx
            by_cases hey : z < y
            · have co := HO.out hey
              clear HXV
              go_wp2_with fail
              exact HQ.out _ _ _ _ _ _ _ _ _ _ _ _ _ _ _ _ _ _ _ _ _ _ _ _ _ _ _ _ _ _ _ _ _ _ _ _ _ _ _ _ _ _ _ _ _ _ _ _ _ _ _ _ _ _ _ _ _ _ _ _ _ _ _ _ _ _ _ _ _ _ _ _ _ _ _
            · have hov := HOZ.out hey
              subst hov
              clear HXV
              go_wp2_with fail
              exact HQ.out _ _ _ _ _ _ _ _ _ _ _ _ _ _ _ _ _ _ _ _ _ _ _ _ _ _ _ _ _ _ _ _ _ _ _ _ _ _ _ _ _ _ _ _ _ _ _ _ _ _ _ _ _ _ _ _ _ _ _ _ _ _ _ _ _ _ _ _ _ _ _ _ _ _ _
      · have d3i : ¬ (si : Int) ≤ (li : Int) := by omega
        have hxx : ov = xv := by
          symm
          rw [HXV.out]
          rw [if_neg (fun e => d3 e.1.2.2)]
        subst hxx
        by_cases hey : z < y
        · have co := HO.out hey
          clear HXV
          go_wp2_with fail
          exact HQ.out _ _ _ _ _ _ _ _ _ _ _ _ _ _ _ _ _ _ _ _ _ _ _ _ _ _ _ _ _ _ _ _ _ _ _ _ _ _ _ _ _ _ _ _ _ _ _ _ _ _ _ _ _ _ _ _ _ _ _ _ _ _ _ _ _ _ _ _ _ _ _ _ _ _ _
        · have hov := HOZ.out hey
          subst hov
          clear HXV
          go_wp2_with fail
          exact HQ.out _ _ _ _ _ _ _ _ _ _ _ _ _ _ _ _ _ _ _ _ _ _ _ _ _ _ _ _ _ _ _ _ _ _ _ _ _ _ _ _ _ _ _ _ _ _ _ _ _ _ _ _ _ _ _ _ _ _ _ _ _ _ _ _ _ _ _ _ _ _ _ _ _ _ _
    · have d2i : ¬ (fi : Int) ≤ (si : Int) := by omega
      have hxx : ov = xv := by
        symm
        rw [HXV.out]
        rw [if_neg (fun e => d2 e.1.2.1)]
      subst hxx
      by_cases hey : z < y
      · have co := HO.out hey
        clear HXV
        go_wp2_with fail
        exact HQ.out _ _ _ _ _ _ _ _ _ _ _ _ _ _ _ _ _ _ _ _ _ _ _ _ _ _ _ _ _ _ _ _ _ _ _ _ _ _ _ _ _ _ _ _ _ _ _ _ _ _ _ _ _ _ _ _ _ _ _ _ _ _ _ _ _ _ _ _ _ _ _ _ _ _ _
      · have hov := HOZ.out hey
        subst hov
        clear HXV
        go_wp2_with fail
        exact HQ.out _ _ _ _ _ _ _ _ _ _ _ _ _ _ _ _ _ _ _ _ _ _ _ _ _ _ _ _ _ _ _ _ _ _ _ _ _ _ _ _ _ _ _ _ _ _ _ _ _ _ _ _ _ _ _ _ _ _ _ _ _ _ _ _ _ _ _ _ _ _ _ _ _ _ _
  · have d1i : ¬ (0 : Int) < (M : Int) := by omega
    have hxx : ov = xv := by
      symm
      rw [HXV.out]
      rw [if_neg (fun e => d1 e.1.1)]
    subst hxx
    by_cases hey : z < y
    · have co := HO.out hey
      clear HXV
      go_wp2_with fail
      exact HQ.out _ _ _ _ _ _ _ _ _ _ _ _ _ _ _ _ _ _ _ _ _ _ _ _ _ _ _ _ _ _ _ _ _ _ _ _ _ _ _ _ _ _ _ _ _ _ _ _ _ _ _ _ _ _ _ _ _ _ _ _ _ _ _ _ _ _ _ _ _ _ _ _ _ _ _
    · have hov := HOZ.out hey
      subst hov
      clear HXV
      go_wp2_with fail
      exact HQ.out _ _ _ _ _ _ _ _ _ _ _ _ _ _ _ _ _ _ _ _ _ _ _ _ _ _ _ _ _ _ _ _ _ _ _ _ _ _ _ _ _ _ _ _ _ _ _ _ _ _ _ _ _ _ _ _ _ _ _ _ _ _ _ _ _ _ _ _ _ _ _ _ _ _ _
end Go.Proofs.Ytfkiifcglgnakaa.disk
