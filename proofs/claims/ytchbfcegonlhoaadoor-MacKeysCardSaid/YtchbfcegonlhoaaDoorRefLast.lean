/-
  A ROUND OF THE LAST LOOP OF the reference's "digest" (taken out of the translation): a word laid as four bytes.
-/
import Derived.Test.YtchbfcegonlhoaaDoorRefRound
import Derived.Test.YtchbfcegonlhoaaDoorRefOut
import Derived.Test.YtchbfcegonlhoaaDoorShaWrite
import Derived.Laws.CopyOwn
namespace Go.Proofs.YtchbfcegonlhoaaDoor.sha
open Go.RowKit
/-- A post that bears no end but the normal one: of an end by panic the walk asks that it not look at the slots. -/
def calm (Q : Act → World → Prop) : Exit → Act → World → Prop
  | .normal, a, w => Q a w
  | _, _, _ => False
theorem calm_to {P : Program} {c : Code} {Q : Exit → Act → World → Prop} {a : Act} {w : World} (h : Code.wp P c (calm fun a w => Q .normal a w) a w) : Code.wp P c Q a w :=
  Code.wp_mono (fun e a w h => by cases e <;> first | exact h | cases h) h
theorem u8s_splice (L c : List Int) (o m : Nat) : (u8s L).take o ++ (u8s c ++ (u8s L).drop m) = u8s (L.take o ++ (c ++ L.drop m)) := by
  simp [u8s, List.map_append, List.map_take, List.map_drop]

/-- A copy of bytes into a block that is known whole, as one step of a region that draws. -/
theorem step_copy_into {P : Program} {ops : Array Oper} {o : Oper} {a : Act} {w : World} {K : Act → World → Prop} {Q : Exit → Act → World → Prop} {E : Prop} (hgd : o.guard = none) (d s : Operand) (dT sT : TypeId)
    (ho : o.op = .call { callee := .builtin .copy, args := #[d, s], argTypes := #[dT, sT] }) (elem : TypeId) (hu : P.underlying dT = some (.slice elem)) (hsz : (P.info? elem).map (·.size) = some 1)
    (g off dLen dCap : Nat) (A : Option Addr) (sLen sCap : Nat) (hd : a.eval d = .slice (some ⟨g, off, none⟩) dLen dCap) (hs : a.eval s = .slice A sLen sCap)
    (t : TypeId) (L : List Int) (hW : Whole w g t (u8s L)) (cs : List Int) (m : Nat) (hm : cs.length = m) (hn : m = Nat.min sLen dLen) (hl : Leads w A cs) (hpos : 0 < cs.length) (hfit : off + cs.length ≤ L.length)
    (h : ∀ w2, Hid (Whole w2 g t (u8s (L.take off ++ (cs ++ L.drop (off + cs.length))))) → Hid (w.grownBy w2 (some g)) → K (a.put o.dst (.int .i64 (m : Int))) w2) : if Region.wanted o (yielded ops a.tmps) = true then Oper.wp P o a w K Q else E := by
  have hw : Region.wanted o (yielded ops a.tmps) = true := by simp [Region.wanted, hgd]
  rw [if_pos hw]
  subst hm
  obtain ⟨b, o', rfl, hc⟩ : ∃ b off, A = some ⟨b, off, none⟩ ∧ ∀ i, i < cs.length → w.cell? ⟨b, off + i, none⟩ = some (.int .u8 (cs.getD i 0)) := by
    rcases hl with rfl | h
    · simp at hpos
    · exact h
  have hsrc : ∀ j v, (u8s cs)[j]? = some v → w.cell? ((⟨b, o', none⟩ : Addr).add j) = some v := by
    intro j v hv
    have hj : j < cs.length := by have := (List.getElem?_eq_some_iff.1 hv).1; rwa [u8s_length] at this
    rw [u8s_at cs hj] at hv
    rw [Addr.add_mid, hc j hj, hv]
  have hrun := run_copy_row (P := P) w dT sT o.type elem g off dLen dCap ⟨b, o', none⟩ sLen sCap (u8s L).toArray t (u8s cs) hu hsz hW (by rw [u8s_length]; exact hn) hsrc (by simpa [u8s_length] using hfit) (by intro v hv; simp [u8s] at hv; obtain ⟨x, _, rfl⟩ := hv; rfl)
  have h' := h (w.setRow g (u8s (L.take off ++ (cs ++ L.drop (off + cs.length)))).toArray) (setRow_heap w g _ _ t _ hW) ⟨rfl, rfl, rfl, by simp, fun k _ hne => setRow_other w g k _ (fun e => hne (by rw [e]))⟩
  rw [← u8s_splice] at h'
  unfold Oper.wp
  simp [execOp, ho, resolve, invoke, builtin, hd, hs, hrun, Result.andThen, u8s_length]
  exact h'

set_option maxRecDepth 100000 in
set_option maxHeartbeats 2000000 in
theorem dig_last (s0 s1 s2 s3 s4 s6 s7 s8 s9 s10 s11 s12 s13 s14 s15 s16 s17 s18 s19 s20 s21 s24 s25 s26 s27 s28 s29 s30 s31 s32 s33 s34 s35 s36 s37 s38 s39 s40 s41 s42 s43 s44 s45 s46 s47 s48 s49 s50 s51 s52 s53 s54 s55 s56 s57 s58 s59 s60 s61 s62 s63 s64 s65 s66 s67 s68 s69 s70 s71 s72 s73 s74 s75 s76 s77 s78 s79 s80 s81 s82 s83 s84 s85 s86 s87 s88 s89 s90 s91 s92 s93 s94 s95 s96 s97 s98 s99 s100 s101 s102 s103 s104 s105 s106 s107 s108 s109 s110 s111 s112 s113 s114 s115 s116 s117 s118 s119 s120 s121 s122 s123 s124 s125 s126 s127 s128 s129 s130 s131 s132 s133 s134 s135 s136 s137 s138 s139 s140 s141 s142 s143 s144 s145 s146 s147 s148 s149 s150 s151 s152 s153 s154 s155 s156 s157 s158 s159 s160 s161 s162 s163 s164 s165 s166 s167 s168 s169 s170 s171 s172 s173 s174 s175 s176 s177 s178 s179 s180 s181 s182 s183 s184 s185 s186 s187 s188 s189 s190 s191 s192 s193 s194 s195 s196 s197 s198 s199 s200 s201 s202 s203 s204 s205 s206 s207 s208 s209 s210 s211 s212 s213 s214 s215 s216 s217 s218 s219 s220 s221 s222 s223 s224 s225 s226 s227 s228 s229 s230 s231 s232 s233 s234 s235 s236 s237 : Value) (gh gn k : Nat) (hk : k < 8) (l : List (BitVec 32)) (hl : l.length = 8) (wr : World)
    (cx : wr.cell? ⟨gh, k, none⟩ = some (.int .u32 (W (l.getD k 0)))) (h1 : Whole wr gn 25 (u8s (outAt l k))) (Q : Act → World → Prop)
    (hq : ∀ (u224 u225 u226 u227 u228 u229 u230 u231 u232 u233 u234 u235 u236 : Value) (w' : World), Whole w' gn 25 (u8s (outAt l (k + 1))) → (∀ B w0, B ≤ gn → B ≤ wr.heap.size → Below B w0 wr → Below B w0 w') → Q ⟨#[s0, s1, s2, s3, s4, .pointer (some ⟨gh, 0, none⟩), s6, s7, s8, s9, s10, s11, s12, s13, s14, s15, s16, s17, s18, s19, s20, s21, .pointer (some ⟨gn, 0, none⟩), .int .i64 ((k : Int) + 1), s24, s25, s26, s27, s28, s29, s30, s31, s32, s33, s34, s35, s36, s37, s38, s39, s40, s41, s42, s43, s44, s45, s46, s47, s48, s49, s50, s51, s52, s53, s54, s55, s56, s57, s58, s59, s60, s61, s62, s63, s64, s65, s66, s67, s68, s69, s70, s71, s72, s73, s74, s75, s76, s77, s78, s79, s80, s81, s82, s83, s84, s85, s86, s87, s88, s89, s90, s91, s92, s93, s94, s95, s96, s97, s98, s99, s100, s101, s102, s103, s104, s105, s106, s107, s108, s109, s110, s111, s112, s113, s114, s115, s116, s117, s118, s119, s120, s121, s122, s123, s124, s125, s126, s127, s128, s129, s130, s131, s132, s133, s134, s135, s136, s137, s138, s139, s140, s141, s142, s143, s144, s145, s146, s147, s148, s149, s150, s151, s152, s153, s154, s155, s156, s157, s158, s159, s160, s161, s162, s163, s164, s165, s166, s167, s168, s169, s170, s171, s172, s173, s174, s175, s176, s177, s178, s179, s180, s181, s182, s183, s184, s185, s186, s187, s188, s189, s190, s191, s192, s193, s194, s195, s196, s197, s198, s199, s200, s201, s202, s203, s204, s205, s206, s207, s208, s209, s210, s211, s212, s213, s214, s215, s216, s217, s218, s219, s220, s221, s222, s223, u224, u225, u226, u227, u228, u229, u230, u231, u232, u233, u234, u235, u236, s237], []⟩ w') :
    Code.wp Tryd.prog (digBody 6) (calm Q) ⟨#[s0, s1, s2, s3, s4, .pointer (some ⟨gh, 0, none⟩), s6, s7, s8, s9, s10, s11, s12, s13, s14, s15, s16, s17, s18, s19, s20, s21, .pointer (some ⟨gn, 0, none⟩), .int .i64 (k : Int), s24, s25, s26, s27, s28, s29, s30, s31, s32, s33, s34, s35, s36, s37, s38, s39, s40, s41, s42, s43, s44, s45, s46, s47, s48, s49, s50, s51, s52, s53, s54, s55, s56, s57, s58, s59, s60, s61, s62, s63, s64, s65, s66, s67, s68, s69, s70, s71, s72, s73, s74, s75, s76, s77, s78, s79, s80, s81, s82, s83, s84, s85, s86, s87, s88, s89, s90, s91, s92, s93, s94, s95, s96, s97, s98, s99, s100, s101, s102, s103, s104, s105, s106, s107, s108, s109, s110, s111, s112, s113, s114, s115, s116, s117, s118, s119, s120, s121, s122, s123, s124, s125, s126, s127, s128, s129, s130, s131, s132, s133, s134, s135, s136, s137, s138, s139, s140, s141, s142, s143, s144, s145, s146, s147, s148, s149, s150, s151, s152, s153, s154, s155, s156, s157, s158, s159, s160, s161, s162, s163, s164, s165, s166, s167, s168, s169, s170, s171, s172, s173, s174, s175, s176, s177, s178, s179, s180, s181, s182, s183, s184, s185, s186, s187, s188, s189, s190, s191, s192, s193, s194, s195, s196, s197, s198, s199, s200, s201, s202, s203, s204, s205, s206, s207, s208, s209, s210, s211, s212, s213, s214, s215, s216, s217, s218, s219, s220, s221, s222, s223, s224, s225, s226, s227, s228, s229, s230, s231, s232, s233, s234, s235, s236, s237], []⟩ wr := by
  conv => arg 2; whnf
  have hlen := outAt_length l hl k (by omega)
  have hnx : (outAt l k).take (4 * k) ++ (four (l.getD k 0) ++ (outAt l k).drop (4 * k + 4)) = outAt l (k + 1) := outAt_lay l hl k hk
  generalize l.getD k 0 = x at cx hnx
  have px := W_lt x
  have P4 := fun wz => put_any (W x) 4 (.inl rfl) wz
  rw [putN_four] at P4
  have hwr : IntKind.i64.wrap (4 * (k : Int)) = 4 * (k : Int) := by
    have h0 : -9223372036854775808 ≤ 4 * (k : Int) ∧ 4 * (k : Int) ≤ 9223372036854775807 := by omega
    unfold IntKind.wrap
    simp [IntKind.bits]
    omega
  have hsl : ∀ wz, (Instr.sliceAt 25 (.pointer (some ⟨gn, 0, none⟩)) (some (.int .i64 (4 * (k : Int)))) none none).run Tryd.prog wz = .ok (.slice (some ⟨gn, 4 * k, none⟩) (32 - 4 * k) (32 - 4 * k)) wz := by
    intro wz
    have h := run_tail32 gn (4 * k) (by omega) wz
    rwa [show ((4 * k : Nat) : Int) = 4 * (k : Int) by omega] at h
  have HP4 := Lib.hid P4
  have HLEN := Lib.hid hlen
  have HNX := Lib.hid hnx
  have H1 := Lib.hid h1
  have HQ := Lib.hid hq
  clear P4 hlen hnx h1 hq
  have hwx : IntKind.u64.wrap (W x) = W x := by
    obtain ⟨p0, p1⟩ := px
    unfold IntKind.wrap
    simp [IntKind.bits]
    omega
  have hgl : gn < wr.heap.size := H1.out.lt
  go_wp2_with fail
  go_region_law (first
    | (rw [if_pos (by rfl)]; go_simp; (try rw [hwx]); refine (HP4.out _).mono ?_; rintro e w4 ⟨⟨v4, rfl, own4⟩, bel4⟩; obtain ⟨A4, c4, hv4, g1, g2, g3, g4, g5, g6⟩ := own4.form; rw [four_length] at hv4; subst hv4; have HBL := Lib.hid bel4; have HK4 := Lib.hid (Whole.kept (by exact H1.out) bel4); have HL4 := Lib.hid g4; clear own4 bel4 g1 g2 g3 g4 g5 g6)
    | (refine step_copy_into rfl (.tmp 230) (.tmp 235) 22 22 rfl 5 Tryd.underlying22 info1 gn (4 * k) (32 - 4 * k) (32 - 4 * k) _ 4 _ rfl rfl _ _ (by exact HK4.out) (four x) 4 rfl (Nat.min_eq_left (by omega)).symm (by exact HL4.out) (by rw [four_length]; omega) (by rw [HLEN.out, four_length]; omega) ?_; intro w5 hw5 hg5))
  go_wp2
  refine HQ.out _ _ _ _ _ _ _ _ _ _ _ _ _ _ ?_ ?_
  · have h := hw5.out
    rw [four_length, HNX.out] at h
    exact h
  · intro B w0 hB hBs hb
    exact below_only ((show Below B w0 wr.drew from below_draws hb 1).trans (HBL.out.mono (by exact hBs))) hg5.out hB (Nat.le_trans hBs (by exact HBL.out.size))
end Go.Proofs.YtchbfcegonlhoaaDoor.sha
