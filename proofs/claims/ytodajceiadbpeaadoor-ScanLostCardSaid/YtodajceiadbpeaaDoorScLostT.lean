/-
  'stillroomlaw7.ScanLost' BEHIND ITS SPOILING, taken out of the translation. Written by wip/tools/losttail.py.
-/
import Derived.Test.YtodajceiadbpeaaDoorScRowsIn
import Derived.Test.YtodajceiadbpeaaDoorScBegun
import Derived.Test.YtodajceiadbpeaaDoorScEq
import Derived.Test.YtodajceiadbpeaaDoorScLostM
import Derived.Test.YtodajceiadbpeaaDoorScPair
import Derived.Test.YtodajceiadbpeaaDoorScAllW
import Derived.Test.YtodajceiadbpeaaDoorScLostR
import Derived.Test.YtodajceiadbpeaaDoorDkCells
namespace Go.Proofs.YtodajceiadbpeaaDoor.scan
open Go.RowKit Go.Proofs.YtodajceiadbpeaaDoor.disk Go.Proofs.YtodajceiadbpeaaDoor.recd Go.Proofs.YtodajceiadbpeaaDoor.num
set_option linter.unusedVariables false

theorem bx_other {c x : Int} (hc : 0 ≤ c ∧ c < 256) (hx : 0 ≤ x ∧ x < 256) (hx0 : x ≠ 0) : crc.bx c x ≠ c := fun e => by
  have h := crc.bx_bv hc hx
  rw [e] at h
  have h2 := congrArg (BitVec.ofInt 32 c ^^^ ·) h
  simp only [← BitVec.xor_assoc, BitVec.xor_self, BitVec.zero_xor] at h2
  have h3 := crc.toNat_byte hx
  rw [← h2] at h3
  exact hx0 (by rw [← h3]; rfl)
theorem pos_small (gs : List Rec) (h : ∀ r ∈ gs, GoodR r) : ∀ k, k ≤ gs.length → pos gs k ≤ k * 239
  | 0, _ => Nat.zero_le _
  | k + 1, hk => by
    have h1 := pos_small gs h k (by omega)
    have h2 := (h gs[k] (List.getElem_mem (by omega))).2.2
    rw [pos_succ gs k (by omega)]
    omega
def endsN (gs : List Rec) (q : Nat) : List Nat := (List.range q).map fun k => pos gs (k + 1)
theorem endsN_length (gs : List Rec) (q : Nat) : (endsN gs q).length = q := by simp [endsN]
theorem endsN_succ (gs : List Rec) (q : Nat) : endsN gs q ++ [pos gs (q + 1)] = endsN gs (q + 1) := by simp [endsN, List.range_succ]
theorem endsN_at (gs : List Rec) (q k : Nat) (h : k < (endsN gs q).length) : (endsN gs q)[k] = pos gs (k + 1) := by simp [endsN]
theorem GoodR.fit {r : Rec} (h : GoodR r) : r.Fit := ⟨by have := May.of h.1; omega, h.2.1, by have := h.2.2; unfold maxLen; omega⟩


def startsAt (n : Nat) : Code → Bool
  | .region k _ _ => k == n
  | .seq a _ => startsAt n a
  | _ => false
def fromAt (n : Nat) : Code → Code
  | .seq a b => if startsAt n a then .seq a b else fromAt n b
  | c => c
def firstOf : Code → Code
  | .seq a _ => a
  | c => c
noncomputable def lostFrom (n : Nat) : Code := fromAt n (Tryd.f4.body.getD .skip)

set_option maxRecDepth 100000 in
set_option maxHeartbeats 8000000 in
theorem lost_tail {z2 z4 z5 z6 z7 z8 z9 z12 z15 z16 z17 z18 z19 z20 z21 z22 z23 z24 z25 z26 z27 z28 z29 z30 z31 z32 z33 z34 z35 z36 z37 z38 z39 z40 z41 z42 z43 z44 z45 z46 z47 z48 z49 z50 z51 z52 z53 z54 z55 z56 z57 z58 z59 z60 z61 z62 z63 z64 z65 z66 z67 z68 z69 z70 z71 z72 z73 z74 z75 z76 z77 z78 z79 z80 z81 z82 z83 z84 z85 z86 z87 z88 z89 z90 z91 z92 z93 z94 z95 z96 z97 z98 z99 z100 z101 z102 z103 z104 z105 z106 z107 z108 z109 z110 z111 z112 z113 z114 z115 z116 z117 z118 z119 z120 z121 z122 z123 z124 z125 z126 z127 z128 z129 z130 z131 z132 z133 z134 z135 z136 z137 z138 z139 z140 z141 z142 z143 z144 z145 z146 z147 z148 z149 z150 z151 z152 z153 z154 z155 z156 z157 z158 z159 z160 z161 z162 z163 z164 z165 z166 z167 z168 z169 z170 z171 z172 z173 z174 z175 z176 z177 z178 z179 z180 z181 z182 z183 z184 z185 z186 z187 z188 z189 z190 z191 z192 z193 z194 z195 z196 z197 z198 z199 z200 : Value} (w w2 wr : World) (hT : crc.Tab w) (gs : List Rec) (q p NB cb ce cv g gb ge FR TO D off : Nat) (x : Int)
    (hM : gs.length = q) (hG : ∀ r ∈ gs, GoodR r) (hg8 : q ≤ 8) (hpm : p < q) (hB2 : Below w.heap.size w w2) (hO2 : OwnS fRec w2 (.slice (some ⟨g, 0, none⟩) q cv) gs)
    (hGR : Grow w2 (cat gs) (.slice (some ⟨gb, 0, none⟩) NB cb) wr) (hNB : (cat gs).length = NB) (hN9 : NB ≤ 2000) (hcb : NB ≤ cb)
    (hec : ∀ k, k < q → wr.cell? ⟨ge, k, none⟩ = some (.int .i64 (pos gs (k + 1) : Nat))) (hgeb : ge ≠ gb) (hgbn : w2.heap.size ≤ gb) (hx : 0 ≤ x ∧ x < 256) (hx0 : ¬ x = 0)
    (hF : pos gs p = FR) (hTO : pos gs (p + 1) = TO) (hTD : FR + D = TO) (hD0 : 39 ≤ D) (hTN : TO ≤ NB) (hod : off < D) (ho1 : ¬ (31 ≤ off ∧ off < 35))
    (K9 : Act → World → Prop) (hK9 : ∀ a W, Code.wp Tryd.prog (lostFrom 22) (bodyPost Tryd.prog Tryd.f4 fun e w' => e = .returned (.bool true) ∧ Below w.heap.size w w') a W → K9 a W) :
    Code.wp Tryd.prog (firstOf (lostFrom 21)) (Exit.then K9 (bodyPost Tryd.prog Tryd.f4 fun e w' => e = .returned (.bool true) ∧ Below w.heap.size w w')) ⟨#[.slice (some ⟨g, 0, none⟩) q cv, .int .i64 (p : Int), z2, .int .u8 x, z4, z5, z6, z7, z8, z9, .slice (some ⟨gb, 0, none⟩) NB cb, .slice (some ⟨ge, 0, none⟩) q ce, z12, .int .i64 (FR : Int), .int .i64 (off : Int), z15, z16, z17, z18, z19, z20, z21, z22, z23, z24, z25, z26, z27, z28, z29, z30, z31, z32, z33, z34, z35, z36, z37, z38, z39, z40, z41, z42, z43, z44, z45, z46, z47, z48, z49, z50, z51, z52, z53, z54, z55, z56, z57, z58, z59, z60, z61, z62, z63, z64, z65, z66, z67, z68, z69, z70, z71, z72, z73, z74, z75, z76, z77, z78, z79, z80, z81, z82, z83, z84, z85, z86, z87, z88, z89, z90, z91, z92, z93, z94, z95, z96, z97, z98, z99, z100, z101, z102, z103, z104, z105, z106, z107, z108, z109, z110, z111, z112, z113, z114, z115, z116, z117, z118, z119, z120, z121, z122, z123, z124, z125, z126, z127, z128, z129, z130, z131, z132, z133, z134, z135, z136, z137, z138, z139, z140, z141, z142, z143, z144, z145, z146, z147, z148, z149, z150, z151, z152, z153, z154, z155, z156, z157, z158, z159, z160, z161, z162, z163, z164, z165, z166, z167, z168, z169, z170, z171, z172, z173, z174, z175, z176, z177, z178, z179, z180, z181, z182, z183, z184, z185, z186, z187, z188, z189, z190, z191, z192, z193, z194, z195, z196, z197, z198, z199, z200], []⟩ wr := by
  conv => arg 2; whnf
  have HK9 := Lib.hid hK9
  clear hK9
  have hpl : p < gs.length := by rw [hM]; exact hpm
  have hL := lost gs (fun r h => ⟨(hG r h).1, (hG r h).2.1⟩) p hpl
  have hLA := lost_at gs p hpl
  have hps := pos_succ gs p hpl
  rw [hF, hTO] at hps
  rw [show 39 + gs[p].body.size = D by omega, hF, hTO] at hL
  rw [hTO] at hLA
  have eT := hec p hpm
  rw [hTO] at eT
  have hFD : FR + D ≤ NB := by omega
  have hFT : FR + 1 ≤ TO := by omega
  have HT := Lib.hid hT
  have HM := Lib.hid hM
  have HGD := Lib.hid hG
  have B2 := Lib.hid hB2
  have O2 := Lib.hid hO2
  have HGR := Lib.hid hGR
  have HNB := Lib.hid hNB
  have HEC := Lib.hid hec
  have HX := Lib.hid hx
  have HL := Lib.hid hL
  have HLA := Lib.hid hLA
  clear hT hM hG hB2 hO2 hGR hNB hec hx hL hLA hps hF hTO hTD hpl
  obtain ⟨K, hK⟩ : ∃ K, FR + off = K := ⟨_, rfl⟩
  have hKI : (FR : Int) + (off : Int) = (K : Int) := by omega
  have hKN : K < NB := by omega
  have ck := HGR.out.own.cell HNB.out K hKN
  have fk := HGR.out.own.free HNB.out K
  have hby := cat_byte gs
  have hc0 := hby.at (i := K) (by rw [HNB.out]; exact hKN)
  have hy := crc.bx_byte hc0 HX.out
  have hyn := bx_other hc0 HX.out hx0
  have hbx : bits .xor .u8 ((cat gs).getD K 0) x = crc.bx ((cat gs).getD K 0) x := rfl
  have hL2 := HL.out off hod ho1 _ hy (by rw [hK]; exact hyn)
  obtain ⟨cc, hcc⟩ : ∃ cc, (cat gs).getD K 0 = cc := ⟨_, rfl⟩
  rw [hcc] at ck hy hbx hL2
  obtain ⟨y, hyy⟩ : ∃ y, crc.bx cc x = y := ⟨_, rfl⟩
  rw [hyy] at hbx hy hL2
  rw [hK] at hL2
  have o7 := HGR.out.own.set HNB.out K y
  have b7 : Below w2.heap.size w2 (wr.setCell ⟨gb, K, none⟩ (.int .u8 y)) := HGR.out.below.setCell hgbn _
  have hbyB : Byte ((cat gs).set K y) := set_byte hby hy
  have hlB : ((cat gs).set K y).length = NB := by rw [List.length_set]; exact HNB.out
  have hecS : ∀ k, k < q → (wr.setCell ⟨gb, K, none⟩ (.int .u8 y)).cell? ⟨ge, k, none⟩ = some (.int .i64 (pos gs (k + 1) : Nat)) := fun k hk => by
    have h := HEC.out k hk
    rw [← h]
    exact World.cell?_of_block (a := ⟨ge, k, none⟩) (heap_setCell_other wr ⟨gb, K, none⟩ ge _ hgeb)
  have eTS : (wr.setCell ⟨gb, K, none⟩ (.int .u8 y)).cell? ⟨ge, p, none⟩ = some (.int .i64 (TO : Int)) := by
    rw [← eT]
    exact World.cell?_of_block (a := ⟨ge, p, none⟩) (heap_setCell_other wr ⟨gb, K, none⟩ ge _ hgeb)
  have O7 := Lib.hid o7
  have B7 := Lib.hid b7
  have HBY := Lib.hid hbyB
  have HLB2 := Lib.hid hlB
  have HECS := Lib.hid hecS
  have ETS := Lib.hid eTS
  have HL2 := Lib.hid hL2
  clear hby hc0 hy hyn hL2 hcc hyy o7 b7 hbyB hlB hecS eTS HL
  go_wp2_with fail
  refine HK9.out _ _ ?_
  conv => arg 2; whnf
  go_wp2_with fail
  all_goals
    clear ck fk eT hKI hbx
    obtain ⟨w7, hw7⟩ : ∃ w7, wr.setCell ⟨gb, K, none⟩ (.int .u8 y) = w7 := ⟨_, rfl⟩
    obtain ⟨B, hB⟩ : ∃ B, (cat gs).set K y = B := ⟨_, rfl⟩
    rw [hw7] at O7 B7 HECS ETS ⊢
    rw [hB] at O7 HBY HLB2 HL2
    clear hw7 hB HGR HEC
    have eT := ETS.out
    go_loopw [15] (fun pv wr => ∃ (j : Nat), pv = .int .i64 (j : Int) ∧ FR + 1 ≤ j ∧ j ≤ TO ∧ NoMark B (FR + 1) j ∧ wr = w7) (fun pv _ => ((TO : Int) - intOf pv).toNat)
    case atStart => exact ⟨FR + 1, by first | rfl | (rw [Int.natCast_add]; rfl), Nat.le_refl _, hFT, (fun j h1 h2 => by omega), rfl⟩
    case round =>
      obtain ⟨j, rfl, hj1, hj2, hnm, rfl⟩ := hrel
      by_cases hjt : j < TO
      · have hjtI : (j : Int) < (TO : Int) := by omega
        have cj := O7.out.cell HLB2.out j (by omega)
        have HNM := Lib.hid hnm
        obtain ⟨z, hz⟩ : ∃ z, B.getD j 0 = z := ⟨_, rfl⟩
        rw [hz] at cj
        clear hnm
        have next : ¬ (z = 83 ∧ j + 1 < NB ∧ B.getD (j + 1) 0 = 82) → Hid ((∃ (j2 : Nat), Value.int .i64 ((j : Int) + 1) = .int .i64 (j2 : Int) ∧ FR + 1 ≤ j2 ∧ j2 ≤ TO ∧ NoMark B (FR + 1) j2 ∧ True) ∧ ((TO : Int) - intOf (.int .i64 ((j : Int) + 1))).toNat < ((TO : Int) - intOf (.int .i64 (j : Int))).toNat) := fun hn => by
          refine ⟨⟨j + 1, by rw [Int.natCast_add]; rfl, by omega, by omega, fun i h1 h2 => ?_, trivial⟩, ?_⟩
          · by_cases hi : i = j
            · rw [hi, hz, HLB2.out]; exact hn
            · exact HNM.out i h1 (by omega)
          · show ((TO : Int) - ((j : Int) + 1)).toNat < ((TO : Int) - (j : Int)).toNat
            omega
        by_cases h83 : z = 83
        · by_cases hjn : j + 1 < NB
          · have hjnI : (j : Int) + 1 < (NB : Int) := by omega
            have cj1 := O7.out.cell HLB2.out (j + 1) hjn
            obtain ⟨z2, hz2⟩ : ∃ z, B.getD (j + 1) 0 = z := ⟨_, rfl⟩
            rw [hz2] at cj1 next
            have htn : ((j : Int) + 1).toNat = j + 1 := by omega
            by_cases h82 : z2 = 82
            · subst h82
              subst h83
              have B9 := Lib.hid (B2.out.trans (B7.out.mono B2.out.size))
              clear next hz hz2
              go_wp2_with fail
              go_ret
              exact ⟨rfl, B9.out⟩
            · have NX := next (fun h => h82 h.2.2)
              have b82 : (z2 == 82) = false := by simp; omega
              subst h83
              clear next hz hz2
              go_wp2_with fail
              exact NX.out
          · have hjnI : ¬ (j : Int) + 1 < (NB : Int) := by omega
            have NX := next (fun h => hjn h.2.1)
            subst h83
            clear next hz
            go_wp2_with fail
            exact NX.out
        · have NX := next (fun h => h83 h.1)
          have b83 : (z == 83) = false := by simp; omega
          clear next hz
          go_wp2_with fail
          exact NX.out
      · obtain rfl : j = TO := by omega
        obtain ⟨wB, hwB⟩ : ∃ wB, wB = wr := ⟨_, rfl⟩
        subst hwB
        have hjj : ¬ (j : Int) < (j : Int) := by omega
        have hfr := HL2.out.1
        have hre := HL2.out.2 hnm
        obtain ⟨hfl, hfa⟩ := HLA.out
        rw [← hre] at hfl hfa
        have hrl9 := finds_length 0 (gs.take p)
        rw [List.length_take, HM.out, Nat.min_eq_left (by omega)] at hrl9
        have hrb := fun (x : Fd) (hx : x ∈ rest B 0) => (rest_body hx).1
        obtain ⟨FS, hFS⟩ : ∃ FS, rest B 0 = FS := ⟨_, rfl⟩
        rw [hFS] at hfl hfa hrb
        obtain ⟨ff, hff⟩ : ∃ ff, finds 0 (gs.take p) = ff := ⟨_, rfl⟩
        rw [hff] at hfr hrl9
        have cf := Front_any (some ⟨gb, 0, none⟩) NB cb B wB (HT.out.later (B2.out.trans (B7.out.mono B2.out.size))) (own_leads O7.out) HBY.out HLB2.out hcb (by omega)
        rw [hfr] at cf
        have ca := fun W (hb : Below wB.heap.size wB W) => All_any (some ⟨gb, 0, none⟩) NB cb B W (HT.out.later ((B2.out.trans (B7.out.mono B2.out.size)).trans (hb.mono (B2.out.trans (B7.out.mono B2.out.size)).size))) ((own_leads O7.out).later hb) HBY.out HLB2.out hcb (by omega)
        rw [hFS] at ca
        have CF := Lib.hid cf
        have CA := Lib.hid ca
        have HFA := Lib.hid hfa
        have HRB := Lib.hid hrb
        have HFL := Lib.hid hfl
        have HRL := Lib.hid hrl9
        clear hnm hfr hre hfl hfa hrb hrl9 hFS hff cf ca HL2 HLA
        go_wp2_with fail
        refine CF.out.mono ?_
        rintro en w8 ⟨v8, rfl, g8⟩
        obtain ⟨a8, c8, rfl⟩ : ∃ a c, v8 = .slice a p c := by
          have e := HRL.out
          rcases g8.own.form with ⟨e1, e2⟩ | ⟨g, cap, e1, _⟩
          · simp only at e2; rw [e2] at e; exact ⟨_, _, by rw [e1, ← e]; rfl⟩
          · simp only at e1; rw [e] at e1; exact ⟨_, _, e1⟩
        have B8 := Lib.hid g8.below
        clear g8 CF
        go_wp2_with fail
        refine (CA.out _ B8.out).mono ?_
        rintro en w9 ⟨v9, rfl, g9⟩
        obtain ⟨M, hM⟩ : ∃ M, q - 1 = M := ⟨_, rfl⟩
        have hfl := HFL.out
        rw [HM.out, hM] at hfl
        obtain ⟨a9, c9, rfl, ha9⟩ : ∃ a c, v9 = .slice a M c ∧ (0 < M → ∃ g, a = some ⟨g, 0, none⟩) := by
          rcases g9.own.form with ⟨e1, e2⟩ | ⟨g, cap, e1, _⟩
          · rw [e2] at hfl; exact ⟨_, _, by rw [e1, ← hfl]; rfl, fun h => by rw [← hfl] at h; exact absurd h (Nat.lt_irrefl 0)⟩
          · rw [hfl] at e1; exact ⟨_, _, e1, fun _ => ⟨g, rfl⟩⟩
        have B9 := Lib.hid (B8.out.trans (g9.below.mono B8.out.size))
        have O9 := Lib.hid g9.own
        have HF9 := Lib.hid hfl
        have HA9 := Lib.hid ha9
        clear g9 CA hfl ha9 B8 HFL HRL
        go_wp2_with fail
        go_loopw [19, 20] (fun kv iv wr => ∃ (i k : Nat), iv = .int .i64 (i : Int) ∧ kv = .int .i64 (k : Int) ∧ i ≤ M ∧ (i ≤ p ∧ k = i ∨ p < i ∧ k = i + 1) ∧ Below w9.heap.size w9 wr) (fun _ iv _ => ((M : Int) - intOf iv).toNat)
        case atStart => exact ⟨0, 0, rfl, rfl, Nat.zero_le _, .inl ⟨Nat.zero_le _, rfl⟩, Below.refl _ _⟩
        case round =>
          skip
          obtain ⟨i, k, rfl, rfl, hi, hk, hbw⟩ := hrel
          have HBW := Lib.hid hbw
          clear hbw
          by_cases hiM : i < M
          · have hiI : (i : Int) < (M : Int) := by omega
            have hkq : (k : Int) < (q : Int) := by omega
            obtain ⟨gm, rfl⟩ := HA9.out (by omega)
            obtain ⟨k3, hk3⟩ : ∃ k3 : Nat, (if k = p then k + 1 else k) = k3 := ⟨_, rfl⟩
            have hk3q : k3 < q := by rw [← hk3]; split <;> omega
            have hk3c : i < p ∧ k3 = i ∨ p ≤ i ∧ k3 = i + 1 := by rw [← hk3]; split <;> omega
            have hk3I : (k3 : Int) < (q : Int) := by omega
            have hk3l : k3 < gs.length := by rw [HM.out]; exact hk3q
            have hil : i < FS.length := by rw [HF9.out]; exact hiM
            have hfi := HFA.out i k3 hk3l hil hk3c
            have hps := pos_succ gs k3 hk3l
            have hsm := pos_small gs HGD.out (k3 + 1) (by omega)
            obtain ⟨r, hrq⟩ : ∃ r, gs[k3] = r := ⟨_, rfl⟩
            have hgr := HGD.out r (by rw [← hrq]; exact List.getElem_mem hk3l)
            have ce := fun wr => REncode_any r wr hgr.fit
            rw [enc, if_pos hgr.1] at ce
            have hle := encL_length r
            have cq := fun wr => eq_same r wr (by have := hgr.2.2; unfold maxLen; omega)
            rw [hrq] at hps hfi
            obtain ⟨N, hN⟩ : ∃ N, 39 + r.body.size = N := ⟨_, rfl⟩
            rw [hN] at hle hps
            obtain ⟨E, hE⟩ : ∃ E, encL r = E := ⟨_, rfl⟩
            rw [hE] at ce hle
            have hrg := (O2.out.later (B7.out.trans ((B9.out.trans (HBW.out.mono B9.out.size)).mono B7.out.size))).range k3 hk3l
            rw [hrq] at hrg
            have ek0 := HECS.out k3 hk3q
            obtain ⟨A, hA⟩ : ∃ A, pos gs k3 = A := ⟨_, rfl⟩
            obtain ⟨A2, hA2⟩ : ∃ A, pos gs (k3 + 1) = A := ⟨_, rfl⟩
            rw [hA] at hps hfi
            rw [hA2] at hps hsm ek0
            have hsub : IntKind.i64.wrap ((A2 : Int) - (N : Int)) = (A : Int) := by rw [IntKind.wrap_i64]; omega
            obtain ⟨k', t, e, o, s, b⟩ := r
            unfold Rec.val at ce cq
            simp only at ce cq
            obtain ⟨f0, f1, f2, f3, f4, f5, f6⟩ := fd_cells rfl rfl (O9.out.later HBW.out) i hil A k' t e o s b hfi
            have ek : wr.cell? ⟨ge, k3, none⟩ = some (.int .i64 (A2 : Int)) := ((B9.out.trans (HBW.out.mono B9.out.size)).cell (p := ⟨ge, k3, none⟩) (block_lt_of_cell ek0)).trans ek0
            have d0 : wr.cell? ⟨g, k3 * 6, none⟩ = some (.int .i64 k') := hrg 0 _ rfl
            have d1 : wr.cell? ⟨g, k3 * 6 + 1, none⟩ = some (.int .u32 (t : Int)) := hrg 1 _ rfl
            have d2 : wr.cell? ⟨g, k3 * 6 + 2, none⟩ = some (.int .u64 (e : Int)) := hrg 2 _ rfl
            have d3 : wr.cell? ⟨g, k3 * 6 + 3, none⟩ = some (.int .u64 (o : Int)) := hrg 3 _ rfl
            have d4 : wr.cell? ⟨g, k3 * 6 + 4, none⟩ = some (.int .u64 (s : Int)) := hrg 4 _ rfl
            have d5 : wr.cell? ⟨g, k3 * 6 + 5, none⟩ = some (.string b) := hrg 5 _ rfl
            clear hgr hN hE hrq hrg hA hA2 ek0 hfi hil hk3l
            by_cases hkp : k = p
            · subst hkp
              rw [if_pos rfl] at hk3
              refine lost_round_p q cv k M _ c9 g ge gm i k3 N A A2 k' t e o s b E wr hiM (by omega) hg8 (by omega) (by omega) hk3q (by omega) (by omega) ce hle cq f0 ek d0 d1 d2 d3 d4 d5 f1 f2 f3 f4 f5 f6 _ ?_
              intro W' hb' u139 u140 u141 u142 u143 u144 u145 u146 u147 u148 u149 u150 u151 u152 u153 u154 u155 u156 u157 u158 u159 u160 u161 u162 u163 u164 u165 u166 u167 u168 u169 u170 u171 u172 u173 u174 u175 u176 u177 u178 u179 u180 u181 u182 u183 u184 u185 u186 u187 u188 u189 u190 u191
              go_roundw
              case rel => exact ⟨_, _, _, _, _, _, _, _, _, _, _, _, _, _, _, _, _, _, _, _, _, _, _, _, _, _, _, _, _, _, _, _, _, _, _, _, _, _, _, _, _, _, _, _, _, _, _, _, _, _, _, _, _, _, _, _, ⟨i + 1, k3 + 1, by rw [Int.natCast_add]; rfl, by rw [Int.natCast_add]; rfl, by omega, by omega, HBW.out.trans (hb'.mono HBW.out.size)⟩, rfl⟩
              case measure =>
                show ((M : Int) - ((i : Int) + 1)).toNat < ((M : Int) - (i : Int)).toNat
                omega
            · rw [if_neg hkp] at hk3
              subst hk3
              refine lost_round_k q cv p M _ c9 g ge gm i k N A A2 k' t e o s b E wr hiM (by omega) hg8 (by omega) hkp hk3q (by omega) (by omega) ce hle cq f0 ek d0 d1 d2 d3 d4 d5 f1 f2 f3 f4 f5 f6 _ ?_
              intro W' hb' u139 u140 u141 u142 u143 u144 u145 u146 u147 u148 u149 u150 u151 u152 u153 u154 u155 u156 u157 u158 u159 u160 u161 u162 u163 u164 u165 u166 u167 u168 u169 u170 u171 u172 u173 u174 u175 u176 u177 u178 u179 u180 u181 u182 u183 u184 u185 u186 u187 u188 u189 u190 u191
              go_roundw
              case rel => exact ⟨_, _, _, _, _, _, _, _, _, _, _, _, _, _, _, _, _, _, _, _, _, _, _, _, _, _, _, _, _, _, _, _, _, _, _, _, _, _, _, _, _, _, _, _, _, _, _, _, _, _, _, _, _, _, _, _, ⟨i + 1, k + 1, by rw [Int.natCast_add]; rfl, by rw [Int.natCast_add]; rfl, by omega, by omega, HBW.out.trans (hb'.mono HBW.out.size)⟩, rfl⟩
              case measure =>
                show ((M : Int) - ((i : Int) + 1)).toNat < ((M : Int) - (i : Int)).toNat
                omega
          · obtain rfl : i = M := by omega
            have hiI : ¬ (i : Int) < (i : Int) := by omega
            have BF := Lib.hid (B2.out.trans ((B7.out.trans ((B9.out.trans (HBW.out.mono B9.out.size)).mono B7.out.size)).mono B2.out.size))
            by_cases hkp : k = p
            · subst hkp
              have hkq : (k : Int) + 1 = (q : Int) := by omega
              clear hk
              go_wp2_with fail
              go_ret
              exact ⟨rfl, BF.out⟩
            · obtain rfl : k = q := by omega
              have hkpI : ¬ (k : Int) = (p : Int) := by omega
              have hkpb : ((k : Int) == (p : Int)) = false := by simp; omega
              clear hk
              go_wp2_with fail
              go_ret
              exact ⟨rfl, BF.out⟩
end Go.Proofs.YtodajceiadbpeaaDoor.scan
