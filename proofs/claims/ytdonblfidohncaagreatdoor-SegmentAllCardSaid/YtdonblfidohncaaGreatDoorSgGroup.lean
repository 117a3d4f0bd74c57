/-
  CONTRACT of stillroomlaw8.group: records of a tenant that may be (P8.1).
-/
import Derived.Test.YtdonblfidohncaaGreatDoorSgLaw
import Derived.Test.YtdonblfidohncaaGreatDoorMScan
namespace Go.Proofs.YtdonblfidohncaaGreatDoor.scan
open Go.RowKit Go.Proofs.YtdonblfidohncaaGreatDoor.disk Go.Proofs.YtdonblfidohncaaGreatDoor.recd Go.Proofs.YtdonblfidohncaaGreatDoor.seg
set_option linter.unusedVariables false

def setT (t : Nat) (r : Rec) : Rec := { r with tenant := t }
/-- What group makes. -/
def GroupOut (w : World) (t : Nat) (e : Ending) (w' : World) : Prop := ∃ gs, MadeS fRec w gs e w' ∧ gs.length ≤ 5 ∧ ∀ r ∈ gs, OneOf t r ∧ r.Fit ∧ r.body.size ≤ 200

theorem setT_group {t : Nat} (ht : t < 4294967296) {gs : List Rec} (h : ∀ r ∈ gs, GoodR r) : ∀ r ∈ gs.map (setT t), OneOf t r ∧ r.Fit ∧ r.body.size ≤ 200 := by
  intro r hr
  obtain ⟨x, hx, rfl⟩ := List.mem_map.1 hr
  obtain ⟨h1, h2, h3⟩ := h x hx
  have hk : x.kind ≤ 4 ∧ 1 ≤ x.kind := by
    unfold mayB numB isKindB at h1
    simp at h1
    omega
  exact ⟨⟨rfl, h1⟩, ⟨by show -9223372036854775808 ≤ x.kind ∧ x.kind ≤ _; omega, ht, by show x.body.size ≤ maxLen; unfold maxLen; omega⟩, h3⟩

set_option maxRecDepth 100000 in
set_option maxHeartbeats 4000000 in
theorem group_any (a : Option Addr) (len cap : Nat) (rs : Nat → Rec) (w : World) (hr : RecRow w a len cap rs) (t : Nat) (ht : t < 4294967296) :
    Calls Tryz.prog 9 #[.slice a len cap, .int .u32 (t : Int)] w (GroupOut w t) := by
  have CG := Lib.hid (Good_any a len cap rs w hr 5 (by omega))
  clear hr
  go_enter Tryz.func9, Tryz.ntmps9
  go_wp2_with fail
  refine CG.out.mono ?_
  rintro e w1 ⟨gs, ⟨v, rfl, g1⟩, hlen, hgood⟩
  obtain ⟨n, hn⟩ : ∃ n, gs.length = n := ⟨_, rfl⟩
  obtain ⟨ao, c1, rfl, hao⟩ : ∃ ao c1, v = .slice ao n c1 ∧ (0 < n → ∃ g, ao = some ⟨g, 0, none⟩) := by
    rcases g1.own.form with ⟨rfl, rfl⟩ | ⟨g, cap, rfl, h1, h2, _⟩
    · exact ⟨none, 0, by rw [← hn]; rfl, fun h => by rw [← hn] at h; cases h⟩
    · exact ⟨some ⟨g, 0, none⟩, cap, by rw [← hn], fun _ => ⟨g, rfl⟩⟩
  rw [hn] at hlen
  have HG := Lib.hid g1
  have HN := Lib.hid hn
  have HGD := Lib.hid hgood
  have HAO := Lib.hid hao
  have ST := Lib.hid (GrowS.start fRec w1)
  clear g1 hn hgood hao CG
  go_wp2_with fail
  go_loopw [5, 6, 7] (fun u p _ wr => ∃ (q : Nat), p = .int .i64 (q : Int) ∧ q ≤ n ∧ GrowS fRec w1 ((gs.take q).map (setT t)) u wr) (fun _ p _ _ => ((n : Int) - intOf p).toNat)
  case atStart => exact ⟨0, rfl, Nat.zero_le _, ST.out⟩
  case round =>
    obtain ⟨q, rfl, hq, hg⟩ := hrel
    by_cases hqn : q < n
    · have hqI : (q : Int) < (n : Int) := by omega
      obtain ⟨g, rfl⟩ := HAO.out (by omega)
      have hql : q < gs.length := by rw [HN.out]; exact hqn
      have hvr := HG.out.own.later hg.below
      have hrg := hvr.range q hql
      obtain ⟨⟨k, tt, e, o, s, b⟩, hx⟩ : ∃ x, gs[q] = x := ⟨_, rfl⟩
      rw [hx] at hrg
      have c0 : wr.cell? ⟨g, q * 6, none⟩ = some (.int .i64 k) := hrg 0 _ rfl
      have c1' : wr.cell? ⟨g, q * 6 + 1, none⟩ = some (.int .u32 (tt : Int)) := hrg 1 _ rfl
      have c2 : wr.cell? ⟨g, q * 6 + 2, none⟩ = some (.int .u64 (e : Int)) := hrg 2 _ rfl
      have c3 : wr.cell? ⟨g, q * 6 + 3, none⟩ = some (.int .u64 (o : Int)) := hrg 3 _ rfl
      have c4 : wr.cell? ⟨g, q * 6 + 4, none⟩ = some (.int .u64 (s : Int)) := hrg 4 _ rfl
      have c5 : wr.cell? ⟨g, q * 6 + 5, none⟩ = some (.string b) := hrg 5 _ rfl
      have e1 : (gs.take q).map (setT t) ++ [⟨k, t, e, o, s, b⟩] = (gs.take (q + 1)).map (setT t) := by
        rw [List.take_add_one, List.getElem?_eq_getElem hql, hx, List.map_append]; rfl
      have HE1 := Lib.hid e1
      have HGR := Lib.hid hg
      clear hvr hrg hx e1 hg hql
      go_upto_region 7 with fail
      obtain ⟨wa, hwa⟩ : ∃ wa, wr.alloc (.cells #[.int .i64 k, .int .u32 (tt : Int), .int .u64 (e : Int), .int .u64 (o : Int), .int .u64 (s : Int), .string b] 40) = wa := ⟨_, rfl⟩
      have bwa : Below wr.heap.size wr wa := by rw [← hwa]; exact laid_below _ _
      have wh : Whole wa wr.heap.size 40 [.int .i64 k, .int .u32 (tt : Int), .int .u64 (e : Int), .int .u64 (o : Int), .int .u64 (s : Int), .string b] := by rw [← hwa]; exact Whole.made' wr _ _
      rw [hwa]
      obtain ⟨z0, z1, z2, z3, z4, z5⟩ := whole6 wh
      have zf := wh.free 1
      clear c0 c1' c2 c3 c4 c5 hwa
      go_upto_region 8 with fail
      have Gb := HGR.out.later (bwa.setCell (p := ⟨wr.heap.size, 1, none⟩) (Nat.le_refl _) (.int .u32 (t : Int)))
      have wb : Whole (wa.setCell ⟨wr.heap.size, 1, none⟩ (.int .u32 (t : Int))) wr.heap.size 40 [.int .i64 k, .int .u32 (t : Int), .int .u64 (e : Int), .int .u64 (o : Int), .int .u64 (s : Int), .string b] := wh.put 1 _
      generalize wa.setCell ⟨wr.heap.size, 1, none⟩ (.int .u32 (t : Int)) = wc at Gb wb ⊢
      clear z0 z1 z2 z3 z4 z5 zf wh bwa HGR
      obtain ⟨x0, x1, x2, x3, x4, x5⟩ := whole6 wb
      obtain ⟨v', w2, r2, g2⟩ := Gb.put ⟨k, t, e, o, s, b⟩ wc.heap.size 1 rfl (by rw [List.length_map, List.length_take]; omega)
      rw [HE1.out] at g2
      have R2 := Lib.hid r2
      have G2 := Lib.hid g2
      clear r2 g2 Gb wb
      go_wp2_with ((with_reducible show wpList _ _ _ (⟨some 25, _, _, _, _, _⟩ :: _) _ _); refine wpList_append_of 33 33 (.tmp 22) (.tmp 24) _ _ rfl rfl rfl rfl rfl R2.out ?_)
      refine ⟨⟨q + 1, by rw [Int.natCast_add]; rfl, by omega, G2.out⟩, ?_⟩
      show ((n : Int) - ((q : Int) + 1)).toNat < ((n : Int) - (q : Int)).toNat
      omega
    · have hqI : ¬ (q : Int) < (n : Int) := by omega
      have e : gs.take q = gs := List.take_of_length_le (by rw [HN.out]; omega)
      rw [e] at hg
      have fin : GroupOut w t (.returned u5) wr := ⟨gs.map (setT t), ⟨_, rfl, ⟨hg.own, fun g' hg' => Nat.le_trans HG.out.below.size (hg.new_ g' hg'), HG.out.below.trans (hg.below.mono HG.out.below.size)⟩⟩, by rw [List.length_map, HN.out]; exact hlen, setT_group ht HGD.out⟩
      have FIN := Lib.hid fin
      clear fin hg e
      go_wp2_with fail
      go_ret
      exact FIN.out
end Go.Proofs.YtdonblfidohncaaGreatDoor.scan
