/-
  CONTRACT of segment.front: the tenant's records at the front, and where they end.
-/
import Derived.Test.YtdonblfidohncaaGreatDoorSgRow
import Derived.Test.YtdonblfidohncaaGreatDoorMScan
import Derived.Test.YtdonblfidohncaaGreatDoorMBase

import Derived.StillTailTactics
import Derived.Deep.QuietTactic
import Derived.BigQuiet
namespace Go.Proofs.YtdonblfidohncaaGreatDoor.scan
open Go.RowKit Go.Proofs.YtdonblfidohncaaGreatDoor.disk Go.Proofs.YtdonblfidohncaaGreatDoor.recd
set_option linter.unusedVariables false

/-- What a call that tells a row that is read, and a number, answers with. -/
def ToldF (w : World) (x : List Fd × Nat) (e : Ending) (w' : World) : Prop :=
  ∃ v, e = .returned (.tuple #[v, .int .i64 (x.2 : Int)]) ∧ RowS fS w' v x.1 ∧ (∀ g, v.ownBlock = some g → w.heap.size ≤ g) ∧ Below w.heap.size w w'

/-- In a quiet region: a callee that leaves the world as it was. -/
theorem quiet_here {f : FuncId} {args : Array Value} {w : World} {n : Nat} {v : Value} (h : Calls Tryz.prog f args (w.drewN n) fun e w' => e = .returned v ∧ w.drewN n = w') : Calls Tryz.prog f args (w.drewN n) fun e w'' => e = .returned v ∧ ∃ m, w'' = w.drewN m :=
  h.mono fun _ _ ⟨he, hm⟩ => ⟨he, n, hm.symm⟩
theorem quiet_draws {f : FuncId} {args : Array Value} {w : World} {n : Nat} {v : Value} (h : Calls Tryz.prog f args (w.drewN n) fun e w' => e = .returned v ∧ ∃ m, (w.drewN n).drewN m = w') : Calls Tryz.prog f args (w.drewN n) fun e w'' => e = .returned v ∧ ∃ m, w'' = w.drewN m :=
  h.mono fun _ _ ⟨he, m, hm⟩ => ⟨he, n + m, by rw [← hm, World.drewN_drewN]⟩
theorem clip_any (w : World) (a : Option Addr) (n c : Nat) (hn : n ≤ c) (hc : c ≤ 9223372036854775807) (ha : a = none → c = 0) :
    Calls Tryz.prog 84 #[.slice a n c] w fun e w' => e = .returned (.slice a n n) ∧ w = w' := by
  go_enter Tryz.func84, Tryz.ntmps84
  go_wp2
  go_ret
  exact ⟨rfl, rfl⟩

set_option maxRecDepth 100000 in
set_option maxHeartbeats 2000000 in
theorem segfront_any (a : Option Addr) (n cap : Nat) (l : List Int) (w : World) (hT : crc.Tab w) (hl : Leads w a l) (hb : Byte l) (hn : l.length = n) (hc : n ≤ cap) (hm : n ≤ 1000000000) (t : Nat) (ht : t < 4294967296) :
    Calls Tryz.prog 51 #[.slice a n cap, .int .u32 t] w (ToldF w (segF t l)) := by
  have CF := Lib.hid (Front_any a n cap l w hT hl hb hn hc hm)
  have hsm := front_small l 0
  have hbo := fun x (hx : x ∈ (front l 0).1) => front_body hx
  obtain ⟨fs, hfs⟩ : ∃ fs, (front l 0).1 = fs := ⟨_, rfl⟩
  obtain ⟨en, hen⟩ : ∃ en, (front l 0).2 = en := ⟨_, rfl⟩
  have hseg : segF t l = ownOf t fs en := by rw [segF, hfs, hen]
  rw [hseg]
  rw [hfs] at hsm hbo
  have e2 : front l 0 = (fs, en) := by rw [← hfs, ← hen]
  rw [e2] at CF
  unfold MadeF at CF
  simp only at CF
  rw [hn] at hsm
  clear hT hl hb hfs hen hseg e2
  go_enter Tryz.func51, Tryz.ntmps51
  go_wp2_with fail
  refine CF.out.mono ?_
  rintro e w1 ⟨v, rfl, g1⟩
  obtain ⟨m, hfm⟩ : ∃ m, fs.length = m := ⟨_, rfl⟩
  rw [hfm] at hsm
  obtain ⟨ao, c1, ev, hmc, hcm, hao⟩ : ∃ ao c1, v = .slice ao m c1 ∧ m ≤ c1 ∧ c1 ≤ 9223372036854775807 ∧ (0 < m → ∃ g, ao = some ⟨g, 0, none⟩) := by
    rcases g1.own.form with ⟨rfl, rfl⟩ | ⟨g, cap, rfl, h1, h2, _⟩
    · exact ⟨none, 0, by rw [← hfm]; rfl, by rw [← hfm]; exact Nat.zero_le _, by omega, fun h => by rw [← hfm] at h; cases h⟩
    · exact ⟨some ⟨g, 0, none⟩, cap, by rw [← hfm], by omega, h2, fun _ => ⟨g, rfl⟩⟩
  subst ev
  have G1 := Lib.hid g1
  have HF := Lib.hid hfm
  have HBO := Lib.hid hbo
  have HAO := Lib.hid hao
  clear g1 hfm hbo hao CF
  go_wp2_with fail
  go_loopw [17] (fun p wr => ∃ (q : Nat), p = .int .i64 (q : Int) ∧ q ≤ m ∧ (∀ j (hj : j < fs.length), j < q → fs[j].r.tenant = t) ∧ Below w1.heap.size w1 wr) (fun p _ => ((m : Int) - intOf p).toNat)
  case atStart => exact ⟨0, rfl, Nat.zero_le _, fun j _ hj => by omega, Below.refl _ _⟩
  case round =>
    obtain ⟨q, rfl, hq, hown, hb⟩ := hrel
    by_cases hqm : q < m
    · have hqI : (q : Int) < (m : Int) := by omega
      have hql : q < fs.length := by rw [HF.out]; exact hqm
      obtain ⟨g, rfl⟩ := HAO.out (by omega)
      have hog := G1.out.own
      obtain ⟨⟨fa, ⟨k, tt, e, o, s, b⟩⟩, hx⟩ : ∃ x, fs[q] = x := ⟨_, rfl⟩
      obtain ⟨c0, c1', c2, c3, c4, c5, c6⟩ := fd_cells rfl rfl (hog.later hb) q hql fa k tt e o s b hx
      have HW := Lib.hid hown
      have HB := Lib.hid hb
      have HX := Lib.hid hx
      clear hog hown hb hx HAO
      by_cases htt : tt = t
      · subst htt
        have nxt : ∃ (q2 : Nat), Value.int .i64 ((q : Int) + 1) = .int .i64 (q2 : Int) ∧ q2 ≤ m ∧ (∀ j (hj : j < fs.length), j < q2 → fs[j].r.tenant = tt) := by
          refine ⟨q + 1, by rw [Int.natCast_add]; rfl, by omega, fun j hj hjq => ?_⟩
          by_cases e : j = q
          · subst e; rw [HX.out]
          · exact HW.out j hj (by omega)
        have NX := Lib.hid nxt
        clear nxt
        go_wp2_with fail
        obtain ⟨q2, h1, h2, h3⟩ := NX.out
        refine ⟨⟨q2, h1, h2, h3, HB.out.alloc HB.out.size _⟩, ?_⟩
        show ((m : Int) - ((q : Int) + 1)).toNat < ((m : Int) - (q : Int)).toNat
        omega
      · have htI : ((tt : Int) == (t : Int)) = false := by rw [beq_eq_false_iff_ne]; omega
        have htJ : ((tt : Int) != (t : Int)) = true := by rw [bne_iff_ne]; omega
        have hown2 := ownOf_at (t := t) (e := en) hql (fun j hj => HW.out j (by omega) hj) (by rw [HX.out]; exact htt)
        rw [HX.out] at hown2
        have hql2 : q ≤ c1 := by omega
        have hcl := fun W => clip_any W (some ⟨g, 0, none⟩) q c1 hql2 hcm (fun e => by cases e)
        have fin : ∀ W, Below wr.heap.size wr W → ToldF w (ownOf t fs en) (.returned (.tuple #[.slice (some ⟨g, 0, none⟩) q q, .int .i64 (fa : Int)])) W := fun W hW => by
          rw [hown2]
          have b1 := G1.out.below.trans (HB.out.mono G1.out.below.size)
          exact ⟨_, rfl, (((RowS.of_own G1.out.own).later HB.out).take (F := fS) q q (by omega) (Nat.le_refl _) (by omega)).later hW, G1.out.new_, b1.trans (hW.mono b1.size)⟩
        have FIN := Lib.hid fin
        have HCL := Lib.hid hcl
        clear hown2 fin hcl
        go_wp2_with fail
        go_quiet ((exact quiet_here (HCL.out _)))
        go_wp2_with fail
        go_ret2
        exact FIN.out _ (below_draws ((Below.refl _ _).alloc (Nat.le_refl _) _) _)
    · have hqI : ¬ (q : Int) < (m : Int) := by omega
      have hall : ownOf t fs en = (fs, en) := ownOf_all fun x hx => by
        obtain ⟨j, hj, rfl⟩ := List.getElem_of_mem hx
        exact hown j hj (by have := HF.out; omega)
      have fin : ∀ v, v = Value.slice ao m c1 → ToldF w (ownOf t fs en) (.returned (.tuple #[v, .int .i64 (en : Int)])) wr := fun v hv => by
        subst hv
        rw [hall]
        exact ⟨_, rfl, (RowS.of_own G1.out.own).later hb, G1.out.new_, G1.out.below.trans (hb.mono G1.out.below.size)⟩
      have FIN := Lib.hid fin
      clear fin hb hown hall
      go_wp2_with fail
      go_ret2
      exact FIN.out _ rfl
end Go.Proofs.YtdonblfidohncaaGreatDoor.scan
