/-
  CONTRACT of stillroomlaw7.Found: the finds, as the reference has them.
-/
import Derived.Test.YtodajceiadbpeaaDoorScFind
namespace Go.Proofs.YtodajceiadbpeaaDoor.scan
open Go.RowKit Go.Proofs.YtodajceiadbpeaaDoor.disk Go.Proofs.YtodajceiadbpeaaDoor.recd
set_option linter.unusedVariables false

theorem fd_size : (Tryd.prog.info? 46).map (·.size) = some 7 := by kernel_rfl
theorem fdr_size : (Tryd.prog.info? 59).map (·.size) = some 7 := by kernel_rfl

set_option maxRecDepth 100000 in
set_option maxHeartbeats 2000000 in
theorem Found_any (v : Value) (fs : List Fd) (w : World) (hv : OwnS fS w v fs) (hn : fs.length ≤ 1000000000) :
    Calls Tryd.prog 14 #[v] w (MadeS fR w fs) := by
  obtain ⟨n, hfn⟩ : ∃ n, fs.length = n := ⟨_, rfl⟩
  obtain ⟨ao, cap, rfl, hle, hcm⟩ : ∃ ao cap, v = .slice ao n cap ∧ n ≤ cap ∧ cap ≤ 9223372036854775807 := by
    rcases hv.form with ⟨rfl, rfl⟩ | ⟨g, cap, rfl, h1, h2, _⟩
    · exact ⟨none, 0, by rw [← hfn]; rfl, by rw [← hfn]; exact Nat.zero_le _, by omega⟩
    · exact ⟨some ⟨g, 0, none⟩, cap, by rw [← hfn], by omega, h2⟩
  have HV := Lib.hid hv
  have HF := Lib.hid hfn
  rw [hfn] at hn
  clear hv hfn
  go_enter Tryd.func14, Tryd.ntmps14
  go_wp2_with fail
  go_loopw [3, 4] (fun u p wr => ∃ (q : Nat), p = .int .i64 (q : Int) ∧ q ≤ n ∧ GrowS fR w (fs.take q) u wr) (fun _ p _ => ((n : Int) - intOf p).toNat)
  case atStart => exact ⟨0, rfl, Nat.zero_le _, by rw [List.take_zero]; exact GrowS.start fR w⟩
  case round =>
    obtain ⟨q, rfl, hq, hg⟩ := hrel
    by_cases hqn : q < n
    · have hqI : (q : Int) < (n : Int) := by omega
      obtain ⟨g, rfl⟩ : ∃ g, ao = some ⟨g, 0, none⟩ := by
        rcases HV.out.form with ⟨e, rfl⟩ | ⟨g, cap, e, _⟩
        · have := HF.out; simp at this; omega
        · injection e with e1; exact ⟨g, e1⟩
      have hvr := HV.out.later hg.below
      have hql : q < fs.length := by rw [HF.out]; exact hqn
      have hrg := hvr.range q hql
      obtain ⟨⟨fa, ⟨k, t, e, o, s, b⟩⟩, hx⟩ : ∃ x, fs[q] = x := ⟨_, rfl⟩
      rw [hx] at hrg
      have c0 : wr.cell? ⟨g, q * 7, none⟩ = some (.int .i64 (fa : Int)) := hrg 0 _ rfl
      have c1 : wr.cell? ⟨g, q * 7 + 1, none⟩ = some (.int .i64 k) := hrg 1 _ rfl
      have c2 : wr.cell? ⟨g, q * 7 + 2, none⟩ = some (.int .u32 (t : Int)) := hrg 2 _ rfl
      have c3 : wr.cell? ⟨g, q * 7 + 3, none⟩ = some (.int .u64 (e : Int)) := hrg 3 _ rfl
      have c4 : wr.cell? ⟨g, q * 7 + 4, none⟩ = some (.int .u64 (o : Int)) := hrg 4 _ rfl
      have c5 : wr.cell? ⟨g, q * 7 + 5, none⟩ = some (.int .u64 (s : Int)) := hrg 5 _ rfl
      have c6 : wr.cell? ⟨g, q * 7 + 6, none⟩ = some (.string b) := hrg 6 _ rfl
      have hgd : GrowS fR w (fs.take q) u3 wr.drew := hg.later (below_draws (Below.refl _ _) 1)
      obtain ⟨v', w2, r2, g2⟩ := hgd.put ⟨fa, ⟨k, t, e, o, s, b⟩⟩ wr.heap.size 1 rfl (by rw [List.length_take]; omega)
      have e1 : fs.take q ++ [⟨fa, ⟨k, t, e, o, s, b⟩⟩] = fs.take (q + 1) := by rw [List.take_add_one, List.getElem?_eq_getElem hql, hx]; rfl
      rw [e1] at g2
      have fin : ∃ q2 : Nat, Value.int .i64 ((q : Int) + 1) = .int .i64 (q2 : Int) ∧ q2 ≤ n ∧ GrowS fR w (fs.take q2) v' w2 := ⟨q + 1, by rw [Int.natCast_add]; rfl, by omega, g2⟩
      have R2 := Lib.hid r2
      have FIN := Lib.hid fin
      clear r2 g2 hgd hg hvr hrg e1 fin hx hql HV HF
      go_wp2_with fail
      go_region_law (first
        | (refine step_append_of 36 36 (.tmp 11) (.tmp 23) _ _ rfl rfl rfl rfl rfl (by exact R2.out) ?_))
      all_goals
        go_wp2_with fail
        refine ⟨FIN.out, ?_⟩
        show ((n : Int) - ((q : Int) + 1)).toNat < ((n : Int) - (q : Int)).toNat
        omega
    · have e : fs.take q = fs := List.take_of_length_le (by rw [HF.out]; omega)
      rw [e] at hg
      have HG := Lib.hid hg
      clear hg e
      have hqI : ¬ (q : Int) < (n : Int) := by omega
      go_wp2_with fail
      go_ret
      exact ⟨_, rfl, HG.out⟩
end Go.Proofs.YtodajceiadbpeaaDoor.scan
