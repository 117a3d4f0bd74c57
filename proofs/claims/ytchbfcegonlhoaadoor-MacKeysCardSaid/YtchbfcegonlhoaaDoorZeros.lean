/-
  NOUGHTS APPENDED TO A ROW OF THE CALL's OWN ('append(b, make([]byte, n)...)').
-/
import Derived.Test.YtchbfcegonlhoaaDoorOwn
import Derived.Lib.AppendZerosOnto
namespace Go.Proofs.YtchbfcegonlhoaaDoor.sha
open Go.RowKit

theorem zeros_list (n : Nat) : (Builtin.zeroCells #[Value.int .u8 0] n).toList = u8s (List.replicate n 0) := by
  apply List.ext_getElem
  · simp [Builtin.zeroCells, u8s]
  · intro i h1 h2
    simp [Builtin.zeroCells, u8s, Nat.mod_one]

theorem int_kind : Tryd.prog.underlying 3 = some (.int .i64) := Tryd.underlying3

theorem append_zeros {w : World} {base : Nat} {v : Value} {l : List Int} (h : Own w base v l) (n : Nat) (h0 : 0 < n) (hn : l.length + n ≤ 1000000) (hbase : base ≤ w.heap.size) :
    ∃ v' w', (Builtin.append_ #[22, 3] 22 #[v, .int .i64 (n : Int)]).run Tryd.prog w = .ok v' w' ∧ Own w' base v' (l ++ List.replicate n 0) ∧ Below base w w' ∧ w.grownBy w' v.ownBlock := by
  obtain ⟨i0, hi, hz0, hz1, hz2⟩ := info_parts byte_info
  have hbel : ∀ w', w.grownBy w' v.ownBlock → Below base w w' := fun w' hg => (Below.refl _ _).grown hg hbase (fun k hk => (World.ownsRow.lt h k hk).1)
  have hzc : (Value.int .u8 0).cells = #[Value.int .u8 0] := rfl
  have hown := h
  unfold Own at hown
  have hlen : (u8s (l ++ List.replicate n 0)).length = l.length + n := by simp [u8s]
  -- what the growing arm leaves
  have grown : ∀ (old : Nat) (row : Option Nat),
      Own (w.drew.alloc (.cells ((u8s l).toArray ++ Builtin.zeroCells #[Value.int .u8 0] n ++ Builtin.zeroCells #[Value.int .u8 0] (grownCap w (l.length + n) old 5 - (l.length + n))) 5)) base (.slice (some ⟨w.heap.size, 0, none⟩) (l.length + n) (grownCap w (l.length + n) old 5)) (l ++ List.replicate n 0) ∧
      w.grownBy (w.drew.alloc (.cells ((u8s l).toArray ++ Builtin.zeroCells #[Value.int .u8 0] n ++ Builtin.zeroCells #[Value.int .u8 0] (grownCap w (l.length + n) old 5 - (l.length + n))) 5)) row := by
    intro old row
    have hge := grownCap_ge w (l.length + n) old 5
    have hcm : grownCap w (l.length + n) old 5 ≤ maxLen := grownCap_le_maxLen w (l.length + n) old 5 (by unfold maxLen; omega)
    refine ⟨?_, ⟨rfl, rfl, rfl, by simp, fun k hk _ => heap_alloc_old w.drew _ hk⟩⟩
    unfold Own
    rw [List.length_append, List.length_replicate]
    refine ⟨by rw [hlen, Nat.mul_one], .inr ⟨w.heap.size, _, _, rfl, hbase, heap_alloc_new w.drew _, hge, hcm, ?_, ?_⟩⟩
    · simp only [Array.size_append, List.size_toArray, size_zeroCells, u8s_length, List.size_toArray, List.length_cons, List.length_nil]
      omega
    · simp only [Array.toList_append, zeros_list, Nat.mul_one]
      rw [show (u8s l).toArray.toList ++ u8s (List.replicate n 0) = u8s (l ++ List.replicate n 0) by simp [u8s], ← hlen]
      exact List.take_left
  rcases hown.2 with ⟨rfl, hl0⟩ | ⟨g, cap, cur, rfl, hbg, hg, hnc, hcm, hcs, htake⟩
  · obtain rfl : l = [] := List.eq_nil_of_length_eq_zero hl0
    have hr := Lib.run_append_nil_zeros (P := Tryd.prog) w 22 3 22 5 i0 (.int .u8 0) .i64 .i64 Tryd.underlying22 int_kind hi hz0 n h0 (by omega) (by simp at hn; omega) (by rw [hz2]; simp at hn; omega)
    have hgr := grown 0 (Value.ownBlock (.slice none 0 0))
    simp only [List.length_nil, Nat.zero_add] at hgr
    rw [hzc] at hr
    exact ⟨_, _, hr, by simpa [u8s] using hgr.1, hbel _ (by simpa [u8s] using hgr.2), by simpa [u8s] using hgr.2⟩
  · rw [Nat.mul_one] at hcs htake
    by_cases hroom : l.length + n ≤ cap
    · have hfit : l.length + (u8s (List.replicate n 0)).length ≤ cur.size := by rw [hcs, u8s_length, List.length_replicate]; exact hroom
      have hst := run_storeCells_at Tryd.prog g l.length 5 (u8s (List.replicate n 0)) 0 cur w hg (by simpa using hfit) (by intro v hv; simp [u8s] at hv; obtain ⟨_, rfl⟩ := hv; rfl)
      simp only [Nat.add_zero] at hst
      have hw : IntKind.i64.wrap (n : Int) = n := by rw [IntKind.wrap_i64]; omega
      have hneg : ¬ ((n : Int) < 0) := by omega
      have h48i : ¬ (281474976710656 < (n : Int)) := by omega
      have hn0 : n ≠ 0 := by omega
      have hr : (Builtin.append_ #[22, 3] 22 #[.slice (some ⟨g, 0, none⟩) l.length cap, .int .i64 (n : Int)]).run Tryd.prog w =
          .ok (.slice (some ⟨g, 0, none⟩) (l.length + n) cap) (w.setRow g (cur.toList.take l.length ++ u8s (List.replicate n 0) ++ cur.toList.drop (l.length + (u8s (List.replicate n 0)).length)).toArray) := by
        simp [Builtin.append_, run_underlying Tryd.underlying22, run_underlying int_kind, sizeOf, typeInfo, zeroValue, hi, hz0, hz1, hz2, asInt, asIntOf, hw, hneg, h48i, hroom, Addr.add_lit, hzc, hn0, zeros_list, hst]
      refine ⟨_, _, hr, ?_, hbel _ ?_, ?_⟩
      · unfold Own
        rw [List.length_append, List.length_replicate]
        refine ⟨by rw [hlen, Nat.mul_one], .inr ⟨g, cap, _, rfl, hbg, setRow_heap w g cur _ _ _ hg, hroom, hcm, ?_, ?_⟩⟩
        · simp only [List.size_toArray, List.length_append, List.length_take, List.length_drop, Array.length_toList, u8s_length, List.length_replicate]
          omega
        · rw [htake, Nat.mul_one, show u8s l ++ u8s (List.replicate n 0) = u8s (l ++ List.replicate n 0) by simp [u8s], ← hlen]
          exact List.take_left
      · exact ⟨rfl, rfl, rfl, by simp, fun k _ hk => setRow_other w g k _ (fun e => hk (by simp [Value.ownBlock, e]))⟩
      · exact ⟨rfl, rfl, rfl, by simp, fun k _ hk => setRow_other w g k _ (fun e => hk (by simp [Value.ownBlock, e]))⟩
    · have holds : ∀ j u, (u8s l)[j]? = some u → w.cell? ((⟨g, 0, none⟩ : Addr).add j) = some u := World.ownsRow.cells hown (g := g) rfl
      have hfo := run_firstCells_some (P := Tryd.prog) w.drew i0.size l.length ⟨g, 0, none⟩ l.length cap (u8s l) (by rw [u8s_length, hz1, Nat.mul_one]) (by simpa using holds)
      have hr := Lib.run_append_grow_zeros (P := Tryd.prog) w 22 3 22 5 i0 (.int .u8 0) .i64 .i64 Tryd.underlying22 int_kind hi hz0 (some ⟨g, 0, none⟩) l.length cap (u8s l) hfo n h0 (by omega) (by omega) (by omega) (by rw [hz2]; omega) (growslice_fits (by omega) (by rw [hz2]; omega))
      have hgr := grown cap (Value.ownBlock (.slice (some ⟨g, 0, none⟩) l.length cap))
      rw [hzc] at hr
      exact ⟨_, _, hr, hgr.1, hbel _ hgr.2, hgr.2⟩

/-- AT THE OPERATION. -/
theorem wpList_append_zeros {w w' : World} {v' : Value} {ops : Array Oper} {rest : List Oper} {o : Oper} {a : Act} {Q : Exit → Act → World → Prop} (s x : Operand) (v u : Value) (hgd : o.guard = none)
    (ho : o.op = .call { callee := .builtin .append, args := #[s, x], argTypes := #[22, 3] }) (hty : o.type = 22) (hs : a.eval s = v) (hx : a.eval x = u)
    (hrun : (Builtin.append_ #[22, 3] 22 #[v, u]).run Tryd.prog w = .ok v' w')
    (h : wpList Tryd.prog ops Q rest (a.put o.dst v') w') : wpList Tryd.prog ops Q (o :: rest) a w := by
  refine wpList_plain hgd fun K hK => ?_
  unfold Oper.wp execOp
  simp only [ho, hty, resolve, invoke, builtin, Sem.run_bind, Sem.run_pure, Result.andThen_ok, List.map_toArray, List.map_cons, List.map_nil, hs, hx, hrun]
  exact hK _ _ h
end Go.Proofs.YtchbfcegonlhoaaDoor.sha
