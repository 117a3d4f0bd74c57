/-
  FOR 'MacCheck': steps of a region that draws its order, slices of arrays.
-/
import Derived.Test.YtchbfcegonlhoaaDoorShaShort
import Derived.Test.YtchbfcegonlhoaaDoorMacBegun
import Derived.Test.YtchbfcegonlhoaaDoorArrAny
import Derived.Test.YtchbfcegonlhoaaDoorAppendFull
import Derived.Deep.RegionLaw
namespace Go.Proofs.YtchbfcegonlhoaaDoor.sha
open Go.RowKit

/-- An append whose run is known, as one step of a region that draws. -/
theorem step_append_run {w w' : World} {v' : Value} {ops : Array Oper} {o : Oper} {a : Act} {K : Act → World → Prop} {Q : Exit → Act → World → Prop} {E : Prop} (s x : Operand) (v u : Value) (hw : Region.wanted o (yielded ops a.tmps) = true)
    (ho : o.op = .call { callee := .builtin .append, args := #[s, x], argTypes := #[22, 22] }) (hty : o.type = 22) (hs : a.eval s = v) (hx : a.eval x = u)
    (hrun : (Builtin.append_ #[22, 22] 22 #[v, u]).run Tryd.prog w = .ok v' w')
    (h : K (a.put o.dst v') w') : if Region.wanted o (yielded ops a.tmps) = true then Oper.wp Tryd.prog o a w K Q else E := by
  rw [if_pos hw]
  unfold Oper.wp execOp
  simp only [ho, hty, resolve, invoke, builtin, Sem.run_bind, Sem.run_pure, Result.andThen_ok, List.map_toArray, List.map_cons, List.map_nil, hs, hx, hrun]
  exact h

theorem Row.of_own {w : World} {base : Nat} {a : Option Addr} {n c : Nat} {l : List Int} (h : Own w base (.slice a n c) l) (hl : l.length = n) (hy : Byte l) : Row w a n c l := by
  obtain ⟨A, c', hv, f1, f2, f3, f4, _, _⟩ := h.form
  injection hv with h1 h2 h3
  subst h1
  subst h3
  exact ⟨hl, by omega, f2, fun e => by have := f3 e; omega, f4, hy⟩
theorem Row.of_whole {w : World} {g n c : Nat} {t : TypeId} {l : List Int} (h : Whole w g t (u8s l)) (k : Nat) (hk : k ≤ l.length) (hn : n = k) (hc : k ≤ c) (hm : c ≤ 1000000) (hy : Byte l) : Row w (some ⟨g, 0, none⟩) n c (l.take k) :=
  ⟨by rw [List.length_take]; omega, by omega, by omega, (fun e => by cases e), Leads.of_whole (o := 0) (n := k) h (by rw [List.drop_zero]; simp [u8s, List.map_take]), hy.take k⟩

theorem Row.whole {w : World} {g : Nat} {t : TypeId} {l : List Int} (h : Whole w g t (u8s l)) (hl : l.length = 32) (hy : Byte l) : Row w (some ⟨g, 0, none⟩) 32 32 l := by
  have r := Row.of_whole (n := 32) (c := 32) h 32 (by omega) rfl (Nat.le_refl _) (by omega) hy
  rwa [List.take_of_length_le (by omega)] at r
theorem range_whole {w : World} {g : Nat} {t : TypeId} {l : List Int} (h : Whole w g t (u8s l)) (hl : l.length = 32) : w.rangeAt g 0 (u8s l) := by
  have r := h.range 0 32
  rwa [List.drop_zero, List.take_of_length_le (by rw [u8s_length]; omega)] at r
/-- 't[:]' with a nought behind it. -/
theorem tail_append {w : World} {t : TypeId} (g : Nat) (T : List Int) (hl : T.length = 32) (hy : Byte T) (h : Whole w g t (u8s T)) :
    ∃ c w' gA v, (Builtin.append_ #[22, 22] 22 #[.slice (some ⟨g, 0, none⟩) 32 32, .slice (some ⟨w.heap.size, 0, none⟩) 1 1]).run Tryd.prog (w.alloc (.cells #[.int .u8 0] 5)) = .ok v w' ∧ v = .slice (some ⟨gA, 0, none⟩) 33 c ∧
      Row w' (some ⟨gA, 0, none⟩) 33 c (T ++ [0]) ∧ Below w.heap.size w w' ∧ gA = w.heap.size + 1 := by
  have b1 : Below w.heap.size w (w.alloc (.cells #[.int .u8 0] 5)) := (Below.refl _ _).alloc (Nat.le_refl _) _
  have r := (Row.whole h hl hy).later b1
  have l0 : Leads (w.alloc (.cells #[.int .u8 0] 5)) (some ⟨w.heap.size, 0, none⟩) [0] := Leads.of_whole (o := 0) (n := 1) (Whole.new_ (l := u8s [0]) rfl rfl) rfl
  obtain ⟨c, w', h1, h2, h3⟩ := append_full (w := w.alloc (.cells #[.int .u8 0] 5)) ⟨g, 0, none⟩ T 32 hl r.bytes ⟨w.heap.size, 0, none⟩ [0] 1 1 rfl l0 (by omega) (by omega)
  have e : (w.alloc (.cells #[.int .u8 0] 5)).heap.size = w.heap.size + 1 := by simp
  rw [e] at h1 h2 h3
  exact ⟨c, w', _, _, h1, rfl, Row.of_own h2 (by rw [List.length_append, hl]; rfl) (hy.append (by intro c hc; simp at hc; omega)), b1.trans (h3.mono (by omega)), rfl⟩

theorem run_front32 (g p : Nat) (hp : p < 32) (w : World) : (Instr.sliceAt 25 (.pointer (some ⟨g, 0, none⟩)) none (some (.int .i64 (p : Int))) none).run Tryd.prog w = .ok (.slice (some ⟨g, 0, none⟩) p 32) w := by
  have hl : Tryd.prog.arrayLen 25 = 32 := by kernel_rfl
  have he : Tryd.prog.elem 25 = 5 := by kernel_rfl
  have hs : (sizeOf 5).run Tryd.prog w = .ok 1 w := by kernel_rfl
  rw [run_sliceAt_array_h w 25 ⟨g, 0, none⟩ (by rw [hl, he]; exact Tryd.underlying25) .i64 (p : Int) (by omega) (by rw [hl]; omega), he, hs, hl]
  simp [Result.andThen, slicedAt, Addr.add_mid]

end Go.Proofs.YtchbfcegonlhoaaDoor.sha
