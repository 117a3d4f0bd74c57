/-
  THE REFERENCE's "quick": the digest, with the roots' bits written out.
-/
import Derived.Test.YtchbfcegonlhoaaDoorRefDigest
namespace Go.Proofs.YtchbfcegonlhoaaDoor.sha
open Go.RowKit

def z8w : List (BitVec 32) := List.replicate 8 0
theorem zero8w (w : World) : (zeroValue 45).run Tryd.prog w = .ok (.agg (u32s z8w).toArray) w := by kernel_rfl

/-- An array written out, its cells under one name. -/
theorem wpList_build_as {P : Program} {ops : Array Oper} {rest : List Oper} {o : Oper} {a : Act} {w : World} {Q : Exit → Act → World → Prop} (hg : o.guard = none) (t : TypeId) (parts : Array (Nat × Operand)) (ho : o.op = .build t parts) (cells : Array Value)
    (hc : P.built t (parts.map fun (i, x) => (i, a.eval x)).toList = some cells)
    (h : wpList P ops Q rest (a.put o.dst (.agg cells)) w) : wpList P ops Q (o :: rest) a w :=
  wpList_build hg t parts ho (by rw [hc]; rfl) (by rw [hc]; exact h)

/-- A new block over which a row of its length is laid. -/
theorem laid {w w5 : World} {g : Nat} {T : TypeId} {z cs : List Value} (h : (w.alloc (.cells z.toArray T)).setCells g 0 cs.toArray.toList = w5) (hg : g = w.heap.size) (hl : cs.length = z.length) : Whole w5 g T cs ∧ Below w.heap.size w w5 := by
  subst hg
  rw [← h]
  have k := Whole.lay cs 0 (Whole.new_ (w := w) (g := w.heap.size) (t := T) (l := z) rfl rfl) (by omega)
  rw [lay_all _ _ hl.symm] at k
  exact ⟨k, below_lay _ _ _ ((Below.refl _ _).alloc (Nat.le_refl _) _) (Nat.le_refl _)⟩

set_option maxRecDepth 100000 in
set_option maxHeartbeats 1000000 in
theorem quick_any (a : Option Addr) (t : List Int) (n cap : Nat) (w : World) (hL : Leads w a t) (hy : Byte t) (hn : t.length = n) (ha : a = none → cap = 0) (hn1 : n ≤ 10000) :
    Calls Tryd.prog 26 #[.slice a n cap] w fun e w' => e = .returned (.agg (u8s (digest t)).toArray) ∧ Below w.heap.size w w' := by
  have HL := Lib.hid hL
  have HY := Lib.hid hy
  have HN := Lib.hid hn
  have hz := zero32
  have hzw := zero64w
  have hz8 := zero8w
  have HR64 := Lib.hid (show 0 + (u32s roundWords).toArray.size ≤ (u32s z64w).length by rw [u32s_size]; exact Nat.le_refl 64)
  have HI64 := Lib.hid (show (Tryd.prog.info? 44).map (·.size) = some (u32s roundWords).toArray.size by rw [u32s_size]; exact info64)
  have HR8 := Lib.hid (show 0 + (u32s init.list).toArray.size ≤ (u32s z8w).length by rw [u32s_size]; exact Nat.le_refl 8)
  have HI8 := Lib.hid (show (Tryd.prog.info? 45).map (·.size) = some (u32s init.list).toArray.size by rw [u32s_size]; exact info8)
  clear hL hy hn
  go_enter Tryd.func26, Tryd.ntmps26
  go_wp2_with (first
    | ((with_reducible show wpList _ _ _ _ _ _); refine wpList_build_as rfl 44 _ rfl (u32s roundWords).toArray (by kernel_rfl) ?_)
    | ((with_reducible show wpList _ _ _ _ _ _); refine wpList_build_as rfl 45 _ rfl (u32s init.list).toArray (by kernel_rfl) ?_)
    | ((with_reducible show wpList _ _ _ _ _ _); refine wpList_store_as rfl 44 (.tmp 3) (.tmp 5) rfl (w.heap.size + 1) 0 (u32s roundWords).toArray rfl rfl (by exact (Whole.new_ (l := u32s z64w) (by simp) rfl).there _ _ HR64.out) HI64.out (u32s_one _) ?_; intro w5 hw5; have L5 := Lib.hid (laid hw5 (by simp) rfl); clear hw5)
    | ((with_reducible show wpList _ _ _ _ _ _); refine wpList_store_as rfl 45 (.tmp 4) (.tmp 6) rfl w5.heap.size 0 (u32s init.list).toArray rfl rfl (by exact (Whole.new_ (l := u32s z8w) rfl rfl).there _ _ HR8.out) HI8.out (u32s_one _) ?_; intro w6 hw6; have L6 := Lib.hid (laid hw6 rfl rfl); clear hw6)
    | ((with_reducible show wpList _ _ _ _ _ _); refine wpList_load_row rfl 44 (.tmp 3) rfl (w.heap.size + 1) rfl 44 (u32s roundWords).toArray (0, 0) _ (by exact L5.out.1.kept L6.out.2) Tryd.underlying44 rfl HI64.out ?_)
    | ((with_reducible show wpList _ _ _ _ _ _); refine wpList_load_row rfl 45 (.tmp 4) rfl w5.heap.size rfl 45 (u32s init.list).toArray (0, 0) _ (by exact L6.out.1) Tryd.underlying45 rfl HI8.out ?_)
    | fail)
  obtain ⟨-, b5⟩ := L5.out
  obtain ⟨-, b6⟩ := L6.out
  have b0 : Below w.heap.size w (w.alloc (.cells (u8s z32).toArray 25)) := (Below.refl _ _).alloc (Nat.le_refl _) _
  have s5 := b5.size
  have e1 : (w.alloc (.cells (u8s z32).toArray 25)).heap.size = w.heap.size + 1 := by simp
  have bw6 : Below w.heap.size w w6 := (b0.trans (b5.mono (by omega))).trans (b6.mono (by omega))
  have o6 : Whole w6 w.heap.size 25 (u8s z32) := ((Whole.new_ rfl rfl).kept b5).kept b6
  refine (rdig_any a t n cap roundWords init w6 (HL.out.later bw6) HY.out HN.out rfl ha hn1).mono ?_
  rintro e w4 ⟨rfl, h5⟩
  rw [stG_at]
  have hdg : out (stAt (padded t) ((padded t).length / 64)) = digest t := rfl
  rw [hdg]
  have HDL := Lib.hid (digest_length t)
  have hi32 : (Tryd.prog.info? 25).map (·.size) = some (u8s (digest t)).toArray.size := by rw [u8s_size, HDL.out]; exact info32
  have HI32 := Lib.hid hi32
  have k4 : Whole w4 w.heap.size 25 (u8s z32) := Whole.kept o6 h5
  have kb4 := bw6.trans (h5.mono bw6.size)
  have hth : w4.there w.heap.size 0 (u8s (digest t)).toArray.size := k4.there _ _ (by rw [u8s_size, HDL.out]; exact Nat.le_refl 32)
  have k5 := k4.lay (u8s (digest t)) 0 (by rw [u8s_length, HDL.out]; exact Nat.le_refl 32)
  rw [lay_all _ _ (by rw [u8s_length, u8s_length, HDL.out]; rfl)] at k5
  have kb5 := below_lay (u8s (digest t)) w.heap.size 0 kb4 (Nat.le_refl _)
  have HTH := Lib.hid hth
  have K5 := Lib.hid k5
  have KB5 := Lib.hid kb5
  clear h5 k4 kb4 hth k5 kb5 hi32 b0 hz hzw hz8 b5 b6 bw6 o6 hdg
  go_wp2_with (first
    | (refine wpList_store_mid rfl 25 (.tmp 2) (.tmp 10) rfl w.heap.size 0 (u8s (digest t)).toArray rfl rfl HTH.out HI32.out (u8s_one _) ?_)
    | fail)
  exact bodyPost_ret (results_cell_row rfl _ _ w.heap.size 25 (u8s (digest t)).toArray (0, 0) _ rfl K5.out Tryd.underlying25 rfl HI32.out) rfl ⟨rfl, KB5.out⟩
end Go.Proofs.YtchbfcegonlhoaaDoor.sha
