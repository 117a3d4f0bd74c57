/-
  THE WALKS OF sha's small functions of words: 'math/bits.RotateLeft32', 'right', 'turned'.
-/
import Derived.Test.YtchbfcegonlhoaaDoorRows
import Derived.Test.YtchbfcegonlhoaaDoorShaMath
import Derived.WalkKit
import Derived.WalkSpells
import Derived.WalkLawsBesides
import Derived.Outline
import Derived.LoopTactic
import Derived.Below
import Derived.Lib.Hide
namespace Go.Proofs.YtchbfcegonlhoaaDoor.sha
open Go.RowKit

def Turns (k : Nat) : Prop := k = 2 ∨ k = 6 ∨ k = 7 ∨ k = 11 ∨ k = 13 ∨ k = 17 ∨ k = 18 ∨ k = 19 ∨ k = 22 ∨ k = 25

theorem rotl_any (x : BitVec 32) (k : Nat) (hk : Turns k) (w : World) :
    Calls Tryd.prog 42 #[.int .u32 (W x), .int .i64 (-(k : Int))] w fun e w' => e = .returned (.int .u32 (W (rotr x k))) ∧ w = w' := by
  have hx := W_lt x
  rcases hk with rfl | rfl | rfl | rfl | rfl | rfl | rfl | rfl | rfl | rfl
  · have hb : bits BinOp.and IntKind.u64 (IntKind.u64.wrap (-2)) 31 = 30 := by decide +kernel
    have hr : bits .or .u32 (W x * 1073741824 % 4294967296) (W x / 4) = W (rotr x 2) := W_rot x 2
    go_enter Tryd.func42, Tryd.ntmps42
    go_wp2
    go_ret
    exact ⟨rfl, rfl⟩
  · have hb : bits BinOp.and IntKind.u64 (IntKind.u64.wrap (-6)) 31 = 26 := by decide +kernel
    have hr : bits .or .u32 (W x * 67108864 % 4294967296) (W x / 64) = W (rotr x 6) := W_rot x 6
    go_enter Tryd.func42, Tryd.ntmps42
    go_wp2
    go_ret
    exact ⟨rfl, rfl⟩
  · have hb : bits BinOp.and IntKind.u64 (IntKind.u64.wrap (-7)) 31 = 25 := by decide +kernel
    have hr : bits .or .u32 (W x * 33554432 % 4294967296) (W x / 128) = W (rotr x 7) := W_rot x 7
    go_enter Tryd.func42, Tryd.ntmps42
    go_wp2
    go_ret
    exact ⟨rfl, rfl⟩
  · have hb : bits BinOp.and IntKind.u64 (IntKind.u64.wrap (-11)) 31 = 21 := by decide +kernel
    have hr : bits .or .u32 (W x * 2097152 % 4294967296) (W x / 2048) = W (rotr x 11) := W_rot x 11
    go_enter Tryd.func42, Tryd.ntmps42
    go_wp2
    go_ret
    exact ⟨rfl, rfl⟩
  · have hb : bits BinOp.and IntKind.u64 (IntKind.u64.wrap (-13)) 31 = 19 := by decide +kernel
    have hr : bits .or .u32 (W x * 524288 % 4294967296) (W x / 8192) = W (rotr x 13) := W_rot x 13
    go_enter Tryd.func42, Tryd.ntmps42
    go_wp2
    go_ret
    exact ⟨rfl, rfl⟩
  · have hb : bits BinOp.and IntKind.u64 (IntKind.u64.wrap (-17)) 31 = 15 := by decide +kernel
    have hr : bits .or .u32 (W x * 32768 % 4294967296) (W x / 131072) = W (rotr x 17) := W_rot x 17
    go_enter Tryd.func42, Tryd.ntmps42
    go_wp2
    go_ret
    exact ⟨rfl, rfl⟩
  · have hb : bits BinOp.and IntKind.u64 (IntKind.u64.wrap (-18)) 31 = 14 := by decide +kernel
    have hr : bits .or .u32 (W x * 16384 % 4294967296) (W x / 262144) = W (rotr x 18) := W_rot x 18
    go_enter Tryd.func42, Tryd.ntmps42
    go_wp2
    go_ret
    exact ⟨rfl, rfl⟩
  · have hb : bits BinOp.and IntKind.u64 (IntKind.u64.wrap (-19)) 31 = 13 := by decide +kernel
    have hr : bits .or .u32 (W x * 8192 % 4294967296) (W x / 524288) = W (rotr x 19) := W_rot x 19
    go_enter Tryd.func42, Tryd.ntmps42
    go_wp2
    go_ret
    exact ⟨rfl, rfl⟩
  · have hb : bits BinOp.and IntKind.u64 (IntKind.u64.wrap (-22)) 31 = 10 := by decide +kernel
    have hr : bits .or .u32 (W x * 1024 % 4294967296) (W x / 4194304) = W (rotr x 22) := W_rot x 22
    go_enter Tryd.func42, Tryd.ntmps42
    go_wp2
    go_ret
    exact ⟨rfl, rfl⟩
  · have hb : bits BinOp.and IntKind.u64 (IntKind.u64.wrap (-25)) 31 = 7 := by decide +kernel
    have hr : bits .or .u32 (W x * 128 % 4294967296) (W x / 33554432) = W (rotr x 25) := W_rot x 25
    go_enter Tryd.func42, Tryd.ntmps42
    go_wp2
    go_ret
    exact ⟨rfl, rfl⟩

theorem right_any (x : BitVec 32) (k : Nat) (hk : Turns k) (w : World) :
    Calls Tryd.prog 41 #[.int .u32 (W x), .int .i64 (k : Int)] w fun e w' => e = .returned (.int .u32 (W (rotr x k))) ∧ w = w' := by
  have hx := W_lt x
  have C := Lib.hid (rotl_any x k hk w)
  have hk' : (k : Int) ≤ 25 := by unfold Turns at hk; omega
  clear hk
  go_enter Tryd.func41, Tryd.ntmps41
  go_wp2_with (go_at_call 42; refine C.out.mono ?_; rintro e w' ⟨rfl, rfl⟩)
  go_ret
  exact ⟨rfl, rfl⟩

/-- .. at a number as it stands in a walk. -/
theorem right_at (x : BitVec 32) (k : Int) (hk : Turns k.toNat ∧ 0 ≤ k) (w : World) :
    Calls Tryd.prog 41 #[.int .u32 (W x), .int .i64 k] w fun e w' => e = .returned (.int .u32 (W (rotr x k.toNat))) ∧ w = w' := by
  have h := right_any x k.toNat hk.1 w
  rwa [Int.toNat_of_nonneg hk.2] at h
theorem right_quiet (x : BitVec 32) (k : Int) (hk : Turns k.toNat ∧ 0 ≤ k) (w : World) (n : Nat) :
    Calls Tryd.prog 41 #[.int .u32 (W x), .int .i64 k] (w.drewN n) fun e w'' => e = .returned (.int .u32 (W (rotr x k.toNat))) ∧ ∃ m, w'' = w.drewN m :=
  (right_at x k hk _).mono fun _ _ h => ⟨h.1, n, h.2.symm⟩

theorem right_quiet2 (x : BitVec 32) (k : Int) (hk : Turns k.toNat ∧ 0 ≤ k) (w : World) (a n : Nat) :
    Calls Tryd.prog 41 #[.int .u32 (W x), .int .i64 k] (w.drewN (a + n)) fun e w'' => e = .returned (.int .u32 (W (rotr x k.toNat))) ∧ ∃ m, w'' = w.drewN (a + m) :=
  (right_at x k hk _).mono fun _ _ h => ⟨h.1, n, h.2.symm⟩

theorem turned_any (x : BitVec 32) (i j k : Nat) (hi : Turns i) (hj : Turns j) (hk : Turns k) (w : World) :
    Calls Tryd.prog 38 #[.int .u32 (W x), .int .i64 (i : Int), .int .i64 (j : Int), .int .i64 (k : Int)] w fun e w' => e = .returned (.int .u32 (W (tri x i j k))) ∧ w = w' := by
  have hx := W_lt x
  have C1 := Lib.hid (right_any x i hi w)
  have C2 := Lib.hid (right_any x j hj w)
  have C3 := Lib.hid (right_any x k hk w)
  have HR : Hid (tri x i j k = rotr x i ^^^ rotr x j ^^^ rotr x k) := rfl
  have h1 := W_xor (rotr x i) (rotr x j)
  have h2 := W_xor (rotr x i ^^^ rotr x j) (rotr x k)
  clear hi hj hk
  go_enter Tryd.func38, Tryd.ntmps38
  go_wp2_with fail
  refine C1.out.mono ?_; rintro e w' ⟨rfl, rfl⟩
  go_wp2_with fail
  refine C2.out.mono ?_; rintro e w' ⟨rfl, rfl⟩
  go_wp2_with fail
  refine C3.out.mono ?_; rintro e w' ⟨rfl, rfl⟩
  go_wp2
  go_ret
  exact ⟨by rw [HR.out]; rfl, rfl⟩
end Go.Proofs.YtchbfcegonlhoaaDoor.sha
