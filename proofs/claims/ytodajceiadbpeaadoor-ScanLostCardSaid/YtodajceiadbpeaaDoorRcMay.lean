/-
  CONTRACTS of record.isKind, mayNumbers, May.
-/
import Derived.Test.YtodajceiadbpeaaDoorRcMath
import Derived.Test.YtodajceiadbpeaaDoorNum
import Derived.Test.YtodajceiadbpeaaDoorCrcRef
namespace Go.Proofs.YtodajceiadbpeaaDoor.recd
open Go.RowKit Go.Proofs.YtodajceiadbpeaaDoor.num Go.Proofs.YtodajceiadbpeaaDoor.disk

/-- A record, as a value. -/
def Rec.val (r : Rec) : Value := .agg #[.int .i64 r.kind, .int .u32 (r.tenant : Int), .int .u64 (r.epoch : Int), .int .u64 (r.object : Int), .int .u64 (r.seq : Int), .string r.body]

theorem ret_bool {a b : Bool} (h : a = b) : Ending.returned (.bool a) = .returned (.bool b) := by rw [h]
theorem isKind_any (n : Int) (w : World) : Calls Tryd.prog 32 #[.int .i64 n] w fun e w' => e = .returned (.bool (isKindB n)) ∧ w = w' := by
  by_cases h1 : 1 ≤ n
  · by_cases h2 : n ≤ 4
    · go_enter Tryd.func32, Tryd.ntmps32
      go_wp2
      go_ret
      exact ⟨ret_bool (by simp [isKindB, h1, h2]), rfl⟩
    · go_enter Tryd.func32, Tryd.ntmps32
      go_wp2
      go_ret
      exact ⟨ret_bool (by simp [isKindB, h1, h2]), rfl⟩
  · go_enter Tryd.func32, Tryd.ntmps32
    go_wp2
    go_ret
    exact ⟨ret_bool (by simp [isKindB]; omega), rfl⟩

theorem mayNumbers_any (r : Rec) (w : World) : Calls Tryd.prog 28 #[r.val] w fun e w' => e = .returned (.bool (numB r)) ∧ Below w.heap.size w w' := by
  obtain ⟨k, t, e, o, s, b⟩ := r
  unfold Rec.val
  simp only
  have B : Hid (Below w.heap.size w (w.alloc (.cells #[.int .i64 k, .int .u32 (t : Int), .int .u64 (e : Int), .int .u64 (o : Int), .int .u64 (s : Int), .string b] 32))) := (Below.refl _ _).alloc (Nat.le_refl _) _
  cases hk : isKindB k
  · go_enter Tryd.func28, Tryd.ntmps28
    go_wp2_with fail
    refine (isKind_any _ _).mono ?_
    rintro en w' ⟨rfl, rfl⟩
    rw [hk]
    go_wp2
    go_ret
    exact ⟨ret_bool (by simp [numB, hk]), B.out⟩
  · by_cases h1 : (e : Int) ≤ 1099511627776
    · by_cases h2 : (o : Int) ≤ 1099511627776
      · by_cases h3 : (s : Int) ≤ 1099511627776
        · go_enter Tryd.func28, Tryd.ntmps28
          go_wp2_with fail
          refine (isKind_any _ _).mono ?_
          rintro en w' ⟨rfl, rfl⟩
          rw [hk]
          go_wp2
          go_ret
          have g1 : e ≤ 1099511627776 := by omega
          have g2 : o ≤ 1099511627776 := by omega
          have g3 : s ≤ 1099511627776 := by omega
          exact ⟨ret_bool (by simp [numB, hk, g1, g2, g3]), B.out⟩
        · go_enter Tryd.func28, Tryd.ntmps28
          go_wp2_with fail
          refine (isKind_any _ _).mono ?_
          rintro en w' ⟨rfl, rfl⟩
          rw [hk]
          go_wp2
          go_ret
          have g3 : ¬ s ≤ 1099511627776 := by omega
          exact ⟨ret_bool (by simp [numB, hk, g3]; omega), B.out⟩
      · go_enter Tryd.func28, Tryd.ntmps28
        go_wp2_with fail
        refine (isKind_any _ _).mono ?_
        rintro en w' ⟨rfl, rfl⟩
        rw [hk]
        go_wp2
        go_ret
        have g2 : ¬ o ≤ 1099511627776 := by omega
        exact ⟨ret_bool (by simp [numB, hk, g2]), B.out⟩
    · go_enter Tryd.func28, Tryd.ntmps28
      go_wp2_with fail
      refine (isKind_any _ _).mono ?_
      rintro en w' ⟨rfl, rfl⟩
      rw [hk]
      go_wp2
      go_ret
      have g1 : ¬ e ≤ 1099511627776 := by omega
      exact ⟨ret_bool (by simp [numB, hk, g1]), B.out⟩

end Go.Proofs.YtodajceiadbpeaaDoor.recd
