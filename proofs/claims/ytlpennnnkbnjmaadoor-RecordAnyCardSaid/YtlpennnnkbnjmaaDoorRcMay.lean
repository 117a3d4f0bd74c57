/-
  CONTRACTS of record.isKind, mayNumbers, May.
-/
import Derived.Test.YtlpennnnkbnjmaaDoorRcMath
import Derived.Test.YtlpennnnkbnjmaaDoorNum
import Derived.Test.YtlpennnnkbnjmaaDoorCrcRef
namespace Go.Proofs.YtlpennnnkbnjmaaDoor.recd
open Go.RowKit Go.Proofs.YtlpennnnkbnjmaaDoor.num Go.Proofs.YtlpennnnkbnjmaaDoor.disk

/-- A record, as a value. -/
def Rec.val (r : Rec) : Value := .agg #[.int .i64 r.kind, .int .u32 (r.tenant : Int), .int .u64 (r.epoch : Int), .int .u64 (r.object : Int), .int .u64 (r.seq : Int), .string r.body]

theorem ret_bool {a b : Bool} (h : a = b) : Ending.returned (.bool a) = .returned (.bool b) := by rw [h]
theorem isKind_any (n : Int) (w : World) : Calls Tryd.prog 30 #[.int .i64 n] w fun e w' => e = .returned (.bool (isKindB n)) ∧ w = w' := by
  by_cases h1 : 1 ≤ n
  · by_cases h2 : n ≤ 4
    · go_enter Tryd.func30, Tryd.ntmps30
      go_wp2
      go_ret
      exact ⟨ret_bool (by simp [isKindB, h1, h2]), rfl⟩
    · go_enter Tryd.func30, Tryd.ntmps30
      go_wp2
      go_ret
      exact ⟨ret_bool (by simp [isKindB, h1, h2]), rfl⟩
  · go_enter Tryd.func30, Tryd.ntmps30
    go_wp2
    go_ret
    exact ⟨ret_bool (by simp [isKindB]; omega), rfl⟩

theorem mayNumbers_any (r : Rec) (w : World) : Calls Tryd.prog 23 #[r.val] w fun e w' => e = .returned (.bool (numB r)) ∧ Below w.heap.size w w' := by
  obtain ⟨k, t, e, o, s, b⟩ := r
  unfold Rec.val
  simp only
  have B : Hid (Below w.heap.size w (w.alloc (.cells #[.int .i64 k, .int .u32 (t : Int), .int .u64 (e : Int), .int .u64 (o : Int), .int .u64 (s : Int), .string b] 25))) := (Below.refl _ _).alloc (Nat.le_refl _) _
  cases hk : isKindB k
  · go_enter Tryd.func23, Tryd.ntmps23
    go_wp2_with fail
    refine (isKind_any _ _).mono ?_
    rintro en w' ⟨rfl, rfl⟩
    rw [hk]
    go_wp2
    go_ret
    exact ⟨ret_bool (by simp [numB, hk]), B.out⟩
  · by_cases h1 : (e : Int) ≤ 1099511627776
    · by_cases h2 : (o : Int) ≤ 1099511627776
      · by_cases h3 : (s : Int) ≤ 1099511627776
        · go_enter Tryd.func23, Tryd.ntmps23
          go_wp2_with fail
          refine (isKind_any _ _).mono ?_
          rintro en w' ⟨rfl, rfl⟩
          rw [hk]
          go_wp2
          go_ret
          have g1 : e ≤ 1099511627776 := by omega
          have g2 : o ≤ 1099511627776 := by omega
          have g3 : s ≤ 1099511627776 := by omega
          exact ⟨ret_bool (by simp [numB, hk, g1, g2, g3]), B.out⟩
        · go_enter Tryd.func23, Tryd.ntmps23
          go_wp2_with fail
          refine (isKind_any _ _).mono ?_
          rintro en w' ⟨rfl, rfl⟩
          rw [hk]
          go_wp2
          go_ret
          have g3 : ¬ s ≤ 1099511627776 := by omega
          exact ⟨ret_bool (by simp [numB, hk, g3]; omega), B.out⟩
      · go_enter Tryd.func23, Tryd.ntmps23
        go_wp2_with fail
        refine (isKind_any _ _).mono ?_
        rintro en w' ⟨rfl, rfl⟩
        rw [hk]
        go_wp2
        go_ret
        have g2 : ¬ o ≤ 1099511627776 := by omega
        exact ⟨ret_bool (by simp [numB, hk, g2]), B.out⟩
    · go_enter Tryd.func23, Tryd.ntmps23
      go_wp2_with fail
      refine (isKind_any _ _).mono ?_
      rintro en w' ⟨rfl, rfl⟩
      rw [hk]
      go_wp2
      go_ret
      have g1 : ¬ e ≤ 1099511627776 := by omega
      exact ⟨ret_bool (by simp [numB, hk, g1]), B.out⟩

theorem May_any (r : Rec) (w : World) (hf : r.Fit) : Calls Tryd.prog 12 #[r.val] w fun e w' => e = .returned (.bool (mayB r)) ∧ Below w.heap.size w w' := by
  have hb := hf.body
  unfold maxLen at hb
  clear hf
  have C := Lib.hid (mayNumbers_any r)
  cases hn : numB r
  · have F := Lib.hid (show mayB r = false by simp [mayB, hn])
    obtain ⟨k, t, e, o, s, b⟩ := r
    unfold Rec.val at C ⊢
    simp only at C hb ⊢
    go_enter Tryd.func12, Tryd.ntmps12
    go_wp2_with fail
    refine (C.out _).mono ?_
    rintro en w' ⟨rfl, bw⟩
    rw [hn]
    have BW := Lib.hid bw
    clear bw
    go_wp2
    go_ret
    exact ⟨ret_bool (by first | exact F.out.symm | (rw [F.out]; simpa using hsI)), ((Below.refl _ _).alloc (Nat.le_refl _) _).trans (BW.out.mono (by simp))⟩
  · by_cases hs : r.body.size ≤ 1000
    · have F := Lib.hid (show mayB r = true by simp [mayB, hn, hs])
      obtain ⟨k, t, e, o, s, b⟩ := r
      unfold Rec.val at C ⊢
      simp only at C hb hs ⊢
      go_enter Tryd.func12, Tryd.ntmps12
      go_wp2_with fail
      refine (C.out _).mono ?_
      rintro en w' ⟨rfl, bw⟩
      rw [hn]
      have cb := (bw.cell (p := ⟨w.heap.size, 5, none⟩) (by simp)).trans (cell_of_row _ w.heap.size 5 _ _ _ (heap_alloc_new w _))
      have hsI : (b.size : Int) ≤ 1000 := by omega
      have BW := Lib.hid bw
      clear bw
      go_wp2
      go_ret
      exact ⟨ret_bool (by first | exact F.out.symm | (rw [F.out]; simpa using hsI)), ((Below.refl _ _).alloc (Nat.le_refl _) _).trans (BW.out.mono (by simp))⟩
    · have F := Lib.hid (show mayB r = false by simp [mayB, hn, hs])
      obtain ⟨k, t, e, o, s, b⟩ := r
      unfold Rec.val at C ⊢
      simp only at C hb hs ⊢
      go_enter Tryd.func12, Tryd.ntmps12
      go_wp2_with fail
      refine (C.out _).mono ?_
      rintro en w' ⟨rfl, bw⟩
      rw [hn]
      have cb := (bw.cell (p := ⟨w.heap.size, 5, none⟩) (by simp)).trans (cell_of_row _ w.heap.size 5 _ _ _ (heap_alloc_new w _))
      have hsI : ¬ (b.size : Int) ≤ 1000 := by omega
      have BW := Lib.hid bw
      clear bw
      go_wp2
      go_ret
      exact ⟨ret_bool (by first | exact F.out.symm | (rw [F.out]; simpa using hsI)), ((Below.refl _ _).alloc (Nat.le_refl _) _).trans (BW.out.mono (by simp))⟩
end Go.Proofs.YtlpennnnkbnjmaaDoor.recd
