/-
  CONTRACTS of the statements' small helpers: stillroomlaw1.Cut, stillroomlaw6.Cut, stillroomref6.May, stillroomlaw6.begun.
-/
import Derived.Test.YtodajceiadbpeaaDoorRcDec
import Derived.Test.YtodajceiadbpeaaDoorRcDecMath
namespace Go.Proofs.YtodajceiadbpeaaDoor.recd
open Go.RowKit Go.Proofs.YtodajceiadbpeaaDoor.num Go.Proofs.YtodajceiadbpeaaDoor.disk
set_option linter.unusedVariables false

/-- A text, not too long. -/
def cutS (s : ByteArray) (n : Nat) : ByteArray := if n < s.size then s.extract 0 n else s
theorem bs_extract (s : ByteArray) (n : Nat) (h : n ≤ s.size) : bs (s.extract 0 n) = (bs s).take n := by
  unfold bs
  rw [ByteArray.data_extract, Array.toList_extract, ← List.map_take]
  simp [List.extract]
theorem cutS_size (s : ByteArray) (n : Nat) : (cutS s n).size = min s.size n := by
  unfold cutS
  by_cases h : n < s.size
  · rw [if_pos h, ByteArray.size_extract]; omega
  · rw [if_neg h]; omega
theorem cutText_any (s : ByteArray) (n : Nat) (hn : n ≤ 1000) (hs : s.size ≤ maxLen) (w : World) : Calls Tryd.prog 25 #[.string s, .int .i64 (n : Int)] w fun e w' => e = .returned (.string (cutS s n)) ∧ w = w' := by
  unfold maxLen at hs
  by_cases h : n < s.size
  · have h1 : (n : Int) < (s.size : Int) := by omega
    have e : cutS s n = s.extract 0 n := by unfold cutS; rw [if_pos h]
    rw [e]
    clear e
    go_enter Tryd.func25, Tryd.ntmps25
    go_wp2
    go_ret
    exact ⟨rfl, rfl⟩
  · have h1 : ¬ (n : Int) < (s.size : Int) := by omega
    have e : cutS s n = s := by unfold cutS; rw [if_neg h]
    rw [e]
    clear e
    go_enter Tryd.func25, Tryd.ntmps25
    go_wp2
    go_ret
    exact ⟨rfl, rfl⟩

/-- A record, its Body not too long. -/
def cutR (r : Rec) (n : Nat) : Rec := { r with body := cutS r.body n }
set_option maxHeartbeats 1000000 in
theorem cutRec_any (r : Rec) (n : Nat) (hn : n ≤ 1000) (hf : r.Fit) (w : World) : Calls Tryd.prog 19 #[r.val, .int .i64 (n : Int)] w fun e w' => e = .returned (cutR r n).val ∧ Below w.heap.size w w' := by
  have hb := hf.body
  have C := Lib.hid (fun W => cutText_any r.body n hn hb W)
  obtain ⟨k, t, e, o, s, b⟩ := r
  unfold cutR Rec.val at *
  simp only at C ⊢
  obtain ⟨c, hc⟩ : ∃ c, cutS b n = c := ⟨_, rfl⟩
  rw [hc] at C ⊢
  clear hc hb hf
  go_enter Tryd.func19, Tryd.ntmps19
  go_wp2_with fail
  refine (C.out _).mono ?_
  rintro en w' ⟨rfl, rfl⟩
  go_wp2_with fail
  refine bodyPost_ret (v := .agg #[.int .i64 k, .int .u32 (t : Int), .int .u64 (e : Int), .int .u64 (o : Int), .int .u64 (s : Int), .string c]) (by simp [results, Tryd.results19, go_sem]) rfl ⟨rfl, ?_⟩
  exact ((Below.refl _ _).alloc (Nat.le_refl _) _).alloc (by simp) _
end Go.Proofs.YtodajceiadbpeaaDoor.recd
