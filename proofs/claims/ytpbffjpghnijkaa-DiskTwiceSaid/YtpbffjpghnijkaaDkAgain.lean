/-
  A CRASH OF A CRASH KEEPS ALL: the plain mathematics (for DiskTwice).
-/
import Derived.Test.YtpbffjpghnijkaaDkCrashA
namespace Go.Proofs.Ytpbffjpghnijkaa.disk
set_option linter.unusedVariables false

/-- What a crash built is clean. -/
theorem Built.clean {S' : St} {file : Nat → FileA} {keep : List Bool} {torn : Int} {d : Dir} (h : Built S' file keep torn d) (q : Nm × Nat) (hq : q ∈ S'.now) : S'.file q.2 = ⟨(S'.file q.2).now, (S'.file q.2).now, []⟩ := by
  unfold Built at h
  have hm : (q.1, S'.file q.2) ∈ S'.now.map (fun q => (q.1, S'.file q.2)) := List.mem_map_of_mem hq
  rw [h] at hm
  obtain ⟨x, _, hx⟩ := List.mem_map.1 hm
  injection hx with h1 h2
  rw [← h2]
theorem crashL_clean {file : Nat → FileA} (keep : List Bool) (torn : Int) : ∀ (d : Dir) (k : Nat), (∀ q ∈ d, (file q.2).dirty = []) → crashL file keep torn k d = d.map fun q => (q.1, (file q.2).old)
  | [], k, _ => rfl
  | (nm, b) :: r, k, h => by
    have e : (file b).dirty = [] := h (nm, b) (by simp)
    rw [crashL, crashL_clean keep torn r _ fun q hq => h q (List.mem_cons_of_mem _ hq), List.map_cons, e, leaveL]
/-- The second crash leaves what the first left: name by name, file by file. -/
theorem Built.again {S1 S2 : St} {file : Nat → FileA} {keep keep2 : List Bool} {torn torn2 : Int} {d : Dir} (h1 : Built S1 file keep torn d) (h2 : Built S2 S1.file keep2 torn2 S1.now) :
    S2.now.map (fun q => (q.1, S2.file q.2)) = S1.now.map fun q => (q.1, S1.file q.2) := by
  unfold Built at h2
  rw [h2, crashL_clean keep2 torn2 S1.now 0 fun q hq => by rw [h1.clean q hq], List.map_map]
  refine List.map_congr_left fun q hq => ?_
  have e := h1.clean q hq
  show (q.1, (⟨(S1.file q.2).old, (S1.file q.2).old, []⟩ : FileA)) = (q.1, S1.file q.2)
  rw [e]
theorem Built.same_at {S1 S2 : St} (h : S2.now.map (fun q => (q.1, S2.file q.2)) = S1.now.map fun q => (q.1, S1.file q.2)) : S2.now.length = S1.now.length ∧ ∀ (i : Nat) (p q : Nm × Nat), S1.now[i]? = some p → S2.now[i]? = some q → p.1 = q.1 ∧ S1.file p.2 = S2.file q.2 := by
  refine ⟨by have e := congrArg List.length h; simpa using e, fun i p q hp hq => ?_⟩
  have e := congrArg (fun l => l[i]?) h
  simp only [List.getElem?_map, hp, hq, Option.map_some] at e
  injection e with e
  injection e with e1 e2
  exact ⟨e1.symm, e2.symm⟩
/-- With no change waiting, a crash begins from the directory as it is. -/
theorem St.leftDir_none {S : St} (hw : S.wait = []) (hs : S.synced = S.now) (m : Nat) : S.leftDir m = S.now := by
  unfold St.leftDir
  rw [hw, List.take_nil, hs]
  rfl
/-- A disk that a crash built has no dirty sector. -/
theorem Built.dirty_none {S' : St} {file : Nat → FileA} {keep : List Bool} {torn : Int} {d : Dir} (h : Built S' file keep torn d) : S'.dirty = 0 := by
  have hz : ∀ e : Dir, (∀ q ∈ e, (S'.file q.2).dirty = []) → sumOf (fun b => (S'.file b).dirty.length) e = 0 := by
    intro e
    induction e with
    | nil => intro _; rfl
    | cons y r ih =>
      intro hq
      have h0 := ih fun q hm => hq q (List.mem_cons_of_mem _ hm)
      have h1 := hq y (by simp)
      simp only [sumOf, List.map_cons, List.sum_cons] at h0 ⊢
      rw [h0, h1]
      rfl
  exact hz _ fun q hq => by rw [h.clean q hq]
end Go.Proofs.Ytpbffjpghnijkaa.disk
