/-
  CONTRACTS of disk.isOfName and disk.isName.
-/
import Derived.Test.YtpbffjpghnijkaaDkDir
namespace Go.Proofs.Ytpbffjpghnijkaa.disk
open Go.RowKit Go.Maps

/-- May a name have that byte? -/
def okC (c : Int) : Bool := decide (97 ≤ c ∧ c ≤ 122) || decide (65 ≤ c ∧ c ≤ 90) || decide (48 ≤ c ∧ c ≤ 57) || decide (c = 46)
/-- May that be a name? -/
def isNameB (l : Nm) : Bool := decide (1 ≤ l.length) && decide (l.length ≤ 32) && l.all fun c => okC (c.toNat : Int)

set_option maxHeartbeats 1000000 in
theorem isOfName_any (w : World) (c : Int) :
    Calls Try.prog 44 #[.int .u8 c] w fun e w' => e = .returned (.bool (okC c)) ∧ w = w' := by
  have HO := Lib.hid (fun b (hb : b = okC c) => show Ending.returned (.bool b) = .returned (.bool (okC c)) by rw [hb])
  by_cases h1 : 97 ≤ c ∧ c ≤ 122
  · have hv : okC c = true := by simp [okC, h1]
    have HV := Lib.hid hv
    obtain ⟨a, b⟩ := h1
    clear hv
    go_enter Try.func44, Try.ntmps44
    go_wp2
    go_ret
    exact ⟨HO.out _ (by rw [HV.out]), rfl⟩
  · by_cases h2 : 65 ≤ c ∧ c ≤ 90
    · have hv : okC c = true := by simp [okC, h2]
      have HV := Lib.hid hv
      have h3 : ¬ 97 ≤ c := by omega
      obtain ⟨a, b⟩ := h2
      clear hv h1
      go_enter Try.func44, Try.ntmps44
      go_wp2
      go_ret
      exact ⟨HO.out _ (by rw [HV.out]), rfl⟩
    · have hv : okC c = (decide (48 ≤ c ∧ c ≤ 57) || decide (c = 46)) := by simp [okC, h1, h2]
      have HV := Lib.hid hv
      by_cases h3 : 48 ≤ c ∧ c ≤ 57
      · have h5 : ¬ 65 ≤ c := by omega
        have h6 : ¬ 97 ≤ c := by omega
        have hv2 : okC c = true := by rw [hv]; simp [h3]
        have HV2 := Lib.hid hv2
        obtain ⟨a, b⟩ := h3
        clear hv hv2 h1 h2
        go_enter Try.func44, Try.ntmps44
        go_wp2
        go_ret
        exact ⟨HO.out _ (by rw [HV2.out]), rfl⟩
      · have hv2 : okC c = decide (c = 46) := by rw [hv]; simp [h3]
        have HV2 := Lib.hid hv2
        clear hv hv2
        by_cases a1 : 97 ≤ c
        all_goals by_cases a2 : c ≤ 122
        all_goals by_cases a3 : 65 ≤ c
        all_goals by_cases a4 : c ≤ 90
        all_goals by_cases a5 : 48 ≤ c
        all_goals by_cases a6 : c ≤ 57
        all_goals first
          | (exfalso; omega)
          | (clear h1 h2 h3
             go_enter Try.func44, Try.ntmps44
             go_wp2
             go_ret
             refine ⟨HO.out _ ?_, rfl⟩
             rw [HV2.out]
             by_cases e : c = 46 <;> simp [e])

theorem isNameB_long {l : Nm} (h : l.length < 1 ∨ 32 < l.length) : isNameB l = false := by
  unfold isNameB
  rcases h with h | h
  · rw [decide_eq_false (by omega)]; rfl
  · rw [show decide (l.length ≤ 32) = false from decide_eq_false (by omega)]; simp
theorem isNameB_bad {l : Nm} {i : Nat} (hi : i < l.length) (h : okC ((l[i]).toNat : Int) = false) : isNameB l = false := by
  unfold isNameB
  have : (l.all fun c => okC (c.toNat : Int)) = false := by
    rw [List.all_eq_false]
    exact ⟨l[i], List.getElem_mem hi, by simp [h]⟩
  rw [this]; simp
theorem isNameB_good {l : Nm} (h1 : 1 ≤ l.length) (h2 : l.length ≤ 32) (h : ∀ i (hi : i < l.length), okC ((l[i]).toNat : Int) = true) : isNameB l = true := by
  unfold isNameB
  have : (l.all fun c => okC (c.toNat : Int)) = true := by
    rw [List.all_eq_true]
    intro c hc
    obtain ⟨i, hi, rfl⟩ := List.getElem_of_mem hc
    exact h i hi
  rw [this, decide_eq_true h1, decide_eq_true h2]; rfl
theorem isNameB_nonempty {l : Nm} (h : isNameB l = true) : l ≠ [] := by
  intro e; subst e; cases h
theorem isNameB_le {l : Nm} (h : isNameB l = true) : l.length ≤ 32 := by
  unfold isNameB at h
  simp only [Bool.and_eq_true, decide_eq_true_eq] at h
  exact h.1.2

set_option maxHeartbeats 1000000 in
theorem isName_any (w : World) (s : ByteArray) (hs : s.size ≤ maxLen) :
    Calls Try.prog 32 #[.string s] w fun e w' => e = .returned (.bool (isNameB s.data.toList)) ∧ w = w' := by
  unfold maxLen at hs
  have hlen : s.data.toList.length = s.size := by simp
  by_cases hsz : s.size < 1 ∨ 32 < s.size
  · have hv := isNameB_long (l := s.data.toList) (by rw [hlen]; exact hsz)
    have HV := Lib.hid hv
    clear hv hlen
    by_cases h1 : s.size < 1
    · go_enter Try.func32, Try.ntmps32
      go_wp2
      go_ret
      exact ⟨by rw [HV.out]; rfl, rfl⟩
    · have h2 : 32 < s.size := by omega
      clear hsz
      go_enter Try.func32, Try.ntmps32
      go_wp2
      go_ret
      exact ⟨by rw [HV.out]; rfl, rfl⟩
  · have h1 : ¬ s.size < 1 := by omega
    have h2 : ¬ 32 < s.size := by omega
    have HLEN := Lib.hid hlen
    clear hsz hlen
    go_enter Try.func32, Try.ntmps32
    go_wp2_with fail
    go_loop [14, 3] (fun i _ => ∃ k : Nat, k ≤ s.size ∧ i = .int .i64 (k : Int) ∧ ∀ j (hj : j < s.data.toList.length), j < k → okC ((s.data.toList[j]).toNat : Int) = true) (fun i _ => s.size - (intOf i).toNat)
    case atStart => exact ⟨0, Nat.zero_le _, rfl, fun j _ hj => absurd hj (Nat.not_lt_zero _)⟩
    case round =>
      obtain ⟨k, hk, rfl, hall⟩ := hrel
      have HA := Lib.hid hall
      clear hall
      by_cases hlt : k < s.size
      · have e : s[k] = s.data.toList[k]'(by rw [HLEN.out]; exact hlt) := rfl
        have E := Lib.hid e
        clear e
        cases hok : okC (s[k].toNat : Int)
        · have HOK := Lib.hid hok
          have hbad : isNameB s.data.toList = false := isNameB_bad (by rw [HLEN.out]; exact hlt) (by rw [← E.out]; exact hok)
          have HB := Lib.hid hbad
          have cO := Lib.hid (show Calls Try.prog 44 #[.int .u8 (s[k].toNat : Int)] w fun e w' => e = .returned (.bool false) ∧ w = w' from by rw [← hok]; exact isOfName_any w _)
          clear hok hbad
          go_wp2_with fail
          refine cO.out.mono ?_
          rintro e w' ⟨rfl, rfl⟩
          go_wp2_with fail
          go_ret
          exact ⟨by rw [HB.out]; rfl, rfl⟩
        · have HOK := Lib.hid hok
          have cO := Lib.hid (show Calls Try.prog 44 #[.int .u8 (s[k].toNat : Int)] w fun e w' => e = .returned (.bool true) ∧ w = w' from by rw [← hok]; exact isOfName_any w _)
          clear hok
          go_wp2_with fail
          refine cO.out.mono ?_
          rintro e w' ⟨rfl, rfl⟩
          go_wp2_with fail
          go_round
          case rel =>
            refine ⟨k + 1, by omega, by go_num, fun j hj hjk => ?_⟩
            by_cases hjk' : j = k
            · subst hjk'; rw [← E.out]; exact HOK.out
            · exact HA.out j hj (by omega)
          case measure => simp [intOf]; omega
      · have hgood : isNameB s.data.toList = true := isNameB_good (by rw [HLEN.out]; omega) (by rw [HLEN.out]; omega) (fun i hi => HA.out i hi (by rw [HLEN.out] at hi; omega))
        have HG := Lib.hid hgood
        clear hgood
        go_wp2_with fail
        go_ret
        exact ⟨by rw [HG.out]; rfl, rfl⟩
end Go.Proofs.Ytpbffjpghnijkaa.disk
