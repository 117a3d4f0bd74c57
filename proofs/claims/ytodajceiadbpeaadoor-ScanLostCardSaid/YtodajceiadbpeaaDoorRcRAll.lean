/-
  CONTRACT of the reference's Decode, all its ways joined.
-/
import Derived.Test.YtodajceiadbpeaaDoorRcRDecB
namespace Go.Proofs.YtodajceiadbpeaaDoor.recd
open Go.RowKit Go.Proofs.YtodajceiadbpeaaDoor.num Go.Proofs.YtodajceiadbpeaaDoor.disk
set_option linter.unusedVariables false

theorem begB_nil {l : List Int} (h : l.length = 0) : begB l = true := by
  obtain rfl := List.eq_nil_of_length_eq_zero h
  rfl
theorem begB_one {l : List Int} (h : l.length = 1) : begB l = decide (l.getD 0 0 = 83) := by
  obtain ⟨x, rfl⟩ := List.length_eq_one_iff.1 h
  simp [begB]
theorem begB_two {l : List Int} (h : 2 ≤ l.length) : begB l = (decide (l.getD 0 0 = 83 ∧ l.getD 1 0 = 82) && (decide (l.length ≤ 2) || isKindB (l.getD 2 0))) := by
  obtain ⟨x, y, r, rfl⟩ : ∃ x y r, l = x :: y :: r := by
    match l, h with
    | x :: y :: r, _ => exact ⟨x, y, r, rfl⟩
  have e : min (x :: y :: r).length 2 = 2 := Nat.min_eq_right h
  unfold begB
  rw [e]
  simp

theorem RDecode_any (a : Option Addr) (n cap : Nat) (l : List Int) (w : World) (hl : Leads w a l) (hb : Byte l) (hn : l.length = n) (hc : n ≤ cap) (hm : n ≤ 1000000000) :
    Calls Tryd.prog 24 #[.slice a n cap] w (DecOut w (dec l)) := by
  by_cases n0 : n = 0
  · exact rd_short0 a n cap l w hl hb hn hc hm (begB_nil (by omega)) n0
  · by_cases m0 : l.getD 0 0 = 83
    · by_cases n1 : n = 1
      · exact rd_short1 a n cap l w hl hb hn hc hm m0 (by rw [begB_one (by omega)]; exact decide_eq_true m0) n1
      · have hB := begB_two (l := l) (by omega)
        by_cases m1 : l.getD 1 0 = 82
        · rw [decide_eq_true (⟨m0, m1⟩ : l.getD 0 0 = 83 ∧ l.getD 1 0 = 82), Bool.true_and] at hB
          by_cases n2 : n = 2
          · exact rd_short2 a n cap l w hl hb hn hc hm m0 m1 (by rw [hB, decide_eq_true (by omega)]; rfl) n2
          · have h2 : 2 < n := by omega
            rw [decide_eq_false (by omega), Bool.false_or] at hB
            unfold isKindB at hB
            by_cases k1 : l.getD 2 0 < 1
            · exact rd_kind_lo a n cap l w hl hb hn hc hm m0 m1 (by rw [hB]; exact decide_eq_false (by omega)) h2 k1
            · by_cases k2 : 4 < l.getD 2 0
              · exact rd_kind_hi a n cap l w hl hb hn hc hm m0 m1 (by rw [hB]; exact decide_eq_false (by omega)) h2 k2
              · have h1 : begB l = true := by rw [hB]; exact decide_eq_true (by omega)
                by_cases h39 : n < 39
                · exact rd_short3 a n cap l w hl hb hn hc hm m0 m1 h1 h2 h39 (by omega) (by omega)
                · by_cases h4 : 1000 < lenOf l
                  · exact rd_len a n cap l w hl hb hn hc hm m0 m1 h1 h2 (by omega) (by omega) (by omega) h4
                  · cases h3 : numB (headOf l)
                    · exact rd_num a n cap l w hl hb hn hc hm m0 m1 h1 h2 (by omega) (by omega) (by omega) (by omega) h3
                    · by_cases h5 : n < 39 + lenOf l
                      · exact rd_more a n cap l w hl hb hn hc hm m0 m1 h1 h2 (by omega) (by omega) (by omega) (by omega) h3 h5
                      · by_cases h6 : sumOf (sub l 0 35 ++ sub l 39 (39 + lenOf l)) = val (sub l 35 39)
                        · exact rd_ok a n cap l w hl hb hn hc hm m0 m1 h1 h2 (by omega) (by omega) (by omega) (by omega) h3 (by omega) h6
                        · exact rd_bad a n cap l w hl hb hn hc hm m0 m1 h1 h2 (by omega) (by omega) (by omega) (by omega) h3 (by omega) h6
        · exact rd_m1 a n cap l w hl hb hn hc hm m0 (by rw [hB, decide_eq_false (fun h => m1 h.2)]; rfl) (by omega) m1
    · by_cases n1 : n = 1
      · exact rd_m0 a n cap l w hl hb hn hc hm (by rw [begB_one (by omega)]; exact decide_eq_false m0) (by omega) m0
      · exact rd_m0 a n cap l w hl hb hn hc hm (by rw [begB_two (by omega), decide_eq_false (fun h => m0 h.1)]; rfl) (by omega) m0
end Go.Proofs.YtodajceiadbpeaaDoor.recd
