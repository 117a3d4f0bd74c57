/-
  CONTRACT of manifest.mayBe.
-/
import Derived.Test.YtpgclhpobijdeaaDoorMnPut
namespace Go.Proofs.YtpgclhpobijdeaaDoor.man
open Go.RowKit Go.Proofs.YtpgclhpobijdeaaDoor.disk Go.Proofs.YtpgclhpobijdeaaDoor.recd Go.Proofs.YtpgclhpobijdeaaDoor.num Go.Proofs.YtpgclhpobijdeaaDoor.scan
set_option linter.unusedVariables false

theorem ten6 {W : World} {p : Nat} {v0 v1 v2 v3 v4 v5 : Value} (h : Whole W p 34 [v0, v1, v2, v3, v4, v5]) :
    W.cell? ⟨p, 0, none⟩ = some v0 ∧ W.cell? ⟨p, 1, none⟩ = some v1 ∧ W.cell? ⟨p, 2, none⟩ = some v2 ∧ W.cell? ⟨p, 3, none⟩ = some v3 ∧ W.cell? ⟨p, 4, none⟩ = some v4 ∧ W.cell? ⟨p, 5, none⟩ = some v5 :=
  ⟨h.at_ 0, h.at_ 1, h.at_ 2, h.at_ 3, h.at_ 4, h.at_ 5⟩
theorem segsB_drop {ns last : Int} {l : List Int} {k : Nat} (h : k < l.length) : segsB ns last (l.drop k) = (decide (last < l.getD k 0 ∧ l.getD k 0 < ns) && segsB ns (l.getD k 0) (l.drop (k + 1))) := by
  rw [List.drop_eq_getElem_cons h, segsB, List.getD_eq_getElem?_getD, List.getElem?_eq_getElem h]
  rfl
theorem riseB_drop {last : Int} {l : List Ten} {k : Nat} {t : Ten} (h : l[k]? = some t) : riseB last (l.drop k) = (decide (last < (t.id : Int)) && oneB t && riseB t.id (l.drop (k + 1))) := by
  obtain ⟨hk, rfl⟩ := List.getElem?_eq_some_iff.1 h
  rw [List.drop_eq_getElem_cons hk, riseB]

set_option maxRecDepth 100000 in
set_option maxHeartbeats 2000000 in
theorem mayBe_any (x : TS) (w : World) (hf : x.t.Fit) (hs : SegsAt w x.a x.n x.cap x.t.segs) : Calls Tryd.prog 31 #[x.val] w fun e w' => e = .returned (.bool (oneB x.t)) ∧ Below w.heap.size w w' := by
  obtain ⟨⟨id, ep, qu, nx, ns, sg⟩, a, n, cap⟩ := x
  unfold TS.val
  simp only at hs ⊢
  have hsl := hs.length
  obtain ⟨p, hp⟩ : ∃ p, w.heap.size = p := ⟨_, rfl⟩
  have wh : Whole (w.alloc (.cells #[.int .u32 (id : Int), .int .u64 (ep : Int), .int .i64 qu, .int .u64 (nx : Int), .int .i64 ns, .slice a n cap] 34)) p 34 [.int .u32 (id : Int), .int .u64 (ep : Int), .int .i64 qu, .int .u64 (nx : Int), .int .i64 ns, .slice a n cap] := Whole.new_ hp.symm rfl
  have bl : Below w.heap.size w (w.alloc (.cells #[.int .u32 (id : Int), .int .u64 (ep : Int), .int .i64 qu, .int .u64 (nx : Int), .int .i64 ns, .slice a n cap] 34)) := (Below.refl _ _).alloc (Nat.le_refl _) _
  obtain ⟨w1, hw1⟩ : ∃ w1, w.alloc (.cells #[.int .u32 (id : Int), .int .u64 (ep : Int), .int .i64 qu, .int .u64 (nx : Int), .int .i64 ns, .slice a n cap] 34) = w1 := ⟨_, rfl⟩
  rw [hw1] at wh bl
  have HS := Lib.hid (hs.later bl)
  have B := Lib.hid bl
  have W1 := Lib.hid hw1
  obtain ⟨c0, c1, c2, c3, c4, c5⟩ := ten6 wh
  have HSL := Lib.hid hsl
  have cw := fun (m : Nat) (w : World) => within_any m w
  have hnq : (-9223372036854775808 : Int) ≤ ns ∧ ns ≤ 9223372036854775807 := hf.nseg
  have BP : Hid (Below p w w1) := Lib.hid (by rw [← hp]; exact bl)
  clear wh bl hs hf hsl
  have start : ∀ b1 b2, decide (1 ≤ ep ∧ ep ≤ 1099511627776) = b1 → decide (1 ≤ nx ∧ nx ≤ 1099511627776) = b2 → Calls Tryd.prog 31 #[.agg #[.int .u32 (id : Int), .int .u64 (ep : Int), .int .i64 qu, .int .u64 (nx : Int), .int .i64 ns, .slice a n cap]] w fun e w' => e = .returned (.bool (oneB ⟨id, ep, qu, nx, ns, sg⟩)) ∧ Below w.heap.size w w' := by
    intro b1 b2 hb1 hb2
    have C1 := Lib.hid (show Calls Tryd.prog 51 #[.int .u64 (ep : Int)] w1 fun e w' => e = .returned (.bool b1) ∧ w1 = w' from hb1 ▸ cw ep w1)
    have C2 := Lib.hid (show Calls Tryd.prog 51 #[.int .u64 (nx : Int)] w1 fun e w' => e = .returned (.bool b2) ∧ w1 = w' from hb2 ▸ cw nx w1)
    have HB1 := Lib.hid hb1
    have HB2 := Lib.hid hb2
    clear hb1 hb2 cw hw1
    cases b1 with
    | false =>
      go_enter Tryd.func31, Tryd.ntmps31
      go_wp2_with fail
      rw [W1.out]
      refine C1.out.mono ?_
      rintro en w2 ⟨rfl, rfl⟩
      go_wp2_with fail
      go_ret
      exact ⟨ret_bool (by have := of_decide_eq_false HB1.out; symm; refine Bool.eq_false_iff.2 fun h => this ?_; have := oneB_head h; simp only at this; omega), B.out⟩
    | true =>
      cases b2 with
      | false =>
        go_enter Tryd.func31, Tryd.ntmps31
        go_wp2_with fail
        rw [W1.out]
        refine C1.out.mono ?_
        rintro en w2 ⟨rfl, rfl⟩
        go_wp2_with fail
        refine C2.out.mono ?_
        rintro en w2 ⟨rfl, rfl⟩
        go_wp2_with fail
        go_ret
        exact ⟨ret_bool (by have := of_decide_eq_false HB2.out; symm; refine Bool.eq_false_iff.2 fun h => this ?_; have := oneB_head h; simp only at this; omega), B.out⟩
      | true =>
        by_cases q1 : qu < 1000
        · have HX := Lib.hid q1
          go_enter Tryd.func31, Tryd.ntmps31
          go_wp2_with fail
          rw [W1.out]
          refine C1.out.mono ?_
          rintro en w2 ⟨rfl, rfl⟩
          go_wp2_with fail
          refine C2.out.mono ?_
          rintro en w2 ⟨rfl, rfl⟩
          go_wp2_with fail
          go_ret
          exact ⟨ret_bool (by symm; refine Bool.eq_false_iff.2 fun h => ?_; have := oneB_head h; have := HX.out; have := HSL.out; simp only at *; omega), B.out⟩
        · by_cases q2 : 65536 < qu
          · have HX := Lib.hid q2
            go_enter Tryd.func31, Tryd.ntmps31
            go_wp2_with fail
            rw [W1.out]
            refine C1.out.mono ?_
            rintro en w2 ⟨rfl, rfl⟩
            go_wp2_with fail
            refine C2.out.mono ?_
            rintro en w2 ⟨rfl, rfl⟩
            go_wp2_with fail
            go_ret
            exact ⟨ret_bool (by symm; refine Bool.eq_false_iff.2 fun h => ?_; have := oneB_head h; have := HX.out; have := HSL.out; simp only at *; omega), B.out⟩
          · by_cases s1 : ns < 1
            · have HX := Lib.hid s1
              go_enter Tryd.func31, Tryd.ntmps31
              go_wp2_with fail
              rw [W1.out]
              refine C1.out.mono ?_
              rintro en w2 ⟨rfl, rfl⟩
              go_wp2_with fail
              refine C2.out.mono ?_
              rintro en w2 ⟨rfl, rfl⟩
              go_wp2_with fail
              go_ret
              exact ⟨ret_bool (by symm; refine Bool.eq_false_iff.2 fun h => ?_; have := oneB_head h; have := HX.out; have := HSL.out; simp only at *; omega), B.out⟩
            · by_cases s2 : 1099511627776 < ns
              · have HX := Lib.hid s2
                go_enter Tryd.func31, Tryd.ntmps31
                go_wp2_with fail
                rw [W1.out]
                refine C1.out.mono ?_
                rintro en w2 ⟨rfl, rfl⟩
                go_wp2_with fail
                refine C2.out.mono ?_
                rintro en w2 ⟨rfl, rfl⟩
                go_wp2_with fail
                go_ret
                exact ⟨ret_bool (by symm; refine Bool.eq_false_iff.2 fun h => ?_; have := oneB_head h; have := HX.out; have := HSL.out; simp only at *; omega), B.out⟩
              · by_cases n1 : (60 : Int) < (n : Int)
                · have HX := Lib.hid n1
                  go_enter Tryd.func31, Tryd.ntmps31
                  go_wp2_with fail
                  rw [W1.out]
                  refine C1.out.mono ?_
                  rintro en w2 ⟨rfl, rfl⟩
                  go_wp2_with fail
                  refine C2.out.mono ?_
                  rintro en w2 ⟨rfl, rfl⟩
                  go_wp2_with fail
                  go_ret
                  exact ⟨ret_bool (by symm; refine Bool.eq_false_iff.2 fun h => ?_; have := oneB_head h; have := HX.out; have := HSL.out; simp only at *; omega), B.out⟩
                · have HD := Lib.hid (show headB ⟨id, ep, qu, nx, ns, sg⟩ = true by
                    have e1 := of_decide_eq_true HB1.out; have e2 := of_decide_eq_true HB2.out; have e3 := HSL.out
                    simp only [headB, decide_eq_true_eq]; omega)
                  have HX1 := Lib.hid (And.intro q1 (And.intro q2 (And.intro s1 (And.intro s2 n1))))
                  go_enter Tryd.func31, Tryd.ntmps31
                  go_wp2_with fail
                  rw [W1.out]
                  refine C1.out.mono ?_
                  rintro en w2 ⟨rfl, rfl⟩
                  go_wp2_with fail
                  refine C2.out.mono ?_
                  rintro en w2 ⟨rfl, rfl⟩
                  go_wp2_with fail
                  have H0 : Hid (segsB ns 0 (sg.drop 0) = segsB ns 0 sg) := rfl
                  go_loop [3, 5, 43] (fun u _ i => ∃ (k : Nat) (last : Int), k ≤ n ∧ u = .int .i64 last ∧ i = .int .i64 (k : Int) ∧ Hid (segsB ns last (sg.drop k) = segsB ns 0 sg)) (fun _ _ i => n - (intOf i).toNat)
                  case atStart => exact ⟨0, 0, Nat.zero_le _, rfl, rfl, H0⟩
                  case round =>
                    obtain ⟨k, last, hk, rfl, rfl, hI⟩ := hrel
                    by_cases hlt : k < n
                    · have hkI : (k : Int) < (n : Int) := by omega
                      obtain ⟨b, off, rfl, hc⟩ : ∃ b off, a = some ⟨b, off, none⟩ ∧ ∀ i, i < n → w1.cell? ⟨b, off + i, none⟩ = some (.int .i64 (sg.getD i 0)) := by
                        rcases HS.out.cells with h | h
                        · omega
                        · exact h
                      have hck := hc k hlt
                      have hst := hI.out
                      rw [segsB_drop (by rw [HSL.out]; exact hlt)] at hst
                      obtain ⟨s, hs⟩ : ∃ s, sg.getD k 0 = s := ⟨_, rfl⟩
                      rw [hs] at hck hst
                      have HST := Lib.hid hst
                      clear hc hst hI hs
                      by_cases g1 : s ≤ last
                      · have HG := Lib.hid g1
                        go_wp2_with fail
                        go_ret
                        refine ⟨ret_bool ?_, by first | exact B.out | exact BP.out⟩
                        rw [oneB, ← HST.out, decide_eq_false (fun h => by have := HG.out; omega)]
                        simp
                      · by_cases g2 : ns ≤ s
                        · have HG := Lib.hid g2
                          go_wp2_with fail
                          go_ret
                          refine ⟨ret_bool ?_, by first | exact B.out | exact BP.out⟩
                          rw [oneB, ← HST.out, decide_eq_false (fun h => by have := HG.out; omega)]
                          simp
                        · have FIN : Hid (segsB ns s (sg.drop (k + 1)) = segsB ns 0 sg) := by
                            rw [← HST.out, decide_eq_true (show last < s ∧ s < ns by omega), Bool.true_and]
                            exact rfl
                          go_wp2_with fail
                          refine ⟨⟨k + 1, s, by omega, rfl, by rw [Int.natCast_add]; rfl, FIN⟩, ?_⟩
                          show n - ((k : Int) + 1).toNat < n - (k : Int).toNat
                          omega
                    · obtain rfl : k = n := by omega
                      have FIN : Hid (oneB ⟨id, ep, qu, nx, ns, sg⟩ = true) := by
                        have := hI.out
                        rw [List.drop_of_length_le (by rw [HSL.out]; exact Nat.le_refl _)] at this
                        rw [oneB, HD.out, ← this]
                        exact rfl
                      clear hI
                      go_wp2_with fail
                      go_ret
                      exact ⟨ret_bool (by rw [FIN.out]), by first | exact B.out | exact BP.out⟩
  exact start _ _ rfl rfl
end Go.Proofs.YtpgclhpobijdeaaDoor.man
