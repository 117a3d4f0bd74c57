/-
  THE WALK OF 'stillroomlaw7.ScanBytes' (P7.1).
-/
import Derived.Test.YtodajceiadbpeaaDoorScChain
import Derived.Test.YtodajceiadbpeaaDoorScBegun
import Derived.Test.YtodajceiadbpeaaDoorScFound
import Derived.Test.YtodajceiadbpeaaDoorScEq
import Derived.Test.YtodajceiadbpeaaDoorScRAll
import Derived.Test.YtodajceiadbpeaaDoorCrcShort
import Derived.Test.YtodajceiadbpeaaDoorRowIn
import Derived.StillTailTactics
namespace Go.Proofs.YtodajceiadbpeaaDoor.scan
open Go.RowKit Go.Proofs.YtodajceiadbpeaaDoor.disk Go.Proofs.YtodajceiadbpeaaDoor.recd Go.Proofs.YtodajceiadbpeaaDoor.num
set_option linter.unusedVariables false

theorem fit_may {r : Rec} (h : mayB r = true) (ht : r.tenant < 4294967296) : r.Fit := by
  have hm := May.of h
  exact ⟨by omega, ht, by unfold maxLen; omega⟩
/-- The end of laws of finds: as the reference has them. -/
structure Same (w : World) (L : List Int) (a : Option Addr) (n cap : Nat) (wr : World) : Prop where
  below : Below w.heap.size w wr
  leads : Leads wr a L

set_option maxRecDepth 100000 in
set_option maxHeartbeats 4000000 in
theorem bytes_any (w : World) (hT : crc.Tab w) (a : Option Addr) (len cap : Nat) (l : List Int) (hr : Row w a len cap l) : Calls Tryd.prog 5 #[.slice a len cap] w fun e w' => e = .returned (.bool true) ∧ Below w.heap.size w w' := by
  have CB := Lib.hid (begun_any w hT)
  have CS := Lib.hid (fun W => crc.short_any a len cap 400 W hr.le hr.nil (by decide))
  obtain ⟨n, hn⟩ : ∃ n, min len 400 = n := ⟨_, rfl⟩
  have rs := hr.short 400
  rw [hn] at rs CS
  have hn4 : n ≤ 400 := by omega
  obtain ⟨L, hL⟩ : ∃ L, l.take 400 = L := ⟨_, rfl⟩
  rw [hL] at rs
  have RS := Lib.hid rs
  have HT := Lib.hid hT
  have hcap := rs.le
  clear hT hr hn rs hL
  go_enter Tryd.func5, Tryd.ntmps5
  go_wp2_with fail
  refine CB.out.mono ?_
  rintro en w1 ⟨rfl, b1⟩
  have B1 := Lib.hid b1
  clear b1 CB
  go_wp2_with fail
  refine (CS.out _).mono ?_
  rintro en w1' ⟨rfl, rfl⟩
  go_wp2_with fail
  refine (All_any a n cap L w1 (HT.out.later B1.out) (RS.out.bytes.later B1.out) RS.out.byte RS.out.length hcap (by omega)).mono ?_
  rintro en w2 ⟨v2, rfl, g2⟩
  have hch := rest_chain RS.out.byte 0
  have hsm := rest_small L 0
  have hbd : ∀ x ∈ rest L 0, x.r.body.size ≤ 1000 := fun x hx => (rest_body hx).1
  have cra := fun W (hl : Leads W a L) => RAll_any a n cap L W hl RS.out.byte RS.out.length hcap (by omega)
  rw [RS.out.length] at hsm
  obtain ⟨fs, hfs⟩ : ∃ fs, rest L 0 = fs := ⟨_, rfl⟩
  rw [hfs] at g2 hch hsm hbd cra
  obtain ⟨m, hm⟩ : ∃ m, fs.length = m := ⟨_, rfl⟩
  have o2 := g2.own
  have form : ∃ ao c2, v2 = .slice ao m c2 ∧ m ≤ c2 ∧ c2 ≤ 9223372036854775807 := by
    rcases o2.form with ⟨rfl, rfl⟩ | ⟨g, cap, rfl, h1, h2, _⟩
    · exact ⟨none, 0, by rw [← hm]; rfl, by rw [← hm]; exact Nat.zero_le _, by omega⟩
    · exact ⟨some ⟨g, 0, none⟩, cap, by rw [← hm], by omega, h2⟩
  obtain ⟨ao, c2, rfl, hc2, hc2m⟩ := form
  have B2 := Lib.hid (B1.out.trans (g2.below.mono B1.out.size))
  have g2b := Lib.hid g2.below
  have B1' := Lib.hid B1.out
  have O2 := Lib.hid o2
  have HM := Lib.hid hm
  have HCH := Lib.hid hch
  have HBD := Lib.hid hbd
  have CRA := Lib.hid cra
  have hm4 : m ≤ 400 := by omega
  clear o2 hm hch hbd cra g2 hfs hsm CS B1
  go_wp2_with fail
  go_loopw [5, 6, 7] (fun p i _ wr => ∃ (q at_ : Nat), i = .int .i64 (q : Int) ∧ p = .int .i64 (at_ : Int) ∧ q ≤ m ∧ Chain L at_ (fs.drop q) ∧ Below w2.heap.size w2 wr) (fun _ i _ _ => ((m : Int) - intOf i).toNat)
  case atStart => exact ⟨0, 0, rfl, rfl, Nat.zero_le _, HCH.out, Below.refl _ _⟩
  case round =>
    obtain ⟨q, p, rfl, rfl, hq, hc, hb⟩ := hrel
    have HB := Lib.hid hb
    clear hb
    by_cases hqm : q < m
    · have hqI : (q : Int) < (m : Int) := by omega
      have hql : q < fs.length := by rw [HM.out]; exact hqm
      obtain ⟨g, rfl⟩ : ∃ g, ao = some ⟨g, 0, none⟩ := by
        rcases O2.out.form with ⟨_, e⟩ | ⟨g, cap, e, _⟩
        · rw [e] at hql; exact absurd hql (Nat.not_lt_zero _)
        · injection e with e1; exact ⟨g, e1⟩
      obtain ⟨k1, k2, k3, k4, k5, k6⟩ := hc.at_ hql
      obtain ⟨⟨fa, r⟩, hx⟩ : ∃ x, fs[q] = x := ⟨_, rfl⟩
      rw [hx] at k1 k2 k3 k4 k5 k6
      simp only at k1 k2 k3 k4 k5 k6
      have hfit := fit_may k3 k4
      have ce := fun W => REncode_any r W hfit
      rw [enc, if_pos k3] at ce
      have hle := encL_length r
      obtain ⟨N, hN⟩ : ∃ N, 39 + r.body.size = N := ⟨_, rfl⟩
      rw [hN] at hle k2 k5 k6
      have hby := encL_byte r
      obtain ⟨E, hE⟩ : ∃ E, encL r = E := ⟨_, rfl⟩
      rw [hE] at ce hle k5 hby
      rw [RS.out.length] at k2
      have hN1 : 39 ≤ N := by omega
      obtain ⟨k, t, e, o, s, b⟩ := r
      unfold Rec.val at ce
      simp only at ce
      obtain ⟨c0, c1, c2', c3, c4, c5, c6⟩ := fd_cells rfl rfl (O2.out.later HB.out) q hql fa k t e o s b hx
      have i1 : ¬ (fa : Int) < (p : Int) := by omega
      have i2 : ¬ (n : Int) < (fa : Int) := by omega
      have CE := Lib.hid ce
      have HLE := Lib.hid hle
      have K5 := Lib.hid k5
      have K6 := Lib.hid k6
      have HBY := Lib.hid hby
      clear ce hle k5 k6 hby hfit k3 k4 hN hE hc
      go_wp2_with fail
      refine (CE.out wr).mono ?_
      rintro en w3 ⟨v3, rfl, o3, _, b3⟩
      obtain ⟨a3, c3', rfl, hc3, _, _, l3, _⟩ := o3.form
      rw [HLE.out] at hc3 ⊢
      have hb3 := HB.out.trans (b3.mono HB.out.size)
      clear c0 c1 c2' c3 c4 c5 c6 CE o3 b3
      have c0 : w3.cell? ⟨g, q * 7, none⟩ = some (.int .i64 (fa : Int)) := (fd_cells rfl rfl (O2.out.later hb3) q hql fa k t e o s b hx).1
      obtain ⟨M, hM⟩ : ∃ M, fa + N = M := ⟨_, rfl⟩
      have hMi : (fa : Int) + (N : Int) = (M : Int) := by omega
      have hMw : IntKind.i64.wrap (M : Int) = (M : Int) := by rw [IntKind.wrap_i64]; omega
      obtain ⟨D, hD⟩ : ∃ D, n - fa = D := ⟨_, rfl⟩
      have hDw : IntKind.i64.wrap ((n : Int) - (fa : Int)) = (D : Int) := by rw [IntKind.wrap_i64]; omega
      have hng : ¬ (D < N) := by omega
      have hng2 : N ≤ D := by omega
      have hnz : ¬ N = 0 := by omega
      have hcut : ∀ W, (Instr.slice 26 (.slice a n cap) (some (.int .i64 (fa : Int))) (some (.int .i64 (M : Int))) none).run Tryd.prog W = .ok (.slice (cutAt a cap fa) N (cap - fa)) W := fun W => by
        have h := run_cut a n cap fa M (by omega) (by omega) W
        rwa [show M - fa = N by omega] at h
      have lc := leads_cut (((RS.out.bytes.later B1'.out).later (g2b.out)).later hb3) fa M (by omega) (by rw [RS.out.length]; omega) (by rw [RS.out.length]; exact hcap)
      rw [show M - fa = N by omega, ← K5.out] at lc
      have v1 : (convert 26 9 (.slice (cutAt a cap fa) N (cap - fa))).run Tryd.prog w3.drew = .ok (.string (str E)) w3.drew := by
        have h := run_str (w := w3.drew) (lc.later (below_draws (Below.refl _ _) 1)) HBY.out (cap - fa)
        rwa [HLE.out] at h
      have v2 : (convert 26 9 (.slice a3 N c3')).run Tryd.prog w3.drew = .ok (.string (str E)) w3.drew := by
        have h := run_str (w := w3.drew) (l3.later (below_draws (Below.refl _ _) 1)) HBY.out c3'
        rwa [HLE.out] at h
      obtain ⟨S, hS⟩ : ∃ S, str E = S := ⟨_, rfl⟩
      rw [hS] at v1 v2
      have HB3 := Lib.hid hb3
      have HMM := Lib.hid hM
      clear lc l3 hb3 hS hM HB hx hql hD
      go_wp2_with fail
      go_still (by kernel_rfl)
      change Exit.then _ _ _ _ w3.drew
      obtain ⟨w4, hw4⟩ : ∃ w4, w3.drew = w4 := ⟨_, rfl⟩
      have c0' : w4.cell? ⟨g, q * 7, none⟩ = some (.int .i64 (fa : Int)) := by rw [← hw4]; exact c0
      have hb4 : Below w2.heap.size w2 w4 := by rw [← hw4]; exact below_draws HB3.out 1
      have HB4 := Lib.hid hb4
      rw [hw4]
      clear hw4 hb4 v1 v2 hcut hMw hDw hng hng2 hnz c0 HB3
      go_wp2_with fail
      refine ⟨⟨q + 1, M, by rw [Int.natCast_add]; rfl, by first | rfl | rw [hMi], by omega, by rw [← HMM.out]; exact K6.out, HB4.out⟩, ?_⟩
      show ((m : Int) - ((q : Int) + 1)).toNat < ((m : Int) - (q : Int)).toNat
      omega
    · have hqI : ¬ (q : Int) < (m : Int) := by omega
      have cf := Found_any (.slice ao m c2) fs wr (O2.out.later HB.out) (by rw [HM.out]; omega)
      have CF := Lib.hid cf
      clear cf hc
      go_wp2_with fail
      refine CF.out.mono ?_
      rintro en w3 ⟨v3, rfl, g3⟩
      have hb3 := HB.out.trans (g3.below.mono HB.out.size)
      go_wp2_with fail
      refine (CRA.out w3 (((RS.out.bytes.later B1'.out).later g2b.out).later hb3)).mono ?_
      rintro en w5 ⟨v5, rfl, g5⟩
      go_wp2_with fail
      refine (EqAll_any v3 v5 fs w5 (g3.own.later g5.below) g5.own HBD.out).mono ?_
      rintro en w6 ⟨rfl, b6⟩
      have hb5 := hb3.trans (g5.below.mono hb3.size)
      have B6 := Lib.hid (B2.out.trans ((hb5.trans (b6.mono hb5.size)).mono B2.out.size))
      clear hb3 g3 g5 hb5 b6 CF CRA
      go_wp2_with fail
      go_ret
      exact ⟨rfl, B6.out⟩
theorem bytes_card (w : World) (hT : crc.Tab w) {a : Option Addr} {len cap : Nat} {l : List Int} (hr : Row w a len cap l) : Calls Tryd.prog 5 #[.slice a len cap] w fun e w' => e = .returned (.bool true) ∧ Below w.heap.size w w' := bytes_any w hT a len cap l hr
end Go.Proofs.YtodajceiadbpeaaDoor.scan
