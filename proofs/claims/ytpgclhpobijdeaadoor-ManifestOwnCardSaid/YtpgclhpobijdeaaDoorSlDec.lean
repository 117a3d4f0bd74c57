/-
  CONTRACT of slots.decode (P9.1).
-/
import Derived.Test.YtpgclhpobijdeaaDoorSlEnc
import Derived.Test.YtpgclhpobijdeaaDoorMRec

namespace Go.Proofs.YtpgclhpobijdeaaDoor.slots
open Go.RowKit Go.Proofs.YtpgclhpobijdeaaDoor.disk Go.Proofs.YtpgclhpobijdeaaDoor.recd Go.Proofs.YtpgclhpobijdeaaDoor.num
set_option linter.unusedVariables false

/-- What decode answers with, of bytes at this place. -/
def decV (g off cap : Nat) : Option (Nat × List Int) → Value
  | none => .tuple #[.int .u64 0, .slice none 0 0, .bool false]
  | some (t, x) => .tuple #[.int .u64 (t : Int), .slice (some ⟨g, off + 16, none⟩) x.length (cap - 16), .bool true]
theorem run_tail8 (g off n cap p : Nat) (hp : p ≤ n) (hp2 : p < cap) (w : World) : (Instr.slice 44 (.slice (some ⟨g, off, none⟩) n cap) (some (.int .i64 (p : Int))) none none).run Tryd.prog w = .ok (.slice (some ⟨g, off + p, none⟩) (n - p) (cap - p)) w := by
  rw [run_slice_l w 44 _ n cap (by rw [byte_elem]; exact Tryd.underlying44) .i64 (p : Int) (by omega) (by omega), byte_elem, byte_sizeOf]
  have : cutAt (some ⟨g, off, none⟩) cap p = some ⟨g, off + p, none⟩ := by rw [cutAt, if_neg (by omega), Option.map_some, Addr.add_mid]
  simp only [Result.andThen, sliced, Int.toNat_natCast, Nat.mul_one]
  rw [← this, cutAt]
theorem run_front8 (g off n cap q : Nat) (hq : q ≤ cap) (W : World) : (Instr.slice 44 (.slice (some ⟨g, off, none⟩) n cap) none (some (.int .u64 (q : Int))) none).run Tryd.prog W = .ok (.slice (some ⟨g, off, none⟩) q cap) W := by
  rw [run_slice_h W 44 _ n cap (by rw [byte_elem]; exact Tryd.underlying44) .u64 (q : Int) (by omega) (by omega), byte_elem, byte_sizeOf]
  simp [Result.andThen, sliced, Addr.add_mid]
theorem at_leads {w : World} {g off : Nat} {l : List Int} (h : At w g off l) (p q : Nat) (hpq : p ≤ q) (hq : q ≤ l.length) : Leads w (some ⟨g, off + p, none⟩) (recd.sub l p q) := by
  rcases Nat.lt_or_ge p q with h1 | h1
  · exact h.sub p q h1 hq
  · left
    unfold recd.sub
    rw [show q - p = 0 by omega, List.take_zero]

set_option maxRecDepth 100000 in
set_option maxHeartbeats 400000 in
theorem decode_any (w : World) (hT : crc.Tab w) (g off cap : Nat) (l : List Int) (hl : At w g off l) (hb : Byte l) (hn : l.length = 4096) (hc : 4096 ≤ cap) (hc2 : cap ≤ 9223372036854775807) :
    Calls Tryd.prog 54 #[.slice (some ⟨g, off, none⟩) 4096 cap] w fun e w' => e = .returned (decV g off cap (slotD l)) ∧ ∃ q, w' = w.drewN q := by
  have s1 : ∀ W, (Instr.slice 44 (.slice (some ⟨g, off, none⟩) 4096 cap) none (some (.int .i64 12)) none).run Tryd.prog W = .ok (.slice (some ⟨g, off, none⟩) 12 cap) W := recd.run_front g off 4096 cap 12 (by omega)
  have s2 : ∀ W, (Instr.slice 44 (.slice (some ⟨g, off, none⟩) 4096 cap) (some (.int .i64 12)) (some (.int .i64 16)) none).run Tryd.prog W = .ok (.slice (some ⟨g, off + 12, none⟩) 4 (cap - 12)) W := run_sub g off 4096 cap 12 16 (by omega) (by omega)
  have s3 : ∀ W, (Instr.slice 44 (.slice (some ⟨g, off, none⟩) 12 cap) none (some (.int .i64 8)) none).run Tryd.prog W = .ok (.slice (some ⟨g, off, none⟩) 8 cap) W := recd.run_front g off 12 cap 8 (by omega)
  have s4 : ∀ W, (Instr.slice 44 (.slice (some ⟨g, off, none⟩) 12 cap) (some (.int .i64 8)) none none).run Tryd.prog W = .ok (.slice (some ⟨g, off + 8, none⟩) 4 (cap - 8)) W := run_tail8 g off 12 cap 8 (by omega) (by omega)
  have s5 : ∀ W, (Instr.slice 44 (.slice (some ⟨g, off, none⟩) 4096 cap) (some (.int .i64 16)) none none).run Tryd.prog W = .ok (.slice (some ⟨g, off + 16, none⟩) 4080 (cap - 16)) W := run_tail8 g off 4096 cap 16 (by omega) (by omega)
  have HAT := Lib.hid hl
  have HB := Lib.hid hb
  have HN := Lib.hid hn
  have HT := Lib.hid hT
  clear hl hb hn hT
  have C1 : ∀ W1, Below w.heap.size w W1 → Calls Tryd.prog 66 #[.slice (some ⟨g, off, none⟩) 8 (cap)] W1 fun e w'' => e = .returned (.int .u64 ((val (recd.sub l 0 8) : Nat) : Int)) ∧ W1 = w'' := fun W1 hb =>
    recd.get_at _ 8 (recd.sub l 0 8) (sub_length l 0 8 (by rw [HN.out]; omega)) (cap) W1 (by have := (at_leads HAT.out 0 8 (by omega) (by rw [HN.out]; omega)).later hb; rw [Nat.add_zero] at this; exact this) (sub_byte HB.out 0 8) (by omega) (by omega)
  have C2 : ∀ W1, Below w.heap.size w W1 → Calls Tryd.prog 66 #[.slice (some ⟨g, off + 8, none⟩) 4 (cap - 8)] W1 fun e w'' => e = .returned (.int .u64 ((val (recd.sub l 8 12) : Nat) : Int)) ∧ W1 = w'' := fun W1 hb =>
    recd.get_at _ 4 (recd.sub l 8 12) (sub_length l 8 12 (by rw [HN.out]; omega)) (cap - 8) W1 ((at_leads HAT.out 8 12 (by omega) (by rw [HN.out]; omega)).later hb) (sub_byte HB.out 8 12) (by omega) (by omega)
  have C3 : ∀ W1, Below w.heap.size w W1 → Calls Tryd.prog 66 #[.slice (some ⟨g, off + 12, none⟩) 4 (cap - 12)] W1 fun e w'' => e = .returned (.int .u64 ((val (recd.sub l 12 16) : Nat) : Int)) ∧ W1 = w'' := fun W1 hb =>
    recd.get_at _ 4 (recd.sub l 12 16) (sub_length l 12 16 (by rw [HN.out]; omega)) (cap - 12) W1 ((at_leads HAT.out 12 16 (by omega) (by rw [HN.out]; omega)).later hb) (sub_byte HB.out 12 16) (by omega) (by omega)
  have hD : slotD l = if 4080 < val (recd.sub l 8 12) then none else if val (recd.sub l 12 16) ≠ recd.sumOf (recd.sub l 0 12 ++ recd.sub l 16 (16 + val (recd.sub l 8 12))) then none else some (val (recd.sub l 0 8), recd.sub l 16 (16 + val (recd.sub l 8 12))) := by
    unfold slotD
    rw [sub_zero, sub_zero]
  obtain ⟨t, ht⟩ : ∃ t, val (recd.sub l 0 8) = t := ⟨_, rfl⟩
  obtain ⟨m, hm⟩ : ∃ m, val (recd.sub l 8 12) = m := ⟨_, rfl⟩
  obtain ⟨u, hu⟩ : ∃ u, val (recd.sub l 12 16) = u := ⟨_, rfl⟩
  rw [ht] at C1 hD
  rw [hm] at C2 hD
  rw [hu] at C3 hD
  have HC1 := Lib.hid C1
  have HC2 := Lib.hid C2
  have HC3 := Lib.hid C3
  have HD := Lib.hid hD
  clear C1 C2 C3 hD ht hm hu
  go_enter Tryd.func54, Tryd.ntmps54
  go_wp2_with fail
  go_quiet (fail)
  obtain ⟨w1, hw1⟩ : ∃ w1, w.drewN nq = w1 := ⟨_, rfl⟩
  have B1 : Hid (Below w.heap.size w w1) := hw1 ▸ below_draws (Below.refl _ _) nq
  have Q1 : Hid (∃ q, w1 = w.drewN q) := ⟨nq, hw1.symm⟩
  rw [hw1]
  clear hw1
  have D1 : Hid (∀ q, Calls Tryd.prog 66 #[.slice (some ⟨g, off, none⟩) 8 cap] (w1.drewN q) fun e w'' => e = .returned (.int .u64 ((t : Nat) : Int)) ∧ ∃ z, w'' = w1.drewN z) := fun q =>
    (HC1.out (w1.drewN q) (below_draws B1.out q)).mono fun e w'' h => ⟨h.1, q, h.2.symm⟩
  have D2 : Hid (∀ q, Calls Tryd.prog 66 #[.slice (some ⟨g, off + 8, none⟩) 4 (cap - 8)] (w1.drewN q) fun e w'' => e = .returned (.int .u64 ((m : Nat) : Int)) ∧ ∃ z, w'' = w1.drewN z) := fun q =>
    (HC2.out (w1.drewN q) (below_draws B1.out q)).mono fun e w'' h => ⟨h.1, q, h.2.symm⟩
  go_wp2_with fail
  go_quiet ((first | (go_at_call 66; with_reducible exact D1.out _) | (go_at_call 66; with_reducible exact D2.out _)))
  obtain ⟨w2, hw2⟩ : ∃ w2, w1.drewN nq = w2 := ⟨_, rfl⟩
  have B2 : Hid (Below w.heap.size w w2) := hw2 ▸ below_draws B1.out nq
  have Q2 : Hid (∃ q, w2 = w.drewN q) := by
    obtain ⟨q, hq⟩ := Q1.out
    exact ⟨q + nq, by rw [← hw2, hq, World.drewN_drewN]⟩
  rw [hw2]
  clear hw2 D1 D2 B1 Q1
  by_cases hbig : 4080 < m
  · have hI : (4080 : Int) < (m : Int) := by omega
    have HV : Hid (slotD l = none) := by show slotD l = none; rw [HD.out, if_pos hbig]
    clear hbig
    go_wp2_with fail
    refine bodyPost_ret (v := .tuple #[.int .u64 0, .slice none 0 0, .bool false]) (by simp [results, Tryd.results54, go_sem]; try rfl) rfl ⟨by rw [HV.out]; rfl, Q2.out⟩
  · have hI : ¬ (4080 : Int) < (m : Int) := by omega
    have s6 : ∀ W, (Instr.slice 44 (.slice (some ⟨g, off + 16, none⟩) 4080 (cap - 16)) none (some (.int .u64 (m : Int))) none).run Tryd.prog W = .ok (.slice (some ⟨g, off + 16, none⟩) m (cap - 16)) W := run_front8 g (off + 16) 4080 (cap - 16) m (by omega)
    obtain ⟨x, hx⟩ : ∃ x, recd.sub l 16 (16 + m) = x := ⟨_, rfl⟩
    have hxl : x.length = m := by rw [← hx, sub_length _ _ _ (by rw [HN.out]; omega)]; omega
    obtain ⟨sm, hsm⟩ : ∃ sm, recd.sumOf (recd.sub l 0 12 ++ x) = sm := ⟨_, rfl⟩
    have hd := HD.out
    rw [if_neg hbig, hx, hsm] at hd
    have CS : Calls Tryd.prog 60 #[.slice (some ⟨g, off, none⟩) 12 cap, .slice (some ⟨g, off + 16, none⟩) m (cap - 16)] w2 fun e w'' => e = .returned (.int .u64 ((sm : Nat) : Int)) ∧ w2 = w'' :=
      (slsum_any _ (HT.out.later B2.out) _ _ 12 m cap (cap - 16) (recd.sub l 0 12) x
        (by have := (at_leads HAT.out 0 12 (by omega) (by rw [HN.out]; omega)).later B2.out; rw [Nat.add_zero] at this; exact this)
        (by rw [← hx]; exact (at_leads HAT.out 16 (16 + m) (by omega) (by rw [HN.out]; omega)).later B2.out)
        (sub_byte HB.out 0 12) (by rw [← hx]; exact sub_byte HB.out _ _) (sub_length l 0 12 (by rw [HN.out]; omega)) hxl (by decide) (by omega)).mono fun e w'' h => ⟨by rw [h.1, hsm], h.2⟩
    have HCS := Lib.hid CS
    have HCG := Lib.hid (HC3.out w2 B2.out)
    have HX := Lib.hid hxl
    have HDD := Lib.hid hd
    clear CS hxl hd hx hsm hbig s1 s2 s3 s4 HC1 HC2 HC3
    go_wp2_with fail
    refine HCG.out.mono ?_
    rintro e w3 ⟨rfl, rfl⟩
    go_wp2_with fail
    refine HCS.out.mono ?_
    rintro e w3 ⟨rfl, rfl⟩
    by_cases hs : u = sm
    · have hI2 : ((u : Int) != (sm : Int)) = false := by rw [hs]; simp
      have HV : Hid (slotD l = some (t, x)) := by show slotD l = some (t, x); rw [HDD.out, if_neg (by simp [hs])]
      clear hs
      go_wp2_with fail
      refine bodyPost_ret (v := .tuple #[.int .u64 (t : Int), .slice (some ⟨g, off + 16, none⟩) m (cap - 16), .bool true]) (by simp [results, Tryd.results54, go_sem]; try rfl) rfl ⟨by rw [HV.out, decV, HX.out], Q2.out⟩
    · have hI2 : ((u : Int) != (sm : Int)) = true := by rw [bne_iff_ne]; omega
      have HV : Hid (slotD l = none) := by show slotD l = none; rw [HDD.out, if_pos hs]
      clear hs
      go_wp2_with fail
      refine bodyPost_ret (v := .tuple #[.int .u64 0, .slice none 0 0, .bool false]) (by simp [results, Tryd.results54, go_sem]; try rfl) rfl ⟨by rw [HV.out]; rfl, Q2.out⟩
end Go.Proofs.YtpgclhpobijdeaaDoor.slots
