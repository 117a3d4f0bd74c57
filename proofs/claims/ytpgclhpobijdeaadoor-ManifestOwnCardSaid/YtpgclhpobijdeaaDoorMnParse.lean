/-
  CONTRACT of manifest.parse.
-/
import Derived.Test.YtpgclhpobijdeaaDoorMnCells
import Derived.Test.YtpgclhpobijdeaaDoorMBase
import Derived.Deep.RegionHeld3
import Derived.Deep.Cut
namespace Go.Proofs.YtpgclhpobijdeaaDoor.man
open Go.RowKit Go.Proofs.YtpgclhpobijdeaaDoor.disk Go.Proofs.YtpgclhpobijdeaaDoor.recd Go.Proofs.YtpgclhpobijdeaaDoor.num Go.Proofs.YtpgclhpobijdeaaDoor.scan
set_option linter.unusedVariables false

theorem run_tail (a : Option Addr) (n cap p : Nat) (hp : p ≤ n) (_ : n ≤ cap) (w : World) : (Instr.slice 44 (.slice a n cap) (some (.int .i64 (p : Int))) none none).run Tryd.prog w = .ok (.slice (cutAt a cap p) (n - p) (cap - p)) w := by
  rw [run_slice_l w 44 _ n cap (by rw [byte_elem]; exact Tryd.underlying44) .i64 (p : Int) (by omega) (by omega), byte_elem, byte_sizeOf]
  simp [Result.andThen, sliced, cutAt]
theorem leads_tail {w : World} {a : Option Addr} {l : List Int} {cap : Nat} (h : Leads w a l) (p : Nat) (hp : p ≤ l.length) (hc : l.length ≤ cap) : Leads w (cutAt a cap p) (l.drop p) := by
  have := leads_cut h p l.length hp (Nat.le_refl _) hc
  rwa [List.take_of_length_le (by rw [List.length_drop]; omega)] at this
/-- Bytes that are read. -/
structure Bytes (w : World) (a : Option Addr) (n cap : Nat) (b : List Int) : Prop where
  leads : Leads w a b
  byte : Byte b
  length : b.length = n
  le : n ≤ cap
  most : cap ≤ 9223372036854775807
  nil : a = none → n = 0 ∧ cap = 0
  addr : a = none ∨ ∃ g off, a = some ⟨g, off, none⟩ ∧ g < w.heap.size
theorem below_turn {R : Nat → Prop} {w w1 w2 : World} (h : Below w.heap.size w w1) (t : Turn R w1 w2) (hR : ∀ k, R k → w.heap.size ≤ k) : Below w.heap.size w w2 :=
  ⟨t.os.trans h.os, t.tape.trans h.tape, t.output.trans h.output, Nat.le_trans h.size t.size, fun k hk => (t.block k (Nat.lt_of_lt_of_le hk h.size) (fun e => by have := hR k e; omega)).trans (h.block k hk)⟩
/-- What parse has read. -/
structure Par (w : World) (r g n : Nat) (b : List Int) (i : Nat) (wr : World) : Prop where
  below : Below w.heap.size w wr
  rdr : Rdr wr r (restT i b)
  row : ∃ xs, xs.length = i ∧ tens xs = tensOf i b ∧ OwnR wr g n (flat fTen (xs ++ List.replicate (n - i) zeroTS)) ∧ Fresh wr g xs
  r0 : w.heap.size ≤ r
  rg : r < g
  len : n ≤ 6
  byte : Byte b
/-- .. within a tenant. -/
structure Inn (w : World) (r g n h c k : Nat) (xs : List TS) (L : List Value) (rest : List Int) (j : Nat) (wq : World) : Prop where
  below : Below w.heap.size w wq
  row : OwnR wq g n L
  rdr : Rdr wq r (rest.drop (6 * j))
  segs : Segs wq h c (segsOf j rest ++ List.replicate (c - j) 0)
  fresh : Fresh wq g xs
  apart : ∀ x ∈ xs, x.a ≠ some ⟨h, 0, none⟩
  gh : g < h
  cell : wq.cell? ⟨g, k * 6 + 5, none⟩ = some (.slice (some ⟨h, 0, none⟩) c c)
theorem Inn.step {w wr w5 : World} {r g n h c k j : Nat} {xs : List TS} {L : List Value} {rest : List Int} (I : Inn w r g n h c k xs L rest j wr) (t : Turn (fun x => x = r) wr.drew w5) (r5 : Rdr w5 r ((rest.drop (6 * j)).drop 6)) (hj : j < c) (hr : w.heap.size ≤ r) (hrg : r < g) :
    Inn w r g n h c k xs L rest (j + 1) (w5.setCell ⟨h, j, none⟩ (.int .i64 (rd (rest.drop (6 * j)) : Int))) := by
  obtain ⟨q1, q2, q3, q4, q5, q6, q7, q8⟩ := I
  have t0 : Turn (fun x => x = r) wr w5 := ⟨t.os, t.tape, t.output, t.size, fun x hx hn => t.block x hx hn⟩
  obtain ⟨w6, hw6⟩ : ∃ w6, w5.setCell ⟨h, j, none⟩ (.int .i64 (rd (rest.drop (6 * j)) : Int)) = w6 := ⟨_, rfl⟩
  have t1 : Turn (fun x => x = h) w5 w6 := by rw [← hw6]; exact (Turn.refl (fun x => x = h) _).setCell j (.int .i64 (rd (rest.drop (6 * j)) : Int)) (.inl rfl)
  have hgl := q2.lt
  have hhl := q4.lt
  have s5 : Segs w5 h c (segsOf j rest ++ List.replicate (c - j) 0) := q4.same (t0.block h hhl (by omega))
  have s6 : Segs w6 h c (segsOf (j + 1) rest ++ List.replicate (c - (j + 1)) 0) := by
    rw [← seg_lay hj, ← hw6]; exact s5.put j _
  have b5 := below_turn q1 t0 (by intro x hx; omega)
  rw [hw6]
  have f5 := q5.turned t0 (by intro x hx _; omega)
  refine ⟨below_turn b5 t1 (by intro x hx; omega), (q2.same (t0.block g hgl (by omega))).same (t1.block g (by have := t0.size; omega) (by omega)), ?_, s6, ?_, q6, q7, ?_⟩
  · rw [show 6 * (j + 1) = 6 * j + 6 by omega, ← List.drop_drop]
    exact r5.turned t1 (by intro x hx; omega)
  · intro x hx
    obtain ⟨h', a1, a2, a3, a4, a5, a6⟩ := f5 x hx
    refine ⟨h', a1, a2, a3, a4, a5.same (t1.block h' a5.lt fun e => q6 x hx (by rw [a1, e])), a6⟩
  · rw [t1.cell (by have := t0.size; omega) (by omega), t0.cell hgl (by omega)]
    exact q8
theorem u32_rd {b : List Int} (h : Byte b) : IntKind.u32.wrap ((rd b : Nat) : Int) = ((rd b % 4294967296 : Nat) : Int) := by rw [IntKind.wrap_u32]; omega
theorem i64_rd {b : List Int} (h : Byte b) : IntKind.i64.wrap ((rd b : Nat) : Int) = ((rd b : Nat) : Int) := by have := rd_lt h; rw [IntKind.wrap_i64]; omega
theorem umin_run (V : World) (n m : Nat) : (Builtin.min_ #[32, 32] 32 #[.int .u64 (n : Int), .int .u64 (m : Int)]).run Tryd.prog V = .ok (.int .u64 ((min n m : Nat) : Int)) V := by
  rw [Lib.run_min_ints]; congr 2; omega

set_option maxRecDepth 100000 in
set_option maxHeartbeats 2000000 in
theorem parse_any (a : Option Addr) (len cap : Nat) (b : List Int) (w : World) (h : Bytes w a len cap b) : Calls Tryd.prog 32 #[.slice a len cap] w (MadeT w (parse b)) := by
  obtain ⟨m, hm⟩ : ∃ m, min 4 len = m := ⟨_, rfl⟩
  have hml : m ≤ len := by omega
  have hlc := h.le
  have hcI : (cap : Int) ≤ 9223372036854775807 := by have := h.most; omega
  have hdr : b.drop 4 = b.drop m := by
    have := h.length
    rcases Nat.le_total 4 len with hh | hh
    · rw [show m = 4 by omega]
    · rw [List.drop_of_length_le (by omega), List.drop_of_length_le (by omega)]
  have hmin : ∀ V, (Builtin.min_ #[3, 3] 3 #[.int .i64 4, .int .i64 (len : Int)]).run Tryd.prog V = .ok (.int .i64 (m : Int)) V := fun V => by rw [← hm, Lib.run_min_ints]; congr 2; omega
  have htail := run_tail a len cap m hml hlc
  obtain ⟨ad, had⟩ : ∃ ad, cutAt a cap m = ad := ⟨_, rfl⟩
  rw [had] at htail
  obtain ⟨r, hr⟩ : ∃ r, w.heap.size = r := ⟨_, rfl⟩
  obtain ⟨w1, hw1⟩ : ∃ w1, w.alloc (.cells #[.slice ad (len - m) (cap - m)] 95) = w1 := ⟨_, rfl⟩
  have b1 : Below w.heap.size w w1 := by rw [← hw1]; exact (Below.refl _ _).alloc (Nat.le_refl _) _
  have hR : Rdr w1 r (b.drop 4) := by
    refine ⟨h.byte.drop 4, ad, len - m, cap - m, by rw [← hw1]; exact Whole.new_ hr.symm rfl, ?_, by rw [hdr, List.length_drop, h.length], by omega, by omega, fun e => ?_, ?_⟩
    · rw [hdr, ← had]
      exact (leads_tail h.leads m (by rw [h.length]; exact hml) (by rw [h.length]; exact hlc)).later b1
    · rw [← had] at e
      rcases h.addr with h0 | ⟨g, off, rfl, _⟩
      · have := h.nil h0; omega
      · unfold cutAt at e; split at e <;> cases e
    · rw [← had]
      rcases h.addr with h0 | ⟨g, off, rfl, hg⟩
      · subst h0; exact .inl (by unfold cutAt; split <;> rfl)
      · refine .inr ?_
        unfold cutAt
        split
        · exact ⟨g, off, rfl, by omega⟩
        · exact ⟨g, off + m, by simp [Addr.add], by omega⟩
  have HSZ : Hid (r < w1.heap.size) := Lib.hid (by rw [← hw1, ← hr]; simp)
  have B1 := Lib.hid b1
  have HR := Lib.hid hR
  have W1 := Lib.hid hw1
  have HB := Lib.hid h.byte
  have HRS := Lib.hid hr
  clear h hm hdr had hR b1 hw1
  go_enter Tryd.func32, Tryd.ntmps32
  go_upto_region 2 with fail
  rw [W1.out]
  clear W1 hmin htail
  go_wp2_with fail
  refine (rdNext_any _ _ _ HR.out).mono ?_
  rintro en w2 ⟨rfl, t2, r2, s2⟩
  have hum : (Builtin.min_ #[32, 32] 32 #[.int .u64 ((rd (b.drop 4) : Nat) : Int), .int .u64 6]).run Tryd.prog w2 = .ok (.int .u64 ((min (rd (b.drop 4)) 6 : Nat) : Int)) w2 := umin_run w2 (rd (b.drop 4)) 6
  obtain ⟨n, hn⟩ : ∃ n, min (rd (b.drop 4)) 6 = n := ⟨_, rfl⟩
  have hn6 : n ≤ 6 := by omega
  rw [hn] at hum
  obtain ⟨w3, m3, o3, b3⟩ := run_make_tens w2 n hn6
  obtain ⟨g, hg⟩ : ∃ g, w2.heap.size = g := ⟨_, rfl⟩
  rw [hg] at m3 o3
  have hp : parse b = tensOf n (b.drop 10) := by rw [parse, hn]
  have P0 : Hid (Par w r g n (b.drop 10) 0 w3) := Lib.hid (by
    have bw2 : Below w.heap.size w w2 := below_turn B1.out t2 (by intro k hk; have := HRS.out; omega)
    refine ⟨bw2.trans (b3.mono bw2.size), ?_, ⟨[], rfl, rfl, o3, (fun x hx => by cases hx)⟩, by have := HRS.out; omega, ?_, hn6, HB.out.drop 10⟩
    · rw [List.drop_drop] at r2
      exact r2.turned (R := fun _ => False) (Turn.of_below b3) (fun _ _ e => e)
    · have := HSZ.out; omega)
  have HBB := Lib.hid (HB.out.drop 10)
  have HPB := Lib.hid hp
  have HN := Lib.hid hn
  clear hp t2 r2 s2 o3 b3 hn hg HR HB
  go_wp2_with fail
  go_loopw [5, 6, 7, 18] (fun _ _ _ i wr => ∃ k : Nat, k ≤ n ∧ i = .int .i64 (k : Int) ∧ Hid (Par w r g n (b.drop 10) k wr)) (fun _ _ _ i _ => n - (intOf i).toNat)
  case atStart => exact ⟨0, Nat.zero_le _, rfl, P0⟩
  case round =>
    obtain ⟨k, hk, rfl, hP⟩ := hrel
    by_cases hlt : k < n
    · have hkI : (k : Int) < (n : Int) := by omega
      have hP0 := hP.out
      obtain ⟨p1, p2, ⟨xs, p3, p4, p5, p6⟩, p7, p8, _, p10⟩ := hP0
      obtain ⟨c, hc⟩ : ∃ c, restT k (b.drop 10) = c := ⟨_, rfl⟩
      rw [hc] at p2
      have bc : Byte c := p2.byte
      obtain ⟨zs, hzs⟩ : ∃ zs, List.replicate (n - (k + 1)) zeroTS = zs := ⟨_, rfl⟩
      have erep : List.replicate (n - k) zeroTS = zeroTS :: zs := by rw [show n - k = (n - (k + 1)) + 1 by omega, List.replicate_succ, hzs]
      rw [erep] at p5
      obtain ⟨L0, hL0⟩ : ∃ L0, flat fTen (xs ++ zeroTS :: zs) = L0 := ⟨_, rfl⟩
      rw [hL0] at p5
      have hj : ∀ j, j < 6 → k * 6 + j < n * 6 := fun j hj => by omega
      have hgw := p5.lt
      have HP4 := Lib.hid p4
      have HP3 := Lib.hid p3
      have HL0 := Lib.hid hL0
      have HC := Lib.hid hc
      have HZS := Lib.hid hzs
      have HJ := Lib.hid hj
      have BC := Lib.hid bc
      have hrg : r < g := p8
      have hwr : w.heap.size ≤ r := p7
      have e0 := u32_rd bc
      have e2 := i64_rd (bc.drop 12)
      have e4 := i64_rd (bc.drop 24)
      have e5 := umin_run
      obtain ⟨v0, hv0⟩ : ∃ v, rd c = v := ⟨_, rfl⟩
      obtain ⟨v1, hv1⟩ : ∃ v, rd (c.drop 6) = v := ⟨_, rfl⟩
      obtain ⟨v2, hv2⟩ : ∃ v, rd (c.drop 12) = v := ⟨_, rfl⟩
      obtain ⟨v3, hv3⟩ : ∃ v, rd (c.drop 18) = v := ⟨_, rfl⟩
      obtain ⟨v4, hv4⟩ : ∃ v, rd (c.drop 24) = v := ⟨_, rfl⟩
      obtain ⟨v5, hv5⟩ : ∃ v, rd (c.drop 30) = v := ⟨_, rfl⟩
      rw [hv0] at e0
      rw [hv2] at e2
      rw [hv4] at e4
      obtain ⟨u, hu⟩ : ∃ u, v0 % 4294967296 = u := ⟨_, rfl⟩
      rw [hu] at e0
      obtain ⟨ct, hct⟩ : ∃ ct, min v5 60 = ct := ⟨_, rfl⟩
      have hct6 : ct ≤ 60 := by omega
      have emin : ∀ V, (Builtin.min_ #[32, 32] 32 #[.int .u64 (v5 : Int), .int .u64 60]).run Tryd.prog V = .ok (.int .u64 (ct : Int)) V := fun V => by rw [← hct]; exact e5 V v5 60
      have TEN : Hid (tenOf c = ⟨u, v1, (v2 : Int), v3, (v4 : Int), segsOf ct (c.drop 36)⟩) := Lib.hid (by rw [tenOf, cnt, hv0, hu, hv1, hv2, hv3, hv4, hv5, hct])
      have CNT : Hid (cnt c = ct) := Lib.hid (by rw [cnt, hv5, hct])
      have V0 := Lib.hid hv0
      have V1 := Lib.hid hv1
      have V2 := Lib.hid hv2
      have V3 := Lib.hid hv3
      have V4 := Lib.hid hv4
      have V5 := Lib.hid hv5
      clear hv0 hv1 hv2 hv3 hv4 hv5 hu hct e5 hP p3 p4 p7 p8 p10 hc hzs hL0 erep hj bc hkI hlt
      have hkI : (k : Int) < (n : Int) := by have := HJ.out 0 (by omega); omega
      have S0 : Hid (Below w.heap.size w wr ∧ Rdr wr r c ∧ OwnR wr g n L0 ∧ Fresh wr g xs) := Lib.hid ⟨p1, p2, p5, p6⟩
      clear p1 p2 p5 p6 hgw
      go_wp2_with fail
      refine (rdNext_any _ _ _ S0.out.2.1).mono ?_
      rintro en w1a ⟨rfl, t1, r1, s1⟩
      have S1 : Hid (Below w.heap.size w w1a ∧ Rdr w1a r (c.drop 6) ∧ OwnR w1a g n L0 ∧ Fresh w1a g xs) := Lib.hid (by
        obtain ⟨q1, q2, q3, q4⟩ := S0.out
        refine ⟨below_turn q1 t1 (by intro x hx; omega), ?_, q3.same (t1.block g q3.lt (by omega)), q4.turned t1 (by intro x hx _; omega)⟩
        first | exact r1 | (rw [List.drop_drop] at r1; exact r1))
      rw [V0.out]
      clear t1 r1 s1 S0
      go_wp2_with fail
      refine (rdNext_any _ _ _ S1.out.2.1).mono ?_
      rintro en w2a ⟨rfl, t2, r2, s2⟩
      have S2 : Hid (Below w.heap.size w w2a ∧ Rdr w2a r (c.drop 12) ∧ OwnR w2a g n L0 ∧ Fresh w2a g xs) := Lib.hid (by
        obtain ⟨q1, q2, q3, q4⟩ := S1.out
        refine ⟨below_turn q1 t2 (by intro x hx; omega), ?_, q3.same (t2.block g q3.lt (by omega)), q4.turned t2 (by intro x hx _; omega)⟩
        first | exact r2 | (rw [List.drop_drop] at r2; exact r2))
      rw [V1.out]
      clear t2 r2 s2 S1
      go_wp2_with fail
      refine (rdNext_any _ _ _ S2.out.2.1).mono ?_
      rintro en w3a ⟨rfl, t3, r3, s3⟩
      have S3 : Hid (Below w.heap.size w w3a ∧ Rdr w3a r (c.drop 18) ∧ OwnR w3a g n L0 ∧ Fresh w3a g xs) := Lib.hid (by
        obtain ⟨q1, q2, q3, q4⟩ := S2.out
        refine ⟨below_turn q1 t3 (by intro x hx; omega), ?_, q3.same (t3.block g q3.lt (by omega)), q4.turned t3 (by intro x hx _; omega)⟩
        first | exact r3 | (rw [List.drop_drop] at r3; exact r3))
      rw [V2.out]
      clear t3 r3 s3 S2
      obtain ⟨y0, z0⟩ := S3.out.2.2.1.some_ (k * 6) (HJ.out 0 (by omega))
      have f0 := S3.out.2.2.1.free (k * 6)
      obtain ⟨y1, z1⟩ := S3.out.2.2.1.some_ (k * 6 + 1) (HJ.out 1 (by omega))
      have f1 := S3.out.2.2.1.free (k * 6 + 1)
      obtain ⟨y2, z2⟩ := S3.out.2.2.1.some_ (k * 6 + 2) (HJ.out 2 (by omega))
      have f2 := S3.out.2.2.1.free (k * 6 + 2)
      go_upto_region 8 with fail
      obtain ⟨w4, hw4⟩ : ∃ w4, (((w3a.setCell ⟨g, k * 6, none⟩ (.int .u32 (u : Int))).setCell ⟨g, k * 6 + 1, none⟩ (.int .u64 (v1 : Int))).setCell ⟨g, k * 6 + 2, none⟩ (.int .i64 (v2 : Int))) = w4 := ⟨_, rfl⟩
      rw [hw4]
      obtain ⟨L1, hL1⟩ : ∃ L1, (((L0.set (k * 6) (.int .u32 (u : Int))).set (k * 6 + 1) (.int .u64 (v1 : Int))).set (k * 6 + 2) (.int .i64 (v2 : Int))) = L1 := ⟨_, rfl⟩
      have T4 : Hid (Below w.heap.size w w4 ∧ Rdr w4 r (c.drop 18) ∧ OwnR w4 g n L1 ∧ Fresh w4 g xs) := Lib.hid (by
        obtain ⟨q1, q2, q3, q4⟩ := S3.out
        have tn : Turn (fun x => x = g) w3a w4 := by rw [← hw4]; exact (((Turn.refl (fun x => x = g) _).setCell (k * 6) (.int .u32 (u : Int)) (.inl rfl)).setCell (k * 6 + 1) (.int .u64 (v1 : Int)) (.inl rfl)).setCell (k * 6 + 2) (.int .i64 (v2 : Int)) (.inl rfl)
        refine ⟨below_turn q1 tn (by intro x hx; omega), q2.turned tn (by intro x hx; omega), ?_, q4.turned tn (by intro x hx _; omega)⟩
        rw [← hw4, ← hL1]
        exact (OwnR.put (OwnR.put (OwnR.put q3 (k * 6) (.int .u32 (u : Int))) (k * 6 + 1) (.int .u64 (v1 : Int))) (k * 6 + 2) (.int .i64 (v2 : Int))))
      have HL1 := Lib.hid hL1
      clear hw4 hL1 S3
      clear z0 z1 z2 f0 f1 f2
      go_wp2_with fail
      refine (rdNext_any _ _ _ T4.out.2.1).mono ?_
      rintro en w5a ⟨rfl, t5, r5, s5⟩
      have S5 : Hid (Below w.heap.size w w5a ∧ Rdr w5a r (c.drop 24) ∧ OwnR w5a g n L1 ∧ Fresh w5a g xs) := Lib.hid (by
        obtain ⟨q1, q2, q3, q4⟩ := T4.out
        refine ⟨below_turn q1 t5 (by intro x hx; omega), ?_, q3.same (t5.block g q3.lt (by omega)), q4.turned t5 (by intro x hx _; omega)⟩
        first | exact r5 | (rw [List.drop_drop] at r5; exact r5))
      rw [V3.out]
      clear t5 r5 s5 T4
      go_wp2_with fail
      refine (rdNext_any _ _ _ S5.out.2.1).mono ?_
      rintro en w6a ⟨rfl, t6, r6, s6⟩
      have S6 : Hid (Below w.heap.size w w6a ∧ Rdr w6a r (c.drop 30) ∧ OwnR w6a g n L1 ∧ Fresh w6a g xs) := Lib.hid (by
        obtain ⟨q1, q2, q3, q4⟩ := S5.out
        refine ⟨below_turn q1 t6 (by intro x hx; omega), ?_, q3.same (t6.block g q3.lt (by omega)), q4.turned t6 (by intro x hx _; omega)⟩
        first | exact r6 | (rw [List.drop_drop] at r6; exact r6))
      rw [V4.out]
      clear t6 r6 s6 S5
      obtain ⟨y3, z3⟩ := S6.out.2.2.1.some_ (k * 6 + 3) (HJ.out 3 (by omega))
      have f3 := S6.out.2.2.1.free (k * 6 + 3)
      obtain ⟨y4, z4⟩ := S6.out.2.2.1.some_ (k * 6 + 4) (HJ.out 4 (by omega))
      have f4 := S6.out.2.2.1.free (k * 6 + 4)
      go_upto_region 9 with fail
      obtain ⟨w7, hw7⟩ : ∃ w7, ((w6a.setCell ⟨g, k * 6 + 3, none⟩ (.int .u64 (v3 : Int))).setCell ⟨g, k * 6 + 4, none⟩ (.int .i64 (v4 : Int))) = w7 := ⟨_, rfl⟩
      rw [hw7]
      obtain ⟨L2, hL2⟩ : ∃ L2, ((L1.set (k * 6 + 3) (.int .u64 (v3 : Int))).set (k * 6 + 4) (.int .i64 (v4 : Int))) = L2 := ⟨_, rfl⟩
      have T7 : Hid (Below w.heap.size w w7 ∧ Rdr w7 r (c.drop 30) ∧ OwnR w7 g n L2 ∧ Fresh w7 g xs) := Lib.hid (by
        obtain ⟨q1, q2, q3, q4⟩ := S6.out
        have tn : Turn (fun x => x = g) w6a w7 := by rw [← hw7]; exact ((Turn.refl (fun x => x = g) _).setCell (k * 6 + 3) (.int .u64 (v3 : Int)) (.inl rfl)).setCell (k * 6 + 4) (.int .i64 (v4 : Int)) (.inl rfl)
        refine ⟨below_turn q1 tn (by intro x hx; omega), q2.turned tn (by intro x hx; omega), ?_, q4.turned tn (by intro x hx _; omega)⟩
        rw [← hw7, ← hL2]
        exact (OwnR.put (OwnR.put q3 (k * 6 + 3) (.int .u64 (v3 : Int))) (k * 6 + 4) (.int .i64 (v4 : Int))))
      have HL2 := Lib.hid hL2
      clear hw7 hL2 S6
      clear z3 z4 f3 f4
      go_wp2_with fail
      refine (rdNext_any _ _ _ T7.out.2.1).mono ?_
      rintro en w8a ⟨rfl, t8, r8, s8⟩
      have S8 : Hid (Below w.heap.size w w8a ∧ Rdr w8a r (c.drop 36) ∧ OwnR w8a g n L2 ∧ Fresh w8a g xs) := Lib.hid (by
        obtain ⟨q1, q2, q3, q4⟩ := T7.out
        refine ⟨below_turn q1 t8 (by intro x hx; omega), ?_, q3.same (t8.block g q3.lt (by omega)), q4.turned t8 (by intro x hx _; omega)⟩
        first | exact r8 | (rw [List.drop_drop] at r8; exact r8))
      rw [V5.out]
      clear t8 r8 s8 T7
      obtain ⟨w9, m9, o9, b9⟩ := run_make_segs w8a ct hct6
      obtain ⟨h, hh⟩ : ∃ h, w8a.heap.size = h := ⟨_, rfl⟩
      rw [hh] at m9 o9
      have S9 : Hid (Below w.heap.size w w9 ∧ Rdr w9 r (c.drop 36) ∧ OwnR w9 g n L2 ∧ Fresh w9 g xs ∧ Segs w9 h ct (List.replicate ct 0) ∧ g < h ∧ ∀ x ∈ xs, x.a ≠ some ⟨h, 0, none⟩) := Lib.hid (by
        obtain ⟨q1, q2, q3, q4⟩ := S8.out
        refine ⟨q1.trans (b9.mono q1.size), q2.turned (R := fun _ => False) (Turn.of_below b9) (fun _ _ e => e), q3.same (b9.block g q3.lt), q4.turned (R := fun _ => False) (Turn.of_below b9) (fun _ _ _ e => e), o9, by have := q3.lt; omega, fun x hx e => ?_⟩
        obtain ⟨hx', a1, _, _, _, a5, _⟩ := q4 x hx
        rw [a1] at e
        injection e with e
        injection e with e
        have := a5.lt
        omega)
      obtain ⟨y5, z5⟩ := S9.out.2.2.1.some_ (k * 6 + 5) (HJ.out 5 (by omega))
      have f5 := S9.out.2.2.1.free (k * 6 + 5)
      clear S8 hh o9 b9
      go_upto_region 10 with fail
      obtain ⟨w10, hw10⟩ : ∃ w10, w9.setCell ⟨g, k * 6 + 5, none⟩ (.slice (some ⟨h, 0, none⟩) ct ct) = w10 := ⟨_, rfl⟩
      rw [hw10]
      obtain ⟨L3, hL3⟩ : ∃ L3, L2.set (k * 6 + 5) (.slice (some ⟨h, 0, none⟩) ct ct) = L3 := ⟨_, rfl⟩
      have I0 : Hid (Inn w r g n h ct k xs L3 (c.drop 36) 0 w10) := Lib.hid (by
        obtain ⟨q1, q2, q3, q4, q5, q6, q7⟩ := S9.out
        have tn : Turn (fun x => x = g) w9 w10 := by rw [← hw10]; exact (Turn.refl (fun x => x = g) _).setCell (k * 6 + 5) (.slice (some ⟨h, 0, none⟩) ct ct) (.inl rfl)
        have o3 : OwnR w10 g n L3 := by rw [← hw10, ← hL3]; exact q3.put _ _
        refine ⟨below_turn q1 tn (by intro x hx; omega), o3, q2.turned tn (by intro x hx; omega), q5.same (tn.block h q5.lt (by omega)), q4.turned tn (by intro x hx _; omega), q7, q6, ?_⟩
        rw [o3.cell _ (HJ.out 5 (by omega)), ← hL3, List.getElem?_set_self (by rw [q3.1]; exact HJ.out 5 (by omega))])
      have HL3 := Lib.hid hL3
      have zc := I0.out.cell
      clear hw10 hL3 S9 z5 f5 m9
      go_wp2_with fail
      clear zc
      go_loopw [7, 58] (fun _ i wq => ∃ j : Nat, j ≤ ct ∧ i = .int .i64 (j : Int) ∧ Hid (Inn w r g n h ct k xs L3 (c.drop 36) j wq)) (fun _ i _ => ct - (intOf i).toNat)
      case atStart => exact ⟨0, Nat.zero_le _, rfl, I0⟩
      case round =>
        clear I0
        obtain ⟨j, hj, rfl, hI⟩ := hrel
        by_cases hjl : j < ct
        · have hjI : (j : Int) < (ct : Int) := by omega
          have zc := hI.out.cell
          have zcx : wr.drew.cell? ⟨g, k * 6 + 5, none⟩ = some (.slice (some ⟨h, 0, none⟩) ct ct) := zc
          have rx : Rdr wr.drew r ((c.drop 36).drop (6 * j)) := hI.out.rdr.turned (R := fun _ => False) ((Turn.refl _ _).draws 1) (fun _ _ e => e)
          have CN := Lib.hid (rdNext_any wr.drew r _ rx)
          have evj := i64_rd rx.byte
          obtain ⟨vj, hvj⟩ : ∃ vj, rd ((c.drop 36).drop (6 * j)) = vj := ⟨_, rfl⟩
          rw [hvj] at evj
          have VJ := Lib.hid hvj
          have hgl := hI.out.row.lt
          have hgh := hI.out.gh
          clear hvj rx
          go_upto_region 13 with fail
          go_region_held3 (fun W => W.cell? ⟨g, k * 6 + 5, none⟩ = some (.slice (some ⟨h, 0, none⟩) ct ct)) (first | exact zcx | exact zcy | exact NI.out.cell)
            (first | (go_at_call 52; refine CN.out.mono ?_; rintro en w5 ⟨rfl, t5, r5, s5⟩; rw [VJ.out]; have zcy : w5.cell? ⟨g, k * 6 + 5, none⟩ = some (.slice (some ⟨h, 0, none⟩) ct ct) := (t5.cell (b := g) (o := k * 6 + 5) hgl (by omega)).trans zcx; have SG : Segs w5 h ct (segsOf j (c.drop 36) ++ List.replicate (ct - j) 0) := hI.out.segs.same (t5.block h hI.out.segs.lt (by omega)); obtain ⟨yy, sy⟩ := SG.some_ j hjl; have fy := SG.free j; have NI := Lib.hid (hI.out.step t5 r5 hjl hwr hrg); rw [VJ.out] at NI; clear t5 r5 s5 SG))
          all_goals
            clear zcx zcy sy fy zc
            go_wp2_with fail
            refine ⟨⟨j + 1, by omega, by rw [Int.natCast_add]; rfl, NI⟩, ?_⟩
            show ct - ((j : Int) + 1).toNat < ct - (j : Int).toNat
            omega
        · obtain rfl : j = ct := by omega
          have NX : Hid (Par w r g n (b.drop 10) (k + 1) wr) := Lib.hid (by
            obtain ⟨q1, q2, q3, q4, q5, q6, q7, q8⟩ := hI.out
            rw [Nat.sub_self, List.replicate_zero, List.append_nil] at q4
            have bc := BC.out
            refine ⟨q1, ?_, ⟨xs ++ [⟨tenOf c, some ⟨h, 0, none⟩, j, j⟩], by rw [List.length_append, HP3.out]; rfl, ?_, ?_, ?_⟩, hwr, hrg, hn6, HBB.out⟩
            · rw [restT_succ, HC.out, CNT.out, ← List.drop_drop]
              exact q3
            · rw [tensOf_succ, HC.out, ← HP4.out, tens, List.map_append]
              rfl
            · rw [HZS.out, List.append_assoc, List.singleton_append, ← flat_lay xs zs zeroTS _ k HP3.out, HL0.out]
              have e := TEN.out
              simp only
              rw [e]
              simp only
              rw [HL1.out, HL2.out, HL3.out]
              exact q2
            · intro x hx
              rcases List.mem_append.1 hx with hx | hx
              · exact q5 x hx
              · rw [List.mem_singleton.1 hx]
                refine ⟨h, rfl, q7, by rw [TEN.out]; exact segsOf_length _ _, rfl, ?_, tenOf_fit bc⟩
                simp only
                rw [TEN.out]
                exact q4)
          clear hI
          go_wp2_with fail
          refine ⟨⟨k + 1, by have := HJ.out 0 (by omega); omega, by rw [Int.natCast_add]; rfl, NX⟩, ?_⟩
          show n - ((k : Int) + 1).toNat < n - (k : Int).toNat
          omega
    · obtain rfl : k = n := by omega
      have F : Hid (MadeT w (parse b) (.returned (.slice (some ⟨g, 0, none⟩) k k)) wr) := by
        obtain ⟨p1, p2, ⟨xs, p3, p4, p5, p6⟩, p7, p8, _, _⟩ := hP.out
        rw [Nat.sub_self, List.replicate_zero, List.append_nil] at p5
        exact Lib.hid ⟨g, k, xs, rfl, by rw [p4, HPB.out], p3, p5, p6, by omega, p1⟩
      clear hP
      go_wp2_with fail
      go_ret
      exact F.out
end Go.Proofs.YtpgclhpobijdeaaDoor.man
