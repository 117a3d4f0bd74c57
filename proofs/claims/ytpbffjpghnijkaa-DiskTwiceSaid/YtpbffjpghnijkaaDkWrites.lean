/-
  CONTRACT of (*disk.FS).Write.
-/
import Derived.Test.YtpbffjpghnijkaaDkOps
import Derived.Deep.RegionHeld3
namespace Go.Proofs.Ytpbffjpghnijkaa.disk
open Go.RowKit Go.Maps

theorem write_nil (w : World) (s : ByteArray) (at_ : Int) (ad : Option Addr) (m mcap : Nat) : Calls Try.prog 14 #[.pointer none, .string s, .int .i64 at_, .slice ad m mcap] w fun e w' => e = .returned (.int .i64 1) ∧ w = w' := by
  go_enter Try.func14, Try.ntmps14
  go_wp2_with fail
  refine (begin_nil w).mono ?_
  rintro e w1 ⟨rfl, rfl⟩
  go_wp2
  go_ret
  exact ⟨rfl, rfl⟩

/-- What goes to 'Write' besides: bytes that lie outside the disk. -/
structure Given (R : Nat → Prop) (w : World) (ad : Option Addr) (m : Nat) (part : List Int) : Prop where
  leads : Leads w ad part
  length : part.length = m
  byte : Byte part
  past : ∀ b off, ad = some ⟨b, off, none⟩ → part ≠ [] → ¬ R b
  small : m ≤ 100000000
theorem Given.lt {R : Nat → Prop} {w : World} {ad : Option Addr} {m : Nat} {part : List Int} (h : Given R w ad m part) : ∀ b off, ad = some ⟨b, off, none⟩ → part ≠ [] → b < w.heap.size := fun b off e hne => by
  obtain ⟨b', off', e', hb⟩ := h.leads.lt hne
  rw [e] at e'
  obtain ⟨rfl, _⟩ : b = b' ∧ off = off' := by simpa using e'
  exact hb

set_option maxRecDepth 100000 in
set_option maxHeartbeats 2000000 in
theorem write_full {R : Nat → Prop} (w : World) (p : Nat) (S : St) (n : Nat) (h : Disk R w p S n) (hn : n ≤ 10000000) (s : ByteArray) (hs : s.size ≤ maxLen) (ad : Option Addr) (m mcap : Nat) (part : List Int) (hg : Given R w ad m part)
    (nm : Nm) (hnm : s.data.toList = nm) (h0 : ¬ S.fail = 0) (b N q u : Nat) (hd : dlook nm S.now = some b) (hN : (S.file b).now.length = N) (hq : q ≤ N) (hu : S.used = u) (hgr : (N : Int) < (q : Int) + (m : Int)) (hfull : S.room < (u : Int) + ((q : Int) + (m : Int) - (N : Int))) :
    Calls Try.prog 14 #[.pointer (some ⟨p, 0, none⟩), .string s, .int .i64 (q : Int), .slice ad m mcap] w (CallOut R w p (S.write nm (q : Int) part) (n + 2)) := by
  have cB := Lib.hid (begin_any w p S n h (by omega))
  rw [if_neg h0] at cB
  have HS := Lib.hid hs
  have HG := Lib.hid hg
  have HNM := Lib.hid hnm
  have hm := hg.small
  have hfit := h.fit (h.ok.inow _ (dlook_mem hd))
  have hmo := hfit.most
  rw [hN] at hmo
  have HN := Lib.hid hN
  have HD := Lib.hid hd
  have hpl := hg.length
  have hused := used_ge hd
  rw [hN, hu] at hused
  have hok := h.ok
  have hroomle := hok.room.2
  have hub : u ≤ 10000000 * 4194304 := by
    rw [← hu]
    have h1 := sumOf_le (fun b => (S.file b).now.length) 4194304 S.now (fun x hx => (h.fit (hok.inow x hx)).most)
    have h2 := hok.now
    have h3 : S.now.length * 4194304 ≤ 10000000 * 4194304 := Nat.mul_le_mul_right _ (by omega)
    exact Nat.le_trans h1 h3
  have hub2 : (u : Int) ≤ 41943040000000 := by omega
  have cU := Lib.hid (fun (w1 : World) (d : Disk (fun k => R k ∨ w.heap.size ≤ k) w1 p S.begin (n + 1)) => used_any w1 p S.begin (n + 1) d (by omega))
  rw [show S.begin.used = u from hu] at cU
  have hwrap : IntKind.i64.wrap ((u : Int) + ((q : Int) + (m : Int) - (N : Int))) = (u : Int) + ((q : Int) + (m : Int) - (N : Int)) := by rw [IntKind.wrap_i64]; omega
  have HWR := Lib.hid hwrap
  have hv : S.write nm (q : Int) part = (2, S.begin) := by rw [St.write, if_neg h0]; simp only [hd]; rw [hN, if_neg (by omega), hpl, hu, if_pos ⟨by omega, hfull⟩]
  have HV := Lib.hid hv
  have HFU := Lib.hid hfull
  clear hv h hnm hs h0 hd hN hg hfit hpl hu hub hok hwrap hfull
  go_enter Try.func14, Try.ntmps14
  go_wp2_with fail
  refine cB.out.mono ?_
  rintro e w1 ⟨rfl, d1, t1⟩
  have T1 := Lib.hid t1
  have DD1 := Lib.hid d1
  obtain ⟨C, mn, ms, wv, d1⟩ := d1
  have hlk := d1.now.look s HS.out
  have hc1 := d1.c1
  have hbf : b ∈ S.begin.files := d1.ok.inow _ (dlook_mem HD.out)
  rw [HNM.out, show dlook nm S.begin.now = some b from HD.out, ptrOf] at hlk
  obtain ⟨vn, vs, dm, hf⟩ := d1.file b hbf
  obtain ⟨av, cv, ev, _⟩ := hf.now.form
  subst ev
  have hf0 : w1.cell? ⟨b, 0, none⟩ = some (.slice av N cv) := by rw [← HN.out]; exact hf.cell0
  have hroom : w1.cell? ⟨p, 0, none⟩ = some (.int .i64 S.room) := d1.c0
  have D1 := Lib.hid d1
  have HBF := Lib.hid hbf
  clear d1 t1 hf hbf
  go_wp2_with fail
  have hwrap := HWR.out
  have hdec : decide (S.room < (u : Int) + ((q : Int) + (m : Int) - (N : Int))) = true := decide_eq_true HFU.out
  have B0 : Hid (Below w1.heap.size w1 w1.drew) := ⟨rfl, rfl, rfl, Nat.le_refl _, fun _ _ => rfl⟩
  have hroom1 : w1.drew.cell? ⟨p, 0, none⟩ = some (.int .i64 S.room) := hroom
  go_region_held3 (fun w' => Hid (Below w1.heap.size w1 w') ∧ w'.cell? ⟨p, 0, none⟩ = some (.int .i64 S.room)) ((constructor <;> assumption))
    (first | (go_at_call 27; refine (cU.out _ (DD1.out.later B0.out)).mono ?_; rintro e w2 ⟨rfl, b2⟩; have hroom2 : w2.cell? ⟨p, 0, none⟩ = some (.int .i64 S.room) := (b2.cell (p := ⟨p, 0, none⟩) (by exact D1.out.cells.lt)).trans (by exact hroom); have B2 : Hid (Below w1.heap.size w1 w2) := ⟨b2.os, b2.tape, b2.output, b2.size, b2.block⟩; clear b2))
  clear hwrap hdec hroom hroom1 hroom2
  go_wp2_with fail
  go_ret
  rw [HV.out]
  have hb2 : Below w1.heap.size w1 w2 := B2.out
  exact ⟨rfl, (DD1.out.later hb2).more (by omega), T1.out.trans (Turn.of_below (R := fun _ => False) hb2) fun _ _ e => e.elim⟩

set_option maxRecDepth 100000 in
set_option maxHeartbeats 2000000 in
theorem write_fits {R : Nat → Prop} (w : World) (p : Nat) (S : St) (n : Nat) (h : Disk R w p S n) (hn : n ≤ 10000000) (s : ByteArray) (hs : s.size ≤ maxLen) (ad : Option Addr) (m mcap : Nat) (part : List Int) (hg : Given R w ad m part)
    (nm : Nm) (hnm : s.data.toList = nm) (h0 : ¬ S.fail = 0) (b N q u : Nat) (hd : dlook nm S.now = some b) (hN : (S.file b).now.length = N) (hq : q ≤ N) (hu : S.used = u) (hgr : (N : Int) < (q : Int) + (m : Int)) (hfull : ¬ S.room < (u : Int) + ((q : Int) + (m : Int) - (N : Int))) :
    Calls Try.prog 14 #[.pointer (some ⟨p, 0, none⟩), .string s, .int .i64 (q : Int), .slice ad m mcap] w (CallOut R w p (S.write nm (q : Int) part) (n + 2)) := by
  have cB := Lib.hid (begin_any w p S n h (by omega))
  rw [if_neg h0] at cB
  have HS := Lib.hid hs
  have HG := Lib.hid hg
  have HNM := Lib.hid hnm
  have hm := hg.small
  have hfit := h.fit (h.ok.inow _ (dlook_mem hd))
  have hmo := hfit.most
  rw [hN] at hmo
  have HN := Lib.hid hN
  have HD := Lib.hid hd
  have hpl := hg.length
  have hused := used_ge hd
  rw [hN, hu] at hused
  have hok := h.ok
  have hroomle := hok.room.2
  have hub : u ≤ 10000000 * 4194304 := by
    rw [← hu]
    have h1 := sumOf_le (fun b => (S.file b).now.length) 4194304 S.now (fun x hx => (h.fit (hok.inow x hx)).most)
    have h2 := hok.now
    have h3 : S.now.length * 4194304 ≤ 10000000 * 4194304 := Nat.mul_le_mul_right _ (by omega)
    exact Nat.le_trans h1 h3
  have hub2 : (u : Int) ≤ 41943040000000 := by omega
  have cU := Lib.hid (fun (w1 : World) (d : Disk (fun k => R k ∨ w.heap.size ≤ k) w1 p S.begin (n + 1)) => used_any w1 p S.begin (n + 1) d (by omega))
  rw [show S.begin.used = u from hu] at cU
  have hwrap : IntKind.i64.wrap ((u : Int) + ((q : Int) + (m : Int) - (N : Int))) = (u : Int) + ((q : Int) + (m : Int) - (N : Int)) := by rw [IntKind.wrap_i64]; omega
  have HWR := Lib.hid hwrap
  have hv : S.write nm (q : Int) part = (0, S.begin.set b ((S.file b).write q part)) := by rw [St.write, if_neg h0]; simp only [hd]; rw [hN, if_neg (by omega), hpl, hu, if_neg (fun e => hfull e.2), Int.toNat_natCast]
  have hqm : q + m ≤ 4194304 := by omega
  have HV := Lib.hid hv
  have HFU := Lib.hid hfull
  clear hv h hnm hs h0 hd hN hg hfit hpl hu hub hok hwrap hfull
  go_enter Try.func14, Try.ntmps14
  go_wp2_with fail
  refine cB.out.mono ?_
  rintro e w1 ⟨rfl, d1, t1⟩
  have T1 := Lib.hid t1
  have DD1 := Lib.hid d1
  obtain ⟨C, mn, ms, wv, d1⟩ := d1
  have hlk := d1.now.look s HS.out
  have hc1 := d1.c1
  have hbf : b ∈ S.begin.files := d1.ok.inow _ (dlook_mem HD.out)
  rw [HNM.out, show dlook nm S.begin.now = some b from HD.out, ptrOf] at hlk
  obtain ⟨vn, vs, dm, hf⟩ := d1.file b hbf
  obtain ⟨av, cv, ev, _⟩ := hf.now.form
  subst ev
  have hf0 : w1.cell? ⟨b, 0, none⟩ = some (.slice av N cv) := by rw [← HN.out]; exact hf.cell0
  have hroom : w1.cell? ⟨p, 0, none⟩ = some (.int .i64 S.room) := d1.c0
  have D1 := Lib.hid d1
  have HBF := Lib.hid hbf
  clear d1 t1 hf hbf
  go_wp2_with fail
  have hwrap := HWR.out
  have hdec : decide (S.room < (u : Int) + ((q : Int) + (m : Int) - (N : Int))) = false := decide_eq_false (by have := HFU.out; omega)
  have B0 : Hid (Below w1.heap.size w1 w1.drew) := ⟨rfl, rfl, rfl, Nat.le_refl _, fun _ _ => rfl⟩
  have hroom1 : w1.drew.cell? ⟨p, 0, none⟩ = some (.int .i64 S.room) := hroom
  go_region_held3 (fun w' => Hid (Below w1.heap.size w1 w') ∧ w'.cell? ⟨p, 0, none⟩ = some (.int .i64 S.room)) ((constructor <;> assumption))
    (first | (go_at_call 27; refine (cU.out _ (DD1.out.later B0.out)).mono ?_; rintro e w2 ⟨rfl, b2⟩; have hroom2 : w2.cell? ⟨p, 0, none⟩ = some (.int .i64 S.room) := (b2.cell (p := ⟨p, 0, none⟩) (by exact D1.out.cells.lt)).trans (by exact hroom); have B2 : Hid (Below w1.heap.size w1 w2) := ⟨b2.os, b2.tape, b2.output, b2.size, b2.block⟩; clear b2))
  clear hwrap hdec hroom hroom1 hroom2
  have hb2 : Below w1.heap.size w1 w2 := B2.out
  have dl := D1.out.same (w' := w2) hb2.size fun x k hk => hb2.block k (D1.out.low x k hk).2
  have hlead : Leads w2 ad part := (HG.out.leads.turned T1.out fun b' off e hne => HG.out.past b' off e hne).later hb2
  have hpast : ∀ g, C b g → Past g ad part := fun g hgc => by
    by_cases hne : part = []
    · exact .inl hne
    · right
      intro b' off e eg
      subst eg
      rcases (D1.out.low b b' hgc).1 with hR | hR
      · exact HG.out.past b' off e hne hR
      · have h1 := HG.out.lt b' off e hne
        omega
  have cF := Lib.hid (write_any w2 b (S.begin.file b) (dl.file b HBF.out) q ad m mcap part hlead hpast HG.out.length HG.out.byte (by show q ≤ (S.file b).now.length; rw [HN.out]; omega) (by omega))
  have DL := Lib.hid dl
  clear hpast hlead dl hb2
  go_wp2_with fail
  refine cF.out.mono ?_
  rintro e w3 ⟨rfl, f3, t3⟩
  obtain ⟨d4, t4⟩ := DL.out.file_turned HBF.out f3 t3
  have hb2 : Below w1.heap.size w1 w2 := B2.out
  have T12 : Turn R w w2 := T1.out.trans (Turn.of_below (R := fun _ => False) hb2) fun _ _ e => e.elim
  have hs1 := T1.out.size
  have hs2 := hb2.size
  have D5 := Lib.hid ((d4.mono (R' := fun k => R k ∨ w.heap.size ≤ k) fun k _ hk => by
    rcases hk with (hk | hk) | hk
    · exact .inl hk
    · exact .inr hk
    · exact .inr (by omega)).more (show n + 1 ≤ n + 2 by omega))
  have T5 := Lib.hid (T12.trans t4 fun k hk e => by
    rcases e with e | e
    · exact e
    · omega)
  clear f3 t3 d4 t4 hb2 T12 hs1 hs2
  go_wp2_with fail
  go_ret
  rw [HV.out]
  exact ⟨rfl, D5.out, T5.out⟩

set_option maxRecDepth 100000 in
set_option maxHeartbeats 2000000 in
theorem write_within {R : Nat → Prop} (w : World) (p : Nat) (S : St) (n : Nat) (h : Disk R w p S n) (hn : n ≤ 10000000) (s : ByteArray) (hs : s.size ≤ maxLen) (ad : Option Addr) (m mcap : Nat) (part : List Int) (hg : Given R w ad m part)
    (nm : Nm) (hnm : s.data.toList = nm) (h0 : ¬ S.fail = 0) (b N q : Nat) (hd : dlook nm S.now = some b) (hN : (S.file b).now.length = N) (hq : q ≤ N) (hgr : ¬ (N : Int) < (q : Int) + (m : Int)) :
    Calls Try.prog 14 #[.pointer (some ⟨p, 0, none⟩), .string s, .int .i64 (q : Int), .slice ad m mcap] w (CallOut R w p (S.write nm (q : Int) part) (n + 2)) := by
  have cB := Lib.hid (begin_any w p S n h (by omega))
  rw [if_neg h0] at cB
  have HS := Lib.hid hs
  have HG := Lib.hid hg
  have HNM := Lib.hid hnm
  have hm := hg.small
  have hfit := h.fit (h.ok.inow _ (dlook_mem hd))
  have hmo := hfit.most
  rw [hN] at hmo
  have HN := Lib.hid hN
  have HD := Lib.hid hd
  have hpl := hg.length
  have hv : S.write nm (q : Int) part = (0, S.begin.set b ((S.file b).write q part)) := by rw [St.write, if_neg h0]; simp only [hd]; rw [hN, if_neg (by omega), hpl, if_neg (fun e => hgr (by omega)), Int.toNat_natCast]
  have hqm : q + m ≤ 4194304 := by omega
  have HV := Lib.hid hv
  clear hv h hnm hs h0 hd hN hg hfit hpl
  go_enter Try.func14, Try.ntmps14
  go_wp2_with fail
  refine cB.out.mono ?_
  rintro e w1 ⟨rfl, d1, t1⟩
  have T1 := Lib.hid t1
  have DD1 := Lib.hid d1
  obtain ⟨C, mn, ms, wv, d1⟩ := d1
  have hlk := d1.now.look s HS.out
  have hc1 := d1.c1
  have hbf : b ∈ S.begin.files := d1.ok.inow _ (dlook_mem HD.out)
  rw [HNM.out, show dlook nm S.begin.now = some b from HD.out, ptrOf] at hlk
  obtain ⟨vn, vs, dm, hf⟩ := d1.file b hbf
  obtain ⟨av, cv, ev, _⟩ := hf.now.form
  subst ev
  have hf0 : w1.cell? ⟨b, 0, none⟩ = some (.slice av N cv) := by rw [← HN.out]; exact hf.cell0
  have hroom : w1.cell? ⟨p, 0, none⟩ = some (.int .i64 S.room) := d1.c0
  have D1 := Lib.hid d1
  have HBF := Lib.hid hbf
  clear d1 t1 hf hbf
  go_wp2_with fail
  have hdec : decide ((N : Int) < (q : Int) + (m : Int)) = false := decide_eq_false (by omega)
  go_quiet (fail)
  clear hdec hroom
  have B2 := Lib.hid (show Below w1.heap.size w1 (w1.drewN nq) from ⟨rfl, rfl, rfl, Nat.le_refl _, fun _ _ => rfl⟩)
  generalize w1.drewN nq = w2 at B2 ⊢
  have hb2 : Below w1.heap.size w1 w2 := B2.out
  have dl := D1.out.same (w' := w2) hb2.size fun x k hk => hb2.block k (D1.out.low x k hk).2
  have hlead : Leads w2 ad part := (HG.out.leads.turned T1.out fun b' off e hne => HG.out.past b' off e hne).later hb2
  have hpast : ∀ g, C b g → Past g ad part := fun g hgc => by
    by_cases hne : part = []
    · exact .inl hne
    · right
      intro b' off e eg
      subst eg
      rcases (D1.out.low b b' hgc).1 with hR | hR
      · exact HG.out.past b' off e hne hR
      · have h1 := HG.out.lt b' off e hne
        omega
  have cF := Lib.hid (write_any w2 b (S.begin.file b) (dl.file b HBF.out) q ad m mcap part hlead hpast HG.out.length HG.out.byte (by show q ≤ (S.file b).now.length; rw [HN.out]; omega) (by omega))
  have DL := Lib.hid dl
  clear hpast hlead dl hb2
  go_wp2_with fail
  refine cF.out.mono ?_
  rintro e w3 ⟨rfl, f3, t3⟩
  obtain ⟨d4, t4⟩ := DL.out.file_turned HBF.out f3 t3
  have hb2 : Below w1.heap.size w1 w2 := B2.out
  have T12 : Turn R w w2 := T1.out.trans (Turn.of_below (R := fun _ => False) hb2) fun _ _ e => e.elim
  have hs1 := T1.out.size
  have hs2 := hb2.size
  have D5 := Lib.hid ((d4.mono (R' := fun k => R k ∨ w.heap.size ≤ k) fun k _ hk => by
    rcases hk with (hk | hk) | hk
    · exact .inl hk
    · exact .inr hk
    · exact .inr (by omega)).more (show n + 1 ≤ n + 2 by omega))
  have T5 := Lib.hid (T12.trans t4 fun k hk e => by
    rcases e with e | e
    · exact e
    · omega)
  clear f3 t3 d4 t4 hb2 T12 hs1 hs2
  go_wp2_with fail
  go_ret
  rw [HV.out]
  exact ⟨rfl, D5.out, T5.out⟩

set_option maxRecDepth 100000 in
set_option maxHeartbeats 2000000 in
theorem writes_any {R : Nat → Prop} (w : World) (p : Nat) (S : St) (n : Nat) (h : Disk R w p S n) (hn : n ≤ 10000000) (s : ByteArray) (hs : s.size ≤ maxLen) (at_ : Int) (ad : Option Addr) (m mcap : Nat) (part : List Int) (hg : Given R w ad m part) :
    Calls Try.prog 14 #[.pointer (some ⟨p, 0, none⟩), .string s, .int .i64 at_, .slice ad m mcap] w (CallOut R w p (S.write s.data.toList at_ part) (n + 2)) := by
  have cB := Lib.hid (begin_any w p S n h (by omega))
  have HS := Lib.hid hs
  have HG := Lib.hid hg
  obtain ⟨nm, hnm⟩ : ∃ nm, s.data.toList = nm := ⟨_, rfl⟩
  rw [hnm]
  have HNM := Lib.hid hnm
  have hm := hg.small
  by_cases h0 : S.fail = 0
  · have hv : S.write nm at_ part = (3, S.begin) := by rw [St.write, if_pos h0]
    have HV := Lib.hid hv
    rw [if_pos h0] at cB
    clear hv h hnm hs h0 hg
    go_enter Try.func14, Try.ntmps14
    go_wp2_with fail
    refine cB.out.mono ?_
    rintro e w1 ⟨rfl, d1, t1⟩
    have D1 := Lib.hid d1
    have T1 := Lib.hid t1
    clear d1 t1
    go_wp2
    go_ret
    rw [HV.out]
    exact ⟨rfl, D1.out.more (by omega), T1.out⟩
  · rw [if_neg h0] at cB
    cases hd : dlook nm S.now with
    | none =>
      have hv : S.write nm at_ part = (1, S.begin) := by rw [St.write, if_neg h0]; simp only [hd]
      have HV := Lib.hid hv
      have HD := Lib.hid hd
      clear hv h hnm hs h0 hd hg
      go_enter Try.func14, Try.ntmps14
      go_wp2_with fail
      refine cB.out.mono ?_
      rintro e w1 ⟨rfl, d1, t1⟩
      have T1 := Lib.hid t1
      have DD1 := Lib.hid d1
      obtain ⟨C, mn, ms, wv, d1⟩ := d1
      have hlk := d1.now.look s HS.out
      have hc1 := d1.c1
      rw [HNM.out, show dlook nm S.begin.now = none from HD.out, ptrOf] at hlk
      clear d1 t1
      go_wp2
      go_ret
      rw [HV.out]
      exact ⟨rfl, DD1.out.more (by omega), T1.out⟩
    | some b =>
      have hfit := h.fit (h.ok.inow _ (dlook_mem hd))
      have hmo := hfit.most
      obtain ⟨N, hN⟩ : ∃ N, (S.file b).now.length = N := ⟨_, rfl⟩
      rw [hN] at hmo
      have HN := Lib.hid hN
      have HD := Lib.hid hd
      by_cases hr : at_ < 0 ∨ (N : Int) < at_
      · have hv : S.write nm at_ part = (6, S.begin) := by rw [St.write, if_neg h0]; simp only [hd]; rw [hN, if_pos hr]
        have HV := Lib.hid hv
        clear hv h hnm hs h0 hd hN hg hfit
        go_enter Try.func14, Try.ntmps14
        go_wp2_with fail
        refine cB.out.mono ?_
        rintro e w1 ⟨rfl, d1, t1⟩
        have T1 := Lib.hid t1
        have DD1 := Lib.hid d1
        obtain ⟨C, mn, ms, wv, d1⟩ := d1
        have hlk := d1.now.look s HS.out
        have hc1 := d1.c1
        rw [HNM.out, show dlook nm S.begin.now = some b from HD.out, ptrOf] at hlk
        obtain ⟨vn, vs, dm, hf⟩ := d1.file b (d1.ok.inow _ (dlook_mem HD.out))
        obtain ⟨av, cv, ev, _⟩ := hf.now.form
        subst ev
        have hf0 : w1.cell? ⟨b, 0, none⟩ = some (.slice av N cv) := by rw [← HN.out]; exact hf.cell0
        clear d1 t1 hf
        by_cases hr1 : at_ < 0
        · go_wp2
          go_ret
          rw [HV.out]
          exact ⟨rfl, DD1.out.more (by omega), T1.out⟩
        · have hr2 : (N : Int) < at_ := by omega
          clear hr
          go_wp2
          go_ret
          rw [HV.out]
          exact ⟨rfl, DD1.out.more (by omega), T1.out⟩
      · have ha0 : 0 ≤ at_ := by omega
        have haN : at_ ≤ (N : Int) := by omega
        obtain ⟨q, rfl⟩ : ∃ q : Nat, at_ = (q : Int) := ⟨at_.toNat, by omega⟩
        by_cases hgr : (N : Int) < (q : Int) + (m : Int)
        · by_cases hfull : S.room < (S.used : Int) + ((q : Int) + (m : Int) - (N : Int))
          · exact write_full w p S n h hn s hs ad m mcap part hg nm hnm h0 b N q S.used hd hN (by omega) rfl hgr hfull
          · exact write_fits w p S n h hn s hs ad m mcap part hg nm hnm h0 b N q S.used hd hN (by omega) rfl hgr hfull
        · exact write_within w p S n h hn s hs ad m mcap part hg nm hnm h0 b N q hd hN (by omega) hgr
end Go.Proofs.Ytpbffjpghnijkaa.disk
