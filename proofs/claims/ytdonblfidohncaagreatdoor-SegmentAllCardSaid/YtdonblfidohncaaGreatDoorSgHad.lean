/-
  CONTRACT of stillroomlaw8.had: do bytes stand at a place of a file of one of two disks? (K1)
-/
import Derived.Test.YtdonblfidohncaaGreatDoorSgSlot
import Derived.BigQuiet
namespace Go.Proofs.YtdonblfidohncaaGreatDoor.scan
open Go.RowKit Go.Proofs.YtdonblfidohncaaGreatDoor.disk Go.Proofs.YtdonblfidohncaaGreatDoor.recd Go.Proofs.YtdonblfidohncaaGreatDoor.num
set_option linter.unusedVariables false

/-- Bytes at a place. -/
def standsAt (L : List Int) (at_ : Nat) (x : List Int) : Prop := at_ + x.length ≤ L.length ∧ (L.drop at_).take x.length = x
/-- .. of a file of a disk. -/
def HadP (S : St) (at_ : Nat) (x : List Int) : Prop := ∃ nm b, (nm, b) ∈ S.now ∧ standsAt (S.file b).now at_ x
/-- Two disks in blocks apart. -/
structure Twin (R1 R2 : Nat → Prop) (w : World) (p1 : Nat) (S1 : St) (n1 : Nat) (p2 : Nat) (S2 : St) (n2 : Nat) : Prop where
  d1 : Disk R1 w p1 S1 n1
  d2 : Disk R2 w p2 S2 n2
  apart : ∀ k, R1 k → ¬ R2 k
  l1 : ∀ k, R1 k → k < w.heap.size
  l2 : ∀ k, R2 k → k < w.heap.size
section
variable {R1 R2 : Nat → Prop} {w w' : World} {p1 p2 : Nat} {S1 S2 S1' S2' : St} {n1 n2 m1 m2 : Nat}
theorem disk_stay {R : Nat → Prop} {p : Nat} {S : St} {n : Nat} (h : Disk R w p S n) (hs : w.heap.size ≤ w'.heap.size) (e : ∀ k, R k → k < w.heap.size → w'.heap[k]? = w.heap[k]?) : Disk R w' p S n := by
  obtain ⟨C, mn, ms, wv, h'⟩ := h
  exact ⟨C, mn, ms, wv, h'.same hs fun x k hc => e k (h'.low x k hc).1 (h'.low x k hc).2⟩
theorem Twin.later (h : Twin R1 R2 w p1 S1 n1 p2 S2 n2) (hb : Below w.heap.size w w') : Twin R1 R2 w' p1 S1 n1 p2 S2 n2 :=
  ⟨disk_stay h.d1 hb.size fun k _ hk => hb.block k hk, disk_stay h.d2 hb.size fun k _ hk => hb.block k hk, h.apart, fun k hk => Nat.lt_of_lt_of_le (h.l1 k hk) hb.size, fun k hk => Nat.lt_of_lt_of_le (h.l2 k hk) hb.size⟩
theorem Twin.turn1 (h : Twin R1 R2 w p1 S1 n1 p2 S2 n2) (hd : Disk R1 w' p1 S1' m1) (ht : Turn R1 w w') : Twin R1 R2 w' p1 S1' m1 p2 S2 n2 :=
  ⟨hd, disk_stay h.d2 ht.size fun k hk hl => ht.block k hl fun e => h.apart k e hk, h.apart, fun k hk => Nat.lt_of_lt_of_le (h.l1 k hk) ht.size, fun k hk => Nat.lt_of_lt_of_le (h.l2 k hk) ht.size⟩
theorem Twin.turn2 (h : Twin R1 R2 w p1 S1 n1 p2 S2 n2) (hd : Disk R2 w' p2 S2' m2) (ht : Turn R2 w w') : Twin R1 R2 w' p1 S1 n1 p2 S2' m2 :=
  ⟨disk_stay h.d1 ht.size fun k hk hl => ht.block k hl fun e => h.apart k hk e, hd, h.apart, fun k hk => Nat.lt_of_lt_of_le (h.l1 k hk) ht.size, fun k hk => Nat.lt_of_lt_of_le (h.l2 k hk) ht.size⟩
theorem Twin.swap (h : Twin R1 R2 w p1 S1 n1 p2 S2 n2) : Twin R2 R1 w p2 S2 n2 p1 S1 n1 := ⟨h.d2, h.d1, fun k hk e => h.apart k e hk, h.l2, h.l1⟩
theorem disk_more {R : Nat → Prop} {p : Nat} {S : St} {n m : Nat} (h : Disk R w p S n) (hn : n ≤ m) : Disk R w p S m := by
  obtain ⟨C, mn, ms, wv, h'⟩ := h
  exact ⟨C, mn, ms, wv, h'.more hn⟩
theorem Twin.more (h : Twin R1 R2 w p1 S1 n1 p2 S2 n2) (h1 : n1 ≤ m1) (h2 : n2 ≤ m2) : Twin R1 R2 w p1 S1 m1 p2 S2 m2 := ⟨disk_more h.d1 h1, disk_more h.d2 h2, h.apart, h.l1, h.l2⟩
theorem At.turn {R : Nat → Prop} {g off : Nat} {l : List Int} (h : At w g off l) (ht : Turn R w w') (hg : g < w.heap.size) (hR : ¬ R g) : At w' g off l := fun i hi => by rw [ht.cell hg hR]; exact h i hi
end
/-- What 'had' leaves. -/
def HadOut (R1 R2 : Nat → Prop) (w : World) (p1 : Nat) (S1 : St) (n1 : Nat) (p2 : Nat) (S2 : St) (n2 : Nat) (ad : Nat) (x : List Int) (e : Ending) (w' : World) : Prop :=
  ∃ r, e = .returned (.bool r) ∧ (r = true → HadP S1 ad x ∨ HadP S2 ad x) ∧ (∃ k1 k2, Twin R1 R2 w' p1 (readSt S1 k1) (n1 + S1.now.length) p2 (readSt S2 k2) (n2 + S2.now.length)) ∧ Turn (fun k => R1 k ∨ R2 k) w w'

/-- The disk whose turn it is, and what becomes of both. -/
structure Cur (R1 R2 : Nat → Prop) (p1 : Nat) (S1 : St) (n1 : Nat) (p2 : Nat) (S2 : St) (n2 : Nat) (ad : Nat) (x : List Int) (j : Nat) (wr : World) (R R' : Nat → Prop) (p : Nat) (S : St) (n : Nat) (p' : Nat) (S' : St) (n' : Nat) : Prop where
  twin : Twin R R' wr p S n p' S' n'
  both : ∀ k, R k → R1 k ∨ R2 k
  few : n + S.now.length ≤ 100000000
  hit : HadP S ad x → HadP S1 ad x ∨ HadP S2 ad x
  ptr : p = if j = 0 then p1 else p2
  next : ∀ w'' k, Twin R R' w'' p (readSt S k) (n + S.now.length) p' S' n' → ∃ k1 k2, Twin R1 R2 w'' p1 (readSt S1 k1) (n1 + (if 1 ≤ j + 1 then S1.now.length else 0)) p2 (readSt S2 k2) (n2 + (if 2 ≤ j + 1 then S2.now.length else 0))
theorem cur_of {R1 R2 : Nat → Prop} {p1 p2 : Nat} {S1 S2 : St} {n1 n2 ad j : Nat} {x : List Int} {wr : World} {k1 k2 : Int} (hn1 : n1 + S1.now.length ≤ 100000000) (hn2 : n2 + S2.now.length ≤ 100000000) (hj : j < 2)
    (ht : Twin R1 R2 wr p1 (readSt S1 k1) (n1 + (if 1 ≤ j then S1.now.length else 0)) p2 (readSt S2 k2) (n2 + (if 2 ≤ j then S2.now.length else 0))) :
    ∃ R R' p S n p' S' n', Cur R1 R2 p1 S1 n1 p2 S2 n2 ad x j wr R R' p S n p' S' n' := by
  by_cases h0 : j = 0
  · subst h0
    rw [if_neg (by omega), if_neg (by omega)] at ht
    refine ⟨R1, R2, p1, readSt S1 k1, n1, p2, readSt S2 k2, n2, ht, fun k hk => .inl hk, hn1, fun h => .inl h, rfl, fun w'' k h => ?_⟩
    refine ⟨k1 + k, k2, ?_⟩
    rw [if_pos (by omega), if_neg (by omega)]
    rw [readSt_add] at h
    exact h
  · obtain rfl : j = 1 := by omega
    rw [if_pos (by omega), if_neg (by omega)] at ht
    refine ⟨R2, R1, p2, readSt S2 k2, n2, p1, readSt S1 k1, n1 + S1.now.length, ht.swap, fun k hk => .inr hk, hn2, fun h => .inr h, rfl, fun w'' k h => ?_⟩
    refine ⟨k1, k2 + k, ?_⟩
    rw [if_pos (by omega), if_pos (by omega)]
    rw [readSt_add] at h
    exact h.swap
theorem Twin.full {R1 R2 : Nat → Prop} {w : World} {p1 p2 : Nat} {S1 S2 : St} {n1 n2 j : Nat} (h : ∃ k1 k2, Twin R1 R2 w p1 (readSt S1 k1) (n1 + (if 1 ≤ j then S1.now.length else 0)) p2 (readSt S2 k2) (n2 + (if 2 ≤ j then S2.now.length else 0))) : ∃ k1 k2, Twin R1 R2 w p1 (readSt S1 k1) (n1 + S1.now.length) p2 (readSt S2 k2) (n2 + S2.now.length) := by
  obtain ⟨k1, k2, h⟩ := h
  exact ⟨k1, k2, h.more (by split <;> omega) (by split <;> omega)⟩

theorem cut_len {L : List Int} {ad m : Nat} (h : ad + m ≤ L.length) : ((L.drop ad).take m).length = m := by
  rw [List.length_take, List.length_drop]
  omega
theorem had_nums {ad m Ln cy : Nat} (had : ad ≤ 1000000000) (hm1 : 1 ≤ m) (hm2 : m ≤ 1000000000) (hle : ad + m ≤ Ln) (hcy : Ln ≤ cy) (hcz : cy ≤ 9223372036854775807) :
    wrap64 ((ad : Int) + (m : Int)) = (ad : Int) + (m : Int) ∧ (ad : Int) + (m : Int) ≤ (cy : Int) ∧ ¬ cy = ad ∧ (ad : Int) ≤ (ad : Int) + (m : Int) ∧ (0 : Int) ≤ (ad : Int) + (m : Int) ∧ ((ad : Int) + (m : Int)).toNat - ad = m ∧ max ((ad : Int) + (m : Int)) 0 = (ad : Int) + (m : Int) ∧ IntKind.i64.wrap ((Ln : Int) - (ad : Int)) = (Ln : Int) - (ad : Int) ∧ IntKind.i64.wrap ((ad : Int) + (m : Int)) = (ad : Int) + (m : Int) :=
  ⟨by unfold wrap64; omega, by omega, by omega, by omega, by omega, by omega, by omega, by rw [IntKind.wrap_i64]; omega, by rw [IntKind.wrap_i64]; omega⟩

set_option maxRecDepth 100000 in
set_option maxHeartbeats 8000000 in
theorem had_any {R1 R2 : Nat → Prop} (w : World) (p1 : Nat) (S1 : St) (n1 : Nat) (p2 : Nat) (S2 : St) (n2 : Nat) (h : Twin R1 R2 w p1 S1 n1 p2 S2 n2) (hn1 : n1 + S1.now.length ≤ 100000000) (hn2 : n2 + S2.now.length ≤ 100000000) (ad : Nat) (had : ad ≤ 1000000000)
    (gx ox m cx : Nat) (x : List Int) (hx : At w gx ox x) (hxb : Byte x) (hm : x.length = m) (hm1 : 1 ≤ m) (hm2 : m ≤ 1000000000) (hg : gx < w.heap.size) (h1 : ¬ R1 gx) (h2 : ¬ R2 gx) :
    Calls Tryz.prog 47 #[.pointer (some ⟨p1, 0, none⟩), .pointer (some ⟨p2, 0, none⟩), .int .i64 (ad : Int), .slice (some ⟨gx, ox, none⟩) m cx] w (HadOut R1 R2 w p1 S1 n1 p2 S2 n2 ad x) := by
  have HT := Lib.hid h
  have HX := Lib.hid hx
  have HXB := Lib.hid hxb
  have HM := Lib.hid hm
  have H12 := Lib.hid (And.intro h1 h2)
  clear h hx hxb hm h1 h2
  go_enter Tryz.func47, Tryz.ntmps47
  go_wp2_with fail
  obtain ⟨w0, hw0⟩ : ∃ w0, w.alloc (.cells #[.pointer (some ⟨p1, 0, none⟩), .pointer (some ⟨p2, 0, none⟩)] 26) = w0 := ⟨_, rfl⟩
  have b0 : Below w.heap.size w w0 := by rw [← hw0]; exact laid_below' _ _
  have wh0 : Whole w0 w.heap.size 26 [.pointer (some ⟨p1, 0, none⟩), .pointer (some ⟨p2, 0, none⟩)] := by rw [← hw0]; exact Whole.made' w _ _
  have z0 : w.heap.size < w0.heap.size := by rw [← hw0, World.alloc]; simp
  rw [hw0]
  clear hw0
  have q0 : w0.cell? ⟨w.heap.size, 0, none⟩ = some (.pointer (some ⟨p1, 0, none⟩)) := wh0.at_ 0
  have q1 : w0.cell? ⟨w.heap.size, 1, none⟩ = some (.pointer (some ⟨p2, 0, none⟩)) := wh0.at_ 1
  obtain ⟨g0, hg0⟩ : ∃ g0, w.heap.size = g0 := ⟨_, rfl⟩
  rw [hg0] at q0 q1 z0 ⊢
  have n1g : ¬ R1 g0 := fun e => by have := HT.out.l1 _ e; omega
  have n2g : ¬ R2 g0 := fun e => by have := HT.out.l2 _ e; omega
  have T0 := Lib.hid (HT.out.later b0)
  have X0 := Lib.hid (HX.out.later b0)
  have Q0 := Lib.hid (And.intro q0 q1)
  have N0 := Lib.hid (And.intro n1g n2g)
  have B0 := Lib.hid b0
  have hgz : gx < w0.heap.size := Nat.lt_of_lt_of_le hg b0.size
  clear b0 wh0 q0 q1 n1g n2g hg0
  go_loopw [18] (fun i wr => ∃ (j : Nat), i = .int .i64 (j : Int) ∧ j ≤ 2 ∧ (∃ k1 k2, Twin R1 R2 wr p1 (readSt S1 k1) (n1 + (if 1 ≤ j then S1.now.length else 0)) p2 (readSt S2 k2) (n2 + (if 2 ≤ j then S2.now.length else 0))) ∧ Turn (fun k => R1 k ∨ R2 k) w0 wr) (fun i _ => ((2 : Int) - intOf i).toNat)
  case atStart => exact ⟨0, rfl, by omega, ⟨0, 0, by rw [readSt_zero, readSt_zero]; exact T0.out⟩, Turn.refl _ _⟩
  case round =>
    obtain ⟨j, rfl, hj, ⟨k1, k2, ht⟩, htu⟩ := hrel
    by_cases hj2 : j < 2
    · have hjI : (j : Int) < 2 := by omega
      obtain ⟨R, R', p, S, n, p', S', n', hc⟩ := cur_of (ad := ad) (x := x) hn1 hn2 hj2 ht
      have hcell : wr.cell? ⟨g0, j, none⟩ = some (.pointer (some ⟨p, 0, none⟩)) := by
        have e1 := htu.cell (b := g0) (o := j) z0 fun e => by
          rcases e with e | e
          · exact N0.out.1 e
          · exact N0.out.2 e
        rw [e1, hc.ptr]
        by_cases h0 : j = 0
        · rw [if_pos h0, h0]; exact Q0.out.1
        · rw [if_neg h0, show j = 1 by omega]; exact Q0.out.2
      have CN := Lib.hid (lnames_any wr p S n hc.twin.d1 (by have := hc.few; omega))
      have HC := Lib.hid hc
      have HTU := Lib.hid htu
      clear hc ht htu
      go_wp2_with fail
      refine CN.out.mono ?_
      rintro e wn ⟨v, rfl, hrow, _, bn⟩
      obtain ⟨an, cn, rfl, hcn1, hcn2, hnm⟩ := names_row hrow
      obtain ⟨d, hd⟩ : ∃ d, S.now = d := ⟨_, rfl⟩
      obtain ⟨dl, hdl⟩ : ∃ dl, d.length = dl := ⟨_, rfl⟩
      rw [hd, hdl] at hcn1 hnm
      rw [hd, hdl]
      have HD := Lib.hid hd
      have HDL := Lib.hid hdl
      have HNM := Lib.hid hnm
      have TN := Lib.hid (HC.out.twin.later bn)
      have BN := Lib.hid bn
      have hdl2 : dl ≤ 100000000 := by have := HC.out.few; rw [hd, hdl] at this; omega
      clear hd hdl hnm bn hrow CN hcell
      go_wp2_with fail
      go_loopw [12] (fun i wi => ∃ (q : Nat) (k : Int), i = .int .i64 (q : Int) ∧ q ≤ dl ∧ Twin R R' wi p (readSt S k) (n + q) p' S' n' ∧ Turn R wn wi) (fun i _ => ((dl : Int) - intOf i).toNat)
      case atStart => exact ⟨0, 0, rfl, Nat.zero_le _, by rw [readSt_zero]; exact TN.out, Turn.refl _ _⟩
      case round =>
        obtain ⟨q, k, rfl, hq, hti, htui⟩ := hrel
        by_cases hqd : q < dl
        · have hqI : (q : Int) < (dl : Int) := by omega
          have hqd2 : q < d.length := by rw [HDL.out]; exact hqd
          obtain ⟨⟨nm, b⟩, hx⟩ : ∃ z, d[q] = z := ⟨_, rfl⟩
          have hget : d[q]? = some (nm, b) := by rw [List.getElem?_eq_getElem hqd2, hx]
          have hmem : (nm, b) ∈ d := List.mem_of_getElem? hget
          obtain ⟨gn, rfl, hgn⟩ : ∃ gn, an = some ⟨gn, 0, none⟩ ∧ wr.cell? ⟨gn, q, none⟩ = some (.string ⟨nm.toArray⟩) := by
            rcases HNM.out with ⟨_, e⟩ | ⟨gn, e, ho, hl, hb, hcell⟩
            · rw [e] at hqd2; cases hqd2
            · refine ⟨gn, e, ?_⟩
              rw [htui.cell (b := gn) (o := q) hl fun e => by have := HC.out.twin.l1 _ e; omega]
              exact hcell q _ hget
          have hsd : d.Pairwise (fun p q => p.1 ≠ q.1) ∧ (∀ z ∈ d, z.1.length ≤ maxLen) ∧ ∀ z ∈ d, Byte (S.file z.2).now := by
            have hfi := fun b hb => (HC.out.twin.d1.fit (b := b) hb).bnow
            obtain ⟨C, mn, ms, wv, h'⟩ := HC.out.twin.d1
            rw [← HD.out]
            exact ⟨sorted_apart h'.now.sorted, h'.ok.lnow, fun z hz => hfi _ (h'.ok.inow z hz)⟩
          have hbL : Byte (S.file b).now := hsd.2.2 _ hmem
          have hlook : dlook nm S.now = some b := by rw [HD.out]; exact dlook_of_mem hsd.1 hmem
          have hsz : (⟨nm.toArray⟩ : ByteArray).size ≤ maxLen := by
            have := hsd.2.1 _ hmem
            show nm.toArray.size ≤ maxLen
            simpa using this
          have CW := whole_any wr p (readSt S k) (n + q) hti.d1 (by have := HC.out.few; rw [HD.out, HDL.out] at this; omega) ⟨nm.toArray⟩ hsz b (by exact hlook)
          rw [show ((readSt S k).file b).now = (S.file b).now from rfl] at CW
          obtain ⟨L, hL⟩ : ∃ L, (S.file b).now = L := ⟨_, rfl⟩
          rw [hL] at CW hbL
          have LB := Lib.hid hbL
          clear hbL
          have HCW := Lib.hid CW
          have HL := Lib.hid hL
          have HMEM := Lib.hid hmem
          have HTI := Lib.hid hti
          have HTUI := Lib.hid htui
          clear CW hL hmem hti htui hsd hlook hsz hget hx hqd2
          go_wp2_with fail
          refine HCW.out.mono ?_
          rintro e wy ⟨y, rfl, oy, ny, ⟨ky, dy⟩, ty⟩
          obtain ⟨ay, cy, ey, hcy1, hcy2, hay, ly, fy⟩ := oy.form
          obtain ⟨Ln, hLn⟩ : ∃ Ln, L.length = Ln := ⟨_, rfl⟩
          rw [hLn] at ey hcy1 hay
          subst ey
          have tw := HTI.out.turn1 dy ty
          rw [readSt_add] at tw
          have tu2 : Turn R wn wy := HTUI.out.trans ty fun k _ e => e
          have tf : Turn (fun k => R1 k ∨ R2 k) w0 wy := (HTU.out.trans (Turn.of_below (R := fun _ => False) BN.out) (fun k _ e => e.elim)).trans tu2 (fun k _ e => HC.out.both k e)
          have hx1 := At.turn X0.out tf hgz fun e => by
            rcases e with e | e
            · exact H12.out.1 e
            · exact H12.out.2 e
          have fin : ∃ (q2 : Nat) (k2 : Int), Value.int .i64 ((q : Int) + 1) = .int .i64 (q2 : Int) ∧ q2 ≤ dl ∧ (∀ wz, Below wy.heap.size wy wz → Twin R R' wz p (readSt S k2) (n + q2) p' S' n' ∧ Turn R wn wz) := ⟨q + 1, _, by rw [Int.natCast_add]; rfl, by omega, fun wz bz => ⟨tw.later bz, tu2.trans (Turn.of_below (R := fun _ => False) bz) fun k _ e => e.elim⟩⟩
          have hit : standsAt L ad x → ∀ wz, Below wy.heap.size wy wz → HadOut R1 R2 w p1 S1 n1 p2 S2 n2 ad x (.returned (.bool true)) wz := fun hs wz bz => by
            refine ⟨true, rfl, fun _ => HC.out.hit ⟨nm, b, by rw [HD.out]; exact HMEM.out, by rw [HL.out]; exact hs⟩, Twin.full (j := j + 1) (HC.out.next wz (k + ky) ((tw.later bz).more (by rw [HD.out, HDL.out]; omega) (Nat.le_refl _))), ?_⟩
            exact ((Turn.of_below B0.out).trans tf (fun k _ e => e)).trans (Turn.of_below (R := fun _ => False) bz) fun k _ e => e.elim
          have FIN := Lib.hid fin
          have HIT := Lib.hid hit
          have HX1 := Lib.hid hx1
          have HLN := Lib.hid hLn
          have LY := Lib.hid ly
          have FY := Lib.hid fy
          have HAY := Lib.hid hay
          clear ly fy hay tw tu2 tf hx1 fin hit hLn oy ny dy ty HCW
          by_cases hle : ad + m ≤ Ln
          · have hd : decide ((m : Int) ≤ (Ln : Int) - (ad : Int)) = true := decide_eq_true (by omega)
            obtain ⟨gy, rfl⟩ : ∃ gy, ay = some ⟨gy, 0, none⟩ := by
              rcases FY.out with e | ⟨gy, e, _⟩
              · have := (HAY.out e).1; omega
              · exact ⟨gy, e⟩
            obtain ⟨hwr, hc1, hc2, hc3, hc4, hc5, hmx, hwr2, hwr3⟩ := had_nums had hm1 hm2 hle hcy1 hcy2
            obtain ⟨xs, hxs⟩ : ∃ xs, (L.drop ad).take m = xs := ⟨_, rfl⟩
            have hxl : xs.length = m := by rw [← hxs]; exact cut_len (by rw [HLN.out]; exact hle)
            have hLB : Byte L := LB.out
            have hxsb : Byte xs := by rw [← hxs]; exact (hLB.drop _).take _
            have hdd := below_draws (Below.refl wy.heap.size wy) 1
            have lyd : Leads wy.drew (some ⟨gy, ad, none⟩) xs := by
              have h0 : At wy.drew gy 0 L := fun i hi => by
                rcases (LY.out.later hdd) with e | ⟨b', off, e, hcell⟩
                · rw [e] at hi; cases hi
                · injection e with e
                  injection e with e1 e2
                  subst e1
                  subst e2
                  exact hcell i hi
              have h1 := at_sub' h0 ad (ad + m) (Nat.le_add_right _ _) (by rw [HLN.out]; exact hle)
              unfold recd.sub at h1
              rw [Nat.add_sub_cancel_left, hxs, Nat.zero_add] at h1
              exact h1.leads
            have v1 : (convert 57 9 (.slice (some ⟨gy, ad, none⟩) m (cy - ad))).run Tryz.prog wy.drew = .ok (.string (disk.str xs)) wy.drew := by
              have h := disk.run_str lyd hxsb (cy - ad)
              rwa [hxl] at h
            have v2 : (convert 57 9 (.slice (some ⟨gx, ox, none⟩) m cx)).run Tryz.prog wy.drew = .ok (.string (disk.str x)) wy.drew := by
              have h := disk.run_str (HX1.out.later hdd).leads HXB.out cx
              rwa [HM.out] at h
            by_cases heq : xs = x
            · have hst : standsAt L ad x := ⟨by rw [HM.out, HLN.out]; exact hle, by rw [HM.out, hxs, heq]⟩
              have HH := Lib.hid (HIT.out hst)
              rw [heq] at v1
              obtain ⟨T, hT⟩ : ∃ T, disk.str x = T := ⟨_, rfl⟩
              rw [hT] at v1 v2
              clear hst hT heq hxs hxl hxsb hLB hdd lyd HIT FIN HT HX HXB HM H12 T0 X0 Q0 N0 B0 HC HTU HD HDL HNM TN BN HL HMEM HTI HTUI HX1 HLN LY FY HAY LB
              go_wp2_with fail
              go_still (by kernel_rfl)
              change Exit.then _ _ _ _ wy.drew
              have bz := below_draws (Below.refl wy.heap.size wy) 1
              obtain ⟨wz, hwz⟩ : ∃ wz, wy.drew = wz := ⟨_, rfl⟩
              have FF := Lib.hid (HH.out wz (by rw [← hwz]; exact bz))
              rw [hwz]
              clear hwz bz HH v1 v2
              go_wp2_with fail
              go_ret
              exact FF.out
            · have hne : ((disk.str xs).toList == (disk.str x).toList) = false := by
                show ((recd.str xs).toList == (recd.str x).toList) = false
                rw [str_beq hxsb, bs_str HXB.out]
                exact decide_eq_false heq
              obtain ⟨T, hT⟩ : ∃ T, disk.str xs = T := ⟨_, rfl⟩
              obtain ⟨U, hU⟩ : ∃ U, disk.str x = U := ⟨_, rfl⟩
              rw [hT] at v1 hne
              rw [hU] at v2 hne
              clear hT hU heq hxs hxl hxsb hLB hdd lyd HIT HT HX HXB HM H12 T0 X0 Q0 N0 B0 HC HTU HD HDL HNM TN BN HL HMEM HTI HTUI HX1 HLN LY FY HAY LB
              go_wp2_with fail
              go_still (by kernel_rfl)
              change Exit.then _ _ _ _ wy.drew
              have bz := below_draws (Below.refl wy.heap.size wy) 1
              obtain ⟨wz, hwz⟩ : ∃ wz, wy.drew = wz := ⟨_, rfl⟩
              obtain ⟨q2, k2, e2, hq2, hall⟩ := FIN.out
              have FF := Lib.hid (show ∃ (q2 : Nat) (k2 : Int), Value.int .i64 ((q : Int) + 1) = .int .i64 (q2 : Int) ∧ q2 ≤ dl ∧ Twin R R' wz p (readSt S k2) (n + q2) p' S' n' ∧ Turn R wn wz from ⟨q2, k2, e2, hq2, hall wz (by rw [← hwz]; exact bz)⟩)
              rw [hwz]
              clear hwz bz FIN hall e2 hq2 v1 v2
              go_wp2_with fail
              refine ⟨FF.out, ?_⟩
              show ((dl : Int) - ((q : Int) + 1)).toNat < ((dl : Int) - (q : Int)).toNat
              omega
          · have hleI : (Ln : Int) - (ad : Int) < (m : Int) := by omega
            have hd : decide ((m : Int) ≤ (Ln : Int) - (ad : Int)) = false := decide_eq_false (by omega)
            clear HIT HT HX HXB HM H12 T0 X0 Q0 N0 B0 HC HTU HD HDL HNM TN BN HL HMEM HTI HTUI HX1 HLN LY FY HAY LB
            go_wp2_with fail
            go_quiet (fail)
            have bz := below_draws (Below.refl wy.heap.size wy) nq
            obtain ⟨wz, hwz⟩ : ∃ wz, wy.drewN nq = wz := ⟨_, rfl⟩
            obtain ⟨q2, k2, e2, hq2, hall⟩ := FIN.out
            have FF := Lib.hid (show ∃ (q2 : Nat) (k2 : Int), Value.int .i64 ((q : Int) + 1) = .int .i64 (q2 : Int) ∧ q2 ≤ dl ∧ Twin R R' wz p (readSt S k2) (n + q2) p' S' n' ∧ Turn R wn wz from ⟨q2, k2, e2, hq2, hall wz (by rw [← hwz]; exact bz)⟩)
            rw [hwz]
            clear hwz bz FIN hall e2 hq2
            go_wp2_with fail
            refine ⟨FF.out, ?_⟩
            show ((dl : Int) - ((q : Int) + 1)).toNat < ((dl : Int) - (q : Int)).toNat
            omega
        · have hqI : ¬ (q : Int) < (dl : Int) := by omega
          obtain rfl : q = dl := by omega
          have fin : ∃ (j2 : Nat), Value.int .i64 ((j : Int) + 1) = .int .i64 (j2 : Int) ∧ j2 ≤ 2 ∧ (∃ k1 k2, Twin R1 R2 wr p1 (readSt S1 k1) (n1 + (if 1 ≤ j2 then S1.now.length else 0)) p2 (readSt S2 k2) (n2 + (if 2 ≤ j2 then S2.now.length else 0))) ∧ Turn (fun k => R1 k ∨ R2 k) w0 wr :=
            ⟨j + 1, by rw [Int.natCast_add]; rfl, by omega, HC.out.next wr k (by rw [HD.out, HDL.out]; exact hti), (HTU.out.trans (Turn.of_below (R := fun _ => False) BN.out) (fun k _ e => e.elim)).trans htui (fun k _ e => HC.out.both k e)⟩
          have FIN := Lib.hid fin
          clear hti htui fin
          go_wp2_with fail
          refine ⟨FIN.out, ?_⟩
          show ((2 : Int) - ((j : Int) + 1)).toNat < ((2 : Int) - (j : Int)).toNat
          omega
    · have hjI : ¬ (j : Int) < 2 := by omega
      have fin : HadOut R1 R2 w p1 S1 n1 p2 S2 n2 ad x (.returned (.bool false)) wr :=
        ⟨false, rfl, fun e => (by cases e), Twin.full ⟨k1, k2, ht⟩, (Turn.of_below B0.out).trans htu (fun k _ e => e)⟩
      have FIN := Lib.hid fin
      clear ht htu fin
      go_wp2_with fail
      go_ret
      exact FIN.out
end Go.Proofs.YtdonblfidohncaaGreatDoor.scan
