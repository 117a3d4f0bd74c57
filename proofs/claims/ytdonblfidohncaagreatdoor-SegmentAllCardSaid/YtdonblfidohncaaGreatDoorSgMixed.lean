/-
  CONTRACT of stillroomlaw8.Mixed (K1): when it says no, each record at the front of a file behind a crash stood at its place.
-/
import Derived.Test.YtdonblfidohncaaGreatDoorSgHad
import Derived.Test.YtdonblfidohncaaGreatDoorSgMath2
import Derived.StillTailTactics
import Derived.Deep.RegionHeld3
import Derived.Test.YtdonblfidohncaaGreatDoorMScan
import Derived.Test.YtdonblfidohncaaGreatDoorMRec
import Derived.Test.YtdonblfidohncaaGreatDoorMDkC
namespace Go.Proofs.YtdonblfidohncaaGreatDoor.scan
open Go.RowKit Go.Proofs.YtdonblfidohncaaGreatDoor.disk Go.Proofs.YtdonblfidohncaaGreatDoor.recd Go.Proofs.YtdonblfidohncaaGreatDoor.num
set_option linter.unusedVariables false

/-- Three disks in blocks apart: two that 'had' reads, and one that a crash left. -/
structure Trio (R1 R3 RC : Nat → Prop) (w : World) (p1 : Nat) (S1 : St) (n1 : Nat) (p3 : Nat) (S3 : St) (n3 : Nat) (p2 : Nat) (S2 : St) (n2 : Nat) : Prop where
  t : Twin R1 R3 w p1 S1 n1 p3 S3 n3
  c : Disk RC w p2 S2 n2
  ap : ∀ k, RC k → ¬ (R1 k ∨ R3 k)
  lc : ∀ k, RC k → k < w.heap.size
section
variable {R1 R3 RC : Nat → Prop} {w w' : World} {p1 p2 p3 : Nat} {S1 S2 S3 S1' S2' S3' : St} {n1 n2 n3 m1 m2 m3 : Nat}
theorem Trio.later (h : Trio R1 R3 RC w p1 S1 n1 p3 S3 n3 p2 S2 n2) (hb : Below w.heap.size w w') : Trio R1 R3 RC w' p1 S1 n1 p3 S3 n3 p2 S2 n2 :=
  ⟨h.t.later hb, disk_stay h.c hb.size fun k _ hk => hb.block k hk, h.ap, fun k hk => Nat.lt_of_lt_of_le (h.lc k hk) hb.size⟩
theorem Trio.had (h : Trio R1 R3 RC w p1 S1 n1 p3 S3 n3 p2 S2 n2) (ht : Twin R1 R3 w' p1 S1' m1 p3 S3' m3) (hu : Turn (fun k => R1 k ∨ R3 k) w w') : Trio R1 R3 RC w' p1 S1' m1 p3 S3' m3 p2 S2 n2 :=
  ⟨ht, disk_stay h.c hu.size fun k hk hl => hu.block k hl (h.ap k hk), h.ap, fun k hk => Nat.lt_of_lt_of_le (h.lc k hk) hu.size⟩
theorem Trio.read (h : Trio R1 R3 RC w p1 S1 n1 p3 S3 n3 p2 S2 n2) (hd : Disk RC w' p2 S2' m2) (hu : Turn RC w w') : Trio R1 R3 RC w' p1 S1 n1 p3 S3 n3 p2 S2' m2 :=
  ⟨⟨disk_stay h.t.d1 hu.size fun k hk hl => hu.block k hl fun e => h.ap k e (.inl hk), disk_stay h.t.d2 hu.size fun k hk hl => hu.block k hl fun e => h.ap k e (.inr hk), h.t.apart, fun k hk => Nat.lt_of_lt_of_le (h.t.l1 k hk) hu.size, fun k hk => Nat.lt_of_lt_of_le (h.t.l2 k hk) hu.size⟩, hd, h.ap, fun k hk => Nat.lt_of_lt_of_le (h.lc k hk) hu.size⟩
theorem Trio.more (h : Trio R1 R3 RC w p1 S1 n1 p3 S3 n3 p2 S2 n2) (h1 : n1 ≤ m1) (h3 : n3 ≤ m3) (h2 : n2 ≤ m2) : Trio R1 R3 RC w p1 S1 m1 p3 S3 m3 p2 S2 m2 := ⟨h.t.more h1 h3, disk_more h.c h2, h.ap, h.lc⟩
end
/-- Bytes stand at a place of a file of one of both. -/
def HadIn (S1 S3 : St) (ad : Nat) (x : List Int) : Prop := HadP S1 ad x ∨ HadP S3 ad x
/-- What is so of a file when 'Mixed' says no. -/
def FileOk (S1 S3 : St) (L : List Int) : Prop :=
  (∀ x ∈ (front L 0).1, HadIn S1 S3 x.at_ (encL x.r)) ∧ ∀ ad, (ad = 0 ∨ ad = 4096) → ad < L.length → 0 < slotF (L.drop ad) → HadIn S1 S3 ad ((L.drop ad).take (slotF (L.drop ad)))
/-- What 'Mixed' leaves: S3 is what the crash that keeps nothing left. -/
def MixedOut (R1 RC : Nat → Prop) (w : World) (p1 : Nat) (S1 : St) (p2 : Nat) (S2 : St) (n2 : Nat) (e : Ending) (w' : World) : Prop :=
  ∃ r, e = .returned (.bool r) ∧ (r = false → ∃ S3, Built S3 S1.file [] (-1) (S1.leftDir 0) ∧ ∀ z ∈ S2.now, FileOk S1 S3 (S2.file z.2).now) ∧ (∃ k2, Disk RC w' p2 (readSt S2 k2) n2) ∧ Turn (fun k => R1 k ∨ RC k) w w'

/-- The loop over the files under way. -/
structure Mixing (R1 R3 RC : Nat → Prop) (w0 : World) (p1 : Nat) (S1 : St) (n1 : Nat) (p3 : Nat) (S3 : St) (n3 : Nat) (p2 : Nat) (S2 : St) (n2 c q : Nat) (wr : World) : Prop where
  trio : ∃ k1 k3 k2, Trio R1 R3 RC wr p1 (readSt S1 k1) (n1 + c) p3 (readSt S3 k3) (n3 + c) p2 (readSt S2 k2) (n2 + q)
  turn : Turn (fun k => (R1 k ∨ R3 k) ∨ RC k) w0 wr

theorem fit_may {r : Rec} (h : mayB r = true) (ht : r.tenant < 4294967296) : r.Fit := by
  unfold mayB numB isKindB at h
  simp only [Bool.and_eq_true, decide_eq_true_eq] at h
  exact ⟨by omega, ht, by unfold maxLen; omega⟩
theorem HadP.read {S : St} {k : Int} {ad : Nat} {x : List Int} (h : HadP (readSt S k) ad x) : HadP S ad x := h
/-- One question. -/
theorem Mixing.ask {R1 R3 RC : Nat → Prop} {w0 : World} {p1 p2 p3 : Nat} {S1 S2 S3 : St} {n1 n2 n3 c q : Nat} {w : World} (h : Mixing R1 R3 RC w0 p1 S1 n1 p3 S3 n3 p2 S2 n2 c q w) {D : Nat} (hD1 : S1.now.length ≤ D) (hD3 : S3.now.length ≤ D) (hn1 : n1 + c + D ≤ 100000000) (hn3 : n3 + c + D ≤ 100000000)
    (ad : Nat) (had : ad ≤ 1000000000) (gx ox m cx : Nat) (x : List Int) (hx : At w gx ox x) (hxb : Byte x) (hm : x.length = m) (hm1 : 1 ≤ m) (hm2 : m ≤ 1000000000) (hg : gx < w.heap.size) (hr : ¬ (R1 gx ∨ R3 gx)) :
    Calls Tryz.prog 47 #[.pointer (some ⟨p1, 0, none⟩), .pointer (some ⟨p3, 0, none⟩), .int .i64 (ad : Int), .slice (some ⟨gx, ox, none⟩) m cx] w fun e w' => ∃ r, e = .returned (.bool r) ∧ (r = true → HadIn S1 S3 ad x) ∧ Mixing R1 R3 RC w0 p1 S1 n1 p3 S3 n3 p2 S2 n2 (c + D) q w' ∧ Turn (fun k => R1 k ∨ R3 k) w w' := by
  obtain ⟨⟨k1, k3, k2, ht⟩, hu⟩ := h
  refine (had_any w p1 (readSt S1 k1) (n1 + c) p3 (readSt S3 k3) (n3 + c) ht.t (by show n1 + c + S1.now.length ≤ _; omega) (by show n3 + c + S3.now.length ≤ _; omega) ad had gx ox m cx x hx hxb hm hm1 hm2 hg (fun e => hr (.inl e)) (fun e => hr (.inr e))).mono ?_
  rintro e w' ⟨r, rfl, hr1, ⟨j1, j3, tw⟩, tu⟩
  refine ⟨r, rfl, fun e => hr1 e, ⟨⟨k1 + j1, k3 + j3, k2, ?_⟩, hu.trans tu fun k _ e => .inl e⟩, tu⟩
  rw [readSt_add, readSt_add] at tw
  exact (ht.had tw tu).more (by show n1 + c + S1.now.length ≤ _; omega) (by show n3 + c + S3.now.length ≤ _; omega) (Nat.le_refl _)
theorem Mixing.later {R1 R3 RC : Nat → Prop} {w0 : World} {p1 p2 p3 : Nat} {S1 S2 S3 : St} {n1 n2 n3 c q : Nat} {w w' : World} (h : Mixing R1 R3 RC w0 p1 S1 n1 p3 S3 n3 p2 S2 n2 c q w) (hb : Below w.heap.size w w') : Mixing R1 R3 RC w0 p1 S1 n1 p3 S3 n3 p2 S2 n2 c q w' := by
  obtain ⟨⟨k1, k3, k2, ht⟩, hu⟩ := h
  exact ⟨⟨k1, k3, k2, ht.later hb⟩, hu.trans (Turn.of_below (R := fun _ => False) hb) fun k _ e => e.elim⟩

theorem Mixing.mono {R1 R3 RC : Nat → Prop} {w0 : World} {p1 p2 p3 : Nat} {S1 S2 S3 : St} {n1 n2 n3 c c' q : Nat} {w : World} (h : Mixing R1 R3 RC w0 p1 S1 n1 p3 S3 n3 p2 S2 n2 c q w) (hc : c ≤ c') : Mixing R1 R3 RC w0 p1 S1 n1 p3 S3 n3 p2 S2 n2 c' q w := by
  obtain ⟨⟨k1, k3, k2, ht⟩, hu⟩ := h
  exact ⟨⟨k1, k3, k2, ht.more (by omega) (by omega) (Nat.le_refl _)⟩, hu⟩

set_option maxRecDepth 100000 in
set_option maxHeartbeats 8000000 in
theorem mixed_any {R1 RC : Nat → Prop} (w : World) (p1 : Nat) (S1 : St) (n1 : Nat) (p2 : Nat) (S2 : St) (n2 : Nat) (h1 : Disk R1 w p1 S1 n1) (h2 : Disk RC w p2 S2 n2) (l1 : ∀ k, R1 k → k < w.heap.size) (l2 : ∀ k, RC k → k < w.heap.size) (ap : ∀ k, RC k → ¬ R1 k)
    (D M : Nat) (hD1 : S1.now.length ≤ D) (hD3 : (S1.leftDir 0).length ≤ D) (hM : ∀ z ∈ S2.now, (S2.file z.2).now.length ≤ M) (hn1 : 2 * n1 + S2.now.length * ((M + 2) * D) ≤ 10000000) (hn2 : n2 + S2.now.length ≤ 10000000) (hM2 : M ≤ 4194304) :
    Calls Tryz.prog 15 #[.pointer (some ⟨p1, 0, none⟩), .pointer (some ⟨p2, 0, none⟩)] w (MixedOut R1 RC w p1 S1 p2 S2 (n2 + S2.now.length)) := by
  have CC := Lib.hid (crash_any w p1 S1 n1 h1 (by omega) 0 none 0 0 [] (bools_nil w) (-1))
  have H1 := Lib.hid h1
  have H2 := Lib.hid h2
  have L12 := Lib.hid (And.intro l1 (And.intro l2 ap))
  have HM := Lib.hid hM
  clear h1 h2 l1 l2 ap hM
  go_enter Tryz.func15, Tryz.ntmps15
  go_wp2_with fail
  refine CC.out.mono ?_
  rintro e w1 ⟨p3, S3, rfl, d3, b1, _, hbl⟩
  rw [show min (0 : Int).toNat S1.wait.length = 0 from Nat.zero_min _] at hbl
  have trio : Trio R1 (fun k => w.heap.size ≤ k ∧ k < w1.heap.size) RC w1 p1 S1 n1 p3 S3 (2 * n1) p2 S2 n2 :=
    ⟨⟨disk_stay H1.out b1.size fun k _ hk => b1.block k hk, d3.mono fun k hk hr => ⟨hr, hk⟩, fun k hk e => by have := L12.out.1 k hk; omega, fun k hk => Nat.lt_of_lt_of_le (L12.out.1 k hk) b1.size, fun k hk => hk.2⟩,
      disk_stay H2.out b1.size fun k _ hk => b1.block k hk, fun k hk e => by
        rcases e with e | e
        · exact L12.out.2.2 k hk e
        · have := L12.out.2.1 k hk; omega, fun k hk => Nat.lt_of_lt_of_le (L12.out.2.1 k hk) b1.size⟩
  have hD : S3.now.length ≤ D := by
    have := congrArg List.length hbl.names
    rw [List.length_map, List.length_map] at this
    omega
  obtain ⟨R3, hR3⟩ : ∃ R3 : Nat → Prop, (fun k => w.heap.size ≤ k ∧ k < w1.heap.size) = R3 := ⟨_, rfl⟩
  have hr3 : ∀ k, R3 k → w.heap.size ≤ k := by rw [← hR3]; exact fun k hk => hk.1
  rw [hR3] at trio
  have CN := Lib.hid (lnames_any w1 p2 S2 n2 trio.c (by omega))
  have TR := Lib.hid trio
  have trio' := trio
  have HBL := Lib.hid hbl
  have HR3 := Lib.hid hr3
  have Z1 := Lib.hid (show ∀ k, (R1 k ∨ R3 k) ∨ RC k → k < w1.heap.size from fun k hk => by
    rcases hk with (hk | hk) | hk
    · exact trio'.t.l1 k hk
    · exact trio'.t.l2 k hk
    · exact trio'.lc k hk)
  have B1 := Lib.hid b1
  clear trio trio' hbl hr3 hR3 d3 b1 CC
  go_wp2_with fail
  refine CN.out.mono ?_
  rintro e w2 ⟨v, rfl, hrow, _, bn⟩
  obtain ⟨an, cn, rfl, hcn1, hcn2, hnm⟩ := names_row hrow
  obtain ⟨d, hd⟩ : ∃ d, S2.now = d := ⟨_, rfl⟩
  obtain ⟨dl, hdl⟩ : ∃ dl, d.length = dl := ⟨_, rfl⟩
  rw [hd, hdl] at hcn1 hnm hn1 hn2
  rw [hd, hdl]
  have HDD := Lib.hid hd
  have HDL := Lib.hid hdl
  have HNM := Lib.hid hnm
  have T2 := Lib.hid (TR.out.later bn)
  have BN := Lib.hid bn
  clear hd hdl hnm bn hrow CN TR
  go_wp2_with fail
  have yes : ∀ wz c q, Mixing R1 R3 RC w2 p1 S1 n1 p3 S3 (2 * n1) p2 S2 n2 c q wz → q ≤ dl → MixedOut R1 RC w p1 S1 p2 S2 (n2 + S2.now.length) (.returned (.bool true)) wz := fun wz c q hm hq => by
    obtain ⟨⟨k1, k3, k2, ht⟩, hu⟩ := hm
    refine ⟨true, rfl, (fun e => by cases e), ⟨k2, disk_more ht.c (by rw [HDD.out, HDL.out]; omega)⟩, ((Turn.of_below B1.out).trans (Turn.of_below (R := fun _ => False) BN.out) (fun k _ e => e.elim)).trans hu fun k hk e => ?_⟩
    rcases e with (e | e) | e
    · exact .inl e
    · have := HR3.out k e; omega
    · exact .inr e
  have YES := Lib.hid yes
  clear yes
  go_loopw [7] (fun i wr => ∃ (q c : Nat), i = .int .i64 (q : Int) ∧ q ≤ dl ∧ c ≤ q * ((M + 2) * D) ∧ Mixing R1 R3 RC w2 p1 S1 n1 p3 S3 (2 * n1) p2 S2 n2 c q wr ∧ ∀ j (hj : j < d.length), j < q → FileOk S1 S3 (S2.file d[j].2).now) (fun i _ => ((dl : Int) - intOf i).toNat)
  case atStart => exact ⟨0, 0, rfl, Nat.zero_le _, Nat.zero_le _, ⟨⟨0, 0, 0, by rw [readSt_zero, readSt_zero, readSt_zero]; exact T2.out⟩, Turn.refl _ _⟩, fun j _ hj => by omega⟩
  case round =>
    obtain ⟨q, c, rfl, hq, hc, hmx, hok⟩ := hrel
    by_cases hqd : q < dl
    · have hqI : (q : Int) < (dl : Int) := by omega
      have hqd2 : q < d.length := by rw [HDL.out]; exact hqd
      obtain ⟨⟨nm, b⟩, hx⟩ : ∃ z, d[q] = z := ⟨_, rfl⟩
      have hget : d[q]? = some (nm, b) := by rw [List.getElem?_eq_getElem hqd2, hx]
      have hmem : (nm, b) ∈ d := List.mem_of_getElem? hget
      have hLM := HM.out (nm, b) (by rw [HDD.out]; exact hmem)
      have hmx' := hmx
      obtain ⟨⟨k1, k3, k2, ht⟩, hu⟩ := hmx'
      obtain ⟨gn, rfl, hgn⟩ : ∃ gn, an = some ⟨gn, 0, none⟩ ∧ wr.cell? ⟨gn, q, none⟩ = some (.string ⟨nm.toArray⟩) := by
        rcases HNM.out with ⟨_, e⟩ | ⟨gn, e, ho, hl, hb, hcell⟩
        · rw [e] at hqd2; cases hqd2
        · refine ⟨gn, e, ?_⟩
          rw [hu.cell (b := gn) (o := q) hl fun e => ?_]
          · exact hcell q _ hget
          · have z1 := B1.out.size
            have z2 : ∀ k, (R1 k ∨ R3 k) ∨ RC k → k < w1.heap.size := Z1.out
            have := z2 _ e
            omega
      have hsd : d.Pairwise (fun p q => p.1 ≠ q.1) ∧ (∀ z ∈ d, z.1.length ≤ maxLen) ∧ ∀ z ∈ d, Byte (S2.file z.2).now := by
        have hfi := fun b hb => (H2.out.fit (b := b) hb).bnow
        obtain ⟨C, mn, ms, wv, h'⟩ := H2.out
        rw [← HDD.out]
        exact ⟨sorted_apart h'.now.sorted, h'.ok.lnow, fun z hz => hfi _ (h'.ok.inow z hz)⟩
      have hbL : Byte (S2.file b).now := hsd.2.2 _ hmem
      have hlook : dlook nm S2.now = some b := by rw [HDD.out]; exact dlook_of_mem hsd.1 hmem
      have hsz : (⟨nm.toArray⟩ : ByteArray).size ≤ maxLen := by
        have := hsd.2.1 _ hmem
        show nm.toArray.size ≤ maxLen
        simpa using this
      have CW := whole_any wr p2 (readSt S2 k2) (n2 + q) ht.c (by omega) ⟨nm.toArray⟩ hsz b (by exact hlook)
      rw [show ((readSt S2 k2).file b).now = (S2.file b).now from rfl] at CW
      obtain ⟨L, hL⟩ : ∃ L, (S2.file b).now = L := ⟨_, rfl⟩
      rw [hL] at CW hbL
      have hLM2 : L.length ≤ M := by rw [← hL]; exact hLM
      have zw : w1.heap.size ≤ wr.heap.size := Nat.le_trans BN.out.size hu.size
      have ZW := Lib.hid zw
      clear zw
      have LB := Lib.hid hbL
      have HCW := Lib.hid CW
      have HL := Lib.hid hL
      have HX := Lib.hid hx
      have HT := Lib.hid ht
      have HU := Lib.hid hu
      have HOK := Lib.hid hok
      clear CW hL hmem ht hu hmx hsd hlook hsz hget hx hok hbL hLM
      go_wp2_with fail
      refine HCW.out.mono ?_
      rintro e wy ⟨y, rfl, oy, ny, ⟨ky, dy⟩, ty⟩
      obtain ⟨ay, cy, ey, hcy1, hcy2, hay, ly, fy⟩ := oy.form
      obtain ⟨Ln, hLn⟩ : ∃ Ln, L.length = Ln := ⟨_, rfl⟩
      rw [hLn] at ey hcy1 hay hLM2
      subst ey
      rw [readSt_add] at dy
      have mxy : Mixing R1 R3 RC w2 p1 S1 n1 p3 S3 (2 * n1) p2 S2 n2 c (q + 1) wy := ⟨⟨k1, k3, k2 + ky, HT.out.read dy ty⟩, HU.out.trans ty fun k _ e => .inr e⟩
      have CF := Lib.hid (RFront_any ay Ln cy L wy ly LB.out hLn hcy1 (by omega))
      have MY := Lib.hid mxy
      have MYZ := Lib.hid ty.size
      have OY := Lib.hid oy
      have NY := Lib.hid ny
      have HLN := Lib.hid hLn
      have FY := Lib.hid fy
      have HAY := Lib.hid hay
      clear mxy oy ny hLn fy hay ly dy ty HT HU HCW
      go_wp2_with fail
      refine CF.out.mono ?_
      rintro e wf ⟨vm, rfl, gf⟩
      obtain ⟨fs, hfs⟩ : ∃ fs, (front L 0).1 = fs := ⟨_, rfl⟩
      obtain ⟨en, hen⟩ : ∃ en, (front L 0).2 = en := ⟨_, rfl⟩
      have hfl : fs.length ≤ M := by have := front_small L 0; rw [hfs, HLN.out] at this; omega
      obtain ⟨mm, hmm⟩ : ∃ mm, fs.length = mm := ⟨_, rfl⟩
      rw [hfs] at gf
      rw [hen]
      obtain ⟨am, cm, ev, hlc, hcm, ham⟩ := (RowS.of_own gf.own).slice
      rw [hmm] at ev hlc hfl
      subst ev
      have GF := Lib.hid gf
      have HFS := Lib.hid hfs
      have HMM := Lib.hid hmm
      have HAM := Lib.hid ham
      clear gf hfs hmm ham hen CF
      go_wp2_with fail
      have nry : ∀ g, (Value.slice ay Ln cy).ownBlock = some g → ¬ (R1 g ∨ R3 g) := fun g hg e => by
        have h1 := NY.out g hg
        have h2 := Z1.out g (.inl e)
        have h3 := ZW.out
        omega
      have nrm : ∀ g, (Value.slice am mm cm).ownBlock = some g → ¬ (R1 g ∨ R3 g) := fun g hg e => by
        have h1 := GF.out.new_ g hg
        have h2 := Z1.out g (.inl e)
        have h3 := ZW.out
        have h4 := MYZ.out
        omega
      have NRY := Lib.hid nry
      have NRM := Lib.hid nrm
      have MF := Lib.hid (MY.out.later GF.out.below)
      have OF := Lib.hid (OY.out.later GF.out.below)
      have QF := Lib.hid GF.out.own
      clear nry nrm MY OY
      go_loopw [11] (fun i wr => ∃ (q2 : Nat), i = .int .i64 (q2 : Int) ∧ q2 ≤ mm ∧ Mixing R1 R3 RC w2 p1 S1 n1 p3 S3 (2 * n1) p2 S2 n2 (c + q2 * D) (q + 1) wr ∧ (∀ j (hj : j < fs.length), j < q2 → HadIn S1 S3 fs[j].at_ (encL fs[j].r)) ∧ Own wr (.slice ay Ln cy) L ∧ OwnS fR wr (.slice am mm cm) fs) (fun i _ => ((mm : Int) - intOf i).toNat)
      case atStart => exact ⟨0, rfl, Nat.zero_le _, by rw [Nat.zero_mul]; exact MF.out, fun j _ hj => by omega, OF.out, QF.out⟩
      case round =>
        obtain ⟨q2, rfl, hq2, hm2, hh2, ho2, hf2⟩ := hrel
        by_cases hqm : q2 < mm
        · have hqI2 : (q2 : Int) < (mm : Int) := by omega
          have hql : q2 < fs.length := by rw [HMM.out]; exact hqm
          obtain ⟨gm, rfl⟩ := HAM.out (fun e => by rw [e] at hql; cases hql)
          obtain ⟨⟨fa, ⟨kd, tt, ep, o, sq, bd⟩⟩, hx2⟩ : ∃ x, fs[q2] = x := ⟨_, rfl⟩
          have hmem2 : (⟨fa, ⟨kd, tt, ep, o, sq, bd⟩⟩ : Fd) ∈ (front L 0).1 := by rw [HFS.out, ← hx2]; exact List.getElem_mem hql
          have hfd := frontF_mem L _ 0 _ hmem2
          have hfu := dec_full (LB.out.drop fa) hfd.1
          rw [hfd.2.1] at hfu
          obtain ⟨c0, c1, c2, c3, c4, c5, c6⟩ := fd_cells rfl rfl (hf2.later (below_draws (Below.refl _ _) 1 : Below wr.heap.size wr wr.drew)) q2 hql fa kd tt ep o sq bd hx2
          have hDq : c + q2 * D + D ≤ c + (M + 2) * D := by
            have := Nat.mul_le_mul_right D (show q2 + 1 ≤ M + 2 by omega)
            rw [Nat.add_mul, Nat.one_mul] at this
            omega
          have hcq : c + (M + 2) * D ≤ dl * ((M + 2) * D) := by
            have := Nat.mul_le_mul_right ((M + 2) * D) (show q + 1 ≤ dl by omega)
            rw [Nat.add_mul, Nat.one_mul] at this
            omega
          have CE := Lib.hid (renc_yes ⟨kd, tt, ep, o, sq, bd⟩ wr.drew (fit_may hfu.1 hfu.2.2) hfu.1)
          have hbd : bd.size ≤ 1000 := by have := (dec_ok hfd.1).2.2.2; rw [hfd.2.1] at this; exact this
          have hfaL : fa < L.length := hfd.2.2
          have bdr : Below wr.heap.size wr wr.drew := below_draws (Below.refl _ _) 1
          obtain ⟨xl, hxl⟩ : ∃ xl, encL ⟨kd, tt, ep, o, sq, bd⟩ = xl := ⟨_, rfl⟩
          obtain ⟨NL, hNL⟩ : ∃ NL, xl.length = NL := ⟨_, rfl⟩
          rw [hxl] at CE
          have hen : xl.length = 39 + bd.size := by rw [← hxl]; exact encL_length _
          have hl3 := HLN.out
          have hfa9 : fa ≤ 1000000000 := by omega
          have hxby : Byte xl := by rw [← hxl, hfu.2.1]; exact ((LB.out.drop fa).take _)
          have ask : ∀ wE v, Own wE v xl → (∀ g, v.ownBlock = some g → wr.drew.heap.size ≤ g) → Below wr.drew.heap.size wr.drew wE → Calls Tryz.prog 47 #[.pointer (some ⟨p1, 0, none⟩), .pointer (some ⟨p3, 0, none⟩), .int .i64 (fa : Int), v] wE fun e w' => ∃ r', e = .returned (.bool r') ∧ (r' = true → HadIn S1 S3 fa xl) ∧ Mixing R1 R3 RC w2 p1 S1 n1 p3 S3 (2 * n1) p2 S2 n2 (c + q2 * D + D) (q + 1) w' ∧ Own w' (.slice ay Ln cy) L ∧ OwnS fR w' (.slice (some ⟨gm, 0, none⟩) mm cm) fs := by
            intro wE v ov nv bv
            obtain ⟨a, cap, ev, h1, h2, h3, h4, h5⟩ := ov.form
            obtain ⟨g, ea, eg, hgl⟩ : ∃ g, a = some ⟨g, 0, none⟩ ∧ v.ownBlock = some g ∧ g < wE.heap.size := by
              rcases h5 with e | h5
              · have := (h3 e).1; omega
              · exact h5
            subst ea
            have hat : At wE g 0 xl := fun i hi => by
              rcases h4 with e | ⟨b', off, e, hcell⟩
              · rw [e] at hi; cases hi
              · injection e with e
                injection e with e1 e2
                subst e1
                subst e2
                exact hcell i hi
            have bb := bdr.trans (bv.mono bdr.size)
            have hgz : wr.heap.size ≤ g := Nat.le_trans bdr.size (nv g eg)
            have nin : ¬ (R1 g ∨ R3 g) := fun e => by
              have h6 := Z1.out g (.inl e)
              have h7 := hm2.turn.size
              have h8 := BN.out.size
              omega
            rw [ev, hNL]
            refine ((hm2.later bb).ask hD1 hD (by omega) (by omega) fa (by omega) g 0 NL cap xl hat hxby hNL (by omega) (by omega) hgl nin).mono ?_
            rintro e w' ⟨r, rfl, hr, hmx', htu⟩
            exact ⟨r, rfl, hr, hmx', (ho2.later bb).turned htu NRY.out, (hf2.later bb).same fun g' hg' => htu.block g' ((hf2.later bb).lt hg') (NRM.out g' hg')⟩
          have ASK := Lib.hid ask
          have HH2 := Lib.hid hh2
          have HX2 := Lib.hid hx2
          have HXL := Lib.hid hxl
          have HNL := Lib.hid hNL
          unfold Rec.val at CE
          simp only at CE
          clear hl3 hfa9 ask hh2 hx2 hxl hNL hDq hcq hfu hfd hmem2 hen hbd hfaL hxby hm2 ho2 bdr
          go_wp2_with fail
          have gmlt : gm < wr.drew.heap.size := block_lt_of_cell c0
          have hc7 : wr.drew.cell? ⟨gm, q2 * 7, none⟩ = some (.int .i64 (fa : Int)) ∧ wr.drew.cell? ⟨gm, q2 * 7 + 1, none⟩ = some (.int .i64 kd) ∧ wr.drew.cell? ⟨gm, q2 * 7 + 1 + 1, none⟩ = some (.int .u32 (tt : Int)) ∧ wr.drew.cell? ⟨gm, q2 * 7 + 1 + 2, none⟩ = some (.int .u64 (ep : Int)) ∧ wr.drew.cell? ⟨gm, q2 * 7 + 1 + 3, none⟩ = some (.int .u64 (o : Int)) ∧ wr.drew.cell? ⟨gm, q2 * 7 + 1 + 4, none⟩ = some (.int .u64 (sq : Int)) ∧ wr.drew.cell? ⟨gm, q2 * 7 + 1 + 5, none⟩ = some (.string bd) := ⟨c0, c1, c2, c3, c4, c5, c6⟩
          have HC0 := Lib.hid hc7
          clear hc7
          go_region_held3 (fun W => W.cell? ⟨gm, q2 * 7, none⟩ = some (.int .i64 (fa : Int)) ∧ W.cell? ⟨gm, q2 * 7 + 1, none⟩ = some (.int .i64 kd) ∧ W.cell? ⟨gm, q2 * 7 + 1 + 1, none⟩ = some (.int .u32 (tt : Int)) ∧ W.cell? ⟨gm, q2 * 7 + 1 + 2, none⟩ = some (.int .u64 (ep : Int)) ∧ W.cell? ⟨gm, q2 * 7 + 1 + 3, none⟩ = some (.int .u64 (o : Int)) ∧ W.cell? ⟨gm, q2 * 7 + 1 + 4, none⟩ = some (.int .u64 (sq : Int)) ∧ W.cell? ⟨gm, q2 * 7 + 1 + 5, none⟩ = some (.string bd)) (first | exact ⟨c0, c1, c2, c3, c4, c5, c6⟩ | exact mE | exact ⟨e0, e1, e2, e3, e4, e5, e6⟩)
            (first
              | (go_at_call 48; refine CE.out.mono ?_; rintro en wE ⟨vE, rfl, oE, nE, bE⟩; have mE : wE.cell? ⟨gm, q2 * 7, none⟩ = some (.int .i64 (fa : Int)) ∧ wE.cell? ⟨gm, q2 * 7 + 1, none⟩ = some (.int .i64 kd) ∧ wE.cell? ⟨gm, q2 * 7 + 1 + 1, none⟩ = some (.int .u32 (tt : Int)) ∧ wE.cell? ⟨gm, q2 * 7 + 1 + 2, none⟩ = some (.int .u64 (ep : Int)) ∧ wE.cell? ⟨gm, q2 * 7 + 1 + 3, none⟩ = some (.int .u64 (o : Int)) ∧ wE.cell? ⟨gm, q2 * 7 + 1 + 4, none⟩ = some (.int .u64 (sq : Int)) ∧ wE.cell? ⟨gm, q2 * 7 + 1 + 5, none⟩ = some (.string bd) := ⟨(bE.cell (p := ⟨gm, q2 * 7, none⟩) gmlt).trans HC0.out.1, (bE.cell (p := ⟨gm, q2 * 7 + 1, none⟩) gmlt).trans HC0.out.2.1, (bE.cell (p := ⟨gm, q2 * 7 + 1 + 1, none⟩) gmlt).trans HC0.out.2.2.1, (bE.cell (p := ⟨gm, q2 * 7 + 1 + 2, none⟩) gmlt).trans HC0.out.2.2.2.1, (bE.cell (p := ⟨gm, q2 * 7 + 1 + 3, none⟩) gmlt).trans HC0.out.2.2.2.2.1, (bE.cell (p := ⟨gm, q2 * 7 + 1 + 4, none⟩) gmlt).trans HC0.out.2.2.2.2.2.1, (bE.cell (p := ⟨gm, q2 * 7 + 1 + 5, none⟩) gmlt).trans HC0.out.2.2.2.2.2.2⟩; have OE := Lib.hid oE; have NE := Lib.hid nE; have BE := Lib.hid bE; clear oE nE bE)
              | (go_at_call 47; refine (ASK.out wE vE OE.out NE.out BE.out).mono ?_; rintro en wH ⟨rH, rfl, hrH, mH, oH, fH⟩; obtain ⟨e0, e1, e2, e3, e4, e5, e6⟩ := fd_cells rfl rfl fH q2 hql fa kd tt ep o sq bd HX2.out; have HRH := Lib.hid hrH; have MH := Lib.hid mH; have OH := Lib.hid oH; have FH := Lib.hid fH; clear hrH mH oH fH))
          clear c0 c1 c2 c3 c4 c5 c6 e0 e1 e2 e3 e4 e5 e6 mE HC0 CE ASK
          by_cases hrT : rH = true
          · subst hrT
            have fin : ∃ (q3 : Nat), Value.int .i64 ((q2 : Int) + 1) = .int .i64 (q3 : Int) ∧ q3 ≤ mm ∧ Mixing R1 R3 RC w2 p1 S1 n1 p3 S3 (2 * n1) p2 S2 n2 (c + q3 * D) (q + 1) wH ∧ (∀ j (hj : j < fs.length), j < q3 → HadIn S1 S3 fs[j].at_ (encL fs[j].r)) ∧ Own wH (.slice ay Ln cy) L ∧ OwnS fR wH (.slice (some ⟨gm, 0, none⟩) mm cm) fs := by
              refine ⟨q2 + 1, by rw [Int.natCast_add]; rfl, by omega, ?_, fun j hj hjq => ?_, OH.out, FH.out⟩
              · rw [Nat.add_mul, Nat.one_mul, ← Nat.add_assoc]
                exact MH.out
              · by_cases e : j = q2
                · subst e
                  rw [HX2.out]
                  show HadIn S1 S3 fa (encL _)
                  rw [HXL.out]
                  exact HRH.out rfl
                · exact HH2.out j hj (by omega)
            have FIN := Lib.hid fin
            clear fin HRH MH OH FH HH2 HX2 HXL
            go_wp2_with fail
            refine ⟨FIN.out, ?_⟩
            show ((mm : Int) - ((q2 : Int) + 1)).toNat < ((mm : Int) - (q2 : Int)).toNat
            omega
          · obtain rfl : rH = false := by simpa using hrT
            have FIN := Lib.hid (YES.out wH _ _ MH.out (by omega))
            clear HRH MH OH FH HH2 HX2 HXL
            go_wp2_with fail
            go_ret
            exact FIN.out
        · have hqI2 : ¬ (q2 : Int) < (mm : Int) := by omega
          obtain rfl : q2 = mm := by omega
          have M3 := Lib.hid hm2
          have H3 := Lib.hid hh2
          have O3 := Lib.hid ho2
          clear hm2 hh2 ho2 hf2
          go_wp2_with fail
          go_loopw [12] (fun i wr => ∃ (a3 : Nat), i = .int .i64 ((4096 * a3 : Nat) : Int) ∧ a3 ≤ 2 ∧ Mixing R1 R3 RC w2 p1 S1 n1 p3 S3 (2 * n1) p2 S2 n2 (c + q2 * D + a3 * D) (q + 1) wr ∧ (∀ b, b < a3 → 4096 * b < L.length → 0 < slotF (L.drop (4096 * b)) → HadIn S1 S3 (4096 * b) ((L.drop (4096 * b)).take (slotF (L.drop (4096 * b))))) ∧ Own wr (.slice ay Ln cy) L) (fun i _ => ((8192 : Int) - intOf i).toNat)
          case atStart => exact ⟨0, rfl, by omega, by rw [Nat.zero_mul]; exact M3.out, fun b hb => by omega, O3.out⟩
          case round =>
            obtain ⟨a3, rfl, ha3, hm3, hs3, ho3⟩ := hrel
            obtain ⟨ad, had⟩ : ∃ ad, 4096 * a3 = ad := ⟨_, rfl⟩
            rw [had]
            by_cases hgo : ad ≤ 4096 ∧ ad < Ln
            · obtain ⟨hg1, hg2⟩ := hgo
              have i1 : (ad : Int) ≤ 4096 := by omega
              have i2 : (ad : Int) < (Ln : Int) := by omega
              obtain ⟨gy, rfl, hgo⟩ : ∃ gy, ay = some ⟨gy, 0, none⟩ ∧ (Value.slice ay Ln cy).ownBlock = some gy := by
                rcases FY.out with e | ⟨gy, e, e2, _⟩
                · have := (HAY.out e).1; omega
                · exact ⟨gy, e, e2⟩
              have hcne : ¬ cy = ad := by omega
              have hat0 : At wr gy 0 L := fun i hi => by
                obtain ⟨_, _, e, _, _, _, hl, _⟩ := ho3.form
                rw [HLN.out] at e
                injection e with e1 e2 e3
                rw [← e1] at hl
                rcases hl with e | ⟨b', off, e, hcell⟩
                · rw [e] at hi; cases hi
                · injection e with e
                  injection e with e1 e2
                  subst e1
                  subst e2
                  exact hcell i hi
              have hat : At wr gy ad (L.drop ad) := by
                have := at_sub' hat0 ad L.length (by rw [HLN.out]; omega) (Nat.le_refl _)
                unfold recd.sub at this
                rw [Nat.zero_add, List.take_of_length_le (by rw [List.length_drop]; omega)] at this
                exact this
              have hdl : (L.drop ad).length = Ln - ad := by rw [List.length_drop, HLN.out]
              have CS := Lib.hid (slot_any wr gy ad (L.drop ad) hat (LB.out.drop ad) (Ln - ad) (cy - ad) hdl (by omega) (by omega) (by omega))
              have HAT := Lib.hid hat
              have ho3lt : ∀ g, (Value.slice (some ⟨gy, 0, none⟩) Ln cy).ownBlock = some g → g < wr.heap.size := by
                obtain ⟨_, _, e, _, _, _, _, hf⟩ := ho3.form
                intro g hg
                rcases hf with e2 | ⟨g2, e2, e3, e4⟩
                · rw [e2] at e; injection e with e1; cases e1
                · rw [hg] at e3; injection e3 with e3; omega
              have HDL2 := Lib.hid hdl
              have M3' := Lib.hid hm3
              have S3' := Lib.hid hs3
              have O3' := Lib.hid ho3
              clear hat hat0 hdl hm3 hs3 ho3
              go_wp2_with fail
              refine CS.out.mono ?_
              rintro e wS ⟨rfl, bS⟩
              obtain ⟨sn, hsn⟩ : ∃ sn, slotF (L.drop ad) = sn := ⟨_, rfl⟩
              rw [hsn]
              have hsnl : ad + sn ≤ Ln := by have := slotF_le (L.drop ad); rw [hsn, HDL2.out] at this; omega
              have hbnd : c + q2 * D + (a3 + 1) * D ≤ dl * ((M + 2) * D) := by
                have e1 := Nat.mul_le_mul_right D (show q2 + (a3 + 1) ≤ M + 2 by omega)
                have e2 := Nat.mul_le_mul_right ((M + 2) * D) (show q + 1 ≤ dl by omega)
                rw [Nat.add_mul] at e1
                rw [Nat.add_mul q 1, Nat.one_mul] at e2
                omega
              have next : ∀ wz, Mixing R1 R3 RC w2 p1 S1 n1 p3 S3 (2 * n1) p2 S2 n2 (c + q2 * D + (a3 + 1) * D) (q + 1) wz → (0 < sn → HadIn S1 S3 ad ((L.drop ad).take sn)) → Own wz (.slice (some ⟨gy, 0, none⟩) Ln cy) L → ∃ (a4 : Nat), Value.int .i64 ((ad : Int) + 4096) = .int .i64 ((4096 * a4 : Nat) : Int) ∧ a4 ≤ 2 ∧ Mixing R1 R3 RC w2 p1 S1 n1 p3 S3 (2 * n1) p2 S2 n2 (c + q2 * D + a4 * D) (q + 1) wz ∧ (∀ b, b < a4 → 4096 * b < L.length → 0 < slotF (L.drop (4096 * b)) → HadIn S1 S3 (4096 * b) ((L.drop (4096 * b)).take (slotF (L.drop (4096 * b))))) ∧ Own wz (.slice (some ⟨gy, 0, none⟩) Ln cy) L := fun wz hm hs ho => by
                refine ⟨a3 + 1, by rw [show ((4096 * (a3 + 1) : Nat) : Int) = (ad : Int) + 4096 by omega], by omega, hm, fun b hb hbl hsl => ?_, ho⟩
                by_cases e : b = a3
                · subst e
                  rw [had, hsn] at hsl ⊢
                  exact hs hsl
                · exact S3'.out b (by omega) hbl hsl
              have NEXT := Lib.hid next
              have BS := Lib.hid bS
              have HBND := Lib.hid hbnd
              clear next bS hbnd CS S3'
              by_cases hs0 : 0 < sn
              · have hs0I : (0 : Int) < (sn : Int) := by omega
                have hwa : IntKind.i64.wrap ((ad : Int) + 4096) = (ad : Int) + 4096 := by rw [IntKind.wrap_i64]; omega
                have hq1 : q + 1 ≤ dl := by omega
                have hmeas : ((8192 : Int) - ((ad : Int) + 4096)).toNat < ((8192 : Int) - (ad : Int)).toNat := by omega
                have hnin : ¬ (R1 gy ∨ R3 gy) := NRY.out gy hgo
                have hxl : ((L.drop ad).take sn).length = sn := cut_len (by rw [HLN.out]; exact hsnl)
                have hb1 : 2 * n1 + (c + q2 * D + a3 * D) + D ≤ 100000000 := by have := HBND.out; rw [Nat.add_mul, Nat.one_mul] at this; omega
                have hb2 : n1 + (c + q2 * D + a3 * D) + D ≤ 100000000 := by omega
                have had9 : ad ≤ 1000000000 := by omega
                have hsn9 : sn ≤ 1000000000 := by omega
                have CA := (M3'.out.later BS.out).ask hD1 hD hb2 hb1 ad had9 gy ad sn (cy - ad) ((L.drop ad).take sn) ((HAT.out.later BS.out).take sn) ((LB.out.drop ad).take sn) hxl hs0 hsn9 (Nat.lt_of_lt_of_le (ho3lt gy hgo) BS.out.size) hnin
                have HCA := Lib.hid CA
                obtain ⟨hwr, hc1, hc2, hc3, hc4, hc5, hmx, hwr2, hwr3⟩ := had_nums had9 (show 1 ≤ sn from hs0) hsn9 hsnl hcy1 hcy2
                clear CA hnin hxl hb1 hb2
                go_wp2_with fail
                refine HCA.out.mono ?_
                rintro e wH ⟨rH, rfl, hrH, mH, tH⟩
                by_cases hrT : rH = true
                · subst hrT
                  have fin := NEXT.out wH (by rw [Nat.add_mul, Nat.one_mul, ← Nat.add_assoc]; exact mH) (fun _ => hrH rfl) ((O3'.out.later BS.out).turned tH NRY.out)
                  have FIN := Lib.hid fin
                  clear fin hwr hc1 hc2 hc3 hc4 hc5 hmx hwr2 hwr3 hrH mH tH HCA
                  go_wp2_with fail
                  exact ⟨FIN.out, hmeas⟩
                · obtain rfl : rH = false := by simpa using hrT
                  have FIN := Lib.hid (YES.out wH _ _ mH hq1)
                  clear hwr hc1 hc2 hc3 hc4 hc5 hmx hwr2 hwr3 hrH mH tH HCA
                  go_wp2_with fail
                  go_ret
                  exact FIN.out
              · have hs0I : ¬ (0 : Int) < (sn : Int) := by omega
                have fin := NEXT.out wS ((M3'.out.later BS.out).mono (by rw [Nat.add_mul]; omega)) (fun e => absurd e hs0) (O3'.out.later BS.out)
                have hwa : IntKind.i64.wrap ((ad : Int) + 4096) = (ad : Int) + 4096 := by rw [IntKind.wrap_i64]; omega
                have FIN := Lib.hid fin
                clear fin
                go_wp2_with fail
                refine ⟨FIN.out, ?_⟩
                show ((8192 : Int) - ((ad : Int) + 4096)).toNat < ((8192 : Int) - (ad : Int)).toNat
                omega
            · have hle : c + q2 * D + a3 * D ≤ (q + 1) * ((M + 2) * D) := by
                have e1 := Nat.mul_le_mul_right D (show q2 + a3 ≤ M + 2 by omega)
                rw [Nat.add_mul] at e1
                rw [Nat.add_mul q 1, Nat.one_mul]
                omega
              have hfo : FileOk S1 S3 L := by
                refine ⟨fun x hx => ?_, fun a ha hal hsl => ?_⟩
                · rw [HFS.out] at hx
                  obtain ⟨j, hj, rfl⟩ := List.getElem_of_mem hx
                  exact H3.out j hj (by rw [HMM.out] at hj; exact hj)
                · have hl := HLN.out
                  rcases ha with rfl | rfl
                  · exact hs3 0 (by omega) (by omega) hsl
                  · exact hs3 1 (by omega) (by omega) hsl
              have fin : ∃ (q4 c4 : Nat), Value.int .i64 ((q : Int) + 1) = .int .i64 (q4 : Int) ∧ q4 ≤ dl ∧ c4 ≤ q4 * ((M + 2) * D) ∧ Mixing R1 R3 RC w2 p1 S1 n1 p3 S3 (2 * n1) p2 S2 n2 c4 q4 wr ∧ ∀ j (hj : j < d.length), j < q4 → FileOk S1 S3 (S2.file d[j].2).now :=
                ⟨q + 1, _, by rw [Int.natCast_add]; rfl, by omega, hle, hm3, fun j hj hjq => by
                  by_cases e : j = q
                  · subst e
                    rw [HX.out]
                    show FileOk S1 S3 (S2.file b).now
                    rw [HL.out]
                    exact hfo
                  · exact HOK.out j hj (by omega)⟩
              clear hfo hle
              by_cases hg1 : ad ≤ 4096
              · have i1 : (ad : Int) ≤ 4096 := by omega
                have i2 : ¬ (ad : Int) < (Ln : Int) := by omega
                have FIN := Lib.hid fin
                clear fin hm3 hs3 ho3
                go_wp2_with fail
                refine ⟨FIN.out, ?_⟩
                show ((dl : Int) - ((q : Int) + 1)).toNat < ((dl : Int) - (q : Int)).toNat
                omega
              · have i1 : ¬ (ad : Int) ≤ 4096 := by omega
                have FIN := Lib.hid fin
                clear fin hm3 hs3 ho3
                go_wp2_with fail
                refine ⟨FIN.out, ?_⟩
                show ((dl : Int) - ((q : Int) + 1)).toNat < ((dl : Int) - (q : Int)).toNat
                omega
    · have hqI : ¬ (q : Int) < (dl : Int) := by omega
      obtain rfl : q = dl := by omega
      have fin : MixedOut R1 RC w p1 S1 p2 S2 (n2 + S2.now.length) (.returned (.bool false)) wr := by
        rw [show S2.now.length = q by rw [HDD.out, HDL.out]]
        obtain ⟨⟨k1, k3, k2, ht⟩, hu⟩ := hmx
        refine ⟨false, rfl, fun _ => ⟨S3, HBL.out, fun z hz => ?_⟩, ⟨k2, ht.c⟩, ((Turn.of_below B1.out).trans (Turn.of_below (R := fun _ => False) BN.out) (fun k _ e => e.elim)).trans hu fun k hk e => ?_⟩
        · rw [HDD.out] at hz
          obtain ⟨j, hj, rfl⟩ := List.getElem_of_mem hz
          exact hok j hj (by rw [HDL.out] at hj; exact hj)
        · rcases e with (e | e) | e
          · exact .inl e
          · have := HR3.out k e; omega
          · exact .inr e
      have FIN := Lib.hid fin
      clear hmx hok fin
      go_wp2_with fail
      go_ret
      exact FIN.out
end Go.Proofs.YtdonblfidohncaaGreatDoor.scan
