/-
  CONTRACT of (*disk.FS).Crash.
-/
import Derived.Test.YtpbffjpghnijkaaDkCrash
namespace Go.Proofs.Ytpbffjpghnijkaa.disk
open Go.RowKit Go.Maps

/-- The names in memory. -/
theorem names_row {w : World} {base : Nat} {v : Value} {d : Dir} (h : w.ownsRow base 9 1 v d.length (d.map fun p => encStr p.1)) :
    ∃ a cap, v = .slice a d.length cap ∧ d.length ≤ cap ∧ cap ≤ 9223372036854775807 ∧ ((a = none ∧ d = []) ∨ ∃ g, a = some ⟨g, 0, none⟩ ∧ v.ownBlock = some g ∧ g < w.heap.size ∧ base ≤ g ∧ ∀ i q, d[i]? = some q → w.cell? ⟨g, i, none⟩ = some (encStr q.1)) := by
  have hlt := World.ownsRow.lt h
  have hc := fun g hg => World.ownsRow.cells h (g := g) hg
  rcases h.2 with ⟨rfl, h0⟩ | ⟨g, cap, cur, rfl, hb, _, h1, h2, _, _⟩
  · have : d = [] := List.eq_nil_of_length_eq_zero h0
    exact ⟨none, 0, by rw [h0], by omega, by omega, .inl ⟨rfl, this⟩⟩
  · unfold maxLen at h2
    refine ⟨_, cap, rfl, h1, by omega, .inr ⟨g, rfl, rfl, (hlt g rfl).2, hb, fun i q hq => ?_⟩⟩
    have := hc g rfl i (encStr q.1) (by rw [List.getElem?_map, hq]; rfl)
    rwa [Addr.add_mid, Nat.zero_add] at this

theorem apply_bs (w : World) (m : Nat) (d : Dir) (h : IsDir w m d) (c : Ch) (hok : c.Ok d) (hto : c.made ≠ none → c.to ≠ []) (hsf : c.frm.length ≤ maxLen) (hst : c.to.length ≤ maxLen) (hn : d.length ≤ 1000000000) :
    Calls Try.prog 40 #[.agg #[.pointer (adOf c.made), .string ⟨c.frm.toArray⟩, .string ⟨c.to.toArray⟩], .map (some m)] w (ApplyOut w m (c.apply d)) := by
  have h1 := apply_any w m d h c hok hto ⟨c.frm.toArray⟩ ⟨c.to.toArray⟩ rfl rfl (by simpa [ByteArray.size] using hsf) (by simpa [ByteArray.size] using hst) hn
  rw [chCells, ptrOf_ad] at h1
  exact h1

/-- The second loop under way: the files of l are left, t the fate's block, g the names' one. -/
structure Crashing (w : World) (S : St) (file : Nat → FileA) (left l : Dir) (ml W0 pd mn2 ms2 : Nat) (wv2 : Value) (t : Nat) (ka : Option Addr) (kn kc : Nat) (keep : List Bool) (torn : Int) (vg : Option Nat) (C : Nat → Nat → Prop) (S' : St) (wr : World) : Prop where
  build : Building C W0 wr pd S' mn2 ms2 wv2
  nums : S'.room = S.room ∧ S'.fail = -1 ∧ S'.calls = 0 ∧ S'.reads = 0 ∧ S'.wait = []
  built : Built S' file keep torn l
  dir : IsDir wr ml left
  fate : Whole wr t 75 (fateCells ka kn kc torn (dirtySum file l))
  below : Below w.heap.size w wr
  names : ∀ g, vg = some g → ∀ i q, left[i]? = some q → wr.cell? ⟨g, i, none⟩ = some (encStr q.1)
  tC : ∀ x, ¬ C x t
  vC : ∀ g, vg = some g → g ≠ t ∧ g ≠ mn2

theorem Below.of_grown' {B : Nat} {w w' : World} {row : Option Nat} (hg : w.grownBy w' row) (hB : B ≤ w.heap.size) (hr : ∀ k, row = some k → B ≤ k) : Below B w w' := (Below.refl B w).grown hg hB hr

/-- A file is left: the next one. -/
theorem Crashing.next {w : World} {S : St} {file : Nat → FileA} {left : Dir} {y ml W0 pd mn2 ms2 : Nat} {wv2 : Value} {t : Nat} {ka : Option Addr} {kn kc : Nat} {keep : List Bool} {torn : Int} {vg : Option Nat} {C : Nat → Nat → Prop} {S' : St} {wr : World}
    (h : Crashing w S file left (left.take y) ml W0 pd mn2 ms2 wv2 t ka kn kc keep torn vg C S' wr) (hml : ml < W0) (hwml : w.heap.size ≤ ml) (hwt : W0 ≤ t) (hpm : mn2 ≠ pd) (hwm : ∀ g, wv2.ownBlock = some g → g ≠ mn2) {nm : Nm} {b : Nat} (hq : left[y]? = some (nm, b))
    {L : List Int} (hL : leaveL (file b) keep torn (dirtySum file (left.take y)) (file b).dirty (file b).old = L) {w5 w6 w7 : World} (g5 : wr.grownBy w5 (some t)) (f5 : Whole w5 t 75 (fateCells ka kn kc torn (dirtySum file (left.take y) + (file b).dirty.length)))
    {F : Nat → Prop} {b' : Nat} (hf : IsFile F w6 b' ⟨L, L, []⟩) (hF : ∀ k, F k → wr.heap.size ≤ k) (b6 : Below w5.heap.size w5 w6) (g7 : w6.grownBy w7 (some mn2)) (o7 : IsDir w7 mn2 (dput nm b' S'.now)) :
    ∃ C2 S2, Crashing w S file left (left.take (y + 1)) ml W0 pd mn2 ms2 wv2 t ka kn kc keep torn vg C2 S2 w7 := by
  have hB := h.build
  have hnow := hB.inn
  have hmt : mn2 ≠ t := fun e => h.tC pd (e ▸ hnow)
  have htr : t < wr.heap.size := h.fate.lt
  have e6 : ∀ k, k < wr.heap.size → k ≠ t → w6.heap[k]? = wr.heap[k]? := fun k hk hne => (b6.block k (Nat.lt_of_lt_of_le hk g5.size)).trans (g5.block k hk fun e => hne (by injection e))
  have s6 : wr.heap.size ≤ w6.heap.size := Nat.le_trans g5.size b6.size
  have hB6 : Building C W0 w6 pd S' mn2 ms2 wv2 := hB.same s6 fun x k hk => e6 k (hB.low x k hk).2 fun e => h.tC x (e ▸ hk)
  have hmW := (hB.low pd mn2 hnow).1
  have hmW' := (hB.low pd mn2 hnow).2
  have hf7 : IsFile F w7 b' ⟨L, L, []⟩ := hf.same fun k hk hfk => g7.block k hk fun e => by have := hF k hfk; injection e with e; omega
  obtain ⟨m1, m2⟩ := hB6.more (nm := nm) hf7 (fun x k hx hk => by have := (hB.low x k hx).2; have := hF k hk; omega) (fun k hk => by have := hF k hk; have := (hB.low pd mn2 hnow); omega) g7 o7 hpm (fun x k hx hk e => by
    subst e
    have := hB.apart _ _ _ hk hnow
    subst this
    exact hB.notp hx) hwm
  have etake : left.take (y + 1) = left.take y ++ [(nm, b)] := by rw [List.take_add_one, hq, Option.toList_some]
  have hsorted := h.dir.sorted
  have hlast : ∀ q ∈ S'.now, bytesBefore q.1 nm = true := by
    intro q hqq
    have h1 : q.1 ∈ (left.take y).map (·.1) := by rw [← h.built.names]; exact List.mem_map.2 ⟨q, hqq, rfl⟩
    obtain ⟨q', hq', e⟩ := List.mem_map.1 h1
    rw [← e]
    have h2 : (left.take (y + 1)).Pairwise fun p q => bytesBefore p.1 q.1 = true := hsorted.sublist (List.take_sublist _ _)
    rw [etake] at h2
    exact (List.pairwise_append.1 h2).2.2 q' hq' (nm, b) (by simp)
  have hs := h.built.snoc hB.inow (b := b) m2 hlast
  rw [← etake, hL] at hs
  refine ⟨_, _, m1, h.nums, hs, ?_, ?_, ?_, ?_, ?_, ?_⟩
  · exact h.dir.same (((g7.block ml (Nat.lt_of_lt_of_le h.dir.lt s6) fun e => by injection e with e; omega)).trans (e6 ml h.dir.lt (by omega)))
  · rw [etake, dirtySum_snoc]
    exact Whole.same f5 ((g7.block t (Nat.lt_of_lt_of_le htr s6) fun e => hmt (by injection e with e; exact e.symm)).trans (b6.block t (Nat.lt_of_lt_of_le htr g5.size)))
  · have hws := h.below.size
    exact ((h.below.grown g5 hws fun k e => by injection e with e; omega).trans (b6.mono (Nat.le_trans hws g5.size))).grown g7 (Nat.le_trans hws s6) fun k e => by injection e with e; omega
  · intro g hg i q hqi
    have hc := h.names g hg i q hqi
    have hgl : g < wr.heap.size := block_lt_of_cell hc
    obtain ⟨v1, v2⟩ := h.vC g hg
    have e1 : w7.heap[g]? = wr.heap[g]? := (g7.block g (Nat.lt_of_lt_of_le hgl s6) fun e => v2 (by injection e)).trans (e6 g hgl v1)
    exact (World.cell?_of_block (w := wr) (a := ⟨g, i, none⟩) e1).trans hc
  · rintro x (hx | ⟨_, hx, _⟩)
    · exact h.tC x hx
    · have := hF t hx; omega
  · exact h.vC

/-- The built disk is whole once its synced directory is laid. -/
theorem Building.done {C : Nat → Nat → Prop} {W0 : Nat} {wr w5 w6 : World} {p mn ms mx N : Nat} {S : St} {wv : Value} (h : Building C W0 wr p S mn ms wv) (b5 : Below wr.heap.size wr w5) (d5 : IsDir w5 mx S.now) (hx : wr.heap.size ≤ mx) (hmp : mn ≠ p) (hw : S.wait = [])
    (g6 : w5.grownBy w6 (some p)) (hc : Whole w6 p 58 (fsCells S mn mx wv)) (hroom : 0 ≤ S.room ∧ S.room ≤ 4194304) (hf : S.fail = -1) (hca : S.calls = 0) (hr : S.reads = 0) (hN : S.now.length ≤ N) :
    Disk (fun k => W0 ≤ k) w6 p { S with synced := S.now } N := by
  have h5 := h.same b5.size fun x k hk => b5.block k (h.low x k hk).2
  have eb : ∀ k, k < w5.heap.size → k ≠ p → w6.heap[k]? = w5.heap[k]? := fun k hk hne => g6.block k hk fun e => hne (by injection e)
  have hW0 : W0 ≤ wr.heap.size := Nat.le_of_lt (Nat.lt_of_le_of_lt (h.low p p h.inp).1 (h.low p p h.inp).2)
  have hnew : ∀ x k, C x k → k ≠ mx := fun x k hk e => by have := (h.low x k hk).2; omega
  have hlen : ∀ q ∈ S.now, q.1.length ≤ maxLen := fun q hq => h.now.names_le hq
  have hwait : w6.ownsRow 0 64 3 wv S.wait.length (waitCells S.wait) := by
    rw [hw]
    exact row_same h5.wait fun g hg => eb g (World.ownsRow.lt h5.wait g hg).2 (h5.inw g hg).2
  refine ⟨fun x k => C x k ∨ (x = p ∧ k = mx), mn, mx, wv, ⟨hc, h5.now.same (eb mn h5.now.lt hmp), d5.same (eb mx d5.lt fun e => hnew p p h.inp e.symm), hnew p mn h.inn, hwait, ?_, .inl h.inp, .inl h.inn, .inr ⟨rfl, rfl⟩, fun g hg => ⟨.inl (h.inw g hg).1, (h.inw g hg).2⟩, h.notp, ?_, ?_, ?_⟩⟩
  · intro b hb
    exact ((h5.file b hb).same fun k hk hck => eb k hk fun e => by
      subst e
      exact h.notp (h.apart _ _ _ hck h.inp ▸ hb)).mono fun k _ hk => .inl hk
  · rintro x y k (hx | ⟨rfl, rfl⟩) (hy | ⟨rfl, hy⟩)
    · exact h.apart _ _ _ hx hy
    · exact (hnew _ _ hx hy).elim
    · exact (hnew _ _ hy rfl).elim
    · rfl
  · rintro x k (hx | ⟨_, rfl⟩)
    · exact ⟨(h.low x k hx).1, Nat.lt_of_lt_of_le (h5.low x k hx).2 g6.size⟩
    · exact ⟨Nat.le_trans hW0 hx, Nat.lt_of_lt_of_le d5.lt g6.size⟩
  · refine ⟨hroom, ⟨by show (-1 : Int) ≤ S.fail; omega, by show S.fail ≤ _; omega⟩, ⟨by show 0 ≤ S.calls; omega, by show S.calls ≤ _; omega⟩, ⟨by show 0 ≤ S.reads; omega, by show S.reads ≤ _; omega⟩, hN, hN, ?_, h.inow, h.inow, ?_, ?_, hlen⟩
    · show S.wait.length ≤ N
      rw [hw]; exact Nat.zero_le _
    · intro c hc'
      have : c ∈ S.wait := hc'
      rw [hw] at this; cases this
    · show Replays S.now S.wait S.now
      rw [hw]; rfl

/-- What 'Crash' answers with: a new disk, of what is left. -/
def CrashOut (w : World) (S : St) (n : Nat) (m : Int) (keep : List Bool) (torn : Int) (e : Ending) (w' : World) : Prop :=
  ∃ p' S', e = .returned (.pointer (some ⟨p', 0, none⟩)) ∧ Disk (fun k => w.heap.size ≤ k) w' p' S' (2 * n) ∧ Below w.heap.size w w' ∧
    (S'.room = S.room ∧ S'.fail = -1 ∧ S'.calls = 0 ∧ S'.reads = 0 ∧ S'.wait = [] ∧ S'.synced = S'.now) ∧ Built S' S.file keep torn (S.leftDir (min m.toNat S.wait.length))

/-- The first loop under way: m changes are made. -/
structure Replaying (w : World) (S : St) (ml m : Nat) (wr : World) : Prop where
  dir : IsDir wr ml (S.leftDir m)
  below : Below w.heap.size w wr

set_option maxRecDepth 100000 in
set_option maxHeartbeats 2000000 in
theorem crash_any {R : Nat → Prop} (w : World) (p : Nat) (S : St) (n : Nat) (h : Disk R w p S n) (hn : n ≤ 10000000) (m : Int) (ka : Option Addr) (kn kc : Nat) (keep : List Bool) (hk : Bools w ka kn keep) (torn : Int) :
    Calls Try.prog 19 #[.pointer (some ⟨p, 0, none⟩), .int .i64 m, .slice ka kn kc, .int .i64 torn] w (CrashOut w S n m keep torn) := by
  obtain ⟨C, mn, ms, wv, h⟩ := h
  obtain ⟨hi, hhi⟩ : ∃ hi, min m.toNat S.wait.length = hi := ⟨_, rfl⟩
  obtain ⟨aw, cw, ev, hw1, hw2, _, hw4⟩ := wait_form h.wait hi (by omega)
  subst ev
  have hok := h.ok
  have hc0 := h.c0
  have hc2 := h.c2
  have hc3 := h.c3
  have hpl := h.cells.lt
  have em0 : max m 0 = ((m.toNat : Nat) : Int) := by omega
  have emin : min (max m 0) (S.wait.length : Int) = (hi : Int) := by
    rw [em0, ← hhi]
    generalize m.toNat = mm
    omega
  clear em0
  have EMIN := Lib.hid emin
  have emax : max (hi : Int) 0 = (hi : Int) := by omega
  have EMAX := Lib.hid emax
  have hwl := hok.wait
  have HH := Lib.hid h
  have HW4 := Lib.hid hw4
  have HK := Lib.hid hk
  have cC := Lib.hid (clone_dir w ms S.synced h.synced)
  clear h hw4 hk emax emin
  go_enter Try.func19, Try.ntmps19
  go_wp2_with fail
  refine cC.out.mono ?_
  rintro e w1 ⟨rfl, d1, b1⟩
  have d3 : w1.cell? ⟨p, 3, none⟩ = some (.slice aw S.wait.length cw) := (b1.cell (p := ⟨p, 3, none⟩) hpl).trans hc3
  have D1 := Lib.hid d1
  have B1 := Lib.hid b1
  clear d1 b1 hc0 hc2 hc3
  go_wp2_with fail
  go_quiet (fail)
  rw [EMIN.out, EMAX.out, Int.toNat_natCast]
  have D2 : Hid (IsDir (w1.drewN nq) w.heap.size S.synced) := by exact D1.out
  have B2 : Hid (Below w.heap.size w (w1.drewN nq)) := ⟨B1.out.os, B1.out.tape, B1.out.output, B1.out.size, B1.out.block⟩
  generalize w1.drewN nq = w2 at D2 B2 ⊢
  have hhl : hi ≤ S.wait.length := by omega
  have hhn : hi ≤ 10000000 := by omega
  have HHI := Lib.hid hhi
  clear D1 B1 d3 hhi cC
  go_wp2_with fail
  go_loopw [37] (fun i wr => ∃ j : Nat, j ≤ hi ∧ i = .int .i64 (j : Int) ∧ Replaying w S w.heap.size j wr) (fun i _ => hi - (intOf i).toNat)
  case atStart => exact ⟨0, Nat.zero_le _, rfl, D2.out, B2.out⟩
  case round =>
    obtain ⟨j, hj, rfl, hR⟩ := hrel
    have HR := Lib.hid hR
    clear hR
    by_cases hlt : j < hi
    · obtain ⟨g, eg, hgl, hcs⟩ : ∃ g, aw = some ⟨g, 0, none⟩ ∧ g < w.heap.size ∧ ∀ i c, S.wait[i]? = some c → w.rangeAt g (i * 3) [ptrOf c.made, encStr c.frm, encStr c.to] := by
        rcases HW4.out with h0 | h0
        · omega
        · exact h0
      subst eg
      obtain ⟨c, hc⟩ : ∃ c, S.wait[j]? = some c := ⟨_, List.getElem?_eq_getElem (by omega)⟩
      have hfine := hok.iwait c (List.mem_of_getElem? hc)
      have hrange : wr.rangeAt g (j * 3) [ptrOf c.made, encStr c.frm, encStr c.to] := fun i v hv => (HR.out.below.cell (p := ⟨g, j * 3 + i, none⟩) hgl).trans (hcs j c hc i v hv)
      rw [ptrOf_ad] at hrange
      have r0 : wr.cell? ⟨g, j * 3, none⟩ = some (.pointer (adOf c.made)) := hrange 0 _ rfl
      have r1 : wr.cell? ⟨g, j * 3 + 1, none⟩ = some (encStr c.frm) := hrange 1 _ rfl
      have r2 : wr.cell? ⟨g, j * 3 + 2, none⟩ = some (encStr c.to) := hrange 2 _ rfl
      have HC := Lib.hid hc
      have HCS := Lib.hid hcs
      have hlen := leftDir_length S j
      have hsy := hok.synced
      have cA := Lib.hid (fun (W : World) (hW : IsDir W w.heap.size (S.leftDir j)) => apply_bs W w.heap.size (S.leftDir j) hW c (hok.replays.ok_at j c hc) hfine.to hfine.lfrm hfine.lto (by omega))
      have hdir : IsDir (wr.alloc (.cells #[.pointer (adOf c.made), .string ⟨c.frm.toArray⟩, .string ⟨c.to.toArray⟩] 64)) w.heap.size (S.leftDir j) := HR.out.dir.same (heap_alloc_old wr _ HR.out.dir.lt)
      have HD := Lib.hid hdir
      clear hcs hc hrange hdir hlen hsy
      go_wp2_with fail
      refine (cA.out _ HD.out).mono ?_
      rintro e w3 ⟨rfl, d3, g3⟩
      have nxt : Replaying w S w.heap.size (j + 1) w3 := by
        refine ⟨by rw [leftDir_succ S HC.out]; exact d3, ?_⟩
        have b1 : Below w.heap.size w (wr.alloc (.cells #[.pointer (adOf c.made), .string ⟨c.frm.toArray⟩, .string ⟨c.to.toArray⟩] 64)) := HR.out.below.alloc HR.out.below.size _
        exact b1.grown g3 b1.size (fun k hk => by injection hk with hk; omega)
      have NX := Lib.hid nxt
      clear nxt d3 g3
      go_wp2_with fail
      go_roundw
      case rel => exact ⟨j + 1, by omega, by go_num, NX.out⟩
      case measure => simp [intOf]; omega
    · obtain rfl : j = hi := by omega
      have hpl2 : wr.cell? ⟨p, 0, none⟩ = some (.int .i64 S.room) := (HR.out.below.cell (p := ⟨p, 0, none⟩) hpl).trans HH.out.c0
      go_wp2_with fail
      refine (new_any wr S.room).mono ?_
      rintro e w3 ⟨pd, rfl, dk, b3⟩
      obtain ⟨C2, mn2, ms2, wv2, dk⟩ := dk
      have DK := Lib.hid dk
      have B3 := Lib.hid b3
      have c1 := dk.c1
      have hwm : ∀ g, wv2.ownBlock = some g → g ≠ mn2 := fun g hg e => map_ne_row dk.now.owns dk.wait hg e.symm
      have HWM := Lib.hid hwm
      have c2 := dk.c2
      have hpd := dk.cells.lt
      have hlen := leftDir_length S j
      have hsy := hok.synced
      have dl3 : IsDir w3 w.heap.size (S.leftDir j) := HR.out.dir.same (b3.block _ HR.out.dir.lt)
      have DL3 := Lib.hid dl3
      clear hpl2 dk b3 dl3 hwm
      go_wp2_with fail
      have dl4 : IsDir (w3.alloc (.cells #[.slice ka kn kc, .int .i64 torn, .int .i64 0] 75)) w.heap.size (S.leftDir j) := DL3.out.same (heap_alloc_old w3 _ DL3.out.lt)
      refine (names_any _ w.heap.size (S.leftDir j) dl4 (by omega)).mono ?_
      rintro e w4 ⟨v4, rfl, o4, nil4, b4⟩
      obtain ⟨left, hleft⟩ : ∃ left, S.leftDir j = left := ⟨_, rfl⟩
      rw [hleft] at dl4 o4 hlen nil4
      obtain ⟨a4, cap4, e4, hc41, hc42, hrow4⟩ := names_row o4
      subst e4
      have hszA : (w3.alloc (.cells #[.slice ka kn kc, .int .i64 torn, .int .i64 0] 75)).heap.size = w3.heap.size + 1 := by simp
      have hw03 : w.heap.size ≤ w3.heap.size := Nat.le_trans HR.out.below.size B3.out.size
      have start : Crashing w S S.file left [] w.heap.size wr.heap.size pd mn2 ms2 wv2 w3.heap.size ka kn kc keep torn (Value.slice a4 left.length cap4).ownBlock C2 (St.new S.room) w4 := by
        have bA : Below w3.heap.size w3 (w3.alloc (.cells #[.slice ka kn kc, .int .i64 torn, .int .i64 0] 75)) := (Below.refl _ _).alloc (Nat.le_refl _) _
        have b34 : Below w3.heap.size w3 w4 := bA.trans (b4.mono (by rw [hszA]; omega))
        have dkk := DK.out
        have hlow : ∀ x k, C2 x k → wr.heap.size ≤ k ∧ k < w3.heap.size := fun x k hk => dkk.low x k hk
        have bw : Building C2 wr.heap.size w3 pd (St.new S.room) mn2 ms2 wv2 := ⟨dkk.cells, dkk.now, dkk.wait, dkk.file, dkk.inp, dkk.inn, dkk.inw, dkk.notp, dkk.apart, hlow, dkk.ok.inow⟩
        have hroomw : within S.room = S.room := by have := HH.out.ok.room; unfold within; omega
        refine ⟨bw.same b34.size fun x k hk => b34.block k (hlow x k hk).2, ⟨hroomw, rfl, rfl, rfl, rfl⟩, rfl, dl4.same (b4.block _ dl4.lt), ?_, ?_, ?_, fun x hx => ?_, fun g hg => ?_⟩
        · have hf : Whole (w3.alloc (.cells #[.slice ka kn kc, .int .i64 torn, .int .i64 0] 75)) w3.heap.size 75 (fateCells ka kn kc torn 0) := Whole.made' w3 _ _
          exact Whole.same hf (b4.block _ (by rw [hszA]; omega))
        · exact (HR.out.below.trans (B3.out.mono HR.out.below.size)).trans (b34.mono hw03)
        · intro g hg i q hq
          rcases hrow4 with ⟨rfl, h0⟩ | ⟨g', rfl, hg', _, _, hcell⟩
          · cases hg
          · have : g' = g := by injection hg
            subst this
            exact hcell i q hq
        · have := (hlow x _ hx).2; omega
        · rcases hrow4 with ⟨rfl, h0⟩ | ⟨g', rfl, hg', _, hb', _⟩
          · cases hg
          · have : g' = g := by injection hg
            subst this
            have h2 := (hlow pd mn2 dkk.inn).2
            rw [hszA] at hb'
            omega
      have ST := Lib.hid start
      have hsome : 0 < left.length → ∃ g, a4 = some ⟨g, 0, none⟩ := by
        intro h0
        rcases hrow4 with ⟨_, h1⟩ | ⟨g', e, _⟩
        · rw [h1] at h0; simp at h0
        · exact ⟨g', e⟩
      have HSO := Lib.hid hsome
      have HLE := Lib.hid hleft
      have DL4 := Lib.hid dl4
      clear hsome start hrow4 dl4 o4 nil4 b4 c1 c2 hleft
      have hll : left.length ≤ 40000000 := by omega
      obtain ⟨wo, rfl⟩ : ∃ wo : World, wo = wr := ⟨_, rfl⟩
      go_wp2_with fail
      go_loopw [57, 15] (fun i _ wr2 => ∃ (y : Nat) (C : Nat → Nat → Prop) (S' : St), y ≤ left.length ∧ i = .int .i64 (y : Int) ∧ Crashing w S S.file left (left.take y) w.heap.size wo.heap.size pd mn2 ms2 wv2 w3.heap.size ka kn kc keep torn (Value.slice a4 left.length cap4).ownBlock C S' wr2) (fun i _ _ => left.length - (intOf i).toNat)
      case atStart => exact ⟨0, C2, _, Nat.zero_le _, rfl, ST.out⟩
      case round =>
        obtain ⟨y, C', S', hy, rfl, hX⟩ := hrel
        have HX := Lib.hid hX
        clear hX
        by_cases hlt2 : y < left.length
        · obtain ⟨g, eg⟩ := HSO.out (by omega)
          subst eg
          obtain ⟨⟨nm, b⟩, hq⟩ : ∃ q, left[y]? = some q := ⟨_, List.getElem?_eq_getElem hlt2⟩
          have hcell := HX.out.names g rfl y _ hq
          have hcell' : wr.cell? ⟨g, y, none⟩ = some (encStr nm) := hcell
          have hX := HX.out
          have hmem : (nm, b) ∈ left := List.mem_of_getElem? hq
          have hbS : b ∈ S.files := by
            have := leftDir_mem S hok j (nm, b) (by rw [HLE.out]; exact hmem)
            exact this
          have hdl : dlook nm left = some b := dlook_of_mem (sorted_apart hX.dir.sorted) hmem
          have hnl : nm.length ≤ maxLen := hX.dir.names_le hmem
          have hlk := IsDir.look (w := wr.drew) (d := left) (m := w.heap.size) (by exact hX.dir) ⟨nm.toArray⟩ (by simpa [ByteArray.size] using hnl)
          rw [show (⟨nm.toArray⟩ : ByteArray).data.toList = nm from rfl, hdl, ptrOf] at hlk
          have hdc : wr.cell? ⟨pd, 1, none⟩ = some (.map (some mn2)) := (hX.build.cells.at_ 1).trans rfl
          have hpdm : mn2 ≠ pd := map_ne_whole hX.build.now.owns hX.build.cells
          have hsum : dirtySum S.file (left.take y) ≤ 10000000000000 := by
            have h1 := dirtySum_le (S := S) (left.take y) fun q hq' => by
              have h2 := leftDir_mem S hok j q (by rw [HLE.out]; exact List.mem_of_mem_take hq')
              exact (HH.out.file q.2 h2).fit
            have h2 : (left.take y).length ≤ left.length := by rw [List.length_take]; exact Nat.min_le_right _ _
            have h3 : (left.take y).length * 65536 ≤ 40000000 * 65536 := Nat.mul_le_mul_right _ (by omega)
            omega
          have hbb := hX.below
          have hlowS : ∀ x k, C x k → k < w.heap.size := fun x k hk => (HH.out.low x k hk).2
          have cL := Lib.hid (leave_any wr.drew w3.heap.size b (S.file b) ((HH.out.file b hbS).same fun k hk hck => hbb.block k hk) (fun hc => by have := hlowS _ _ hc; omega) (fun x hx => by have := hlowS _ _ hx; have := hbb.size; show x < wr.heap.size; omega) ka kn kc keep torn _ (by exact hX.fate)
            (HK.out.turned (R := fun _ => False) (w' := wr.drew) ⟨hbb.os, hbb.tape, hbb.output, hbb.size, fun k hk _ => hbb.block k hk⟩ (fun _ _ _ _ e => e)) (fun b' off e h0 => by
              rcases HK.out.cells with h1 | ⟨b2, off2, e2, hc⟩
              · omega
              · rw [e] at e2
                obtain ⟨rfl, rfl⟩ : b' = b2 ∧ off = off2 := by simpa using e2
                have : b' < w.heap.size := block_lt_of_cell (hc 0 h0)
                omega) (by omega))
          have FIT := Lib.hid (HH.out.file b hbS).fit
          have HQ := Lib.hid hq
          have HNL := Lib.hid hnl
          have HBS := Lib.hid hbS
          have hdc1 : wr.drew.cell? ⟨pd, 1, none⟩ = some (.map (some mn2)) := hdc
          have HLK := Lib.hid hlk
          clear hq hcell hX hmem hbS hdl hnl hsum hbb hlowS hlk
          go_wp2_with fail
          have hlk := HLK.out
          clear hcell'
          have hpdt : pd ≠ w3.heap.size := by omega
          have hfmo := FIT.out.most
          go_region_held3 (fun W => W.cell? ⟨pd, 1, none⟩ = some (.map (some mn2))) (assumption)
            (first
              | (go_at_call 42
                 refine cL.out.mono ?_
                 rintro e w5 ⟨v9, rfl, o9, y9, l9, n9, f9, g9⟩
                 obtain ⟨L9, hL9⟩ : ∃ L9, leaveL (S.file b) keep torn (dirtySum S.file (left.take y)) (S.file b).dirty (S.file b).old = L9 := ⟨_, rfl⟩
                 rw [hL9] at o9 y9 l9
                 have hf9 := o9.form
                 obtain ⟨a9, c9, e9, _⟩ := hf9
                 subst e9
                 have hd5 : w5.cell? ⟨pd, 1, none⟩ = some (.map (some mn2)) := (g9.cell (a := ⟨pd, 1, none⟩) hdc1 (fun e => hpdt (by injection e)))
                 have HL9 := Lib.hid hL9
                 have O9 := Lib.hid o9
                 have Y9 := Lib.hid y9
                 have N9 := Lib.hid n9
                 have F9 := Lib.hid f9
                 have G9 := Lib.hid g9
                 clear hL9 o9 y9 n9 f9 g9)
              | (go_at_call 34
                 refine (newFile_any (C := fun k => (Value.slice a9 L9.length c9).ownBlock = some k) w5 (.slice a9 L9.length c9) L9 O9.out (fun g hg => hg) (by omega) Y9.out).mono ?_
                 rintro e w6 ⟨b', rfl, hb', hf', b6⟩
                 have hX := HX.out
                 have hd6 : IsDir w6 mn2 S'.now := (hX.build.now.same (w' := w5) (G9.out.block mn2 (by exact hX.build.now.lt) (fun e => hX.tC pd (by injection e with e; rw [← e]; exact hX.build.inn)))).same (b6.block mn2 (Nat.lt_of_lt_of_le hX.build.now.lt G9.out.size))
                 have hnowl : S'.now.length ≤ 40000000 := by
                   have h1 := congrArg List.length hX.built.names
                   rw [List.length_map, List.length_map, List.length_take] at h1
                   omega
                 obtain ⟨w7, r7, o7, g7⟩ := hd6.owns.update strLaw dirType (by unfold maxLen; omega) (strKey ⟨nm.toArray⟩ (by simpa [ByteArray.size] using HNL.out)) (fileElem_some b')
                 rw [show (⟨nm.toArray⟩ : ByteArray).data.toList = nm from rfl, dirD_put] at o7
                 have hd66 : w6.cell? ⟨pd, 1, none⟩ = some (.map (some mn2)) := (b6.cell (p := ⟨pd, 1, none⟩) (block_lt_of_cell hd5)).trans hd5
                 have hd7 : w7.cell? ⟨pd, 1, none⟩ = some (.map (some mn2)) := (g7.cell (a := ⟨pd, 1, none⟩) hd66 (fun e => hpdm (by injection e with e; exact e.symm)))
                 have O7 := Lib.hid o7
                 have G7 := Lib.hid g7
                 have HB' := Lib.hid hb'
                 have HF' := Lib.hid hf'
                 have B6 := Lib.hid b6
                 clear hX hd6 hnowl o7 g7 hb' hf' b6))
          have hg5 : wr.grownBy w5 (some w3.heap.size) := ⟨G9.out.os, G9.out.tape, G9.out.output, G9.out.size, G9.out.block⟩
          obtain ⟨Cn, Sn, hnx⟩ := HX.out.next HR.out.dir.lt (Nat.le_refl _) (B3.out.size) hpdm HWM.out HQ.out HL9.out hg5 F9.out HF'.out (fun k hk => by
            rcases hk with hk | hk
            · exact N9.out k hk
            · exact Nat.le_trans hg5.size hk) B6.out G7.out ⟨_, O7.out⟩
          have NX := Lib.hid hnx
          clear hnx hg5 O9 Y9 N9 F9 G9 HF' B6 G7 O7
          go_wp2_with fail
          go_roundw
          case rel => exact ⟨y + 1, Cn, Sn, by omega, by go_num, NX.out⟩
          case measure => simp [intOf]; omega
        · obtain rfl : y = left.length := by omega
          have hX := HX.out
          have hdc : wr.cell? ⟨pd, 1, none⟩ = some (.map (some mn2)) := (hX.build.cells.at_ 1).trans rfl
          have hpdm : mn2 ≠ pd := map_ne_whole hX.build.now.owns hX.build.cells
          have f2 := hX.build.cells.free 2
          have cN := Lib.hid (fun (W : World) (hW : IsDir W mn2 S'.now) => clone_dir W mn2 S'.now hW)
          have hroom := HH.out.ok.room
          have hn0 : S'.now.length ≤ 2 * n := by
            have h1 := congrArg List.length hX.built.names
            rw [List.length_map, List.length_map, List.take_length] at h1
            omega
          have FIN := Lib.hid (fun (w5 w6 : World) (b5 : Below wr.heap.size wr w5) (d5 : IsDir w5 wr.heap.size S'.now) (g6 : w5.grownBy w6 (some pd)) (hc : Whole w6 pd 58 (fsCells S' mn2 wr.heap.size wv2)) =>
            (⟨pd, _, rfl, (hX.build.done b5 d5 (Nat.le_refl _) hpdm hX.nums.2.2.2.2 g6 hc (by rw [hX.nums.1]; exact hroom) hX.nums.2.1 hX.nums.2.2.1 hX.nums.2.2.2.1 hn0).mono (fun k _ hk => Nat.le_trans HR.out.below.size hk), ((hX.below.trans (b5.mono hX.below.size)).grown g6 (Nat.le_trans hX.below.size b5.size) fun k e => by
              injection e with e
              have := (hX.build.low pd pd hX.build.inp).1
              have := HR.out.below.size
              omega), ⟨hX.nums.1, hX.nums.2.1, hX.nums.2.2.1, hX.nums.2.2.2.1, hX.nums.2.2.2.2, rfl⟩, by
                have hb := hX.built
                rw [List.take_length] at hb
                rw [HHI.out, HLE.out]
                exact hb⟩ : CrashOut w S n m keep torn (.returned (.pointer (some ⟨pd, 0, none⟩))) w6))
          have hpr : pd < wr.heap.size := hX.build.cells.lt
          have hcs := Lib.hid hX.build.cells
          have hdn := Lib.hid hX.build.now
          clear hX hroom hn0
          go_wp2_with fail
          refine (cN.out wr hdn.out).mono ?_
          rintro e w5 ⟨rfl, d5, b5⟩
          have hc5 : Whole w5 pd 58 (fsCells S' mn2 ms2 wv2) := hcs.out.kept b5
          have f25 := hc5.free 2
          have c25 : w5.cell? ⟨pd, 2, none⟩ = some (.map (some ms2)) := (hc5.at_ 2).trans rfl
          have HC5 := Lib.hid hc5
          have D5 := Lib.hid d5
          have B5 := Lib.hid b5
          clear d5 b5 f2 hdc hc5
          go_wp2_with fail
          go_ret
          refine FIN.out w5 _ B5.out D5.out ⟨rfl, rfl, rfl, by simp [World.setCell], fun x _ hx => heap_setCell_other w5 ⟨pd, 2, none⟩ x _ fun e => hx (by rw [e])⟩ ?_
          exact HC5.out.put 2 _
end Go.Proofs.Ytpbffjpghnijkaa.disk
