/-
  CONTRACT of (*segment.Seg).Records (P8.1).
-/
import Derived.Test.YtdonblfidohncaaGreatDoorSgSeg
import Derived.Test.YtdonblfidohncaaGreatDoorMDkB
import Derived.Test.YtdonblfidohncaaGreatDoorMDkC
import Derived.Deep.RegionHeld3
namespace Go.Proofs.YtdonblfidohncaaGreatDoor.scan
open Go.RowKit Go.Proofs.YtdonblfidohncaaGreatDoor.disk Go.Proofs.YtdonblfidohncaaGreatDoor.recd
set_option linter.unusedVariables false

/-- The law's blocks, and all that were made since. -/
def more (X : Nat → Prop) (w w' : World) (k : Nat) : Prop := X k ∨ (w.heap.size ≤ k ∧ k < w'.heap.size)
theorem Held.readMore {W : World} {X : Nat → Prop} {w w' : World} {p n n' : Nat} {S : St} {e : Ending} {x : Int × List Int × St} (h : Held W X w p S n) (hd : ReadOut (Free W.heap.size X w) w p x n' e w') :
    ∃ v, e = .returned (.tuple #[v, .int .i64 x.1]) ∧ Own w' v x.2.1 ∧ (∀ g, v.ownBlock = some g → w.heap.size ≤ g) ∧ Held W (more X w w') w' p x.2.2 n' ∧ Kept X w w' ∧ w.heap.size ≤ w'.heap.size := by
  obtain ⟨v, h1, h2, h3, h4, h5⟩ := hd
  have hs := h5.size
  have hb := h.below.size
  refine ⟨v, h1, h2, h3, ⟨h4.mono fun k hk hr => ⟨hr.1, hk, fun e => ?_⟩, h.below.trans ⟨h5.os, h5.tape, h5.output, h5.size, fun k hk => h5.block k (by omega) fun e => by have := e.1; omega⟩, fun k hk => ?_⟩, fun k hk => h5.block k (h.user k hk) fun e => e.2.2 hk, hs⟩
  · rcases e with e | e
    · exact hr.2.2 e
    · have := hr.2.1; omega
  · rcases hk with hk | hk
    · exact Nat.lt_of_lt_of_le (h.user k hk) hs
    · exact hk.2
theorem Held.moreLater {W : World} {X : Nat → Prop} {w0 w w' : World} {p n : Nat} {S : St} (h : Held W (more X w0 w) w p S n) (hs : w0.heap.size ≤ w.heap.size) (hb : Below w.heap.size w w') : Held W (more X w0 w') w' p S n :=
  (h.mine hb).fewer fun k hk => by
    rcases hk with hk | ⟨h1, h2⟩
    · exact .inl (.inl hk)
    · by_cases hw : k < w.heap.size
      · exact .inl (.inr ⟨h1, hw⟩)
      · exact .inr ⟨by omega, h2⟩

/-- What a call that tells finds leaves. -/
def RecsOut (W : World) (X : Nat → Prop) (w : World) (p : Nat) (S' : St) (n' : Nat) (l : List Fd) (e : Ending) (w' : World) : Prop :=
  ∃ v, e = .returned v ∧ RowS fS w' v l ∧ (∀ g, v.ownBlock = some g → w.heap.size ≤ g) ∧ Held W (more X w w') w' p S' n' ∧ Kept X w w' ∧ w.heap.size ≤ w'.heap.size

/-- What a call that reads bytes of a file leaves. -/
def ReadMade (W : World) (X : Nat → Prop) (w : World) (p : Nat) (S' : St) (n' : Nat) (l : List Int) (e : Ending) (w' : World) : Prop :=
  ∃ v, e = .returned (.tuple #[v, .int .i64 0]) ∧ Own w' v l ∧ (∀ g, v.ownBlock = some g → w.heap.size ≤ g) ∧ Held W (more X w w') w' p S' n' ∧ Kept X w w' ∧ w.heap.size ≤ w'.heap.size
theorem read_part {W : World} {X : Nat → Prop} {w : World} {p : Nat} {S : St} {n : Nat} (h : Held W X w p S n) (hn : n ≤ 100000000) (nm : ByteArray) (hnm : nm.size ≤ maxLen) (b : Nat) (hb : dlook nm.data.toList S.now = some b) (a k : Nat) (hk : a + k ≤ (S.file b).now.length) (q : Nat) :
    Calls Tryz.prog 50 #[.pointer (some ⟨p, 0, none⟩), .string nm, .int .i64 (a : Int), .int .i64 (k : Int)] (w.drewN q) (ReadMade W X w p { S with reads := S.reads + (k : Int) } (n + 1) (((S.file b).now.drop a).take k)) :=
  (read_good (w.drewN q) p S n (h.later (draws_below w q)).disk nm hnm a k b hb hk (by omega)).mono fun e w' ho => by
    obtain ⟨v, h1, h2, h3, h4, h5, h6⟩ := Held.readMore (h.later (draws_below w q)) ho
    exact ⟨v, h1, h2, h3, h4, h5, h6⟩

theorem records_nil (w : World) : Calls Tryz.prog 18 #[.pointer none] w fun e w' => e = .returned (.slice none 0 0) ∧ w = w' := by
  go_enter Tryz.func18, Tryz.ntmps18
  go_wp2
  go_ret
  exact ⟨rfl, rfl⟩

set_option maxRecDepth 100000 in
set_option maxHeartbeats 4000000 in
theorem records_any {W : World} {X : Nat → Prop} (w : World) (p : Nat) (S : St) (n : Nat) (h : Held W X w p S n) (hn : n ≤ 100000000) (hT : crc.Tab W) (s : Nat) (nm : ByteArray) (t : Nat) (wh : Bool) (hs : SegAt w s p nm t wh) (hX : X s) (b : Nat) (hb : dlook nm.data.toList S.now = some b) :
    Calls Tryz.prog 18 #[.pointer (some ⟨s, 0, none⟩)] w (RecsOut W X w p { S with reads := S.reads + ((S.file b).now.length : Int) } (n + 1) (segF t (S.file b).now).1) := by
  have hfit := h.disk.fit (h.disk.ok.inow _ (dlook_mem hb))
  have hmo := hfit.most
  have hby := hfit.bnow
  have hsz : S.size nm.data.toList = ((S.file b).now.length : Int) := by rw [St.size]; simp only [hb]
  have c0 := hs.c0
  have c1 := hs.c1
  have c2 := hs.c2
  have CS : ∀ q, Hid (Calls Tryz.prog 12 #[.pointer (some ⟨s, 0, none⟩)] (w.drewN q) fun e w' => e = .returned (.int .i64 ((S.file b).now.length : Int)) ∧ ∃ m, (w.drewN q).drewN m = w') := fun q => by
    have := segsize_any (w.drewN q) p S n (h.later (draws_below w q)).disk s nm t wh (hs.later (draws_below w q))
    rw [hsz] at this
    exact this
  have CR : ∀ q, Hid (Calls Tryz.prog 50 #[.pointer (some ⟨p, 0, none⟩), .string nm, .int .i64 0, .int .i64 ((S.file b).now.length : Int)] (w.drewN q) (ReadMade W X w p { S with reads := S.reads + ((S.file b).now.length : Int) } (n + 1) (S.file b).now)) := fun q => by
    have := read_part h hn nm hs.name b hb 0 (S.file b).now.length (by omega) q
    rw [List.drop_zero, List.take_length] at this
    exact this
  obtain ⟨S', hS'⟩ : ∃ S', { S with reads := S.reads + ((S.file b).now.length : Int) } = S' := ⟨_, rfl⟩
  rw [hS'] at CR ⊢
  obtain ⟨L, hL⟩ : ∃ L, (S.file b).now = L := ⟨_, rfl⟩
  rw [hL] at CS CR hmo hby ⊢
  obtain ⟨N, hN⟩ : ∃ N, L.length = N := ⟨_, rfl⟩
  rw [hN] at CS CR hmo
  have H := Lib.hid h
  have HT := Lib.hid hT
  have HS := Lib.hid hs
  have HBY := Lib.hid hby
  have HN := Lib.hid hN
  have ht := hs.tenant
  clear h hT hs hfit hsz hb hS' hL hN hby
  go_enter Tryz.func18, Tryz.ntmps18
  go_wp2_with fail
  have d0 : w.drew.cell? ⟨s, 0, none⟩ = some (.pointer (some ⟨p, 0, none⟩)) := c0
  have d1 : w.drew.cell? ⟨s, 1, none⟩ = some (.string nm) := c1
  go_region_held3 (fun W => W.cell? ⟨s, 0, none⟩ = some (.pointer (some ⟨p, 0, none⟩)) ∧ W.cell? ⟨s, 1, none⟩ = some (.string nm)) (first | exact ⟨d0, d1⟩ | exact ⟨d0', d1'⟩ | exact ⟨d0'', d1''⟩)
    (first
      | (go_at_call 12
         refine (CS 1).out.mono ?_
         rintro en w5 ⟨rfl, q5, rfl⟩
         have d0' : ((w.drewN 1).drewN q5).cell? ⟨s, 0, none⟩ = some (.pointer (some ⟨p, 0, none⟩)) := c0
         have d1' : ((w.drewN 1).drewN q5).cell? ⟨s, 1, none⟩ = some (.string nm) := c1)
      | (go_at_call 50
         refine (CR _).out.mono ?_
         rintro en w6 ⟨v, rfl, o6, n6, h6, k6, hs6⟩
         have d0'' : w6.cell? ⟨s, 0, none⟩ = some (.pointer (some ⟨p, 0, none⟩)) := (HS.out.kept hX k6).c0
         have d1'' : w6.cell? ⟨s, 1, none⟩ = some (.string nm) := (HS.out.kept hX k6).c1
         have O6 := Lib.hid o6
         have N6 := Lib.hid n6
         have H6 := Lib.hid h6
         have K6 := Lib.hid k6
         clear o6 n6 h6 k6))
  all_goals
    obtain ⟨av, cv, ev, hcv, _, _, lv, _⟩ := O6.out.form
    rw [HN.out] at ev hcv
    subst ev
    have e0 : w6.cell? ⟨s, 2, none⟩ = some (.int .u32 (t : Int)) := (HS.out.kept hX K6.out).c2
    have hb6 := H6.out.below
    have CF := Lib.hid (segfront_any av N cv L w6 (HT.out.later hb6) lv HBY.out HN.out hcv (by omega) t ht)
    clear hcv lv hb6 d0 d1 d0' d1' d0'' d1'' c0 c1 c2 CR CS
    go_wp2_with fail
    refine CF.out.mono ?_
    rintro en w7 ⟨v7, rfl, r7, n7, b7⟩
    have fin : RecsOut W X w p S' (n + 1) (segF t L).1 (.returned v7) w7 := ⟨v7, rfl, r7, fun g hg => Nat.le_trans hs6 (n7 g hg), Held.moreLater H6.out hs6 b7, fun k hk => (b7.block k (H6.out.user k (.inl hk))).trans (K6.out k hk), Nat.le_trans hs6 b7.size⟩
    have FIN := Lib.hid fin
    clear fin r7 n7 b7 CF
    go_wp2_with fail
    go_ret
    exact FIN.out
end Go.Proofs.YtdonblfidohncaaGreatDoor.scan
