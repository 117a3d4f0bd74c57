/-
  CONTRACTS of slots.lay and slots.Create (P9.1), on a new disk that may be told to fail.
-/
import Derived.Test.YtpgclhpobijdeaaDoorSlSave
namespace Go.Proofs.YtpgclhpobijdeaaDoor.slots
open Go.RowKit Go.Proofs.YtpgclhpobijdeaaDoor.disk Go.Proofs.YtpgclhpobijdeaaDoor.recd Go.Proofs.YtpgclhpobijdeaaDoor.num
set_option linter.unusedVariables false

def aB : ByteArray := ⟨#[77, 65, 78]⟩
def aN : Nm := [77, 65, 78]
def newB : ByteArray := ⟨#[78, 69, 87]⟩
def nN : Nm := [78, 69, 87]
theorem aB_data : aB.data.toList = aN := rfl
theorem newB_data : newB.data.toList = nN := rfl
theorem aB_fit : aB.size ≤ maxLen := by decide
theorem newB_fit : newB.size ≤ maxLen := by decide
theorem aN_good : isNameB aN = true := by decide
theorem nN_good : isNameB nN = true := by decide
/-- A new disk that is told to fail. -/
def start (f : Int) : St := { St.new 100000 with fail := f }
theorem start_new : St.new 100000 = start (-1) := rfl
theorem start_failing (f m : Int) : (start f).failing m = start (max m (-1)) := rfl
section
variable {f c r : Int} {b : Nat} {A : FileA} {sy : Dir}
theorem start_create (hf : f ≠ 0) : (start f).create nN b = (0, One 100000 nN b ⟨[], [], []⟩ [] [⟨some b, [], nN⟩] (less f) 1 0) := by
  unfold St.create
  rw [if_neg (by show ¬ f = 0; exact hf), if_neg (by rw [nN_good]; simp), if_neg (by show ¬ (_ ∧ 400 ≤ 0); omega)]
  rfl
theorem start_create_fails : (start 0).create nN b = (3, (start 0).begin) := by
  unfold St.create
  exact if_pos rfl
theorem One.rename : (One 100000 nN b A [] [⟨some b, [], nN⟩] f c r).begin.changed ⟨none, nN, aN⟩ = One 100000 aN b A [] [⟨some b, [], nN⟩, ⟨none, nN, aN⟩] (less f) (c + 1) r := by
  unfold St.changed St.begin disk.One
  rfl
theorem One.sync_fails : (One 100000 nN b A [] [⟨some b, [], nN⟩] 0 c r).sync nN = (3, (One 100000 nN b A [] [⟨some b, [], nN⟩] 0 c r).begin) := by
  unfold St.sync
  exact if_pos rfl
theorem One.syncDir_fails {nm : Nm} {wa : List Ch} : (One 100000 nm b A sy wa 0 c r).syncDir = (3, (One 100000 nm b A sy wa 0 c r).begin) := by
  unfold St.syncDir
  exact if_pos rfl

/-- What a crash leaves of it: no file of that name, or the whole. -/
def Left (S : St) (Z : List Int) : Prop :=
  (S.now.length ≤ 1 ∧ ∀ m, (S.leftDir m).length ≤ 1) ∧ ∀ (m : Nat) (keep : List Bool) (torn : Int) (S2 : St), Built S2 S.file keep torn (S.leftDir (min m S.wait.length)) → dlook aN S2.now = none ∨ ∃ b', S2.now = [(aN, b')] ∧ S2.file b' = ⟨Z, Z, []⟩
theorem built_names {S2 : St} {file : Nat → FileA} {keep : List Bool} {torn : Int} {b : Nat} (h : Built S2 file keep torn [(nN, b)]) : dlook aN S2.now = none := by
  obtain ⟨b', h1, _⟩ := h.one
  rw [h1]
  rfl
theorem left_start {Z : List Int} : Left (start f) Z := ⟨⟨Nat.zero_le _, fun m => by simp [St.leftDir, start, St.new]⟩, fun m keep torn S2 h => by
  left
  have h2 : Built S2 (start f).file keep torn [] := by
    have e : (start f).leftDir (min m (start f).wait.length) = [] := by
      have : (start f).wait.length = 0 := rfl
      rw [this, Nat.min_zero]
      rfl
    rw [e] at h
    exact h
  rw [h2.none]
  rfl⟩
theorem left_new {Z : List Int} : Left (One 100000 nN b A [] [⟨some b, [], nN⟩] f c r) Z := ⟨⟨Nat.le_refl 1, fun m => by
  rcases Nat.eq_zero_or_pos m with h0 | h0
  · subst h0; rw [One.left_zero]; exact Nat.zero_le _
  · obtain ⟨m, rfl⟩ : ∃ q, m = q + 1 := ⟨m - 1, by omega⟩
    rw [One.left_made nN_good]; exact Nat.le_refl 1⟩, fun m keep torn S2 h => by
  left
  rcases Nat.eq_zero_or_pos m with h0 | h0
  · subst h0
    rw [Nat.zero_min, One.left_zero] at h
    rw [h.none]
    rfl
  · have e : min m (One 100000 nN b A [] [⟨some b, [], nN⟩] f c r).wait.length = 0 + 1 := by
      have : (One 100000 nN b A [] [⟨some b, [], nN⟩] f c r).wait.length = 1 := rfl
      omega
    rw [e, One.left_made nN_good] at h
    exact built_names h⟩
theorem left_named {Z : List Int} : Left (One 100000 aN b ⟨Z, Z, []⟩ [] [⟨some b, [], nN⟩, ⟨none, nN, aN⟩] f c r) Z := ⟨⟨Nat.le_refl 1, fun m => by
  rcases m with _ | _ | m
  · exact Nat.zero_le _
  · exact Nat.le_refl 1
  · have e : (disk.One 100000 aN b ⟨Z, Z, []⟩ [] [⟨some b, [], nN⟩, ⟨none, nN, aN⟩] f c r).wait.take (m + 2) = [⟨some b, [], nN⟩, ⟨none, nN, aN⟩] := List.take_of_length_le (by show 2 ≤ m + 2; omega)
    unfold St.leftDir
    rw [e]
    exact Nat.le_refl 1⟩, fun m keep torn S2 h => by
  have hl : (One 100000 aN b ⟨Z, Z, []⟩ [] [⟨some b, [], nN⟩, ⟨none, nN, aN⟩] f c r).wait.length = 2 := rfl
  rw [hl] at h
  have h3 : min m 2 = 0 ∨ min m 2 = 1 ∨ min m 2 = 2 := by omega
  rcases h3 with e | e | e
  · rw [e, One.left_zero] at h
    left
    rw [h.none]
    rfl
  · rw [e] at h
    left
    exact built_names (b := b) h
  · rw [e] at h
    right
    have h4 : Built S2 (One 100000 aN b ⟨Z, Z, []⟩ [] [⟨some b, [], nN⟩, ⟨none, nN, aN⟩] f c r).file keep torn [(aN, b)] := h
    obtain ⟨b', h5, _, h6⟩ := h4.one
    rw [One.file] at h6
    exact ⟨b', h5, h6⟩⟩
theorem Left.begin {S : St} {Z : List Int} (h : Left S Z) : Left S.begin Z := h
end

/-- What lay leaves. -/
def LayOut (W : World) (X : Nat → Prop) (w : World) (p : Nat) (f : Int) (Z : List Int) (e : Ending) (w' : World) : Prop :=
  ∃ (c : Int) (S' : St), e = .returned (.int .i64 c) ∧ Held W X w' p S' 9 ∧ Kept X w w' ∧ ((c = 0 ∧ ∃ b, S' = disk.One 100000 aN b ⟨Z, Z, []⟩ [(aN, b)] [] (less (less (less (less (less f))))) 5 0) ∨ (c = 3 ∧ f ≠ -1 ∧ Left S' Z))
theorem less_ne {f : Int} (h : f = -1) : less f = -1 := by rw [h]; rfl
theorem Held.more' {W : World} {X : Nat → Prop} {w : World} {p n m : Nat} {S : St} (h : Held W X w p S n) (hn : n ≤ m) : Held W X w p S m := ⟨h.disk.more hn, h.below, h.user⟩

set_option maxRecDepth 100000 in
set_option maxHeartbeats 1000000 in
theorem lay_any {W : World} {X : Nat → Prop} (w : World) (p : Nat) (f : Int) (h : Held W X w p (start f) 0) (a : Option Addr) (m cap : Nat) (en : List Int) (hl : Leads w a en) (hb : Byte en) (hm : en.length = m) (h16 : 16 ≤ m) (hm2 : m ≤ 4096) :
    Calls Tryd.prog 40 #[.pointer (some ⟨p, 0, none⟩), .string aB, .slice a m cap] w (LayOut W X w p f (splice (List.replicate 8192 0) 0 en)) := by
  obtain ⟨w1, r1, o1, b1⟩ := run_make_bytes w 8192 (by omega)
  obtain ⟨w2, r2, o2, g2⟩ := run_copy_own o1 List.length_replicate 0 a m cap en (hl.later b1) hm (by omega) (by omega) 3 8192
  rw [Nat.sub_zero] at r2
  have b2 : Below w.heap.size w w2 := b1.grown g2 b1.size fun g hg => by injection hg with hg; omega
  obtain ⟨Z, hZ⟩ : ∃ Z, splice (List.replicate 8192 0) 0 en = Z := ⟨_, rfl⟩
  have hzl : Z.length = 8192 := by rw [← hZ]; unfold splice; simp only [List.length_append, List.length_take, List.length_drop, List.length_replicate, hm]; omega
  have hzb : Byte Z := by rw [← hZ]; exact (Byte.zeros _).splice hb _
  rw [hZ] at o2 ⊢
  have h2 := h.mine b2
  have hzlt : w.heap.size < w2.heap.size := o2.lt rfl
  have C2 := Lib.hid (held_create h2 (by omega) newB newB_fit)
  have H := Lib.hid h
  have H2 := Lib.hid h2
  have B2 := Lib.hid b2
  have O2 := Lib.hid o2
  have HZL := Lib.hid hzl
  have HZB := Lib.hid hzb
  obtain ⟨g, hg⟩ : ∃ g, w.heap.size = g := ⟨_, rfl⟩
  rw [hg] at r1 r2 O2 H2 C2 hzlt
  have HG := Lib.hid hg
  have r1' : (Instr.makeSlice 44 (.int .i64 8192) (.int .i64 8192)).run Tryd.prog w = .ok (.slice (some ⟨g, 0, none⟩) 8192 8192) w1 := r1
  clear h hl hb hm o1 b1 o2 g2 b2 hZ hzl hzb h2 hg r1
  go_enter Tryd.func40, Tryd.ntmps40
  go_wp2_with fail
  refine C2.out.mono ?_
  rintro e w3 ⟨b, hbf, rfl, h3, k3⟩
  rw [newB_data] at h3 ⊢
  clear r1' r2 C2
  have kx3 : Kept X w w3 := fun k hk => (k3 k (.inl hk)).trans (B2.out.block k (H.out.user k hk))
  have o3 : Own w3 (.slice (some ⟨g, 0, none⟩) 8192 8192) Z := O2.out.same fun g' hg' => by
    have h9 : some g = some g' := hg'
    injection h9 with h9
    exact k3 g' (.inr ⟨by omega, by omega⟩)
  have KX3 := Lib.hid kx3
  clear kx3 k3 hbf
  by_cases h0 : f = 0
  · subst h0
    rw [start_create_fails] at h3 ⊢
    have FIN : Hid (LayOut W X w p 0 Z (.returned (.int .i64 3)) w3) := ⟨3, _, rfl, Held.more' (h3.fewer fun k hk => .inl hk) (by omega), KX3.out, .inr ⟨rfl, by omega, left_start (f := 0)⟩⟩
    clear h3 o3
    go_wp2_with fail
    go_ret
    exact FIN.out
  rw [start_create h0] at h3 ⊢
  have n0 : f = -1 → less f = -1 := less_ne
  obtain ⟨f1, e1⟩ : ∃ f1, less f = f1 := ⟨_, rfl⟩
  rw [e1] at h3 n0
  have C3 := Held.write h3 (Own.leads o3).2 (c := 8192) HZL.out HZB.out (by rw [HZL.out]; omega) (fun b' off e hne => .inl (.inr (by injection e with e; injection e with e; subst e; exact ⟨Nat.le_refl _, hzlt⟩))) (by omega) newB newB_fit ((0 : Nat) : Int)
  rw [newB_data] at C3
  have HC3 := Lib.hid C3
  have HO3 := Lib.hid o3
  have HU3 := Lib.hid h3.user
  have HN0 := Lib.hid n0
  have HF0 := Lib.hid h0
  have E1 := Lib.hid e1
  clear C3 h3 o3 n0 h0 e1
  go_wp2_with fail
  refine HC3.out.mono ?_
  rintro e w4 ⟨rfl, h4, k4⟩
  have kx4 : Kept X w w4 := fun k hk => (k4 k (.inl hk)).trans (KX3.out k hk)
  have KX4 := Lib.hid kx4
  clear kx4 k4 HC3
  by_cases h0 : f1 = 0
  · subst h0
    rw [One.write_fails] at h4 ⊢
    have FIN : Hid (LayOut W X w p f Z (.returned (.int .i64 3)) w4) := ⟨3, _, rfl, Held.more' (h4.fewer fun k hk => .inl hk) (by omega), KX4.out, .inr ⟨rfl, (fun e => by have := HN0.out e; omega), left_new⟩⟩
    clear h4
    go_wp2_with fail
    go_ret
    exact FIN.out
  rw [One.write 0 Z h0 (Nat.zero_le _) (by rw [HZL.out]; omega)] at h4 ⊢
  have hA : ((⟨[], [], []⟩ : FileA).write 0 Z).now = Z := FileA.write_end ⟨[], [], []⟩ Z
  obtain ⟨A1, hA1⟩ : ∃ A1, (⟨[], [], []⟩ : FileA).write 0 Z = A1 := ⟨_, rfl⟩
  rw [hA1] at h4 hA
  obtain ⟨f2, e2⟩ : ∃ f2, less f1 = f2 := ⟨_, rfl⟩
  rw [e2] at h4
  have n2 : f = -1 → f2 = -1 := fun e => by have := HN0.out e; rw [← e2, this]; rfl
  have C4 := held_sync h4 (by omega) newB newB_fit
  rw [newB_data] at C4
  have HC4 := Lib.hid C4
  have HN2 := Lib.hid n2
  have HF1 := Lib.hid h0
  have E2 := Lib.hid e2
  have HA := Lib.hid hA
  clear C4 h4 n2 h0 e2 hA hA1
  go_wp2_with fail
  refine HC4.out.mono ?_
  rintro e w5 ⟨rfl, h5, k5⟩
  have kx5 : Kept X w w5 := fun k hk => (k5 k (.inl hk)).trans (KX4.out k hk)
  have KX5 := Lib.hid kx5
  clear kx5 k5 HC4
  by_cases h0 : f2 = 0
  · subst h0
    rw [One.sync_fails] at h5 ⊢
    have FIN : Hid (LayOut W X w p f Z (.returned (.int .i64 3)) w5) := ⟨3, _, rfl, Held.more' (h5.fewer fun k hk => .inl hk) (by omega), KX5.out, .inr ⟨rfl, (fun e => by have := HN2.out e; omega), left_new⟩⟩
    clear h5
    go_wp2_with fail
    go_ret
    exact FIN.out
  rw [One.sync h0, HA.out] at h5 ⊢
  obtain ⟨f3, e3⟩ : ∃ f3, less f2 = f3 := ⟨_, rfl⟩
  rw [e3] at h5
  have n3 : f = -1 → f3 = -1 := fun e => by have := HN2.out e; rw [← e3, this]; rfl
  have C5 := held_rename h5 (by omega) newB aB newB_fit aB_fit b One.look aN_good
  rw [newB_data, aB_data] at C5
  have HC5 := Lib.hid C5
  have HN3 := Lib.hid n3
  have HF2 := Lib.hid h0
  have E3 := Lib.hid e3
  clear C5 h5 n3 h0 e3
  go_wp2_with fail
  refine HC5.out.mono ?_
  rintro e w6 ⟨rfl, h6, k6⟩
  have kx6 : Kept X w w6 := fun k hk => (k6 k (.inl hk)).trans (KX5.out k hk)
  have KX6 := Lib.hid kx6
  clear kx6 k6 HC5
  rw [One.fail] at h6 ⊢
  by_cases h0 : f3 = 0
  · subst h0
    rw [if_pos rfl] at h6 ⊢
    have FIN : Hid (LayOut W X w p f Z (.returned (.int .i64 3)) w6) := ⟨3, _, rfl, Held.more' (h6.fewer fun k hk => .inl hk) (by omega), KX6.out, .inr ⟨rfl, (fun e => by have := HN3.out e; omega), left_new⟩⟩
    clear h6
    go_wp2_with fail
    go_ret
    exact FIN.out
  rw [if_neg h0] at h6 ⊢
  rw [One.rename] at h6
  obtain ⟨f4, e4⟩ : ∃ f4, less f3 = f4 := ⟨_, rfl⟩
  rw [e4] at h6
  have n4 : f = -1 → f4 = -1 := fun e => by have := HN3.out e; rw [← e4, this]; rfl
  have C6 := held_syncdir h6 (by omega)
  have HC6 := Lib.hid C6
  have HN4 := Lib.hid n4
  have HF3 := Lib.hid h0
  have E4 := Lib.hid e4
  clear C6 h6 n4 h0 e4
  go_wp2_with fail
  refine HC6.out.mono ?_
  rintro e w7 ⟨rfl, h7, k7⟩
  have kx7 : Kept X w w7 := fun k hk => (k7 k (.inl hk)).trans (KX6.out k hk)
  have KX7 := Lib.hid kx7
  clear kx7 k7 HC6
  by_cases h0 : f4 = 0
  · subst h0
    rw [One.syncDir_fails] at h7 ⊢
    have FIN : Hid (LayOut W X w p f Z (.returned (.int .i64 3)) w7) := ⟨3, _, rfl, Held.more' (h7.fewer fun k hk => .inl hk) (by omega), KX7.out, .inr ⟨rfl, (fun e => by have := HN4.out e; omega), left_named⟩⟩
    clear h7
    go_wp2_with fail
    go_ret
    exact FIN.out
  rw [One.syncDir h0] at h7 ⊢
  have FIN : Hid (LayOut W X w p f Z (.returned (.int .i64 0)) w7) := ⟨0, _, rfl, Held.more' (h7.fewer fun k hk => .inl hk) (by omega), KX7.out, .inl ⟨rfl, b, by rw [E1.out, E2.out, E3.out, E4.out]; rfl⟩⟩
  clear h7 h0
  go_wp2_with fail
  go_ret
  exact FIN.out

/-- An open file on a disk that a law holds. -/
structure Slot (W : World) (E : Nat → Prop) (w : World) (s p : Nat) (nm : ByteArray) (tv : Value) (x : List Int) (t k tr : Nat) (S : St) (n b : Nat) (A : FileA) (f : Int) : Prop where
  at_ : SlAt w s p nm tv x t k tr
  held : Held W (Hold s tv E) w p S n
  lone : Lone S nm.data.toList b A f
  keeps : Keeps A.now k t x tr
  fresh : ∀ g, tv.ownBlock = some g → ¬ E g
  free : ¬ E s
  late : W.heap.size ≤ s
/-- What Create leaves, of a new disk. -/
def MakeOut (W : World) (X : Nat → Prop) (w : World) (p : Nat) (f : Int) (x Z : List Int) (e : Ending) (w' : World) : Prop :=
  Kept X w w' ∧ ∃ S', ((∃ s tv b, e = .returned (.tuple #[.pointer (some ⟨s, 0, none⟩), .int .i64 0]) ∧ Slot W X w' s p aB tv x 1 0 1 S' 9 b ⟨Z, Z, []⟩ (less (less (less (less (less f)))))) ∨
    (e = .returned (.tuple #[.pointer none, .int .i64 3]) ∧ f ≠ -1 ∧ Held W X w' p S' 9 ∧ Left S' Z))
/-- A text too long. -/
theorem create_large (w : World) (v : Value) (nm : ByteArray) (a : Option Addr) (m cap : Nat) (hm : 4080 < m) (hm2 : m ≤ 9223372036854775807) :
    Calls Tryd.prog 24 #[v, .string nm, .slice a m cap] w fun e w' => e = .returned (.tuple #[.pointer none, .int .i64 9]) ∧ w = w' := by
  have i1 : (4080 : Int) < (m : Int) := by omega
  go_enter Tryd.func24, Tryd.ntmps24
  go_wp2_with fail
  go_ret2
  exact ⟨rfl, rfl⟩
/-- A name that is there. -/
theorem create_exists {W : World} {X : Nat → Prop} (w : World) (p : Nat) (S : St) (n : Nat) (h : Held W X w p S n) (nm : ByteArray) (hnm : nm.size ≤ maxLen) (b : Nat) (hb : dlook nm.data.toList S.now = some b) (a : Option Addr) (m cap : Nat) (hm : m ≤ 4080) :
    Calls Tryd.prog 24 #[.pointer (some ⟨p, 0, none⟩), .string nm, .slice a m cap] w fun e w' => e = .returned (.tuple #[.pointer none, .int .i64 7]) ∧ w = w' := by
  have i1 : ¬ (4080 : Int) < (m : Int) := by omega
  have C1 := held_size h nm hnm
  have hsz : S.size nm.data.toList = ((S.file b).now.length : Nat) := by rw [St.size]; simp only [hb]
  rw [hsz] at C1
  have i2 : (0 : Int) ≤ ((S.file b).now.length : Nat) := by omega
  generalize (S.file b).now.length = q at C1 i2
  have HC1 := Lib.hid C1
  clear C1 h hb hsz
  go_enter Tryd.func24, Tryd.ntmps24
  go_wp2_with fail
  refine HC1.out.mono ?_
  rintro e w1 ⟨rfl, rfl⟩
  go_wp2_with fail
  go_ret2
  exact ⟨rfl, rfl⟩

set_option maxRecDepth 100000 in
set_option maxHeartbeats 1000000 in
theorem make_any {W : World} {X : Nat → Prop} (w : World) (p : Nat) (f : Int) (h : Held W X w p (start f) 0) (hT : crc.Tab W) (a : Option Addr) (m cap : Nat) (x : List Int) (hx : Leads w a x) (hb : Byte x) (hm : x.length = m) (hm2 : m ≤ 4080) (ha : a = none → cap = 0)
    (hX : ∀ g off, a = some ⟨g, off, none⟩ → x ≠ [] → X g ∨ g < W.heap.size) :
    Calls Tryd.prog 24 #[.pointer (some ⟨p, 0, none⟩), .string aB, .slice a m cap] w (MakeOut W X w p f x (splice (List.replicate 8192 0) 0 (slotE 1 x))) := by
  have i1 : ¬ (4080 : Int) < (m : Int) := by omega
  have C1 := held_size h aB aB_fit
  rw [show (start f).size aB.data.toList = -1 from rfl] at C1
  have HC1 := Lib.hid C1
  have CE := Lib.hid (encode_any w (hT.later h.below) 1 a m cap x hx hb hm (by omega) ha)
  have H := Lib.hid h
  have HX := Lib.hid hX
  have HL := Lib.hid hx
  have HB := Lib.hid hb
  have HM := Lib.hid hm
  obtain ⟨en, hen⟩ : ∃ en, slotE 1 x = en := ⟨_, rfl⟩
  have hel : en.length = 16 + m := by rw [← hen, slotE_length, hm]
  have heb : Byte en := by rw [← hen]; exact slotE_byte 1 hb
  have hkeep := keeps_first (x := x) (by omega) hb
  rw [hen] at CE hkeep ⊢
  obtain ⟨Z, hZ⟩ : ∃ Z, splice (List.replicate 8192 0) 0 en = Z := ⟨_, rfl⟩
  rw [hZ] at hkeep ⊢
  have HK := Lib.hid hkeep
  have HEL := Lib.hid hel
  have HEB := Lib.hid heb
  have HZ := Lib.hid hZ
  clear C1 h hx hb hm hX hen hel heb hkeep hZ hT ha
  go_enter Tryd.func24, Tryd.ntmps24
  go_wp2_with fail
  refine HC1.out.mono ?_
  rintro e w1 ⟨rfl, rfl⟩
  go_wp2_with fail
  refine CE.out.mono ?_
  rintro e w2 ⟨v2, rfl, o2, n2, b2⟩
  obtain ⟨a2, cp2, rfl, _, _, _, l2, _⟩ := o2.form
  rw [HEL.out]
  have CL := Lib.hid (lay_any w2 p f (H.out.later b2) a2 (16 + m) cp2 en l2 HEB.out HEL.out (by omega) (by omega))
  rw [HZ.out] at CL
  have B2 := Lib.hid b2
  clear o2 n2 b2 l2 CE HC1
  go_wp2_with fail
  refine CL.out.mono ?_
  rintro e w3 ⟨c, S', rfl, h3, k3, hc⟩
  have kx3 : Kept X w w3 := fun k hk => (k3 k hk).trans (B2.out.block k (H.out.user k hk))
  have H3 := Lib.hid h3
  have K3 := Lib.hid kx3
  rcases hc with ⟨rfl, b, hS'⟩ | ⟨rfl, hf, hleft⟩
  · have l3 : Leads w3 a x := HL.out.same fun b' off e hne => by
      rcases HX.out b' off e hne with h2 | h2
      · exact K3.out b' h2
      · exact (H3.out.below.block b' h2).trans (H.out.below.block b' h2).symm
    have C3 := Lib.hid (clone_lead w3 a m cap x l3 HM.out (by omega))
    have HS' := Lib.hid hS'
    clear h3 k3 kx3 hS' CL l3
    go_wp2_with fail
    refine C3.out.mono ?_
    rintro e w4 ⟨v4, rfl, o4, n4, b4⟩
    obtain ⟨a4, cp4, hv4, _, _, _, _, _⟩ := o4.form
    have fin : ∀ cells : Array Value, cells.toList = slCells p aB v4 1 0 1 → Kept X w (w4.alloc (.cells cells 86)) ∧ Slot W X (w4.alloc (.cells cells 86)) w4.heap.size p aB v4 x 1 0 1 S' 9 b ⟨Z, Z, []⟩ (less (less (less (less (less f))))) := by
      intro cells hcells
      have b5 : Below w3.heap.size w3 (w4.alloc (.cells cells 86)) := b4.alloc b4.size _
      have hwh : Whole (w4.alloc (.cells cells 86)) w4.heap.size 86 (slCells p aB v4 1 0 1) := Whole.new_ rfl (by rw [← hcells])
      have ho : Own (w4.alloc (.cells cells 86)) v4 x := o4.later ((Below.refl _ _).alloc (Nat.le_refl _) _)
      have hs34 := b4.size
      have hlt : w4.heap.size < (w4.alloc (.cells cells 86)).heap.size := hwh.lt
      generalize w4.alloc (.cells cells 86) = w5 at b5 hwh ho hlt
      have hW3 := H3.out.below.size
      refine ⟨fun k hk => (b5.block k (H3.out.user k hk)).trans (K3.out k hk), ⟨hwh, ho, HB.out, aB_fit, by rw [HM.out]; exact hm2, by omega, by omega, by omega⟩, ?_, ?_, HK.out.1, fun g hg hXg => ?_, fun hXs => ?_, by omega⟩
      · refine (H3.out.mine b5).fewer fun k hk => ?_
        rcases hk with (hk | hk) | hk
        · exact .inr ⟨by omega, by omega⟩
        · exact .inr ⟨n4 k hk, ho.lt hk⟩
        · exact .inl hk
      · rw [HS'.out]
        exact One.lone
      · have := n4 g hg
        have := H3.out.user g hXg
        omega
      · have := H3.out.user _ hXs
        omega
    have FIN := Lib.hid fin
    subst hv4
    clear fin o4 n4 b4 C3
    go_wp2_with fail
    go_ret2
    have fin := FIN.out _ rfl
    exact ⟨fin.1, S', .inl ⟨_, _, b, rfl, fin.2⟩⟩
  · have HF := Lib.hid hf
    have HLE := Lib.hid hleft
    clear h3 k3 kx3 hf hleft CL
    go_wp2_with fail
    go_ret2
    exact ⟨K3.out, S', .inr ⟨rfl, HF.out, H3.out, HLE.out⟩⟩
end Go.Proofs.YtpgclhpobijdeaaDoor.slots
