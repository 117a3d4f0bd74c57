/-
  JOINED: DkKeys DkLeave DkName DkState DkChange DkCreate DkUsed DkOps DkWrites DkGets DkRead.
-/
import Derived.Test.YtpgclhpobijdeaaDoorMDkA
import Derived.Test.YtpgclhpobijdeaaDoorDkLay
import Derived.Shelf.SlIter.Nil
import Derived.Shelf.SlIterI.Nil
import Derived.Shelf.SortM.Plain
import Derived.Shelf.SortM.SortNone
import Derived.Shelf.SlMaps.Clone
import Derived.Deep.RegionLaw
import Derived.Lib.MinMax
import Derived.Deep.RegionHeld3
/-
  CONTRACTS of (disk.directory).names, (*disk.file).dirtySectors, maps.Clone at a directory: by the shelf's contracts on slices.Sorted(maps.Keys(m)) and maps.Clone.
-/







namespace Go.Proofs.YtpgclhpobijdeaaDoor.disk
open Go.RowKit Go.Maps Go.Sort Go.Shelf

/-! names -/
theorem bytes_le : ∀ (a b : List UInt8), bytesBefore a b = true → a ≤ b
  | [], _, _ => List.nil_le _
  | _ :: _, [], h => by cases h
  | a :: r, b :: s, h => by
    rw [List.cons_le_cons_iff]
    have h' : (decide (a < b) || (a == b && bytesBefore r s)) = true := h
    rw [Bool.or_eq_true, Bool.and_eq_true, decide_eq_true_iff, beq_iff_eq] at h'
    rcases h' with h1 | ⟨rfl, h1⟩
    · exact .inl h1
    · exact .inr ⟨rfl, bytes_le r s h1⟩

/-- What 'names' answers with: the names, rising, in a new slice. -/
def NamesOut (w : World) (d : Dir) (e : Ending) (w' : World) : Prop :=
  ∃ v, e = .returned v ∧ w'.ownsRow w.heap.size 9 1 v d.length (d.map fun p => encStr p.1) ∧ (v = .slice none 0 0 ↔ d = []) ∧ Below w.heap.size w w'

/-! dirty sectors -/
/-- What 'dirtySectors' answers with: the sectors, rising, in a new slice. -/
def SectorsOut (w : World) (l : List Nat) (e : Ending) (w' : World) : Prop :=
  ∃ v, e = .returned v ∧ w'.ownsRow w.heap.size 3 1 v l.length (l.map fun (s : Nat) => encZ (s : Int)) ∧ Below w.heap.size w w'

theorem secs_keys (l : List Nat) : intKeys (secs l) = l.map fun (s : Nat) => (s : Int) := by
  show (l.map fun (s : Nat) => (Lit.int .i64 (s : Int), (DataW.agg [] : DataW Unit))).map (fun p => Go.intOf p.1) = _
  rw [List.map_map]; rfl

/-! maps.Clone -/
/-- What maps.Clone leaves. -/
def CloneOut (w : World) (d : Dir) (e : Ending) (w' : World) : Prop :=
  e = .returned (.map (some w.heap.size)) ∧ IsDir w' w.heap.size d ∧ Below w.heap.size w w'
theorem clone_dir (w : World) (m : Nat) (d : Dir) (h : IsDir w m d) : Calls Tryd.prog 67 #[.map (some m)] w (CloneOut w d) :=
  (AnyW.maps_Clone_owns lay.cloneM 9 fileElem m d.length (dirD d) w h.owns).mono fun _ _ ⟨h1, h2, _, h4⟩ => ⟨h1, ⟨_, h2⟩, h4⟩
end Go.Proofs.YtpgclhpobijdeaaDoor.disk
/-
  CONTRACTS of (*disk.fate).next and (*disk.fate).leave: what a crash leaves of a file.
-/


namespace Go.Proofs.YtpgclhpobijdeaaDoor.disk
open Go.RowKit Go.Maps

/-- A []bool that is only read. -/
structure Bools (w : World) (a : Option Addr) (n : Nat) (l : List Bool) : Prop where
  length : l.length = n
  most : n ≤ 9223372036854775807
  cells : n = 0 ∨ ∃ b off, a = some ⟨b, off, none⟩ ∧ ∀ i, i < n → w.cell? ⟨b, off + i, none⟩ = some (.bool (l.getD i false))
theorem Bools.turned {R : Nat → Prop} {w w' : World} {a : Option Addr} {n : Nat} {l : List Bool} (h : Bools w a n l) (ht : Turn R w w') (hR : ∀ b off, a = some ⟨b, off, none⟩ → 0 < n → ¬ R b) : Bools w' a n l := by
  refine ⟨h.length, h.most, ?_⟩
  rcases h.cells with h0 | ⟨b, off, rfl, hc⟩
  · exact .inl h0
  · rcases Nat.eq_zero_or_pos n with h0 | h0
    · exact .inl h0
    · exact .inr ⟨b, off, rfl, fun i hi => (ht.cell (block_lt_of_cell (hc i hi)) (hR b off rfl h0)).trans (hc i hi)⟩

/-- How many first bytes of the i-th dirty sector are as they are now. -/
def takes (keep : List Bool) (torn : Int) (i : Nat) : Nat := if (i : Int) = torn then 32 else if keep.getD i false then 64 else 0
theorem takes_le (keep : List Bool) (torn : Int) (i : Nat) : takes keep torn i ≤ 64 := by unfold takes; split; omega; split <;> omega

def fateCells (ka : Option Addr) (kn kc : Nat) (torn : Int) (i : Nat) : List Value := [.slice ka kn kc, .int .i64 torn, .int .i64 (i : Int)]

/-- What 'next' answers with. -/
def NextOut (w : World) (t k : Nat) (i : Nat) (e : Ending) (w' : World) : Prop :=
  e = .returned (.int .i64 ((k : Nat) : Int)) ∧ w' = w.setCell ⟨t, 2, none⟩ (.int .i64 ((i + 1 : Nat) : Int))

/-! leave -/
/-- What is left of a file: from the k-th sector on, those of l laid over b. -/
def leaveL (A : FileA) (keep : List Bool) (torn : Int) : Nat → List Nat → List Int → List Int
  | _, [], b => b
  | k, s :: r, b => leaveL A keep torn (k + 1) r (laidL b (s * 64) (firstL A s (takes keep torn k)))

theorem laid_first_le {A : FileA} {b : List Int} {s k : Nat} (hb : b.length ≤ A.now.length) (hs : s * 64 ≤ A.now.length) : (laidL b (s * 64) (firstL A s k)).length ≤ A.now.length := by
  have := laidL_length_le b (s * 64) (firstL A s k)
  have := firstL_length A s k
  omega

theorem clone_any (w : World) (v : Value) (l : List Int) (hv : Own w v l) (hn : l.length ≤ 100000000) :
    Calls Tryd.prog 42 #[v] w fun e w' => ∃ v', e = .returned v' ∧ Own w' v' l ∧ (∀ g, v'.ownBlock = some g → w.heap.size ≤ g) ∧ Below w.heap.size w w' := by
  obtain ⟨a, cap, rfl, h1, h2, h3, h4, h5⟩ := hv.form
  cases a with
  | none =>
    obtain rfl : l = [] := List.eq_nil_of_length_eq_zero (h3 rfl).1
    refine (clone_nil _ _ w).mono ?_
    rintro e w' ⟨rfl, rfl⟩
    exact ⟨_, rfl, Own.none_ _, (fun g hg => by cases hg), Below.refl _ _⟩
  | some ad => exact clone_some ad l.length cap l w rfl h4 hn

theorem laid_bare (v : Value) (l : List Int) (s : Nat) (A : Option Addr) (m mcap : Nat) (part : List Int) (w : World) (hv : Own w v l) (hp : Leads w A part) (hps : ∀ g, v.ownBlock = some g → Past g A part) (hm : part.length = m) (hl : l.length ≤ 100000000) (hpm : s * 64 + m ≤ 100000000) :
    Calls Tryd.prog 71 #[v, .int .i64 ((s : Int) * 64), .slice A m mcap] w (LaidOut w v (laidL l (s * 64) part)) := by
  have h := laid_any v l (s * 64) A m mcap part w hv hp hps hm hl hpm
  rwa [show ((s * 64 : Nat) : Int) = (s : Int) * 64 by omega] at h

/-- The sectors in memory. -/
theorem nats_row {w : World} {base : Nat} {v : Value} {l : List Nat} (h : w.ownsRow base 3 1 v l.length (l.map fun (s : Nat) => encZ (s : Int))) :
    ∃ a cap, v = .slice a l.length cap ∧ l.length ≤ cap ∧ cap ≤ 9223372036854775807 ∧ ((a = none ∧ l = []) ∨ ∃ g, a = some ⟨g, 0, none⟩ ∧ v.ownBlock = some g ∧ g < w.heap.size ∧ base ≤ g ∧ ∀ i, i < l.length → w.cell? ⟨g, i, none⟩ = some (.int .i64 ((l.getD i 0 : Nat) : Int))) := by
  have hlt := World.ownsRow.lt h
  have hc := fun g hg => World.ownsRow.cells h (g := g) hg
  rcases h.2 with ⟨rfl, h0⟩ | ⟨g, cap, cur, rfl, hb, _, h1, h2, _, _⟩
  · have : l = [] := List.eq_nil_of_length_eq_zero h0
    exact ⟨none, 0, by rw [h0], by omega, by omega, .inl ⟨rfl, this⟩⟩
  · unfold maxLen at h2
    refine ⟨_, cap, rfl, h1, by omega, .inr ⟨g, rfl, rfl, (hlt g rfl).2, hb, fun i hi => ?_⟩⟩
    have := hc g rfl i (.int .i64 ((l.getD i 0 : Nat) : Int)) (by simp [List.getD_eq_getElem?_getD, List.getElem?_eq_getElem hi])
    rwa [Addr.add_mid, Nat.zero_add] at this

end Go.Proofs.YtpgclhpobijdeaaDoor.disk
/-
  CONTRACTS of disk.isOfName and disk.isName.
-/

namespace Go.Proofs.YtpgclhpobijdeaaDoor.disk
open Go.RowKit Go.Maps

/-- May a name have that byte? -/
def okC (c : Int) : Bool := decide (97 ≤ c ∧ c ≤ 122) || decide (65 ≤ c ∧ c ≤ 90) || decide (48 ≤ c ∧ c ≤ 57) || decide (c = 46)
/-- May that be a name? -/
def isNameB (l : Nm) : Bool := decide (1 ≤ l.length) && decide (l.length ≤ 32) && l.all fun c => okC (c.toNat : Int)

set_option maxHeartbeats 1000000 in
theorem isOfName_any (w : World) (c : Int) :
    Calls Tryd.prog 55 #[.int .u8 c] w fun e w' => e = .returned (.bool (okC c)) ∧ w = w' := by
  have HO := Lib.hid (fun b (hb : b = okC c) => show Ending.returned (.bool b) = .returned (.bool (okC c)) by rw [hb])
  by_cases h1 : 97 ≤ c ∧ c ≤ 122
  · have hv : okC c = true := by simp [okC, h1]
    have HV := Lib.hid hv
    obtain ⟨a, b⟩ := h1
    clear hv
    go_enter Tryd.func55, Tryd.ntmps55
    go_wp2
    go_ret
    exact ⟨HO.out _ (by rw [HV.out]), rfl⟩
  · by_cases h2 : 65 ≤ c ∧ c ≤ 90
    · have hv : okC c = true := by simp [okC, h2]
      have HV := Lib.hid hv
      have h3 : ¬ 97 ≤ c := by omega
      obtain ⟨a, b⟩ := h2
      clear hv h1
      go_enter Tryd.func55, Tryd.ntmps55
      go_wp2
      go_ret
      exact ⟨HO.out _ (by rw [HV.out]), rfl⟩
    · have hv : okC c = (decide (48 ≤ c ∧ c ≤ 57) || decide (c = 46)) := by simp [okC, h1, h2]
      have HV := Lib.hid hv
      by_cases h3 : 48 ≤ c ∧ c ≤ 57
      · have h5 : ¬ 65 ≤ c := by omega
        have h6 : ¬ 97 ≤ c := by omega
        have hv2 : okC c = true := by rw [hv]; simp [h3]
        have HV2 := Lib.hid hv2
        obtain ⟨a, b⟩ := h3
        clear hv hv2 h1 h2
        go_enter Tryd.func55, Tryd.ntmps55
        go_wp2
        go_ret
        exact ⟨HO.out _ (by rw [HV2.out]), rfl⟩
      · have hv2 : okC c = decide (c = 46) := by rw [hv]; simp [h3]
        have HV2 := Lib.hid hv2
        clear hv hv2
        by_cases a1 : 97 ≤ c
        all_goals by_cases a2 : c ≤ 122
        all_goals by_cases a3 : 65 ≤ c
        all_goals by_cases a4 : c ≤ 90
        all_goals by_cases a5 : 48 ≤ c
        all_goals by_cases a6 : c ≤ 57
        all_goals first
          | (exfalso; omega)
          | (clear h1 h2 h3
             go_enter Tryd.func55, Tryd.ntmps55
             go_wp2
             go_ret
             refine ⟨HO.out _ ?_, rfl⟩
             rw [HV2.out]
             by_cases e : c = 46 <;> simp [e])

theorem isNameB_long {l : Nm} (h : l.length < 1 ∨ 32 < l.length) : isNameB l = false := by
  unfold isNameB
  rcases h with h | h
  · rw [decide_eq_false (by omega)]; rfl
  · rw [show decide (l.length ≤ 32) = false from decide_eq_false (by omega)]; simp
theorem isNameB_bad {l : Nm} {i : Nat} (hi : i < l.length) (h : okC ((l[i]).toNat : Int) = false) : isNameB l = false := by
  unfold isNameB
  have : (l.all fun c => okC (c.toNat : Int)) = false := by
    rw [List.all_eq_false]
    exact ⟨l[i], List.getElem_mem hi, by simp [h]⟩
  rw [this]; simp
theorem isNameB_good {l : Nm} (h1 : 1 ≤ l.length) (h2 : l.length ≤ 32) (h : ∀ i (hi : i < l.length), okC ((l[i]).toNat : Int) = true) : isNameB l = true := by
  unfold isNameB
  have : (l.all fun c => okC (c.toNat : Int)) = true := by
    rw [List.all_eq_true]
    intro c hc
    obtain ⟨i, hi, rfl⟩ := List.getElem_of_mem hc
    exact h i hi
  rw [this, decide_eq_true h1, decide_eq_true h2]; rfl
theorem isNameB_nonempty {l : Nm} (h : isNameB l = true) : l ≠ [] := by
  intro e; subst e; cases h
theorem isNameB_le {l : Nm} (h : isNameB l = true) : l.length ≤ 32 := by
  unfold isNameB at h
  simp only [Bool.and_eq_true, decide_eq_true_eq] at h
  exact h.1.2

set_option maxHeartbeats 1000000 in
theorem isName_any (w : World) (s : ByteArray) (hs : s.size ≤ maxLen) :
    Calls Tryd.prog 36 #[.string s] w fun e w' => e = .returned (.bool (isNameB s.data.toList)) ∧ w = w' := by
  unfold maxLen at hs
  have hlen : s.data.toList.length = s.size := by simp
  by_cases hsz : s.size < 1 ∨ 32 < s.size
  · have hv := isNameB_long (l := s.data.toList) (by rw [hlen]; exact hsz)
    have HV := Lib.hid hv
    clear hv hlen
    by_cases h1 : s.size < 1
    · go_enter Tryd.func36, Tryd.ntmps36
      go_wp2
      go_ret
      exact ⟨by rw [HV.out]; rfl, rfl⟩
    · have h2 : 32 < s.size := by omega
      clear hsz
      go_enter Tryd.func36, Tryd.ntmps36
      go_wp2
      go_ret
      exact ⟨by rw [HV.out]; rfl, rfl⟩
  · have h1 : ¬ s.size < 1 := by omega
    have h2 : ¬ 32 < s.size := by omega
    have HLEN := Lib.hid hlen
    clear hsz hlen
    go_enter Tryd.func36, Tryd.ntmps36
    go_wp2_with fail
    go_loop [14, 3] (fun i _ => ∃ k : Nat, k ≤ s.size ∧ i = .int .i64 (k : Int) ∧ ∀ j (hj : j < s.data.toList.length), j < k → okC ((s.data.toList[j]).toNat : Int) = true) (fun i _ => s.size - (intOf i).toNat)
    case atStart => exact ⟨0, Nat.zero_le _, rfl, fun j _ hj => absurd hj (Nat.not_lt_zero _)⟩
    case round =>
      obtain ⟨k, hk, rfl, hall⟩ := hrel
      have HA := Lib.hid hall
      clear hall
      by_cases hlt : k < s.size
      · have e : s[k] = s.data.toList[k]'(by rw [HLEN.out]; exact hlt) := rfl
        have E := Lib.hid e
        clear e
        cases hok : okC (s[k].toNat : Int)
        · have HOK := Lib.hid hok
          have hbad : isNameB s.data.toList = false := isNameB_bad (by rw [HLEN.out]; exact hlt) (by rw [← E.out]; exact hok)
          have HB := Lib.hid hbad
          have cO := Lib.hid (show Calls Tryd.prog 55 #[.int .u8 (s[k].toNat : Int)] w fun e w' => e = .returned (.bool false) ∧ w = w' from by rw [← hok]; exact isOfName_any w _)
          clear hok hbad
          go_wp2_with fail
          refine cO.out.mono ?_
          rintro e w' ⟨rfl, rfl⟩
          go_wp2_with fail
          go_ret
          exact ⟨by rw [HB.out]; rfl, rfl⟩
        · have HOK := Lib.hid hok
          have cO := Lib.hid (show Calls Tryd.prog 55 #[.int .u8 (s[k].toNat : Int)] w fun e w' => e = .returned (.bool true) ∧ w = w' from by rw [← hok]; exact isOfName_any w _)
          clear hok
          go_wp2_with fail
          refine cO.out.mono ?_
          rintro e w' ⟨rfl, rfl⟩
          go_wp2_with fail
          go_round
          case rel =>
            refine ⟨k + 1, by omega, by go_num, fun j hj hjk => ?_⟩
            by_cases hjk' : j = k
            · subst hjk'; rw [← E.out]; exact HOK.out
            · exact HA.out j hj (by omega)
          case measure => simp [intOf]; omega
      · have hgood : isNameB s.data.toList = true := isNameB_good (by rw [HLEN.out]; omega) (by rw [HLEN.out]; omega) (fun i hi => HA.out i hi (by rw [HLEN.out] at hi; omega))
        have HG := Lib.hid hgood
        clear hgood
        go_wp2_with fail
        go_ret
        exact ⟨by rw [HG.out]; rfl, rfl⟩
end Go.Proofs.YtpgclhpobijdeaaDoor.disk
/-
  A DISK: what it holds, told plainly, and in memory.
-/


namespace Go.Proofs.YtpgclhpobijdeaaDoor.disk
open Go.RowKit Go.Maps

/-- A disk. Files go by their blocks. -/
structure St where
  room : Int
  now : Dir
  synced : Dir
  wait : List Ch
  fail : Int
  calls : Int
  reads : Int
  files : List Nat
  file : Nat → FileA

/-- The changes that wait make e of d. -/
def Replays : Dir → List Ch → Dir → Prop
  | d, [], e => d = e
  | d, c :: r, e => c.Ok d ∧ Replays (c.apply d) r e
theorem Replays.snoc {c : Ch} {e : Dir} : ∀ {l : List Ch} {d : Dir}, Replays d l e → c.Ok e → Replays d (l ++ [c]) (c.apply e)
  | [], d, h, hc => by
    have h' : d = e := h
    subst h'
    exact ⟨hc, rfl⟩
  | _ :: _, _, h, hc => ⟨h.1, Replays.snoc h.2 hc⟩

/-- What a change may be: of files of the disk, by names. -/
structure Ch.Fine (c : Ch) (files : List Nat) : Prop where
  file : ∀ b, c.made = some b → b ∈ files
  to : c.made ≠ none → c.to ≠ []
  lfrm : c.frm.length ≤ maxLen
  lto : c.to.length ≤ maxLen

/-- What holds of every disk; n: how much it may have seen. -/
structure St.Ok (S : St) (n : Nat) : Prop where
  room : 0 ≤ S.room ∧ S.room ≤ 4194304
  fail : -1 ≤ S.fail ∧ S.fail ≤ 9223372036854775807
  calls : 0 ≤ S.calls ∧ S.calls ≤ n
  reads : 0 ≤ S.reads ∧ S.reads ≤ (n : Int) * 4194304
  now : S.now.length ≤ n
  synced : S.synced.length ≤ n
  wait : S.wait.length ≤ n
  inow : ∀ p ∈ S.now, p.2 ∈ S.files
  isynced : ∀ p ∈ S.synced, p.2 ∈ S.files
  iwait : ∀ c ∈ S.wait, c.Fine S.files
  replays : Replays S.synced S.wait S.now
  lnow : ∀ p ∈ S.now, p.1.length ≤ maxLen

/-- How the changes that wait lie in memory. -/
def waitCells (l : List Ch) : List Value := l.flatMap fun c => [ptrOf c.made, encStr c.frm, encStr c.to]
theorem waitCells_length (l : List Ch) : (waitCells l).length = l.length * 3 := by
  induction l with
  | nil => rfl
  | cons c r ih => rw [waitCells, List.flatMap_cons, List.length_append] ; rw [waitCells] at ih; rw [ih]; simp; omega
theorem waitCells_snoc (l : List Ch) (c : Ch) : waitCells (l ++ [c]) = waitCells l ++ [ptrOf c.made, encStr c.frm, encStr c.to] := by simp [waitCells]

/-- The struct's cells. -/
def fsCells (S : St) (mn ms : Nat) (wv : Value) : List Value := [.int .i64 S.room, .map (some mn), .map (some ms), wv, .int .i64 S.fail, .int .i64 S.calls, .int .i64 S.reads]

/-- The disk at block p, what it holds in memory laid open; C: whose which block is. -/
structure DiskAt (C : Nat → Nat → Prop) (R : Nat → Prop) (w : World) (p : Nat) (S : St) (n : Nat) (mn ms : Nat) (wv : Value) : Prop where
  cells : Whole w p 57 (fsCells S mn ms wv)
  now : IsDir w mn S.now
  synced : IsDir w ms S.synced
  two : mn ≠ ms
  wait : w.ownsRow 0 80 3 wv S.wait.length (waitCells S.wait)
  file : ∀ b, b ∈ S.files → IsFile (C b) w b (S.file b)
  inp : C p p
  inn : C p mn
  ins : C p ms
  inw : ∀ g, wv.ownBlock = some g → C p g ∧ g ≠ p
  notp : p ∉ S.files
  apart : ∀ x y k, C x k → C y k → x = y
  low : ∀ x k, C x k → R k ∧ k < w.heap.size
  ok : S.Ok n
/-- The disk at block p: all its blocks are of R. -/
def Disk (R : Nat → Prop) (w : World) (p : Nat) (S : St) (n : Nat) : Prop := ∃ C mn ms wv, DiskAt C R w p S n mn ms wv

section
variable {C : Nat → Nat → Prop} {R R' : Nat → Prop} {w w' : World} {p : Nat} {S : St} {n n' : Nat} {mn ms : Nat} {wv : Value}
theorem DiskAt.mono (h : DiskAt C R w p S n mn ms wv) (hR : ∀ k, k < w.heap.size → R k → R' k) : DiskAt C R' w p S n mn ms wv :=
  { h with low := fun x k hk => ⟨hR k (h.low x k hk).2 (h.low x k hk).1, (h.low x k hk).2⟩ }
theorem St.Ok.more (h : S.Ok n) (hn : n ≤ n') : S.Ok n' :=
  { h with calls := ⟨h.calls.1, by have := h.calls.2; omega⟩, reads := ⟨h.reads.1, by have := h.reads.2; omega⟩, now := Nat.le_trans h.now hn, synced := Nat.le_trans h.synced hn, wait := Nat.le_trans h.wait hn }
theorem DiskAt.more (h : DiskAt C R w p S n mn ms wv) (hn : n ≤ n') : DiskAt C R w p S n' mn ms wv := { h with ok := h.ok.more hn }
theorem DiskAt.same (h : DiskAt C R w p S n mn ms wv) (hs : w.heap.size ≤ w'.heap.size) (e : ∀ x k, C x k → w'.heap[k]? = w.heap[k]?) : DiskAt C R w' p S n mn ms wv :=
  { h with
    cells := Whole.same h.cells (e p p h.inp)
    now := h.now.same (e p mn h.inn)
    synced := h.synced.same (e p ms h.ins)
    wait := row_same h.wait fun g hg => e p g (h.inw g hg).1
    file := fun b hb => (h.file b hb).same fun k _ hk => e b k hk
    low := fun x k hk => ⟨(h.low x k hk).1, Nat.lt_of_lt_of_le (h.low x k hk).2 hs⟩ }
theorem Disk.mono (h : Disk R w p S n) (hR : ∀ k, k < w.heap.size → R k → R' k) : Disk R' w p S n := by
  obtain ⟨C, mn, ms, wv, h⟩ := h; exact ⟨C, mn, ms, wv, h.mono hR⟩
theorem Disk.more (h : Disk R w p S n) (hn : n ≤ n') : Disk R w p S n' := by
  obtain ⟨C, mn, ms, wv, h⟩ := h; exact ⟨C, mn, ms, wv, h.more hn⟩
theorem Disk.later (h : Disk R w p S n) (hb : Below w.heap.size w w') : Disk R w' p S n := by
  obtain ⟨C, mn, ms, wv, h⟩ := h; exact ⟨C, mn, ms, wv, h.same hb.size fun x k hk => hb.block k (h.low x k hk).2⟩
theorem Disk.turned {T : Nat → Prop} (h : Disk R w p S n) (ht : Turn T w w') (hT : ∀ k, R k → ¬ T k) : Disk R w' p S n := by
  obtain ⟨C, mn, ms, wv, h⟩ := h; exact ⟨C, mn, ms, wv, h.same ht.size fun x k hk => ht.block k (h.low x k hk).2 (hT k (h.low x k hk).1)⟩
theorem Disk.lt (h : Disk R w p S n) : p < w.heap.size := by obtain ⟨C, mn, ms, wv, h⟩ := h; exact h.cells.lt
theorem Disk.in_ (h : Disk R w p S n) : R p := by obtain ⟨C, mn, ms, wv, h⟩ := h; exact (h.low p p h.inp).1
theorem Disk.ok (h : Disk R w p S n) : S.Ok n := by obtain ⟨C, mn, ms, wv, h⟩ := h; exact h.ok
theorem Disk.fit (h : Disk R w p S n) {b : Nat} (hb : b ∈ S.files) : (S.file b).Fit := by obtain ⟨C, mn, ms, wv, h⟩ := h; exact (h.file b hb).fit

/-- Only the struct's own cells have turned: the numbers of S. -/
theorem DiskAt.cells_turned {S' : St} {n' : Nat} (h : DiskAt C R w p S n mn ms wv) (hc : Whole w' p 57 (fsCells S' mn ms wv)) (hg : w.grownBy w' (some p))
    (e1 : S'.now = S.now) (e2 : S'.synced = S.synced) (e3 : S'.wait = S.wait) (e4 : S'.files = S.files) (e5 : S'.file = S.file) (hok : S'.Ok n') : DiskAt C R w' p S' n' mn ms wv := by
  have eb : ∀ k, k < w.heap.size → k ≠ p → w'.heap[k]? = w.heap[k]? := fun k hk hne => hg.block k hk fun e => hne (by injection e)
  have hpf : ∀ b k, b ∈ S.files → C b k → k ≠ p := fun b k hb hk e => by
    subst e
    exact h.notp (h.apart _ _ _ hk h.inp ▸ hb)
  refine ⟨hc, ?_, ?_, h.two, ?_, ?_, h.inp, h.inn, h.ins, h.inw, by rw [e4]; exact h.notp, h.apart, fun x k hk => ⟨(h.low x k hk).1, Nat.lt_of_lt_of_le (h.low x k hk).2 hg.size⟩, hok⟩
  · rw [e1]; exact h.now.same (eb mn h.now.lt (map_ne_whole h.now.owns h.cells))
  · rw [e2]; exact h.synced.same (eb ms h.synced.lt (map_ne_whole h.synced.owns h.cells))
  · rw [e3]; exact row_same h.wait fun g hg => eb g (World.ownsRow.lt h.wait g hg).2 (h.inw g hg).2
  · intro b hb
    rw [e4] at hb
    rw [e5]
    exact (h.file b hb).same fun k hk hck => eb k hk (hpf b k hb hck)
end

theorem encStr_data (s : ByteArray) : encStr s.data.toList = .string s := by
  show Value.string ⟨s.data.toList.toArray⟩ = .string s
  simp

/-! the numbers of the struct -/
section
variable {C : Nat → Nat → Prop} {R : Nat → Prop} {w : World} {p : Nat} {S : St} {n : Nat} {mn ms : Nat} {wv : Value}
theorem DiskAt.c0 (h : DiskAt C R w p S n mn ms wv) : w.cell? ⟨p, 0, none⟩ = some (.int .i64 S.room) := (h.cells.at_ 0).trans rfl
theorem DiskAt.c1 (h : DiskAt C R w p S n mn ms wv) : w.cell? ⟨p, 1, none⟩ = some (.map (some mn)) := (h.cells.at_ 1).trans rfl
theorem DiskAt.c2 (h : DiskAt C R w p S n mn ms wv) : w.cell? ⟨p, 2, none⟩ = some (.map (some ms)) := (h.cells.at_ 2).trans rfl
theorem DiskAt.c3 (h : DiskAt C R w p S n mn ms wv) : w.cell? ⟨p, 3, none⟩ = some wv := (h.cells.at_ 3).trans rfl
theorem DiskAt.c4 (h : DiskAt C R w p S n mn ms wv) : w.cell? ⟨p, 4, none⟩ = some (.int .i64 S.fail) := (h.cells.at_ 4).trans rfl
theorem DiskAt.c5 (h : DiskAt C R w p S n mn ms wv) : w.cell? ⟨p, 5, none⟩ = some (.int .i64 S.calls) := (h.cells.at_ 5).trans rfl
theorem DiskAt.c6 (h : DiskAt C R w p S n mn ms wv) : w.cell? ⟨p, 6, none⟩ = some (.int .i64 S.reads) := (h.cells.at_ 6).trans rfl
end

/-- What a call leaves and answers: a disk in the same blocks and in new ones; nothing else has turned. -/
def DiskOut (R : Nat → Prop) (w : World) (p : Nat) (S : St) (n : Nat) (v : Value) (e : Ending) (w' : World) : Prop :=
  e = .returned v ∧ Disk (fun k => R k ∨ w.heap.size ≤ k) w' p S n ∧ Turn R w w'

/-! begin -/
/-- What a changing call does first: it counts; does it fail? -/
def St.begin (S : St) : St := { S with calls := S.calls + 1, fail := if S.fail = -1 then -1 else S.fail - 1 }
def St.fails (S : St) : Prop := S.fail = 0
theorem St.Ok.begin {S : St} {n : Nat} (h : S.Ok n) : S.begin.Ok (n + 1) := by
  have h1 := h.more (Nat.le_succ n)
  refine { h1 with calls := ?_, fail := ?_ }
  · show -1 ≤ (if S.fail = -1 then (-1 : Int) else S.fail - 1) ∧ (if S.fail = -1 then (-1 : Int) else S.fail - 1) ≤ _
    have := h.fail
    split <;> omega
  · show 0 ≤ S.calls + 1 ∧ S.calls + 1 ≤ ((n + 1 : Nat) : Int)
    have := h.calls; omega

theorem begin_nil (w : World) : Calls Tryd.prog 35 #[.pointer none] w fun e w' => e = .returned (.int .i64 1) ∧ w = w' := by
  go_enter Tryd.func35, Tryd.ntmps35
  go_wp2
  go_ret
  exact ⟨rfl, rfl⟩

set_option maxRecDepth 100000 in
set_option maxHeartbeats 1000000 in
theorem begin_any {R : Nat → Prop} (w : World) (p : Nat) (S : St) (n : Nat) (h : Disk R w p S n) (hn : n ≤ 1000000000) :
    Calls Tryd.prog 35 #[.pointer (some ⟨p, 0, none⟩)] w (DiskOut R w p S.begin (n + 1) (.int .i64 (if S.fail = 0 then 3 else 0))) := by
  obtain ⟨C, mn, ms, wv, h⟩ := h
  have c4 := h.c4
  have c5 := h.c5
  have f4 := h.cells.free 4
  have f5 := h.cells.free 5
  have hfl := h.ok.fail
  have hca := h.ok.calls
  obtain ⟨hca1, hca2⟩ := hca
  obtain ⟨hfl1, hfl2⟩ := hfl
  have g0 : ∀ (v : Value), w.grownBy (w.setCell ⟨p, 5, none⟩ v) (some p) := fun v => ⟨rfl, rfl, rfl, by simp [World.setCell], fun x _ hx => heap_setCell_other w ⟨p, 5, none⟩ x _ fun e => hx (by rw [e])⟩
  have g1 : ∀ (v u : Value), w.grownBy ((w.setCell ⟨p, 5, none⟩ v).setCell ⟨p, 4, none⟩ u) (some p) := fun v u => (g0 v).trans ⟨rfl, rfl, rfl, by simp [World.setCell], fun x _ hx => heap_setCell_other _ ⟨p, 4, none⟩ x _ fun e => hx (by rw [e])⟩
  have fin : ∀ (w' : World), w.grownBy w' (some p) → Whole w' p 57 (fsCells S.begin mn ms wv) → ∀ v, DiskOut R w p S.begin (n + 1) v (.returned v) w' := fun w' hg hw v =>
    ⟨rfl, ⟨C, mn, ms, wv, (h.cells_turned hw hg rfl rfl rfl rfl rfl h.ok.begin).mono fun k _ hk => .inl hk⟩, Turn.of_grown hg (h.low p p h.inp).1⟩
  have FIN := Lib.hid fin
  have HC := Lib.hid h.cells
  have G0 := Lib.hid g0
  have G1 := Lib.hid g1
  by_cases hm : S.fail = -1
  · have hb : S.begin = { S with calls := S.calls + 1, fail := -1 } := by rw [St.begin, if_pos hm]
    have HM := Lib.hid hm
    have HB := Lib.hid hb
    have hif : (if S.fail = 0 then (3 : Int) else 0) = 0 := by rw [if_neg (by omega)]
    rw [hif]
    have heq : (S.fail == -1) = true := by rw [beq_iff_eq]; exact hm
    clear h fin g0 g1 hm hb hif
    go_enter Tryd.func35, Tryd.ntmps35
    go_wp2
    go_ret
    refine FIN.out _ (G0.out _) ?_ _
    rw [HB.out]
    have := HC.out.put 5 (.int .i64 (S.calls + 1))
    rw [fsCells, HM.out] at this
    exact this
  · have heq : (S.fail == -1) = false := by rw [beq_eq_false_iff_ne]; exact hm
    have hb : S.begin = { S with calls := S.calls + 1, fail := S.fail - 1 } := by rw [St.begin, if_neg hm]
    have HB := Lib.hid hb
    have hfl3 : 0 ≤ S.fail := by omega
    by_cases h0 : S.fail = 0
    · have H0 := Lib.hid h0
      have heq2 : (S.fail - 1 == -1) = true := by rw [beq_iff_eq]; omega
      rw [if_pos h0]
      clear h fin g0 g1 hm hb h0
      go_enter Tryd.func35, Tryd.ntmps35
      go_wp2
      go_ret
      refine FIN.out _ (G1.out _ _) ?_ _
      rw [HB.out]
      exact (HC.out.put 5 (.int .i64 (S.calls + 1))).put 4 _
    · have heq2 : (S.fail - 1 == -1) = false := by rw [beq_eq_false_iff_ne]; omega
      rw [if_neg h0]
      clear h fin g0 g1 hm hb h0
      go_enter Tryd.func35, Tryd.ntmps35
      go_wp2
      go_ret
      refine FIN.out _ (G1.out _ _) ?_ _
      rw [HB.out]
      exact (HC.out.put 5 (.int .i64 (S.calls + 1))).put 4 _
end Go.Proofs.YtpgclhpobijdeaaDoor.disk
/-
  CONTRACT of (*disk.FS).change.
-/


namespace Go.Proofs.YtpgclhpobijdeaaDoor.disk
open Go.RowKit Go.Maps

theorem ch_info : (Tryd.prog.info? 80).map (fun i => (i.zero, i.size, i.bytes)) = some (some (.agg #[.pointer none, .string ⟨#[]⟩, .string ⟨#[]⟩]), 3, 40) := by kernel_rfl

/-- The address that 'ptrOf' holds. -/
def adOf (o : Option Nat) : Option Addr := o.map fun b => ⟨b, 0, none⟩
theorem ptrOf_ad (o : Option Nat) : ptrOf o = .pointer (adOf o) := by cases o <;> rfl

/-- A change appended to those that wait. -/
theorem append_change {w : World} {wv : Value} {l : List Ch} (h : w.ownsRow 0 80 3 wv l.length (waitCells l)) (g : Nat) (x : Option Addr) (sf st : ByteArray) (c : Ch) (hx : x = adOf c.made) (hf : sf.data.toList = c.frm) (ht : st.data.toList = c.to)
    (hg : Whole w g 80 [.pointer x, .string sf, .string st]) (hn : l.length ≤ 1000000000) :
    ∃ v' w', (Builtin.append_ #[55, 55] 55 #[wv, .slice (some ⟨g, 0, none⟩) 1 1]).run Tryd.prog w = .ok v' w' ∧ w'.ownsRow 0 80 3 v' (l ++ [c]).length (waitCells (l ++ [c])) ∧ w.grownBy w' wv.ownBlock ∧
      (v'.ownBlock = wv.ownBlock ∨ v'.ownBlock = some w.heap.size) := by
  obtain ⟨i0, hi, hz0, hz1, hz2⟩ := info_parts ch_info
  obtain ⟨v', w', h1, h2, h3, _, h5⟩ := run_append_own_at (P := Tryd.prog) w 0 55 55 80 i0 _ 3 40 Tryd.underlying55 hi hz0 hz1 hz2 rfl (by decide) wv l.length (waitCells l) h
    ⟨g, 0, none⟩ 1 1 [.pointer x, .string sf, .string st] rfl (by
      intro j u hu
      have := hg.at_ j
      rw [Addr.add_mid, Nat.zero_add, this]; exact hu) (by
      intro u hu
      simp only [List.mem_cons, List.not_mem_nil, or_false] at hu
      rcases hu with rfl | rfl | rfl <;> rfl) (by unfold maxLen; omega) (by omega) (Nat.zero_le _)
  refine ⟨v', w', h1, ?_, h3, h5⟩
  rw [List.length_append, List.length_singleton, waitCells_snoc]
  have e : [Value.pointer x, .string sf, .string st] = [ptrOf c.made, encStr c.frm, encStr c.to] := by rw [hx, ptrOf_ad, ← hf, ← ht, encStr_data, encStr_data]
  rw [← e]; exact h2

/-- A change made. -/
def St.changed (S : St) (c : Ch) : St := { S with now := c.apply S.now, wait := S.wait ++ [c] }

theorem Ch.apply_mem {c : Ch} {d : Dir} {files : List Nat} (hc : c.Fine files) (hd : ∀ p ∈ d, p.2 ∈ files) : ∀ p ∈ c.apply d, p.2 ∈ files := by
  intro p hp
  have hdel : ∀ q ∈ ddel c.frm d, q.2 ∈ files := fun q hq => hd q (mem_ddel hq)
  unfold Ch.apply at hp
  split at hp
  · exact hdel p hp
  · split at hp
    · rename_i b hb
      rcases mem_dput hp with rfl | hp
      · exact hc.file b hb
      · exact hdel p hp
    · split at hp
      · rename_i b hb
        rcases mem_dput hp with rfl | hp
        · exact hd (c.frm, b) (dlook_mem hb)
        · exact hdel p hp
      · exact hdel p hp
theorem Ch.apply_names {c : Ch} {d : Dir} {files : List Nat} (hc : c.Fine files) (hd : ∀ p ∈ d, p.1.length ≤ maxLen) : ∀ p ∈ c.apply d, p.1.length ≤ maxLen := by
  intro p hp
  have hdel : ∀ q ∈ ddel c.frm d, q.1.length ≤ maxLen := fun q hq => hd q (mem_ddel hq)
  unfold Ch.apply at hp
  split at hp
  · exact hdel p hp
  · split at hp
    · rcases mem_dput hp with rfl | hp
      · exact hc.lto
      · exact hdel p hp
    · split at hp
      · rcases mem_dput hp with rfl | hp
        · exact hc.lto
        · exact hdel p hp
      · exact hdel p hp
theorem St.Ok.changed {S : St} {n : Nat} (h : S.Ok n) {c : Ch} (hc : c.Fine S.files) (ho : c.Ok S.now) : (S.changed c).Ok (n + 1) := by
  have h1 := h.more (Nat.le_succ n)
  refine { h1 with now := ?_, wait := ?_, inow := Ch.apply_mem hc h.inow, iwait := ?_, replays := h.replays.snoc ho, lnow := Ch.apply_names hc h.lnow }
  · have := c.apply_length S.now
    have := h.now
    show (c.apply S.now).length ≤ n + 1
    omega
  · show (S.wait ++ [c]).length ≤ n + 1
    have := h.wait
    rw [List.length_append, List.length_singleton]; omega
  · intro c' hc'
    rcases List.mem_append.1 hc' with hc' | hc'
    · exact h.iwait c' hc'
    · obtain rfl : c' = c := by simpa using hc'
      exact hc

/-- An append whose run is known, as one step of a region that draws. -/
theorem step_append_run {w w' : World} {v' : Value} {ops : Array Oper} {o : Oper} {a : Act} {K : Act → World → Prop} {Q : Exit → Act → World → Prop} {E : Prop} (t : TypeId) (s x : Operand) (v u : Value) (hw : Region.wanted o (yielded ops a.tmps) = true)
    (ho : o.op = .call { callee := .builtin .append, args := #[s, x], argTypes := #[t, t] }) (hty : o.type = t) (hs : a.eval s = v) (hx : a.eval x = u)
    (hrun : (Builtin.append_ #[t, t] t #[v, u]).run Tryd.prog w = .ok v' w')
    (h : K (a.put o.dst v') w') : if Region.wanted o (yielded ops a.tmps) = true then Oper.wp Tryd.prog o a w K Q else E := by
  rw [if_pos hw]
  unfold Oper.wp execOp
  simp only [ho, hty, resolve, invoke, builtin, Sem.run_bind, Sem.run_pure, Result.andThen_ok, List.map_toArray, List.map_cons, List.map_nil, hs, hx, hrun]
  exact h

theorem row_form {w : World} {base : Nat} {e : TypeId} {size : Nat} {v : Value} {n : Nat} {xs : List Value} (h : w.ownsRow base e size v n xs) : ∃ a cap, v = .slice a n cap := by
  rcases h.2 with ⟨rfl, h0⟩ | ⟨g, cap, cur, rfl, _⟩
  · exact ⟨none, 0, by rw [h0]⟩
  · exact ⟨_, _, rfl⟩

set_option maxRecDepth 100000 in
set_option maxHeartbeats 1000000 in
theorem change_any {R : Nat → Prop} (w : World) (p : Nat) (S : St) (n : Nat) (h : Disk R w p S n) (c : Ch) (hc : c.Fine S.files) (ho : c.Ok S.now) (sf st : ByteArray) (hf : sf.data.toList = c.frm) (ht : st.data.toList = c.to) (hn : n ≤ 1000000000) :
    Calls Tryd.prog 37 #[.pointer (some ⟨p, 0, none⟩), .agg #[.pointer (adOf c.made), .string sf, .string st]] w (DiskOut R w p (S.changed c) (n + 1) (.tuple #[])) := by
  obtain ⟨C, mn, ms, wv, h⟩ := h
  have hsf : sf.size ≤ maxLen := by have := hc.lfrm; rw [← hf] at this; simpa using this
  have hst : st.size ≤ maxLen := by have := hc.lto; rw [← ht] at this; simpa using this
  have hnl := h.ok.now
  obtain ⟨aw, cw, rfl⟩ := row_form h.wait
  obtain ⟨x, hx⟩ : ∃ x, adOf c.made = x := ⟨_, rfl⟩
  rw [hx]
  have cA := Lib.hid (fun (w1 : World) (h1 : IsDir w1 mn S.now) => apply_any w1 mn S.now h1 c ho hc.to sf st hf ht hsf hst (by omega))
  have e : (chCells c sf st).toArray = #[.pointer x, .string sf, .string st] := by rw [chCells, ptrOf_ad, hx]
  rw [e] at cA
  have cW := Lib.hid (fun (w1 : World) (hw1 : w1.ownsRow 0 80 3 (.slice aw S.wait.length cw) S.wait.length (waitCells S.wait)) => append_change (w := (w1.alloc (.cells #[.pointer x, .string sf, .string st] 80)).drew) (hw1.alloc _) w1.heap.size x sf st c hx.symm hf ht (Whole.made' w1 _ _) (by have := h.ok.wait; omega))
  have hok := h.ok.changed hc ho
  have OK := Lib.hid hok
  have HH := Lib.hid h
  have HN := Lib.hid h.now
  have HD := Lib.hid (h.now.same (w' := w.alloc (.cells #[.pointer x, .string sf, .string st] 80)) (heap_alloc_old w _ h.now.lt))
  have hc1 := h.c1
  have hpl := h.cells.lt
  clear h hc ho hf ht hsf hst e hx hok
  go_enter Tryd.func37, Tryd.ntmps37
  go_wp2_with fail
  go_region_law (first
    | (go_simp; go_at_call 56; refine (cA.out _ (by exact HD.out)).mono ?_; rintro e w1 ⟨rfl, d1, g1⟩; have D1 := Lib.hid d1; have G1 := Lib.hid g1; clear d1 g1))
  all_goals
    have hh := HH.out
    have hmp : mn ≠ p := map_ne_whole hh.now.owns hh.cells
    have b0 : Below w.heap.size w (w.alloc (.cells #[.pointer x, .string sf, .string st] 80)) := (Below.refl _ _).alloc (Nat.le_refl _) _
    have gw : w.grownBy w1 (some mn) := ⟨G1.out.os.trans b0.os, G1.out.tape.trans b0.tape, G1.out.output.trans b0.output, Nat.le_trans b0.size G1.out.size, fun k hk hne => (G1.out.block k (Nat.lt_of_lt_of_le hk b0.size) hne).trans (b0.block k hk)⟩
    have box1 : Whole w1 w.heap.size 80 [.pointer x, .string sf, .string st] := Whole.same (w := w.alloc (.cells #[.pointer x, .string sf, .string st] 80)) (Whole.made' w _ _) (G1.out.block w.heap.size (by show w.heap.size < (w.alloc (.cells #[.pointer x, .string sf, .string st] 80)).heap.size; simp) fun e => by have := hh.now.lt; injection e with e; omega)
    have fs1 : Whole w1 p 57 (fsCells S mn ms (.slice aw S.wait.length cw)) := Whole.same hh.cells (gw.block p hpl fun e => hmp (by injection e with e; exact e.symm))
    have d3 : w1.cell? ⟨p, 3, none⟩ = some (.slice aw S.wait.length cw) := (fs1.at_ 3).trans rfl
    have e0 : w1.cell? ⟨w.heap.size, 0, none⟩ = some (.pointer x) := (box1.at_ 0).trans rfl
    have e1 : w1.cell? ⟨w.heap.size, 1, none⟩ = some (.string sf) := (box1.at_ 1).trans rfl
    have e2 : w1.cell? ⟨w.heap.size, 2, none⟩ = some (.string st) := (box1.at_ 2).trans rfl
    have GW := Lib.hid gw
    have BOX := Lib.hid box1
    have FS1 := Lib.hid fs1
    clear hh hmp b0 gw box1 fs1 hc1
    have hww : some mn ≠ (Value.slice aw S.wait.length cw).ownBlock := fun e => map_ne_row HH.out.now.owns HH.out.wait e.symm rfl
    have wait1 := row_same HH.out.wait fun g hg => GW.out.block g (World.ownsRow.lt HH.out.wait g hg).2 fun e => hww (by rw [hg]; exact e.symm)
    obtain ⟨v9, w9, r9, o9, g9, b9⟩ := cW.out w1 wait1
    obtain ⟨a9, c9, e9⟩ := row_form o9
    rw [List.length_append, List.length_singleton] at e9
    subst e9
    have g10 : w1.grownBy w9 (Value.slice aw S.wait.length cw).ownBlock := by
      have g11 : w1.grownBy (w1.alloc (.cells #[.pointer x, .string sf, .string st] 80)) (Value.slice aw S.wait.length cw).ownBlock := World.grownBy_alloc _ _ _
      exact ⟨g9.os.trans g11.os, g9.tape.trans g11.tape, g9.output.trans g11.output, Nat.le_trans g11.size g9.size, fun k hk hne => (g9.block k (Nat.lt_of_lt_of_le hk g11.size) hne).trans (g11.block k hk hne)⟩
    have fs9 : Whole w9 p 57 (fsCells S mn ms (.slice aw S.wait.length cw)) := Whole.same FS1.out (g10.block p FS1.out.lt fun e => (HH.out.inw p e.symm).2 rfl)
    have d9 : w9.cell? ⟨p, 3, none⟩ = some (.slice aw S.wait.length cw) := (fs9.at_ 3).trans rfl
    have f9 := fs9.free 3
    have d33 : (w1.alloc (.cells #[.pointer x, .string sf, .string st] 80)).cell? ⟨p, 3, none⟩ = some (.slice aw S.wait.length cw) := ((FS1.out.more _).at_ 3).trans rfl
    have R9 := Lib.hid r9
    have O9 := Lib.hid o9
    have G10 := Lib.hid g10
    have B9 := Lib.hid b9
    have FS9 := Lib.hid fs9
    have WW := Lib.hid hww
    clear r9 o9 g9 b9 g10 fs9 hww wait1
    go_wp2_with fail
    go_region_law (first
      | (refine step_append_run 55 (.tmp 14) (.tmp 16) _ _ rfl rfl rfl rfl rfl (by exact R9.out) ?_))
    all_goals
      have FIN : Hid (DiskOut R w p (S.changed c) (n + 1) (.tuple #[]) (.returned (.tuple #[])) (w9.setCell ⟨p, 3, none⟩ (.slice a9 (S.wait.length + 1) c9))) := by
        have hh := HH.out
        have hmp : mn ≠ p := map_ne_whole hh.now.owns hh.cells
        have hsp : ms ≠ p := map_ne_whole hh.synced.owns hh.cells
        have gw := GW.out
        have g10 := G10.out
        have hww := WW.out
        have es : ∀ k, k ≠ p → (w9.setCell ⟨p, 3, none⟩ (.slice a9 (S.wait.length + 1) c9)).heap[k]? = w9.heap[k]? := fun k hk => heap_setCell_other w9 ⟨p, 3, none⟩ k _ hk
        have hsz1 := gw.size
        have hsz9 := g10.size
        have hszc : (w9.setCell ⟨p, 3, none⟩ (.slice a9 (S.wait.length + 1) c9)).heap.size = w9.heap.size := by simp [World.setCell]
        -- blocks of others
        have eo : ∀ k, k < w.heap.size → k ≠ p → k ≠ mn → some k ≠ (Value.slice aw S.wait.length cw).ownBlock → (w9.setCell ⟨p, 3, none⟩ (.slice a9 (S.wait.length + 1) c9)).heap[k]? = w.heap[k]? := fun k hk h1 h2 h3 =>
          (es k h1).trans ((g10.block k (Nat.lt_of_lt_of_le hk hsz1) h3).trans (gw.block k hk fun e => h2 (by injection e)))
        have hb9 : ∀ g, (Value.slice a9 (S.wait.length + 1) c9).ownBlock = some g → (C p g ∧ g ≠ p ∧ g < w.heap.size) ∨ w.heap.size ≤ g := by
          intro g hg
          rcases B9.out with h1 | h1
          · rw [h1] at hg
            exact .inl ⟨(hh.inw g hg).1, (hh.inw g hg).2, (World.ownsRow.lt hh.wait g hg).2⟩
          · rw [h1] at hg
            injection hg with hg
            right
            have : (w1.alloc (.cells #[.pointer x, .string sf, .string st] 80)).drew.heap.size = w1.heap.size + 1 := by simp
            omega
        let C' : Nat → Nat → Prop := fun o k => C o k ∨ (o = p ∧ (Value.slice a9 (S.wait.length + 1) c9).ownBlock = some k)
        refine show _ from ⟨rfl, ⟨C', mn, ms, .slice a9 (S.wait.length + 1) c9, ⟨FS9.out.put 3 _, ?_, ?_, hh.two, ?_, ?_, .inl hh.inp, .inl hh.inn, .inl hh.ins, fun g hg => ⟨.inr ⟨rfl, hg⟩, ?_⟩, hh.notp, ?_, ?_, OK.out⟩⟩, ?_⟩
        · exact IsDir.same (IsDir.same D1.out (g10.block mn D1.out.lt hww)) (es mn hmp)
        · exact hh.synced.same (eo ms hh.synced.lt hsp (fun e => hh.two e.symm) fun e => map_ne_row hh.synced.owns hh.wait e.symm rfl)
        · refine row_same (by exact O9.out) fun g hg => es g ?_
          rcases hb9 g hg with h1 | h1
          · exact h1.2.1
          · omega
        · intro b hb
          have hbp : b ≠ p := fun e => hh.notp (e ▸ hb)
          refine ((hh.file b hb).same fun k hk hck => eo k hk (fun e => ?_) (fun e => ?_) fun e => ?_).mono fun k _ hck => .inl hck
          · subst e; exact hbp (hh.apart _ _ _ hck hh.inp)
          · subst e; exact hbp (hh.apart _ _ _ hck hh.inn)
          · exact hbp (hh.apart _ _ _ hck (hh.inw k e.symm).1)
        · rcases hb9 g hg with h1 | h1
          · exact h1.2.1
          · omega
        · rintro y z k (hy | ⟨rfl, hy⟩) (hz | ⟨rfl, hz⟩)
          · exact hh.apart _ _ _ hy hz
          · rcases hb9 k hz with h1 | h1
            · exact hh.apart _ _ _ hy h1.1
            · have := (hh.low y k hy).2; omega
          · rcases hb9 k hy with h1 | h1
            · exact hh.apart _ _ _ h1.1 hz
            · have := (hh.low z k hz).2; omega
          · rfl
        · rintro y k (hy | ⟨rfl, hy⟩)
          · exact ⟨.inl (hh.low y k hy).1, by have := (hh.low y k hy).2; omega⟩
          · have h9 := (World.ownsRow.lt O9.out k hy).2
            rcases hb9 k hy with h1 | h1
            · exact ⟨.inl (hh.low _ k h1.1).1, by omega⟩
            · exact ⟨.inr h1, by omega⟩
        · have t1 : Turn R w w1 := Turn.of_grown gw (hh.low p mn hh.inn).1
          have t2 : Turn R w w9 := t1.trans (Turn.of_row g10 fun g hg => (hh.low p g (hh.inw g hg).1).1) fun _ _ e => e
          exact t2.setCell 3 _ (.inl (hh.low p p hh.inp).1)
      clear d9 f9 d33 d3 e0 e1 e2
      go_wp2_with fail
      go_end0
      exact FIN.out
end Go.Proofs.YtpgclhpobijdeaaDoor.disk
/-
  CONTRACTS of disk.New and (*disk.FS).Create.
-/


namespace Go.Proofs.YtpgclhpobijdeaaDoor.disk
open Go.RowKit Go.Maps

/-- A new file among the disk's. -/
def St.adopted (S : St) (b : Nat) (A : FileA) : St := { S with files := b :: S.files, file := fun x => if x = b then A else S.file x }

theorem Ch.Fine.more {c : Ch} {l l' : List Nat} (h : c.Fine l) (hl : ∀ b ∈ l, b ∈ l') : c.Fine l' := { h with file := fun b hb => hl b (h.file b hb) }
theorem St.Ok.adopted {S : St} {n : Nat} (h : S.Ok n) (b : Nat) (A : FileA) : (S.adopted b A).Ok n :=
  { h with inow := fun p hp => List.mem_cons_of_mem _ (h.inow p hp), isynced := fun p hp => List.mem_cons_of_mem _ (h.isynced p hp), iwait := fun c hc => (h.iwait c hc).more fun _ hx => List.mem_cons_of_mem _ hx }

theorem Disk.adopt {R F : Nat → Prop} {w w0 : World} {p b n : Nat} {S : St} {A : FileA} (h : Disk R w0 p S n) (hb : Below w0.heap.size w0 w) (hf : IsFile F w b A) (hF : ∀ k, F k → w0.heap.size ≤ k) :
    Disk (fun k => R k ∨ w0.heap.size ≤ k) w p (S.adopted b A) n ∧ b ∉ S.files ∧ b ≠ p := by
  obtain ⟨C, mn, ms, wv, h0⟩ := h
  have h := h0.same (w' := w) hb.size fun x k hk => hb.block k (h0.low x k hk).2
  have hap : ∀ x k, C x k → F k → False := fun x k hk hf => by have := (h0.low x k hk).2; have := hF k hf; omega
  have hnb : b ∉ S.files := fun e => hap b b ((h.file b e).in_) hf.in_
  have hpb : b ≠ p := fun e => hap p p h.inp (e ▸ hf.in_)
  refine ⟨⟨fun x k => C x k ∨ (x = b ∧ F k ∧ k < w.heap.size), mn, ms, wv, ⟨h.cells, h.now, h.synced, h.two, h.wait, ?_, .inl h.inp, .inl h.inn, .inl h.ins, fun g hg => ⟨.inl (h.inw g hg).1, (h.inw g hg).2⟩, ?_, ?_, ?_, h.ok.adopted b A⟩⟩, hnb, hpb⟩
  · intro y hy
    show IsFile _ w y (if y = b then A else S.file y)
    by_cases e : y = b
    · rw [if_pos e]
      subst e
      exact hf.mono fun k hk hfk => .inr ⟨rfl, hfk, hk⟩
    · rw [if_neg e]
      have hy' : y ∈ S.files := by
        rcases List.mem_cons.1 hy with h1 | h1
        · exact absurd h1 e
        · exact h1
      exact (h.file y hy').mono fun k _ hk => .inl hk
  · intro e
    rcases List.mem_cons.1 e with e | e
    · exact hpb e.symm
    · exact h.notp e
  · rintro x y k (hx | ⟨rfl, hx, _⟩) (hy | ⟨rfl, hy, _⟩)
    · exact h.apart _ _ _ hx hy
    · exact (hap _ _ hx hy).elim
    · exact (hap _ _ hy hx).elim
    · rfl
  · rintro x k (hx | ⟨_, hx, hk⟩)
    · exact ⟨.inl (h.low x k hx).1, (h.low x k hx).2⟩
    · exact ⟨.inr (hF k hx), hk⟩

/-! New -/
def within (room : Int) : Int := min (max room 0) 4194304
theorem run_max0 (w : World) (a : Int) : (Builtin.max_ #[3, 3] 3 #[.int .i64 a, .int .i64 0]).run Tryd.prog w = .ok (.int .i64 (max a 0)) w := by
  have e : max a 0 = if a < 0 then (0 : Int) else a := by split <;> omega
  rw [e]
  by_cases h : a < 0 <;> simp [Builtin.max_, Builtin.max2, h]
theorem run_minD (w : World) (a : Int) : (Builtin.min_ #[3, 3] 3 #[.int .i64 a, .int .i64 4194304]).run Tryd.prog w = .ok (.int .i64 (min a 4194304)) w := by
  have e : min a 4194304 = if (4194304 : Int) < a then (4194304 : Int) else a := by split <;> omega
  rw [e]
  by_cases h : (4194304 : Int) < a <;> simp [Builtin.min_, Builtin.min2, h]

set_option maxRecDepth 100000 in
theorem within_any (w : World) (room : Int) : Calls Tryd.prog 23 #[.int .i64 room] w fun e w' => e = .returned (.int .i64 (within room)) ∧ w = w' := by
  have h1 := fun w => run_max0 w room
  have h2 := fun w => run_minD w (max room 0)
  have HO := Lib.hid (show Ending.returned (.int .i64 (min (max room 0) 4194304)) = .returned (.int .i64 (within room)) from rfl)
  go_enter Tryd.func23, Tryd.ntmps23
  go_wp2
  go_ret
  exact ⟨HO.out, rfl⟩

/-- A new disk. -/
def St.new (room : Int) : St := ⟨within room, [], [], [], -1, 0, 0, [], fun _ => ⟨[], [], []⟩⟩
theorem within_bounds (room : Int) : 0 ≤ within room ∧ within room ≤ 4194304 := by unfold within; omega
theorem St.new_ok (room : Int) : (St.new room).Ok 0 :=
  ⟨within_bounds room, ⟨by show (-1 : Int) ≤ -1; omega, by show (-1 : Int) ≤ _; omega⟩, ⟨Int.le_refl _, Int.le_refl _⟩, ⟨Int.le_refl _, by show (0 : Int) ≤ _; omega⟩, Nat.le_refl _, Nat.le_refl _, Nat.le_refl _, (fun _ h => by cases h), (fun _ h => by cases h), (fun _ h => by cases h), rfl, (fun _ h => by cases h)⟩

/-- What 'New' answers with. -/
def NewOut (w : World) (room : Int) (e : Ending) (w' : World) : Prop :=
  ∃ p, e = .returned (.pointer (some ⟨p, 0, none⟩)) ∧ Disk (fun k => w.heap.size ≤ k) w' p (St.new room) 0 ∧ Below w.heap.size w w'

set_option maxRecDepth 100000 in
set_option maxHeartbeats 1000000 in
theorem new_any (w : World) (room : Int) : Calls Tryd.prog 8 #[.int .i64 room] w (NewOut w room) := by
  have hmm := @run_makeMap Tryd.prog
  have cW := Lib.hid (within_any w room)
  have HR := Lib.hid (within_bounds room)
  obtain ⟨r, hr⟩ : ∃ r, within room = r := ⟨_, rfl⟩
  rw [hr] at cW
  have HRM := Lib.hid hr
  clear hr
  go_enter Tryd.func8, Tryd.ntmps8
  go_wp2_with fail
  refine cW.out.mono ?_
  rintro e w1 ⟨rfl, rfl⟩
  go_wp2_with fail
  go_ret
  have b1 : Below w.heap.size w (((w.alloc (.map #[] 0)).alloc (.map #[] 0)).alloc (.cells #[.int .i64 r, .map (some w.heap.size), .map (some (w.heap.size + 1)), .slice none 0 0, .int .i64 (-1), .int .i64 0, .int .i64 0] 57)) := (((Below.refl _ _).alloc (Nat.le_refl _) _).alloc (by simp) _).alloc (by simp; omega) _
  have m2 : (w.alloc (.map #[] 0)).heap.size = w.heap.size + 1 := by simp
  have d1 : IsDir (((w.alloc (.map #[] 0)).alloc (.map #[] 0)).alloc (.cells #[.int .i64 r, .map (some w.heap.size), .map (some (w.heap.size + 1)), .slice none 0 0, .int .i64 (-1), .int .i64 0, .int .i64 0] 57)) w.heap.size [] := ⟨0, ((World.ownsMap_made w Tryd.prog 9 fileElem).alloc _).alloc _⟩
  have d2 : IsDir (((w.alloc (.map #[] 0)).alloc (.map #[] 0)).alloc (.cells #[.int .i64 r, .map (some w.heap.size), .map (some (w.heap.size + 1)), .slice none 0 0, .int .i64 (-1), .int .i64 0, .int .i64 0] 57)) (w.heap.size + 1) [] := by
    have := (World.ownsMap_made (w.alloc (.map #[] 0)) Tryd.prog 9 fileElem).alloc (.cells #[.int .i64 r, .map (some w.heap.size), .map (some (w.heap.size + 1)), .slice none 0 0, .int .i64 (-1), .int .i64 0, .int .i64 0] 57)
    rw [m2] at this
    exact ⟨0, this⟩
  have ws : Whole (((w.alloc (.map #[] 0)).alloc (.map #[] 0)).alloc (.cells #[.int .i64 r, .map (some w.heap.size), .map (some (w.heap.size + 1)), .slice none 0 0, .int .i64 (-1), .int .i64 0, .int .i64 0] 57)) (w.heap.size + 2) 57 (fsCells (St.new room) w.heap.size (w.heap.size + 1) (.slice none 0 0)) := by
    rw [fsCells, St.new, HRM.out]
    exact Whole.new_ (by simp) rfl
  have hsz : (((w.alloc (.map #[] 0)).alloc (.map #[] 0)).alloc (.cells #[.int .i64 r, .map (some w.heap.size), .map (some (w.heap.size + 1)), .slice none 0 0, .int .i64 (-1), .int .i64 0, .int .i64 0] 57)).heap.size = w.heap.size + 3 := by simp
  refine ⟨w.heap.size + 2, rfl, ⟨fun o k => o = w.heap.size + 2 ∧ w.heap.size ≤ k ∧ k < w.heap.size + 3, w.heap.size, w.heap.size + 1, .slice none 0 0, ⟨ws, d1, d2, by omega, World.ownsRow_nil _ _ _ _, (fun _ h => by cases h), ⟨rfl, by omega, by omega⟩, ⟨rfl, by omega, by omega⟩, ⟨rfl, by omega, by omega⟩, (fun _ h => by cases h), (fun h => by cases h), fun x y k hx hy => hx.1.trans hy.1.symm, fun x k hk => ⟨hk.2.1, by rw [hsz]; exact hk.2.2⟩, St.new_ok room⟩⟩, b1⟩

/-! Create -/
/-- What 'Create' answers and makes; b: the new file's block. -/
def St.create (S : St) (nm : Nm) (b : Nat) : Int × St :=
  if S.fail = 0 then (3, S.begin) else
    if isNameB nm = false then (5, S.begin) else
      if dlook nm S.now = none ∧ 400 ≤ S.now.length then (2, S.begin) else
        (0, (S.begin.adopted b ⟨[], [], []⟩).changed ⟨some b, [], nm⟩)

/-- What a call leaves and answers, a new file's block among it. -/
def CreateOut (R : Nat → Prop) (w : World) (p : Nat) (S : St) (n : Nat) (nm : Nm) (e : Ending) (w' : World) : Prop :=
  ∃ b, b ∉ S.files ∧ b ≠ p ∧ w.heap.size ≤ b ∧ DiskOut R w p (S.create nm b).2 (n + 2) (.int .i64 (S.create nm b).1) e w'

theorem fresh_block {R : Nat → Prop} {w : World} {p n : Nat} {S : St} (h : Disk R w p S n) : ∃ b, b ∉ S.files ∧ b ≠ p ∧ w.heap.size ≤ b := by
  obtain ⟨C, mn, ms, wv, h⟩ := h
  refine ⟨w.heap.size, fun e => ?_, ?_, Nat.le_refl _⟩
  · have := (h.file _ e).lt; omega
  · have := h.cells.lt; omega

/-- 'len' of a directory. -/
theorem IsDir.len {w : World} {m : Nat} {d : Dir} (h : IsDir w m d) (ty : TypeId) : (Builtin.len_ #[54] ty #[.map (some m)]).run Tryd.prog w = .ok (.int .i64 (d.length : Int)) w := by
  have := h.owns.len dirType ty
  rwa [dirD_size] at this

theorem create_nil (w : World) (s : ByteArray) : Calls Tryd.prog 22 #[.pointer none, .string s] w fun e w' => e = .returned (.int .i64 1) ∧ w = w' := by
  go_enter Tryd.func22, Tryd.ntmps22
  go_wp2_with fail
  refine (begin_nil w).mono ?_
  rintro e w1 ⟨rfl, rfl⟩
  go_wp2
  go_ret
  exact ⟨rfl, rfl⟩

set_option maxRecDepth 100000 in
set_option maxHeartbeats 2000000 in
theorem create_any {R : Nat → Prop} (w : World) (p : Nat) (S : St) (n : Nat) (h : Disk R w p S n) (hn : n ≤ 100000000) (s : ByteArray) (hs : s.size ≤ maxLen) :
    Calls Tryd.prog 22 #[.pointer (some ⟨p, 0, none⟩), .string s] w (CreateOut R w p S n s.data.toList) := by
  have cB := Lib.hid (begin_any w p S n h (by omega))
  obtain ⟨b0, hb1, hb2, hb3⟩ := fresh_block h
  obtain ⟨nm, hnm⟩ : ∃ nm, s.data.toList = nm := ⟨_, rfl⟩
  have cN := Lib.hid (fun w1 => isName_any w1 s hs)
  rw [hnm] at cN ⊢
  have HNM := Lib.hid hnm
  have HS := Lib.hid hs
  by_cases h0 : S.fail = 0
  · have hv : ∀ b, S.create nm b = (3, S.begin) := fun b => by rw [St.create, if_pos h0]
    have HV := Lib.hid hv
    rw [if_pos h0] at cB
    have HB := Lib.hid (show b0 ∉ S.files ∧ b0 ≠ p ∧ w.heap.size ≤ b0 from ⟨hb1, hb2, hb3⟩)
    clear hv h hb1 hb2 hb3 hnm hs h0
    go_enter Tryd.func22, Tryd.ntmps22
    go_wp2_with fail
    refine cB.out.mono ?_
    rintro e w1 ⟨rfl, d1, t1⟩
    have D1 := Lib.hid d1
    have T1 := Lib.hid t1
    clear d1 t1
    go_wp2
    go_ret
    refine ⟨b0, HB.out.1, HB.out.2.1, HB.out.2.2, ?_⟩
    rw [HV.out]
    exact ⟨rfl, D1.out.more (by omega), T1.out⟩
  · rw [if_neg h0] at cB
    cases hin : isNameB nm
    · have hv : ∀ b, S.create nm b = (5, S.begin) := fun b => by rw [St.create, if_neg h0, if_pos hin]
      have HV := Lib.hid hv
      rw [hin] at cN
      have HB := Lib.hid (show b0 ∉ S.files ∧ b0 ≠ p ∧ w.heap.size ≤ b0 from ⟨hb1, hb2, hb3⟩)
      clear hv h hb1 hb2 hb3 hnm hs h0 hin
      go_enter Tryd.func22, Tryd.ntmps22
      go_wp2_with fail
      refine cB.out.mono ?_
      rintro e w1 ⟨rfl, d1, t1⟩
      have D1 := Lib.hid d1
      have T1 := Lib.hid t1
      clear d1 t1
      go_wp2_with fail
      refine (cN.out w1).mono ?_
      rintro e w2 ⟨rfl, rfl⟩
      go_wp2
      go_ret
      refine ⟨b0, HB.out.1, HB.out.2.1, HB.out.2.2, ?_⟩
      rw [HV.out]
      exact ⟨rfl, D1.out.more (by omega), T1.out⟩
    · rw [hin] at cN
      by_cases hfull : dlook nm S.now = none ∧ 400 ≤ S.now.length
      · have hv : ∀ b, S.create nm b = (2, S.begin) := fun b => by rw [St.create, if_neg h0, if_neg (by rw [hin]; simp), if_pos hfull]
        have HV := Lib.hid hv
        have HB := Lib.hid (show b0 ∉ S.files ∧ b0 ≠ p ∧ w.heap.size ≤ b0 from ⟨hb1, hb2, hb3⟩)
        have HF := Lib.hid hfull
        have hlen : (400 : Int) ≤ (S.now.length : Int) := by have := hfull.2; omega
        clear hv h hb1 hb2 hb3 hnm hs h0 hin hfull
        go_enter Tryd.func22, Tryd.ntmps22
        go_wp2_with fail
        refine cB.out.mono ?_
        rintro e w1 ⟨rfl, d1, t1⟩
        have D1 := Lib.hid d1
        have T1 := Lib.hid t1
        obtain ⟨C, mn, ms, wv, d1⟩ := d1
        have hlk := d1.now.look s HS.out
        have hln := d1.now.len 3
        have hc1 := d1.c1
        rw [HNM.out, show dlook nm S.begin.now = none from HF.out.1, ptrOf] at hlk
        rw [show S.begin.now = S.now from rfl] at hln
        clear d1 t1
        go_wp2_with fail
        refine (cN.out w1).mono ?_
        rintro e w2 ⟨rfl, rfl⟩
        go_wp2_with fail
        go_ret
        refine ⟨b0, HB.out.1, HB.out.2.1, HB.out.2.2, ?_⟩
        rw [HV.out]
        exact ⟨rfl, D1.out.more (by omega), T1.out⟩
      · have hv : ∀ b, S.create nm b = (0, (S.begin.adopted b ⟨[], [], []⟩).changed ⟨some b, [], nm⟩) := fun b => by rw [St.create, if_neg h0, if_neg (by rw [hin]; simp), if_neg hfull]
        have HV := Lib.hid hv
        have HI := Lib.hid hin
        clear hv h hb1 hb2 hb3 hnm hs h0 hin
        cases hd : dlook nm S.now with
        | none =>
          have hlen : ¬ (400 : Int) ≤ (S.now.length : Int) := fun e => hfull ⟨hd, by omega⟩
          have HD := Lib.hid hd
          clear hd hfull
          go_enter Tryd.func22, Tryd.ntmps22
          go_wp2_with fail
          refine cB.out.mono ?_
          rintro e w1 ⟨rfl, d1, t1⟩
          have D1 := Lib.hid d1
          have T1 := Lib.hid t1
          obtain ⟨C, mn, ms, wv, d1⟩ := d1
          have hlk := d1.now.look s HS.out
          have hln := d1.now.len 3
          have hc1 := d1.c1
          rw [HNM.out, show dlook nm S.begin.now = none from HD.out, ptrOf] at hlk
          rw [show S.begin.now = S.now from rfl] at hln
          clear d1 t1
          go_wp2_with fail
          refine (cN.out w1).mono ?_
          rintro e w2 ⟨rfl, rfl⟩
          go_wp2_with fail
          refine (newFile_any (C := fun _ => False) w1 (.slice none 0 0) [] (Own.none_ w1) (fun g hg => by cases hg) (Nat.zero_le _) Byte.nil).mono ?_
          rintro e w2 ⟨b, rfl, hb, hf, b2⟩
          obtain ⟨dA, hbf, hbp⟩ := D1.out.adopt b2 hf (fun k hk => by rcases hk with hk | hk; exact hk.elim; exact hk)
          have hfine : Ch.Fine ⟨some b, [], nm⟩ (S.begin.adopted b ⟨[], [], []⟩).files := ⟨fun x hx => by injection hx with hx; subst hx; exact List.mem_cons_self, fun _ => isNameB_nonempty HI.out, Nat.zero_le _, by have := HS.out; rw [← HNM.out]; simpa using this⟩
          have cC := Lib.hid (change_any w2 p _ (n + 1) dA ⟨some b, [], nm⟩ hfine (fun e => by cases e) ⟨#[]⟩ s rfl HNM.out (by omega))
          have B2 := Lib.hid b2
          have HBB := Lib.hid (show b ∉ S.files ∧ b ≠ p ∧ w.heap.size ≤ b from ⟨hbf, hbp, Nat.le_trans T1.out.size hb⟩)
          clear b2 hf dA hfine hbf hbp hb hlk hln hc1
          go_wp2_with fail
          refine cC.out.mono ?_
          rintro e w3 ⟨rfl, d3, t3⟩
          have D3 := Lib.hid d3
          have T3 := Lib.hid t3
          clear d3 t3
          go_wp2_with fail
          go_ret
          refine ⟨b, HBB.out.1, HBB.out.2.1, HBB.out.2.2, ?_⟩
          rw [HV.out]
          have hs1 := T1.out.size
          have hs2 := B2.out.size
          refine ⟨rfl, D3.out.mono fun k _ hk => ?_, ?_⟩
          · rcases hk with ((hk | hk) | hk) | hk
            · exact .inl hk
            · exact .inr hk
            · exact .inr (Nat.le_trans hs1 hk)
            · exact .inr (by omega)
          · have t12 : Turn R w w2 := T1.out.trans (Turn.of_below (R := fun _ => False) B2.out) fun _ _ e => e.elim
            exact t12.trans T3.out fun k hk e => by
              rcases e with (e | e) | e
              · exact e
              · omega
              · omega
        | some bo =>
          have HD := Lib.hid hd
          clear hd hfull
          go_enter Tryd.func22, Tryd.ntmps22
          go_wp2_with fail
          refine cB.out.mono ?_
          rintro e w1 ⟨rfl, d1, t1⟩
          have D1 := Lib.hid d1
          have T1 := Lib.hid t1
          obtain ⟨C, mn, ms, wv, d1⟩ := d1
          have hlk := d1.now.look s HS.out
          have hln := d1.now.len 3
          have hc1 := d1.c1
          rw [HNM.out, show dlook nm S.begin.now = some bo from HD.out, ptrOf] at hlk
          rw [show S.begin.now = S.now from rfl] at hln
          clear d1 t1
          go_wp2_with fail
          refine (cN.out w1).mono ?_
          rintro e w2 ⟨rfl, rfl⟩
          go_wp2_with fail
          refine (newFile_any (C := fun _ => False) w1 (.slice none 0 0) [] (Own.none_ w1) (fun g hg => by cases hg) (Nat.zero_le _) Byte.nil).mono ?_
          rintro e w2 ⟨b, rfl, hb, hf, b2⟩
          obtain ⟨dA, hbf, hbp⟩ := D1.out.adopt b2 hf (fun k hk => by rcases hk with hk | hk; exact hk.elim; exact hk)
          have hfine : Ch.Fine ⟨some b, [], nm⟩ (S.begin.adopted b ⟨[], [], []⟩).files := ⟨fun x hx => by injection hx with hx; subst hx; exact List.mem_cons_self, fun _ => isNameB_nonempty HI.out, Nat.zero_le _, by have := HS.out; rw [← HNM.out]; simpa using this⟩
          have cC := Lib.hid (change_any w2 p _ (n + 1) dA ⟨some b, [], nm⟩ hfine (fun e => by cases e) ⟨#[]⟩ s rfl HNM.out (by omega))
          have B2 := Lib.hid b2
          have HBB := Lib.hid (show b ∉ S.files ∧ b ≠ p ∧ w.heap.size ≤ b from ⟨hbf, hbp, Nat.le_trans T1.out.size hb⟩)
          clear b2 hf dA hfine hbf hbp hb hlk hln hc1
          go_wp2_with fail
          refine cC.out.mono ?_
          rintro e w3 ⟨rfl, d3, t3⟩
          have D3 := Lib.hid d3
          have T3 := Lib.hid t3
          clear d3 t3
          go_wp2_with fail
          go_ret
          refine ⟨b, HBB.out.1, HBB.out.2.1, HBB.out.2.2, ?_⟩
          rw [HV.out]
          have hs1 := T1.out.size
          have hs2 := B2.out.size
          refine ⟨rfl, D3.out.mono fun k _ hk => ?_, ?_⟩
          · rcases hk with ((hk | hk) | hk) | hk
            · exact .inl hk
            · exact .inr hk
            · exact .inr (Nat.le_trans hs1 hk)
            · exact .inr (by omega)
          · have t12 : Turn R w w2 := T1.out.trans (Turn.of_below (R := fun _ => False) B2.out) fun _ _ e => e.elim
            exact t12.trans T3.out fun k hk e => by
              rcases e with (e | e) | e
              · exact e
              · omega
              · omega
end Go.Proofs.YtpgclhpobijdeaaDoor.disk
/-
  CONTRACTS of (*disk.FS).Used and (*disk.FS).Dirty: sums over a directory, in whatever order.
-/

namespace Go.Proofs.YtpgclhpobijdeaaDoor.disk
open Go.RowKit Go.Maps

/-! sums over a directory -/
def sumOf (f : Nat → Nat) (d : Dir) : Nat := (d.map fun p => f p.2).sum
/-- .. over what is still to come. -/
def sumLeft (f : Nat → Nat) (left : Lit → Bool) (d : Dir) : Nat := ((d.filter fun p => left (.string p.1)).map fun p => f p.2).sum

theorem sumLeft_start (f : Nat → Nat) (d : Dir) : sumLeft f (Maps.has (dirD d)) d = sumOf f d := by
  unfold sumLeft sumOf
  congr 1
  rw [List.filter_eq_self.2]
  intro p hp
  rw [dirD_has]
  unfold dlook
  rw [Option.isSome_map, List.find?_isSome]
  exact ⟨p, hp, by simp⟩
theorem sumLeft_end (f : Nat → Nat) {left : Lit → Bool} (d : Dir) (h : ∀ kl, left kl = false) : sumLeft f left d = 0 := by
  unfold sumLeft
  rw [List.filter_eq_nil_iff.2 (fun p _ => by simp [h])]
  rfl
theorem sumLeft_other (f : Nat → Nat) (left : Lit → Bool) (nm : Nm) : ∀ d : Dir, (∀ p ∈ d, p.1 ≠ nm) → sumLeft f (fun z => left z && !z.sameKey (.string nm)) d = sumLeft f left d := by
  intro d hd
  unfold sumLeft
  congr 2
  apply List.filter_congr
  intro p hp
  show (left (.string p.1) && !(Lit.string p.1).sameKey (.string nm)) = left (.string p.1)
  rw [same_str]
  have : (p.1 == nm) = false := by simpa using hd p hp
  rw [this]; simp
theorem sumLeft_step (f : Nat → Nat) (left : Lit → Bool) (nm : Nm) (b : Nat) (hl : left (.string nm) = true) : ∀ d : Dir, d.Pairwise (fun p q => p.1 ≠ q.1) → (nm, b) ∈ d → sumLeft f left d = f b + sumLeft f (fun z => left z && !z.sameKey (.string nm)) d
  | [], _, h => by cases h
  | y :: r, hp, h => by
    obtain ⟨h1, h2⟩ := List.pairwise_cons.1 hp
    rcases List.mem_cons.1 h with rfl | h
    · have e := sumLeft_other f left nm r fun p hp' => fun e => h1 p hp' e.symm
      unfold sumLeft at e ⊢
      simp only [List.filter_cons, hl, same_str, beq_self_eq_true, Bool.not_true, Bool.and_false, Bool.false_eq_true, if_true, if_false, List.map_cons, List.sum_cons]
      rw [← e]
      rfl
    · have ih := sumLeft_step f left nm b hl r h2 h
      have hy : y.1 ≠ nm := h1 (nm, b) h
      have hyb : (y.1 == nm) = false := by simpa using hy
      unfold sumLeft at ih ⊢
      cases hly : left (.string y.1)
      · simp only [List.filter_cons, hly, Bool.false_and, Bool.false_eq_true, if_false]
        exact ih
      · simp only [List.filter_cons, hly, same_str, hyb, Bool.not_false, Bool.and_true, if_true, List.map_cons, List.sum_cons]
        have ih' := ih
        simp only [same_str] at ih'
        omega
theorem sumOf_le (f : Nat → Nat) (M : Nat) : ∀ d : Dir, (∀ p ∈ d, f p.2 ≤ M) → sumOf f d ≤ d.length * M
  | [], _ => by simp [sumOf]
  | y :: r, h => by
    have := sumOf_le f M r fun p hp => h p (by simp [hp])
    have hy := h y (by simp)
    unfold sumOf at this ⊢
    rw [List.map_cons, List.sum_cons, List.length_cons, Nat.succ_mul]
    omega
theorem sorted_apart {d : Dir} (h : d.Pairwise fun p q => bytesBefore p.1 q.1 = true) : d.Pairwise fun p q => p.1 ≠ q.1 :=
  h.imp fun {a b} hab e => by rw [e, WideAt.bytes_irrefl] at hab; cases hab

theorem file_shape {v : Value} {y : DataW Unit × List MemPlace} (h : fileElem v = some y) : ∃ o : Option Nat, v = ptrOf o := by
  unfold fileElem at h
  split at h
  · rename_i a
    obtain ⟨ab, ao, asp⟩ := a
    split at h
    · rename_i hc
      obtain ⟨h2, h3⟩ := hc
      simp only at h2 h3
      subst h2; subst h3
      exact ⟨some ab, rfl⟩
    · cases h
  · exact ⟨none, rfl⟩
  · cases h

def St.used (S : St) : Nat := sumOf (fun b => (S.file b).now.length) S.now
def St.dirty (S : St) : Nat := sumOf (fun b => (S.file b).dirty.length) S.now

theorem used_nil (w : World) : Calls Tryd.prog 63 #[.pointer none] w fun e w' => e = .returned (.int .i64 0) ∧ w = w' := by
  go_enter Tryd.func63, Tryd.ntmps63
  go_wp2
  go_ret
  exact ⟨rfl, rfl⟩

set_option maxRecDepth 100000 in
set_option maxHeartbeats 1000000 in
theorem used_any {R : Nat → Prop} (w : World) (p : Nat) (S : St) (n : Nat) (h : Disk R w p S n) (hn : n ≤ 100000000) :
    Calls Tryd.prog 63 #[.pointer (some ⟨p, 0, none⟩)] w fun e w' => e = .returned (.int .i64 (S.used : Int)) ∧ Below w.heap.size w w' := by
  obtain ⟨C, mn, ms, wv, h⟩ := h
  have hc1 := h.c1
  have HH := Lib.hid h
  have hpl := h.cells.lt
  obtain ⟨tot, htot⟩ : ∃ tot, S.used = tot := ⟨_, rfl⟩
  have hle : tot ≤ 100000000 * 4194304 := by
    rw [← htot]
    have h1 := sumOf_le (fun b => (S.file b).now.length) 4194304 S.now (fun q hq => by have := (h.file q.2 (h.ok.inow q hq)).fit; have h2 := this.most; have h3 := this.few; show (S.file q.2).now.length ≤ 4194304; omega)
    have h2 := h.ok.now
    have h3 : S.now.length * 4194304 ≤ 100000000 * 4194304 := Nat.mul_le_mul_right _ (by omega)
    exact Nat.le_trans h1 h3
  have hle2 : (tot : Int) ≤ 419430400000000 := by omega
  have HTOT := Lib.hid htot
  rw [htot]
  clear htot h hle
  go_enter Tryd.func63, Tryd.ntmps63
  go_wp2_with (first
    | (at_range; refine wpList_range_own _ rfl _ 54 rfl 9 76 strLaw dirType fileElem mn S.now.length (dirD S.now) rfl HH.out.now.owns ?_; intro w0 hrg0 hg0 hs0)
    | fail)
  have HRG := Lib.hid hrg0
  have HG := Lib.hid hg0
  clear hrg0 hg0 hs0 hc1
  go_frame
  go_loopw [3, 5] (fun a _ wr => ∃ (left : Lit → Bool) (cnt acc : Nat), wr.ranges Tryd.prog 9 fileElem mn w.heap.size S.now.length (dirD S.now) left cnt ∧ w.grownBy wr none ∧ a = .int .i64 (acc : Int) ∧ acc + sumLeft (fun b => (S.file b).now.length) left S.now = tot) (fun _ _ wr => wr.rangeLeft mn w.heap.size)
  case atStart => exact ⟨_, _, 0, HRG.out, HG.out, rfl, by rw [sumLeft_start, ← HTOT.out, Nat.zero_add]; rfl⟩
  case round =>
    obtain ⟨left, cnt, acc, hrg, hgw, rfl, hsum⟩ := hrel
    have HR := Lib.hid hrg
    have HGW := Lib.hid hgw
    have HSUM := Lib.hid hsum
    have hacc : (acc : Int) ≤ (tot : Int) := by omega
    clear hrg hgw hsum
    go_wp2_with (first
      | (at_next; refine wpList_next_ranges _ rfl _ rfl 9 strLaw fileElem encStr ptrOf (fun key kl hk => by obtain ⟨x, hx, _⟩ := Maps.keyOf_str Tryd.underlying9 hk; exact ⟨x, hx⟩) (fun v y hv => file_shape hv) mn w.heap.size S.now.length _ _ _ rfl HR.out ?_ ?_)
      | fail)
    · intro _ hl0
      have HL0 := Lib.hid hl0
      clear hl0
      go_wp2_with fail
      go_ret
      have e := HSUM.out
      rw [sumLeft_end _ _ HL0.out, Nat.add_zero] at e
      have hg := HGW.out
      exact ⟨by rw [← e]; rfl, ⟨hg.os, hg.tape, hg.output, hg.size, fun k hk => hg.block k hk (by simp)⟩⟩
    · intro x o kl yd yp w1 cnt1 hkey hlk hv hat hrg1 hlt hg1 hs1 hen
      obtain ⟨x', ex, ekl, _⟩ := Maps.keyOf_str Tryd.underlying9 hkey
      obtain rfl : x = x' := encStr_inj ex
      subst ekl
      have hhas := Maps.has_true_of_atKey hat
      rw [dirD_has] at hhas
      obtain ⟨b, hb⟩ := Option.isSome_iff_exists.1 hhas
      have hyd := hat .nil
      rw [dirD_at, hb] at hyd
      have hyd' : fileD b = yd := hyd
      subst hyd'
      have ho := fileElem_inv hv
      rw [ho] at hen ⊢
      have hmem := dlook_mem hb
      have hh := HH.out
      have hfile := hh.file b (hh.ok.inow _ hmem)
      have hgw1 : w.grownBy w1 none := HGW.out.andThen hg1 (fun j hj => by cases hj; exact Or.inl (Nat.le_refl _))
      have hfile1 := hfile.same (w' := w1) fun k hk _ => hgw1.block k hk (by simp)
      obtain ⟨vn, vs, dm, hfa⟩ := hfile1
      obtain ⟨av, cv, ev, _⟩ := hfa.now.form
      subst ev
      have dv : w1.cell? ⟨b, 0, none⟩ = some (.slice av (S.file b).now.length cv) := hfa.cell0
      have hstep := sumLeft_step (fun b => (S.file b).now.length) left x b hlk S.now (sorted_apart hh.now.sorted) hmem
      have hsum' : acc + (S.file b).now.length + sumLeft (fun b => (S.file b).now.length) (fun z => left z && !z.sameKey (.string x)) S.now = tot := by rw [← HSUM.out, hstep]; omega
      have hacc2 : (acc : Int) + ((S.file b).now.length : Int) ≤ (tot : Int) := by omega
      have hacc3 : ((S.file b).now.length : Int) ≤ (tot : Int) := by omega
      have HS1 := Lib.hid hsum'
      have HG1 := Lib.hid hgw1
      have HRG1 := Lib.hid hrg1
      clear hkey hlk hv hat hg1 hs1 ex hhas hb hyd ho hmem hh hfile hgw1 hfa hstep hsum' hrg1
      go_wp2_with fail
      go_roundw
      case rel => exact ⟨_, cnt1, acc + (S.file b).now.length, HRG1.out, HG1.out, by go_num, HS1.out⟩
      case measure => rw [HRG1.out.left_eq, HR.out.left_eq]; exact hlt

end Go.Proofs.YtpgclhpobijdeaaDoor.disk
/-
  CONTRACTS of (*disk.FS).Write and Sync.
-/

namespace Go.Proofs.YtpgclhpobijdeaaDoor.disk
open Go.RowKit Go.Maps

/-- A file's bytes turned. -/
def St.set (S : St) (b : Nat) (A : FileA) : St := { S with file := fun x => if x = b then A else S.file x }
theorem St.Ok.set {S : St} {n : Nat} (h : S.Ok n) (b : Nat) (A : FileA) : (S.set b A).Ok n := { h with }

theorem DiskAt.file_turned {C : Nat → Nat → Prop} {R : Nat → Prop} {w w' : World} {p : Nat} {S : St} {n : Nat} {mn ms : Nat} {wv : Value} (h : DiskAt C R w p S n mn ms wv) {b : Nat} (hb : b ∈ S.files) {A : FileA}
    (hf : IsFile (fun k => C b k ∨ w.heap.size ≤ k) w' b A) (t : Turn (C b) w w') : Disk (fun k => R k ∨ w.heap.size ≤ k) w' p (S.set b A) n ∧ Turn R w w' := by
  have hbp : b ≠ p := fun e => h.notp (e ▸ hb)
  have eo : ∀ x k, x ≠ b → C x k → w'.heap[k]? = w.heap[k]? := fun x k hx hk => t.block k (h.low x k hk).2 fun e => hx (h.apart _ _ _ hk e)
  have hpb : p ≠ b := fun e => hbp e.symm
  have hs := t.size
  refine ⟨⟨fun x k => C x k ∨ (x = b ∧ w.heap.size ≤ k ∧ k < w'.heap.size), mn, ms, wv, ⟨Whole.same h.cells (eo p p hpb h.inp), h.now.same (eo p mn hpb h.inn), h.synced.same (eo p ms hpb h.ins), h.two, row_same h.wait fun g hg => eo p g hpb (h.inw g hg).1, ?_, .inl h.inp, .inl h.inn, .inl h.ins, fun g hg => ⟨.inl (h.inw g hg).1, (h.inw g hg).2⟩, h.notp, ?_, ?_, h.ok.set b A⟩⟩, t.mono fun k _ hk => (h.low b k hk).1⟩
  · intro y hy
    show IsFile _ w' y (if y = b then A else S.file y)
    by_cases e : y = b
    · rw [if_pos e]
      subst e
      exact hf.mono fun k hk hfk => by
        rcases hfk with hfk | hfk
        · exact .inl hfk
        · exact .inr ⟨rfl, hfk, hk⟩
    · rw [if_neg e]
      exact ((h.file y hy).same fun k _ hk => eo y k e hk).mono fun k _ hk => .inl hk
  · rintro x y k (hx | ⟨rfl, hx, _⟩) (hy | ⟨rfl, hy, _⟩)
    · exact h.apart _ _ _ hx hy
    · have := (h.low x k hx).2; omega
    · have := (h.low y k hy).2; omega
    · rfl
  · rintro x k (hx | ⟨_, hx, hk⟩)
    · exact ⟨.inl (h.low x k hx).1, by have := (h.low x k hx).2; omega⟩
    · exact ⟨.inr hx, hk⟩

theorem sum_mem : ∀ (l : List Nat) (x : Nat), x ∈ l → x ≤ l.sum
  | [], _, h => by cases h
  | y :: r, x, h => by
    rw [List.sum_cons]
    rcases List.mem_cons.1 h with rfl | h
    · omega
    · have := sum_mem r x h; omega
theorem used_ge {S : St} {nm : Nm} {b : Nat} (h : dlook nm S.now = some b) : (S.file b).now.length ≤ S.used := by
  have hm := dlook_mem h
  unfold St.used sumOf
  exact sum_mem _ _ (List.mem_map.2 ⟨(nm, b), hm, rfl⟩)

/-- What 'Write' answers and makes. -/
def St.write (S : St) (nm : Nm) (at_ : Int) (part : List Int) : Int × St :=
  if S.fail = 0 then (3, S.begin) else
    match dlook nm S.now with
    | none => (1, S.begin)
    | some b =>
      if at_ < 0 ∨ ((S.file b).now.length : Int) < at_ then (6, S.begin) else
        if 0 < at_ + part.length - (S.file b).now.length ∧ S.room < S.used + (at_ + part.length - (S.file b).now.length) then (2, S.begin) else
          (0, S.begin.set b ((S.file b).write at_.toNat part))

/-- What 'Sync' answers and makes. -/
def St.sync (S : St) (nm : Nm) : Int × St :=
  if S.fail = 0 then (3, S.begin) else
    match dlook nm S.now with
    | none => (1, S.begin)
    | some b => (0, S.begin.set b ⟨(S.file b).now, (S.file b).now, []⟩)

/-- What a call leaves and answers. -/
def CallOut (R : Nat → Prop) (w : World) (p : Nat) (r : Int × St) (n : Nat) (e : Ending) (w' : World) : Prop := DiskOut R w p r.2 n (.int .i64 r.1) e w'

theorem turn_step {R : Nat → Prop} {w w1 w2 : World} {p n : Nat} {S : St} (t1 : Turn R w w1) (d2 : Disk (fun k => (R k ∨ w.heap.size ≤ k) ∨ w1.heap.size ≤ k) w2 p S n) (t2 : Turn (fun k => R k ∨ w.heap.size ≤ k) w1 w2) :
    Disk (fun k => R k ∨ w.heap.size ≤ k) w2 p S n ∧ Turn R w w2 := by
  have hs := t1.size
  exact ⟨d2.mono fun k _ hk => by rcases hk with hk | hk; exact hk; exact .inr (by omega), t1.trans t2 fun k hk e => by rcases e with e | e; exact e; omega⟩

theorem sync_nil (w : World) (s : ByteArray) : Calls Tryd.prog 49 #[.pointer none, .string s] w fun e w' => e = .returned (.int .i64 1) ∧ w = w' := by
  go_enter Tryd.func49, Tryd.ntmps49
  go_wp2_with fail
  refine (begin_nil w).mono ?_
  rintro e w1 ⟨rfl, rfl⟩
  go_wp2
  go_ret
  exact ⟨rfl, rfl⟩

set_option maxRecDepth 100000 in
set_option maxHeartbeats 2000000 in
theorem syncs_any {R : Nat → Prop} (w : World) (p : Nat) (S : St) (n : Nat) (h : Disk R w p S n) (hn : n ≤ 100000000) (s : ByteArray) (hs : s.size ≤ maxLen) :
    Calls Tryd.prog 49 #[.pointer (some ⟨p, 0, none⟩), .string s] w (CallOut R w p (S.sync s.data.toList) (n + 2)) := by
  have cB := Lib.hid (begin_any w p S n h (by omega))
  have HS := Lib.hid hs
  obtain ⟨nm, hnm⟩ : ∃ nm, s.data.toList = nm := ⟨_, rfl⟩
  rw [hnm]
  have HNM := Lib.hid hnm
  by_cases h0 : S.fail = 0
  · have hv : S.sync nm = (3, S.begin) := by rw [St.sync, if_pos h0]
    have HV := Lib.hid hv
    rw [if_pos h0] at cB
    clear hv h hnm hs h0
    go_enter Tryd.func49, Tryd.ntmps49
    go_wp2_with fail
    refine cB.out.mono ?_
    rintro e w1 ⟨rfl, d1, t1⟩
    have D1 := Lib.hid d1
    have T1 := Lib.hid t1
    clear d1 t1
    go_wp2
    go_ret
    rw [HV.out]
    exact ⟨rfl, D1.out.more (by omega), T1.out⟩
  · rw [if_neg h0] at cB
    cases hd : dlook nm S.now with
    | none =>
      have hv : S.sync nm = (1, S.begin) := by rw [St.sync, if_neg h0]; simp only [hd]
      have HV := Lib.hid hv
      have HD := Lib.hid hd
      clear hv h hnm hs h0 hd
      go_enter Tryd.func49, Tryd.ntmps49
      go_wp2_with fail
      refine cB.out.mono ?_
      rintro e w1 ⟨rfl, d1, t1⟩
      have D1 := Lib.hid d1
      have T1 := Lib.hid t1
      obtain ⟨C, mn, ms, wv, d1⟩ := d1
      have hlk := d1.now.look s HS.out
      have hc1 := d1.c1
      rw [HNM.out, show dlook nm S.begin.now = none from HD.out, ptrOf] at hlk
      clear d1 t1
      go_wp2
      go_ret
      rw [HV.out]
      exact ⟨rfl, D1.out.more (by omega), T1.out⟩
    | some b =>
      have hv : S.sync nm = (0, S.begin.set b ⟨(S.file b).now, (S.file b).now, []⟩) := by rw [St.sync, if_neg h0]; simp only [hd]
      have HV := Lib.hid hv
      have HD := Lib.hid hd
      clear hv h hnm hs h0 hd
      go_enter Tryd.func49, Tryd.ntmps49
      go_wp2_with fail
      refine cB.out.mono ?_
      rintro e w1 ⟨rfl, d1, t1⟩
      have T1 := Lib.hid t1
      obtain ⟨C, mn, ms, wv, d1⟩ := d1
      have hlk := d1.now.look s HS.out
      have hc1 := d1.c1
      have hbf : b ∈ S.begin.files := d1.ok.inow _ (dlook_mem HD.out)
      rw [HNM.out, show dlook nm S.begin.now = some b from HD.out, ptrOf] at hlk
      have D1 := Lib.hid d1
      have HBF := Lib.hid hbf
      have cS := Lib.hid (sync_any w1 b (S.begin.file b) (d1.file b hbf))
      clear d1 t1 hbf
      go_wp2_with fail
      refine cS.out.mono ?_
      rintro e w2 ⟨rfl, f2, t2⟩
      obtain ⟨d3, t3⟩ := D1.out.file_turned HBF.out f2 t2
      obtain ⟨d4, t4⟩ := turn_step T1.out d3 t3
      have D4 := Lib.hid (d4.more (show n + 1 ≤ n + 2 by omega))
      have T4 := Lib.hid t4
      clear f2 t2 d3 t3 d4 t4 hlk hc1
      go_wp2
      go_ret
      rw [HV.out]
      exact ⟨rfl, D4.out, T4.out⟩
end Go.Proofs.YtpgclhpobijdeaaDoor.disk
/-
  CONTRACT of (*disk.FS).Write.
-/


namespace Go.Proofs.YtpgclhpobijdeaaDoor.disk
open Go.RowKit Go.Maps

theorem write_nil (w : World) (s : ByteArray) (at_ : Int) (ad : Option Addr) (m mcap : Nat) : Calls Tryd.prog 48 #[.pointer none, .string s, .int .i64 at_, .slice ad m mcap] w fun e w' => e = .returned (.int .i64 1) ∧ w = w' := by
  go_enter Tryd.func48, Tryd.ntmps48
  go_wp2_with fail
  refine (begin_nil w).mono ?_
  rintro e w1 ⟨rfl, rfl⟩
  go_wp2
  go_ret
  exact ⟨rfl, rfl⟩

/-- What goes to 'Write' besides: bytes that lie outside the disk. -/
structure Given (R : Nat → Prop) (w : World) (ad : Option Addr) (m : Nat) (part : List Int) : Prop where
  leads : Leads w ad part
  length : part.length = m
  byte : Byte part
  past : ∀ b off, ad = some ⟨b, off, none⟩ → part ≠ [] → ¬ R b
  small : m ≤ 100000000
theorem Given.lt {R : Nat → Prop} {w : World} {ad : Option Addr} {m : Nat} {part : List Int} (h : Given R w ad m part) : ∀ b off, ad = some ⟨b, off, none⟩ → part ≠ [] → b < w.heap.size := fun b off e hne => by
  obtain ⟨b', off', e', hb⟩ := h.leads.lt hne
  rw [e] at e'
  obtain ⟨rfl, _⟩ : b = b' ∧ off = off' := by simpa using e'
  exact hb

set_option maxRecDepth 100000 in
set_option maxHeartbeats 2000000 in
theorem write_full {R : Nat → Prop} (w : World) (p : Nat) (S : St) (n : Nat) (h : Disk R w p S n) (hn : n ≤ 10000000) (s : ByteArray) (hs : s.size ≤ maxLen) (ad : Option Addr) (m mcap : Nat) (part : List Int) (hg : Given R w ad m part)
    (nm : Nm) (hnm : s.data.toList = nm) (h0 : ¬ S.fail = 0) (b N q u : Nat) (hd : dlook nm S.now = some b) (hN : (S.file b).now.length = N) (hq : q ≤ N) (hu : S.used = u) (hgr : (N : Int) < (q : Int) + (m : Int)) (hfull : S.room < (u : Int) + ((q : Int) + (m : Int) - (N : Int))) :
    Calls Tryd.prog 48 #[.pointer (some ⟨p, 0, none⟩), .string s, .int .i64 (q : Int), .slice ad m mcap] w (CallOut R w p (S.write nm (q : Int) part) (n + 2)) := by
  have cB := Lib.hid (begin_any w p S n h (by omega))
  rw [if_neg h0] at cB
  have HS := Lib.hid hs
  have HG := Lib.hid hg
  have HNM := Lib.hid hnm
  have hm := hg.small
  have hfit := h.fit (h.ok.inow _ (dlook_mem hd))
  have hmo := hfit.most
  rw [hN] at hmo
  have HN := Lib.hid hN
  have HD := Lib.hid hd
  have hpl := hg.length
  have hused := used_ge hd
  rw [hN, hu] at hused
  have hok := h.ok
  have hroomle := hok.room.2
  have hub : u ≤ 10000000 * 4194304 := by
    rw [← hu]
    have h1 := sumOf_le (fun b => (S.file b).now.length) 4194304 S.now (fun x hx => (h.fit (hok.inow x hx)).most)
    have h2 := hok.now
    have h3 : S.now.length * 4194304 ≤ 10000000 * 4194304 := Nat.mul_le_mul_right _ (by omega)
    exact Nat.le_trans h1 h3
  have hub2 : (u : Int) ≤ 41943040000000 := by omega
  have cU := Lib.hid (fun (w1 : World) (d : Disk (fun k => R k ∨ w.heap.size ≤ k) w1 p S.begin (n + 1)) => used_any w1 p S.begin (n + 1) d (by omega))
  rw [show S.begin.used = u from hu] at cU
  have hwrap : IntKind.i64.wrap ((u : Int) + ((q : Int) + (m : Int) - (N : Int))) = (u : Int) + ((q : Int) + (m : Int) - (N : Int)) := by rw [IntKind.wrap_i64]; omega
  have HWR := Lib.hid hwrap
  have hv : S.write nm (q : Int) part = (2, S.begin) := by rw [St.write, if_neg h0]; simp only [hd]; rw [hN, if_neg (by omega), hpl, hu, if_pos ⟨by omega, hfull⟩]
  have HV := Lib.hid hv
  have HFU := Lib.hid hfull
  clear hv h hnm hs h0 hd hN hg hfit hpl hu hub hok hwrap hfull
  go_enter Tryd.func48, Tryd.ntmps48
  go_wp2_with fail
  refine cB.out.mono ?_
  rintro e w1 ⟨rfl, d1, t1⟩
  have T1 := Lib.hid t1
  have DD1 := Lib.hid d1
  obtain ⟨C, mn, ms, wv, d1⟩ := d1
  have hlk := d1.now.look s HS.out
  have hc1 := d1.c1
  have hbf : b ∈ S.begin.files := d1.ok.inow _ (dlook_mem HD.out)
  rw [HNM.out, show dlook nm S.begin.now = some b from HD.out, ptrOf] at hlk
  obtain ⟨vn, vs, dm, hf⟩ := d1.file b hbf
  obtain ⟨av, cv, ev, _⟩ := hf.now.form
  subst ev
  have hf0 : w1.cell? ⟨b, 0, none⟩ = some (.slice av N cv) := by rw [← HN.out]; exact hf.cell0
  have hroom : w1.cell? ⟨p, 0, none⟩ = some (.int .i64 S.room) := d1.c0
  have D1 := Lib.hid d1
  have HBF := Lib.hid hbf
  clear d1 t1 hf hbf
  go_wp2_with fail
  have hwrap := HWR.out
  have hdec : decide (S.room < (u : Int) + ((q : Int) + (m : Int) - (N : Int))) = true := decide_eq_true HFU.out
  have B0 : Hid (Below w1.heap.size w1 w1.drew) := ⟨rfl, rfl, rfl, Nat.le_refl _, fun _ _ => rfl⟩
  have hroom1 : w1.drew.cell? ⟨p, 0, none⟩ = some (.int .i64 S.room) := hroom
  go_region_held3 (fun w' => Hid (Below w1.heap.size w1 w') ∧ w'.cell? ⟨p, 0, none⟩ = some (.int .i64 S.room)) ((constructor <;> assumption))
    (first | (go_at_call 63; refine (cU.out _ (DD1.out.later B0.out)).mono ?_; rintro e w2 ⟨rfl, b2⟩; have hroom2 : w2.cell? ⟨p, 0, none⟩ = some (.int .i64 S.room) := (b2.cell (p := ⟨p, 0, none⟩) (by exact D1.out.cells.lt)).trans (by exact hroom); have B2 : Hid (Below w1.heap.size w1 w2) := ⟨b2.os, b2.tape, b2.output, b2.size, b2.block⟩; clear b2))
  clear hwrap hdec hroom hroom1 hroom2
  go_wp2_with fail
  go_ret
  rw [HV.out]
  have hb2 : Below w1.heap.size w1 w2 := B2.out
  exact ⟨rfl, (DD1.out.later hb2).more (by omega), T1.out.trans (Turn.of_below (R := fun _ => False) hb2) fun _ _ e => e.elim⟩

set_option maxRecDepth 100000 in
set_option maxHeartbeats 2000000 in
theorem write_fits {R : Nat → Prop} (w : World) (p : Nat) (S : St) (n : Nat) (h : Disk R w p S n) (hn : n ≤ 10000000) (s : ByteArray) (hs : s.size ≤ maxLen) (ad : Option Addr) (m mcap : Nat) (part : List Int) (hg : Given R w ad m part)
    (nm : Nm) (hnm : s.data.toList = nm) (h0 : ¬ S.fail = 0) (b N q u : Nat) (hd : dlook nm S.now = some b) (hN : (S.file b).now.length = N) (hq : q ≤ N) (hu : S.used = u) (hgr : (N : Int) < (q : Int) + (m : Int)) (hfull : ¬ S.room < (u : Int) + ((q : Int) + (m : Int) - (N : Int))) :
    Calls Tryd.prog 48 #[.pointer (some ⟨p, 0, none⟩), .string s, .int .i64 (q : Int), .slice ad m mcap] w (CallOut R w p (S.write nm (q : Int) part) (n + 2)) := by
  have cB := Lib.hid (begin_any w p S n h (by omega))
  rw [if_neg h0] at cB
  have HS := Lib.hid hs
  have HG := Lib.hid hg
  have HNM := Lib.hid hnm
  have hm := hg.small
  have hfit := h.fit (h.ok.inow _ (dlook_mem hd))
  have hmo := hfit.most
  rw [hN] at hmo
  have HN := Lib.hid hN
  have HD := Lib.hid hd
  have hpl := hg.length
  have hused := used_ge hd
  rw [hN, hu] at hused
  have hok := h.ok
  have hroomle := hok.room.2
  have hub : u ≤ 10000000 * 4194304 := by
    rw [← hu]
    have h1 := sumOf_le (fun b => (S.file b).now.length) 4194304 S.now (fun x hx => (h.fit (hok.inow x hx)).most)
    have h2 := hok.now
    have h3 : S.now.length * 4194304 ≤ 10000000 * 4194304 := Nat.mul_le_mul_right _ (by omega)
    exact Nat.le_trans h1 h3
  have hub2 : (u : Int) ≤ 41943040000000 := by omega
  have cU := Lib.hid (fun (w1 : World) (d : Disk (fun k => R k ∨ w.heap.size ≤ k) w1 p S.begin (n + 1)) => used_any w1 p S.begin (n + 1) d (by omega))
  rw [show S.begin.used = u from hu] at cU
  have hwrap : IntKind.i64.wrap ((u : Int) + ((q : Int) + (m : Int) - (N : Int))) = (u : Int) + ((q : Int) + (m : Int) - (N : Int)) := by rw [IntKind.wrap_i64]; omega
  have HWR := Lib.hid hwrap
  have hv : S.write nm (q : Int) part = (0, S.begin.set b ((S.file b).write q part)) := by rw [St.write, if_neg h0]; simp only [hd]; rw [hN, if_neg (by omega), hpl, hu, if_neg (fun e => hfull e.2), Int.toNat_natCast]
  have hqm : q + m ≤ 4194304 := by omega
  have HV := Lib.hid hv
  have HFU := Lib.hid hfull
  clear hv h hnm hs h0 hd hN hg hfit hpl hu hub hok hwrap hfull
  go_enter Tryd.func48, Tryd.ntmps48
  go_wp2_with fail
  refine cB.out.mono ?_
  rintro e w1 ⟨rfl, d1, t1⟩
  have T1 := Lib.hid t1
  have DD1 := Lib.hid d1
  obtain ⟨C, mn, ms, wv, d1⟩ := d1
  have hlk := d1.now.look s HS.out
  have hc1 := d1.c1
  have hbf : b ∈ S.begin.files := d1.ok.inow _ (dlook_mem HD.out)
  rw [HNM.out, show dlook nm S.begin.now = some b from HD.out, ptrOf] at hlk
  obtain ⟨vn, vs, dm, hf⟩ := d1.file b hbf
  obtain ⟨av, cv, ev, _⟩ := hf.now.form
  subst ev
  have hf0 : w1.cell? ⟨b, 0, none⟩ = some (.slice av N cv) := by rw [← HN.out]; exact hf.cell0
  have hroom : w1.cell? ⟨p, 0, none⟩ = some (.int .i64 S.room) := d1.c0
  have D1 := Lib.hid d1
  have HBF := Lib.hid hbf
  clear d1 t1 hf hbf
  go_wp2_with fail
  have hwrap := HWR.out
  have hdec : decide (S.room < (u : Int) + ((q : Int) + (m : Int) - (N : Int))) = false := decide_eq_false (by have := HFU.out; omega)
  have B0 : Hid (Below w1.heap.size w1 w1.drew) := ⟨rfl, rfl, rfl, Nat.le_refl _, fun _ _ => rfl⟩
  have hroom1 : w1.drew.cell? ⟨p, 0, none⟩ = some (.int .i64 S.room) := hroom
  go_region_held3 (fun w' => Hid (Below w1.heap.size w1 w') ∧ w'.cell? ⟨p, 0, none⟩ = some (.int .i64 S.room)) ((constructor <;> assumption))
    (first | (go_at_call 63; refine (cU.out _ (DD1.out.later B0.out)).mono ?_; rintro e w2 ⟨rfl, b2⟩; have hroom2 : w2.cell? ⟨p, 0, none⟩ = some (.int .i64 S.room) := (b2.cell (p := ⟨p, 0, none⟩) (by exact D1.out.cells.lt)).trans (by exact hroom); have B2 : Hid (Below w1.heap.size w1 w2) := ⟨b2.os, b2.tape, b2.output, b2.size, b2.block⟩; clear b2))
  clear hwrap hdec hroom hroom1 hroom2
  have hb2 : Below w1.heap.size w1 w2 := B2.out
  have dl := D1.out.same (w' := w2) hb2.size fun x k hk => hb2.block k (D1.out.low x k hk).2
  have hlead : Leads w2 ad part := (HG.out.leads.turned T1.out fun b' off e hne => HG.out.past b' off e hne).later hb2
  have hpast : ∀ g, C b g → Past g ad part := fun g hgc => by
    by_cases hne : part = []
    · exact .inl hne
    · right
      intro b' off e eg
      subst eg
      rcases (D1.out.low b b' hgc).1 with hR | hR
      · exact HG.out.past b' off e hne hR
      · have h1 := HG.out.lt b' off e hne
        omega
  have cF := Lib.hid (write_any w2 b (S.begin.file b) (dl.file b HBF.out) q ad m mcap part hlead hpast HG.out.length HG.out.byte (by show q ≤ (S.file b).now.length; rw [HN.out]; omega) (by omega))
  have DL := Lib.hid dl
  clear hpast hlead dl hb2
  go_wp2_with fail
  refine cF.out.mono ?_
  rintro e w3 ⟨rfl, f3, t3⟩
  obtain ⟨d4, t4⟩ := DL.out.file_turned HBF.out f3 t3
  have hb2 : Below w1.heap.size w1 w2 := B2.out
  have T12 : Turn R w w2 := T1.out.trans (Turn.of_below (R := fun _ => False) hb2) fun _ _ e => e.elim
  have hs1 := T1.out.size
  have hs2 := hb2.size
  have D5 := Lib.hid ((d4.mono (R' := fun k => R k ∨ w.heap.size ≤ k) fun k _ hk => by
    rcases hk with (hk | hk) | hk
    · exact .inl hk
    · exact .inr hk
    · exact .inr (by omega)).more (show n + 1 ≤ n + 2 by omega))
  have T5 := Lib.hid (T12.trans t4 fun k hk e => by
    rcases e with e | e
    · exact e
    · omega)
  clear f3 t3 d4 t4 hb2 T12 hs1 hs2
  go_wp2_with fail
  go_ret
  rw [HV.out]
  exact ⟨rfl, D5.out, T5.out⟩

set_option maxRecDepth 100000 in
set_option maxHeartbeats 2000000 in
theorem write_within {R : Nat → Prop} (w : World) (p : Nat) (S : St) (n : Nat) (h : Disk R w p S n) (hn : n ≤ 10000000) (s : ByteArray) (hs : s.size ≤ maxLen) (ad : Option Addr) (m mcap : Nat) (part : List Int) (hg : Given R w ad m part)
    (nm : Nm) (hnm : s.data.toList = nm) (h0 : ¬ S.fail = 0) (b N q : Nat) (hd : dlook nm S.now = some b) (hN : (S.file b).now.length = N) (hq : q ≤ N) (hgr : ¬ (N : Int) < (q : Int) + (m : Int)) :
    Calls Tryd.prog 48 #[.pointer (some ⟨p, 0, none⟩), .string s, .int .i64 (q : Int), .slice ad m mcap] w (CallOut R w p (S.write nm (q : Int) part) (n + 2)) := by
  have cB := Lib.hid (begin_any w p S n h (by omega))
  rw [if_neg h0] at cB
  have HS := Lib.hid hs
  have HG := Lib.hid hg
  have HNM := Lib.hid hnm
  have hm := hg.small
  have hfit := h.fit (h.ok.inow _ (dlook_mem hd))
  have hmo := hfit.most
  rw [hN] at hmo
  have HN := Lib.hid hN
  have HD := Lib.hid hd
  have hpl := hg.length
  have hv : S.write nm (q : Int) part = (0, S.begin.set b ((S.file b).write q part)) := by rw [St.write, if_neg h0]; simp only [hd]; rw [hN, if_neg (by omega), hpl, if_neg (fun e => hgr (by omega)), Int.toNat_natCast]
  have hqm : q + m ≤ 4194304 := by omega
  have HV := Lib.hid hv
  clear hv h hnm hs h0 hd hN hg hfit hpl
  go_enter Tryd.func48, Tryd.ntmps48
  go_wp2_with fail
  refine cB.out.mono ?_
  rintro e w1 ⟨rfl, d1, t1⟩
  have T1 := Lib.hid t1
  have DD1 := Lib.hid d1
  obtain ⟨C, mn, ms, wv, d1⟩ := d1
  have hlk := d1.now.look s HS.out
  have hc1 := d1.c1
  have hbf : b ∈ S.begin.files := d1.ok.inow _ (dlook_mem HD.out)
  rw [HNM.out, show dlook nm S.begin.now = some b from HD.out, ptrOf] at hlk
  obtain ⟨vn, vs, dm, hf⟩ := d1.file b hbf
  obtain ⟨av, cv, ev, _⟩ := hf.now.form
  subst ev
  have hf0 : w1.cell? ⟨b, 0, none⟩ = some (.slice av N cv) := by rw [← HN.out]; exact hf.cell0
  have hroom : w1.cell? ⟨p, 0, none⟩ = some (.int .i64 S.room) := d1.c0
  have D1 := Lib.hid d1
  have HBF := Lib.hid hbf
  clear d1 t1 hf hbf
  go_wp2_with fail
  have hdec : decide ((N : Int) < (q : Int) + (m : Int)) = false := decide_eq_false (by omega)
  go_quiet (fail)
  clear hdec hroom
  have B2 := Lib.hid (show Below w1.heap.size w1 (w1.drewN nq) from ⟨rfl, rfl, rfl, Nat.le_refl _, fun _ _ => rfl⟩)
  generalize w1.drewN nq = w2 at B2 ⊢
  have hb2 : Below w1.heap.size w1 w2 := B2.out
  have dl := D1.out.same (w' := w2) hb2.size fun x k hk => hb2.block k (D1.out.low x k hk).2
  have hlead : Leads w2 ad part := (HG.out.leads.turned T1.out fun b' off e hne => HG.out.past b' off e hne).later hb2
  have hpast : ∀ g, C b g → Past g ad part := fun g hgc => by
    by_cases hne : part = []
    · exact .inl hne
    · right
      intro b' off e eg
      subst eg
      rcases (D1.out.low b b' hgc).1 with hR | hR
      · exact HG.out.past b' off e hne hR
      · have h1 := HG.out.lt b' off e hne
        omega
  have cF := Lib.hid (write_any w2 b (S.begin.file b) (dl.file b HBF.out) q ad m mcap part hlead hpast HG.out.length HG.out.byte (by show q ≤ (S.file b).now.length; rw [HN.out]; omega) (by omega))
  have DL := Lib.hid dl
  clear hpast hlead dl hb2
  go_wp2_with fail
  refine cF.out.mono ?_
  rintro e w3 ⟨rfl, f3, t3⟩
  obtain ⟨d4, t4⟩ := DL.out.file_turned HBF.out f3 t3
  have hb2 : Below w1.heap.size w1 w2 := B2.out
  have T12 : Turn R w w2 := T1.out.trans (Turn.of_below (R := fun _ => False) hb2) fun _ _ e => e.elim
  have hs1 := T1.out.size
  have hs2 := hb2.size
  have D5 := Lib.hid ((d4.mono (R' := fun k => R k ∨ w.heap.size ≤ k) fun k _ hk => by
    rcases hk with (hk | hk) | hk
    · exact .inl hk
    · exact .inr hk
    · exact .inr (by omega)).more (show n + 1 ≤ n + 2 by omega))
  have T5 := Lib.hid (T12.trans t4 fun k hk e => by
    rcases e with e | e
    · exact e
    · omega)
  clear f3 t3 d4 t4 hb2 T12 hs1 hs2
  go_wp2_with fail
  go_ret
  rw [HV.out]
  exact ⟨rfl, D5.out, T5.out⟩

set_option maxRecDepth 100000 in
set_option maxHeartbeats 2000000 in
theorem writes_any {R : Nat → Prop} (w : World) (p : Nat) (S : St) (n : Nat) (h : Disk R w p S n) (hn : n ≤ 10000000) (s : ByteArray) (hs : s.size ≤ maxLen) (at_ : Int) (ad : Option Addr) (m mcap : Nat) (part : List Int) (hg : Given R w ad m part) :
    Calls Tryd.prog 48 #[.pointer (some ⟨p, 0, none⟩), .string s, .int .i64 at_, .slice ad m mcap] w (CallOut R w p (S.write s.data.toList at_ part) (n + 2)) := by
  have cB := Lib.hid (begin_any w p S n h (by omega))
  have HS := Lib.hid hs
  have HG := Lib.hid hg
  obtain ⟨nm, hnm⟩ : ∃ nm, s.data.toList = nm := ⟨_, rfl⟩
  rw [hnm]
  have HNM := Lib.hid hnm
  have hm := hg.small
  by_cases h0 : S.fail = 0
  · have hv : S.write nm at_ part = (3, S.begin) := by rw [St.write, if_pos h0]
    have HV := Lib.hid hv
    rw [if_pos h0] at cB
    clear hv h hnm hs h0 hg
    go_enter Tryd.func48, Tryd.ntmps48
    go_wp2_with fail
    refine cB.out.mono ?_
    rintro e w1 ⟨rfl, d1, t1⟩
    have D1 := Lib.hid d1
    have T1 := Lib.hid t1
    clear d1 t1
    go_wp2
    go_ret
    rw [HV.out]
    exact ⟨rfl, D1.out.more (by omega), T1.out⟩
  · rw [if_neg h0] at cB
    cases hd : dlook nm S.now with
    | none =>
      have hv : S.write nm at_ part = (1, S.begin) := by rw [St.write, if_neg h0]; simp only [hd]
      have HV := Lib.hid hv
      have HD := Lib.hid hd
      clear hv h hnm hs h0 hd hg
      go_enter Tryd.func48, Tryd.ntmps48
      go_wp2_with fail
      refine cB.out.mono ?_
      rintro e w1 ⟨rfl, d1, t1⟩
      have T1 := Lib.hid t1
      have DD1 := Lib.hid d1
      obtain ⟨C, mn, ms, wv, d1⟩ := d1
      have hlk := d1.now.look s HS.out
      have hc1 := d1.c1
      rw [HNM.out, show dlook nm S.begin.now = none from HD.out, ptrOf] at hlk
      clear d1 t1
      go_wp2
      go_ret
      rw [HV.out]
      exact ⟨rfl, DD1.out.more (by omega), T1.out⟩
    | some b =>
      have hfit := h.fit (h.ok.inow _ (dlook_mem hd))
      have hmo := hfit.most
      obtain ⟨N, hN⟩ : ∃ N, (S.file b).now.length = N := ⟨_, rfl⟩
      rw [hN] at hmo
      have HN := Lib.hid hN
      have HD := Lib.hid hd
      by_cases hr : at_ < 0 ∨ (N : Int) < at_
      · have hv : S.write nm at_ part = (6, S.begin) := by rw [St.write, if_neg h0]; simp only [hd]; rw [hN, if_pos hr]
        have HV := Lib.hid hv
        clear hv h hnm hs h0 hd hN hg hfit
        go_enter Tryd.func48, Tryd.ntmps48
        go_wp2_with fail
        refine cB.out.mono ?_
        rintro e w1 ⟨rfl, d1, t1⟩
        have T1 := Lib.hid t1
        have DD1 := Lib.hid d1
        obtain ⟨C, mn, ms, wv, d1⟩ := d1
        have hlk := d1.now.look s HS.out
        have hc1 := d1.c1
        rw [HNM.out, show dlook nm S.begin.now = some b from HD.out, ptrOf] at hlk
        obtain ⟨vn, vs, dm, hf⟩ := d1.file b (d1.ok.inow _ (dlook_mem HD.out))
        obtain ⟨av, cv, ev, _⟩ := hf.now.form
        subst ev
        have hf0 : w1.cell? ⟨b, 0, none⟩ = some (.slice av N cv) := by rw [← HN.out]; exact hf.cell0
        clear d1 t1 hf
        by_cases hr1 : at_ < 0
        · go_wp2
          go_ret
          rw [HV.out]
          exact ⟨rfl, DD1.out.more (by omega), T1.out⟩
        · have hr2 : (N : Int) < at_ := by omega
          clear hr
          go_wp2
          go_ret
          rw [HV.out]
          exact ⟨rfl, DD1.out.more (by omega), T1.out⟩
      · have ha0 : 0 ≤ at_ := by omega
        have haN : at_ ≤ (N : Int) := by omega
        obtain ⟨q, rfl⟩ : ∃ q : Nat, at_ = (q : Int) := ⟨at_.toNat, by omega⟩
        by_cases hgr : (N : Int) < (q : Int) + (m : Int)
        · by_cases hfull : S.room < (S.used : Int) + ((q : Int) + (m : Int) - (N : Int))
          · exact write_full w p S n h hn s hs ad m mcap part hg nm hnm h0 b N q S.used hd hN (by omega) rfl hgr hfull
          · exact write_fits w p S n h hn s hs ad m mcap part hg nm hnm h0 b N q S.used hd hN (by omega) rfl hgr hfull
        · exact write_within w p S n h hn s hs ad m mcap part hg nm hnm h0 b N q hd hN (by omega) hgr
end Go.Proofs.YtpgclhpobijdeaaDoor.disk
/-
  CONTRACTS of (*disk.FS).named, Size, Read, Calls, Reads, Fail.
-/

namespace Go.Proofs.YtpgclhpobijdeaaDoor.disk
open Go.RowKit Go.Maps

theorem named_nil (w : World) (s : ByteArray) : Calls Tryd.prog 57 #[.pointer none, .string s] w fun e w' => e = .returned (.pointer none) ∧ w = w' := by
  go_enter Tryd.func57, Tryd.ntmps57
  go_wp2
  go_ret
  exact ⟨rfl, rfl⟩
theorem named_any {R : Nat → Prop} (w : World) (p : Nat) (S : St) (n : Nat) (h : Disk R w p S n) (s : ByteArray) (hs : s.size ≤ maxLen) :
    Calls Tryd.prog 57 #[.pointer (some ⟨p, 0, none⟩), .string s] w fun e w' => e = .returned (ptrOf (dlook s.data.toList S.now)) ∧ w = w' := by
  obtain ⟨C, mn, ms, wv, h⟩ := h
  have hlk := h.now.look s hs
  have hc1 := h.c1
  clear h
  cases hd : dlook s.data.toList S.now
  all_goals
    rw [hd, ptrOf] at hlk
    have HD := Lib.hid hd
    clear hd
    go_enter Tryd.func57, Tryd.ntmps57
    go_wp2
    go_ret
    exact ⟨rfl, rfl⟩

/-- What 'Size' answers. -/
def St.size (S : St) (nm : Nm) : Int := match dlook nm S.now with | some b => (S.file b).now.length | none => -1

theorem size_nil (w : World) (s : ByteArray) : Calls Tryd.prog 39 #[.pointer none, .string s] w fun e w' => e = .returned (.int .i64 (-1)) ∧ w = w' := by
  go_enter Tryd.func39, Tryd.ntmps39
  go_wp2_with fail
  refine (named_nil w s).mono ?_
  rintro e w1 ⟨rfl, rfl⟩
  go_wp2
  go_ret
  exact ⟨rfl, rfl⟩
theorem size_any {R : Nat → Prop} (w : World) (p : Nat) (S : St) (n : Nat) (h : Disk R w p S n) (s : ByteArray) (hs : s.size ≤ maxLen) :
    Calls Tryd.prog 39 #[.pointer (some ⟨p, 0, none⟩), .string s] w fun e w' => e = .returned (.int .i64 (S.size s.data.toList)) ∧ w = w' := by
  have cN := Lib.hid (named_any w p S n h s hs)
  cases hd : dlook s.data.toList S.now with
  | none =>
    rw [hd] at cN
    have hv : S.size s.data.toList = -1 := by rw [St.size]; simp only [hd]
    rw [hv]
    clear hv hd h
    go_enter Tryd.func39, Tryd.ntmps39
    go_wp2_with fail
    refine cN.out.mono ?_
    rintro e w1 ⟨rfl, rfl⟩
    rw [ptrOf]
    go_wp2
    go_ret
    exact ⟨rfl, rfl⟩
  | some b =>
    rw [hd] at cN
    have hv : S.size s.data.toList = (S.file b).now.length := by rw [St.size]; simp only [hd]
    rw [hv]
    obtain ⟨C, mn, ms, wv, h⟩ := h
    obtain ⟨vn, vs, dm, hf⟩ := h.file b (h.ok.inow _ (dlook_mem hd))
    obtain ⟨av, cv, ev, _⟩ := hf.now.form
    subst ev
    have hf0 := hf.cell0
    clear hv hd h hf
    go_enter Tryd.func39, Tryd.ntmps39
    go_wp2_with fail
    refine cN.out.mono ?_
    rintro e w1 ⟨rfl, rfl⟩
    rw [ptrOf]
    go_wp2
    go_ret
    exact ⟨rfl, rfl⟩

theorem cell_grown {w : World} {p i : Nat} {v : Value} : w.grownBy (w.setCell ⟨p, i, none⟩ v) (some p) := ⟨rfl, rfl, rfl, by simp [World.setCell], fun x _ hx => heap_setCell_other w ⟨p, i, none⟩ x _ fun e => hx (by rw [e])⟩

/-- What 'Read' answers and makes. -/
def St.read (S : St) (nm : Nm) (at_ k : Int) : Int × List Int × St :=
  match dlook nm S.now with
  | none => (1, [], S)
  | some b => if at_ < 0 ∨ k < 0 ∨ ((S.file b).now.length : Int) < at_ ∨ ((S.file b).now.length : Int) - at_ < k then (6, [], S) else (0, ((S.file b).now.drop at_.toNat).take k.toNat, { S with reads := S.reads + k })
/-- What 'Read' leaves: a new row, the disk in the same blocks. -/
def ReadOut (R : Nat → Prop) (w : World) (p : Nat) (r : Int × List Int × St) (n : Nat) (e : Ending) (w' : World) : Prop :=
  ∃ v, e = .returned (.tuple #[v, .int .i64 r.1]) ∧ Own w' v r.2.1 ∧ (∀ g, v.ownBlock = some g → w.heap.size ≤ g) ∧ Disk R w' p r.2.2 n ∧ Turn R w w'

theorem St.Ok.read {S : St} {n : Nat} (h : S.Ok n) {k : Int} (h0 : 0 ≤ k) (hk : k ≤ 4194304) : St.Ok { S with reads := S.reads + k } (n + 1) := by
  have h1 := h.more (Nat.le_succ n)
  refine { h1 with reads := ?_ }
  show 0 ≤ S.reads + k ∧ S.reads + k ≤ ((n + 1 : Nat) : Int) * 4194304
  have := h.reads
  omega

theorem read_nil (w : World) (s : ByteArray) (at_ k : Int) : Calls Tryd.prog 53 #[.pointer none, .string s, .int .i64 at_, .int .i64 k] w fun e w' => e = .returned (.tuple #[.slice none 0 0, .int .i64 1]) ∧ w = w' := by
  go_enter Tryd.func53, Tryd.ntmps53
  go_wp2_with fail
  refine (named_nil w s).mono ?_
  rintro e w1 ⟨rfl, rfl⟩
  go_wp2
  go_ret2
  exact ⟨rfl, rfl⟩

set_option maxRecDepth 100000 in
set_option maxHeartbeats 1000000 in
theorem read_bad {R : Nat → Prop} (w : World) (p : Nat) (S : St) (n : Nat) (h : Disk R w p S n) (s : ByteArray) (hs : s.size ≤ maxLen) (at_ k : Int) (b : Nat) (hd : dlook s.data.toList S.now = some b) (hr : at_ < 0 ∨ k < 0 ∨ ((S.file b).now.length : Int) < at_ ∨ ((S.file b).now.length : Int) - at_ < k) :
    Calls Tryd.prog 53 #[.pointer (some ⟨p, 0, none⟩), .string s, .int .i64 at_, .int .i64 k] w fun e w' => e = .returned (.tuple #[.slice none 0 0, .int .i64 6]) ∧ w = w' := by
  have cN := Lib.hid (named_any w p S n h s hs)
  rw [hd] at cN
  obtain ⟨C, mn, ms, wv, h⟩ := h
  obtain ⟨vn, vs, dm, hf⟩ := h.file b (h.ok.inow _ (dlook_mem hd))
  have hmo := hf.fit.most
  obtain ⟨av, cv, ev, _⟩ := hf.now.form
  subst ev
  have hf0 := hf.cell0
  obtain ⟨N, hN⟩ : ∃ N, (S.file b).now.length = N := ⟨_, rfl⟩
  rw [hN] at hr hf0 hmo
  clear hd h hf hN
  by_cases h1 : at_ < 0
  · clear hr
    go_enter Tryd.func53, Tryd.ntmps53
    go_wp2_with fail
    refine cN.out.mono ?_
    rintro e w1 ⟨rfl, rfl⟩
    rw [ptrOf]
    go_wp2
    go_ret2
    exact ⟨rfl, rfl⟩
  · by_cases h2 : k < 0
    · clear hr
      go_enter Tryd.func53, Tryd.ntmps53
      go_wp2_with fail
      refine cN.out.mono ?_
      rintro e w1 ⟨rfl, rfl⟩
      rw [ptrOf]
      go_wp2
      go_ret2
      exact ⟨rfl, rfl⟩
    · by_cases h3 : (N : Int) < at_
      · clear hr
        go_enter Tryd.func53, Tryd.ntmps53
        go_wp2_with fail
        refine cN.out.mono ?_
        rintro e w1 ⟨rfl, rfl⟩
        rw [ptrOf]
        go_wp2
        go_ret2
        exact ⟨rfl, rfl⟩
      · have h4 : (N : Int) - at_ < k := by omega
        clear hr
        go_enter Tryd.func53, Tryd.ntmps53
        go_wp2_with fail
        refine cN.out.mono ?_
        rintro e w1 ⟨rfl, rfl⟩
        rw [ptrOf]
        go_wp2
        go_ret2
        exact ⟨rfl, rfl⟩
end Go.Proofs.YtpgclhpobijdeaaDoor.disk
/-
  CONTRACTS of (*disk.FS).Read, Fail, Room.
-/

namespace Go.Proofs.YtpgclhpobijdeaaDoor.disk
open Go.RowKit Go.Maps

/-- 'bytes.Clone' of a cut of a row. -/
theorem clone_cut (w : World) (a : Option Addr) (n c : Nat) (l : List Int) (hl : l.length = n) (hb : Leads w a l) (ha : a = none → n = 0) (hn : n ≤ 100000000) :
    Calls Tryd.prog 42 #[.slice a n c] w fun e w' => ∃ v, e = .returned v ∧ Own w' v l ∧ (∀ g, v.ownBlock = some g → w.heap.size ≤ g) ∧ Below w.heap.size w w' := by
  cases a with
  | none =>
    obtain rfl : n = 0 := ha rfl
    obtain rfl : l = [] := List.eq_nil_of_length_eq_zero hl
    refine (clone_nil _ _ w).mono ?_
    rintro e w' ⟨rfl, rfl⟩
    exact ⟨_, rfl, Own.none_ _, (fun g hg => by cases hg), Below.refl _ _⟩
  | some ad => exact clone_some ad n c l w hl hb hn

set_option maxRecDepth 100000 in
set_option maxHeartbeats 1000000 in
theorem read_good {R : Nat → Prop} (w : World) (p : Nat) (S : St) (n : Nat) (h : Disk R w p S n) (s : ByteArray) (hs : s.size ≤ maxLen) (q k : Nat) (b : Nat) (hd : dlook s.data.toList S.now = some b) (hr : q + k ≤ (S.file b).now.length) (hn : n ≤ 1000000000) :
    Calls Tryd.prog 53 #[.pointer (some ⟨p, 0, none⟩), .string s, .int .i64 (q : Int), .int .i64 (k : Int)] w (ReadOut R w p (0, ((S.file b).now.drop q).take k, { S with reads := S.reads + (k : Int) }) (n + 1)) := by
  have cN := Lib.hid (named_any w p S n h s hs)
  rw [hd] at cN
  obtain ⟨C, mn, ms, wv, h⟩ := h
  obtain ⟨vn, vs, dm, hf⟩ := h.file b (h.ok.inow _ (dlook_mem hd))
  have hmo := hf.fit.most
  have hbp : b ≠ p := fun e => h.notp (e ▸ h.ok.inow _ (dlook_mem hd))
  obtain ⟨av, cv, ev, h1, h2, h3, h4, h5⟩ := hf.now.form
  subst ev
  have hf0 := hf.cell0
  have hok := h.ok.read (k := (k : Int)) (by omega) (by omega)
  have hrd := h.ok.reads
  obtain ⟨hrd1, hrd2⟩ := hrd
  have hc6 := h.c6
  have hf6 := h.cells.free 6
  obtain ⟨N, hN⟩ : ∃ N, (S.file b).now.length = N := ⟨_, rfl⟩
  rw [hN] at hr hf0 hmo h1
  have hl : (((S.file b).now.drop q).take k).length = k := by rw [List.length_take, List.length_drop]; omega
  have cut := run_cut av N cv q (q + k) (by omega) (by omega)
  have e1 : ((q + k : Nat) : Int) = (q : Int) + (k : Int) := by omega
  rw [e1, Nat.add_sub_cancel_left] at cut
  have hlead : Leads w (cutAt av cv q) (((S.file b).now.drop q).take k) := by
    have := leads_cut (cap := cv) h4 q (q + k) (by omega) (by omega) (by omega)
    rwa [Nat.add_sub_cancel_left] at this
  have hpast : ∀ b' off, cutAt av cv q = some ⟨b', off, none⟩ → ((S.file b).now.drop q).take k ≠ [] → b' ≠ p := by
    intro b' off e hne eb
    subst eb
    rcases h5 with rfl | ⟨g, rfl, hg, _⟩
    · unfold cutAt at e; split at e <;> simp at e
    · have hgb : g = b' := by
        unfold cutAt at e
        split at e
        · simp at e; exact e.1
        · simp [Addr.add_mid] at e; exact e.1
      subst hgb
      exact h.notp (h.apart _ _ _ (hf.inn g hg).1 h.inp ▸ (h.ok.inow _ (dlook_mem hd)))
  have hnone : cutAt av cv q = none → k = 0 := by
    intro e
    rcases h5 with rfl | ⟨g, rfl, hg, _⟩
    · have := (h3 rfl).1; omega
    · unfold cutAt at e; split at e <;> simp at e
  obtain ⟨ac, hac⟩ : ∃ ac, cutAt av cv q = ac := ⟨_, rfl⟩
  rw [hac] at cut hlead hpast hnone
  obtain ⟨L, hL⟩ : ∃ L, ((S.file b).now.drop q).take k = L := ⟨_, rfl⟩
  rw [hL] at hl hlead hpast ⊢
  have key : ∀ v, v = Value.int .i64 (S.reads + (k : Int)) → Hid (Disk R (w.setCell ⟨p, 6, none⟩ v) p { S with reads := S.reads + (k : Int) } (n + 1) ∧ Turn R w (w.setCell ⟨p, 6, none⟩ v) ∧ Leads (w.setCell ⟨p, 6, none⟩ v) ac L) := by
    intro v hv
    subst hv
    refine show _ from ⟨⟨C, mn, ms, wv, h.cells_turned (h.cells.put 6 _) cell_grown rfl rfl rfl rfl rfl hok⟩, Turn.of_grown cell_grown (h.low p p h.inp).1, ?_⟩
    exact hlead.same fun b' off e hne => heap_setCell_other w ⟨p, 6, none⟩ b' _ (hpast b' off e hne)
  have KEY := Lib.hid key
  have hsum : S.reads + (k : Int) ≤ 4194304000004194304 := by omega
  have HL := Lib.hid hl
  have HNO := Lib.hid hnone
  have hkl : k ≤ 4194304 := by omega
  have c1 : ¬ (N : Int) < (q : Int) := by omega
  have c2 : ¬ (N : Int) - (q : Int) < (k : Int) := by omega
  clear hd h hf hN h1 h2 h3 h4 h5 hok e1 hlead hpast hnone hac hL key hl hbp
  go_enter Tryd.func53, Tryd.ntmps53
  go_wp2_with fail
  refine cN.out.mono ?_
  rintro e w1 ⟨rfl, rfl⟩
  rw [ptrOf]
  go_wp2_with fail
  have K := KEY.out _ rfl
  generalize w.setCell ⟨p, 6, none⟩ (.int .i64 (S.reads + (k : Int))) = w2 at K ⊢
  refine (clone_cut w2 ac k _ L HL.out K.out.2.2 HNO.out (by omega)).mono ?_
  rintro e w3 ⟨v, rfl, o3, n3, b3⟩
  have hs2 := K.out.2.1.size
  have fin : ReadOut R w p (0, L, { S with reads := S.reads + (k : Int) }) (n + 1) (.returned (.tuple #[v, .int .i64 0])) w3 :=
    ⟨v, rfl, o3, fun g hg => Nat.le_trans hs2 (n3 g hg), K.out.1.later b3, K.out.2.1.trans (Turn.of_below (R := fun _ => False) b3) fun _ _ e => e.elim⟩
  have FIN := Lib.hid fin
  obtain ⟨a3, c3, e3, _⟩ := o3.form
  subst e3
  clear fin o3 n3 b3 hs2 K
  go_wp2
  go_ret2
  exact FIN.out
end Go.Proofs.YtpgclhpobijdeaaDoor.disk
