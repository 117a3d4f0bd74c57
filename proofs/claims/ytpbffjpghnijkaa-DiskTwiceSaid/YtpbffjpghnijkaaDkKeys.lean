/-
  CONTRACTS of (disk.directory).names, (*disk.file).dirtySectors, maps.Clone at a directory: by the shelf's contracts on slices.Sorted(maps.Keys(m)) and maps.Clone.
-/
import Derived.Test.YtpbffjpghnijkaaDkDir
import Derived.Test.YtpbffjpghnijkaaDkLay
import Derived.Shelf.SlIter.Nil
import Derived.Shelf.SlIterI.Nil
import Derived.Shelf.SortM.Plain
import Derived.Shelf.SortM.SortNone
import Derived.Shelf.SlMaps.Clone
namespace Go.Proofs.Ytpbffjpghnijkaa.disk
open Go.RowKit Go.Maps Go.Sort Go.Shelf

/-! names -/
theorem sorts_str (m : Nat) : AnyZ.SortsIn Try.prog lay.sortedS_ren Fence.wide m :=
  ⟨fun blk off cap ss W hH hblk hsz => callsIn_wide.2 (AnyM.slices_Sort_string lay.sortS blk off cap ss W hH hblk hsz),
   fun p cap W => callsIn_wide.2 (AnyM.slices_Sort_string_none lay.sortS p cap W)⟩
theorem keys_str (mb : Option Nat) (W : World) : CallsIn Fence.wide 5 Try.prog 49 #[.map mb] W fun e w' => e = .returned (.func (.func 54) #[] #[.pointer (some ⟨W.heap.size, 0, none⟩)]) ∧ w' = W.alloc (.cells #[.map mb] 55) :=
  AnyZ.keys_in lay.keysS Fence.wide 5 trivial rfl mb W

set_option maxHeartbeats 1000000 in
theorem sorted_str (b nn : Nat) (D0 : DataW Unit) (R : Value → Option (DataW Unit × List MemPlace)) (w : World) (hown : w.ownsMap Try.prog 9 R b nn D0) (hmax : Maps.size D0 ≤ maxLen) (hbytes : Maps.size D0 * 16 ≤ 140737488355328) :
    CallsIn Fence.wide 5 Try.prog 48 #[.func (.func 54) #[] #[.pointer (some ⟨w.heap.size, 0, none⟩)]] (w.alloc (.cells #[.map (some b)] 55)) fun e w' => ∃ (v : Value) (ss : List (List UInt8)), e = .returned v ∧ ss.Perm (strKeys D0) ∧
      w'.ownsRow (w.alloc (.cells #[.map (some b)] 55)).heap.size 9 1 v ss.length ((ss.mergeSort (fun x y => decide (x ≤ y))).map encStr) ∧ (v = .slice none 0 0 ↔ ss = []) ∧ Below (w.alloc (.cells #[.map (some b)] 55)).heap.size (w.alloc (.cells #[.map (some b)] 55)) w' := by
  have hbl := hown.lt
  have hseq : SeqGives Fence.wide 2 Try.prog 54 #[.pointer (some ⟨w.heap.size, 0, none⟩)] encStr (fun ss => ss.Perm (strKeys D0)) (Maps.size D0) (w.alloc (.cells #[.map (some b)] 55)) :=
    AnyZ.keys_gives (ρ := lay.keysS_ren) { lay.keysS with } Fence.wide _ trivial rfl (by omega) w.heap.size b nn D0 _ (by simp) (by simp) (by
      obtain ⟨es, clock, hb, Ft, hs, hD⟩ := hown
      exact ⟨es, clock, (Below.heap_alloc _ _ b hbl).trans hb, Ft, hs, hD⟩)
  exact AnyZ.sorted_in lay.sortedS Fence.wide 5 trivial trivial trivial trivial rfl (by omega) (sorts_str _) (enters_of Try.func53 (by kernel_rfl) rfl) 54 #[.pointer (some ⟨w.heap.size, 0, none⟩)] trivial (enters_of Try.func54 (by kernel_rfl) rfl) _ _ hmax hbytes _ hseq

theorem bytes_le : ∀ (a b : List UInt8), bytesBefore a b = true → a ≤ b
  | [], _, _ => List.nil_le _
  | _ :: _, [], h => by cases h
  | a :: r, b :: s, h => by
    rw [List.cons_le_cons_iff]
    have h' : (decide (a < b) || (a == b && bytesBefore r s)) = true := h
    rw [Bool.or_eq_true, Bool.and_eq_true, decide_eq_true_iff, beq_iff_eq] at h'
    rcases h' with h1 | ⟨rfl, h1⟩
    · exact .inl h1
    · exact .inr ⟨rfl, bytes_le r s h1⟩

/-- What 'names' answers with: the names, rising, in a new slice. -/
def NamesOut (w : World) (d : Dir) (e : Ending) (w' : World) : Prop :=
  ∃ v, e = .returned v ∧ w'.ownsRow w.heap.size 9 1 v d.length (d.map fun p => encStr p.1) ∧ (v = .slice none 0 0 ↔ d = []) ∧ Below w.heap.size w w'

set_option maxHeartbeats 1000000 in
theorem names_any (w : World) (m : Nat) (d : Dir) (h : IsDir w m d) (hn : d.length ≤ 1000000000) :
    Calls Try.prog 41 #[.map (some m)] w (NamesOut w d) := by
  have hsort : ∀ ss : List Nm, ss.Perm (d.map (·.1)) → ss.mergeSort (fun x y => decide (x ≤ y)) = d.map (·.1) := by
    intro ss hp
    have e := mergeSort_of_perm hp
    have hs : (d.map (·.1)).Pairwise fun x y : Nm => decide (x ≤ y) = true := List.pairwise_map.2 (h.sorted.imp fun {a b} hab => by simpa using bytes_le _ _ hab)
    exact e.trans (List.mergeSort_of_pairwise hs)
  have SRT := Lib.hid hsort
  have HO := Lib.hid h.owns
  have hsz := dirD_size d
  have cS := sorted_str m d.length (dirD d) fileElem w h.owns (by rw [hsz]; unfold maxLen; omega) (by rw [hsz]; omega)
  have CS := Lib.hid cS
  have cK := Lib.hid keys_str
  refine (callsIn_wide (n := 6)).1 ?_
  have hfK : Fence.wide.fn 49 := trivial
  have hfS : Fence.wide.fn 48 := trivial
  have hkeys := Lib.hid (dirD_keys d)
  clear hsort h hsz cS
  refine callsIn_of_wp Try.func41 rfl trivial ?_ rfl
  simp only [Try.ntmps41, List.size_toArray, List.length_cons, List.length_nil, Nat.reduceAdd, Nat.reduceSub, Array.replicate_succ, Array.replicate_zero, List.push_toArray, List.append_toArray, List.nil_append, List.cons_append]
  gi_wp2_with (first
    | (gi_at_call 49; refine (cK.out _ _).mono ?_; rintro e w' ⟨rfl, rfl⟩)
    | (gi_at_call 48; refine CS.out.mono ?_; rintro e w' ⟨v, ss, rfl, hS, hrow, hnil, hb⟩))
  go_ret
  rw [hkeys.out] at hS
  rw [SRT.out ss hS] at hrow
  have hl : ss.length = d.length := by rw [hS.length_eq, List.length_map]
  rw [hl, List.map_map] at hrow
  refine ⟨v, rfl, ownsRow_base_a hrow (by simp), hnil.trans ⟨fun e => List.eq_nil_of_length_eq_zero (by rw [← hl, e]; rfl), fun e => List.eq_nil_of_length_eq_zero (by rw [hl, e]; rfl)⟩, ((Below.refl _ w).alloc (Nat.le_refl _) _).trans (hb.mono (by simp))⟩

/-! dirty sectors -/
theorem sorts_int (m : Nat) : AnyZI.SortsIn Try.prog lay.sortedI_ren Fence.wide m :=
  ⟨fun blk off cap ss W hH hblk hsz => callsIn_wide.2 (AnyM.slices_Sort_int lay.sortI blk off cap ss W hH hblk hsz),
   fun p cap W => callsIn_wide.2 (AnyM.slices_Sort_int_none lay.sortI p cap W)⟩
theorem keys_int (mb : Option Nat) (W : World) : CallsIn Fence.wide 5 Try.prog 56 #[.map mb] W fun e w' => e = .returned (.func (.func 62) #[] #[.pointer (some ⟨W.heap.size, 0, none⟩)]) ∧ w' = W.alloc (.cells #[.map mb] 65) :=
  AnyZI.keys_in lay.keysI Fence.wide 5 trivial rfl mb W

set_option maxHeartbeats 1000000 in
theorem sorted_int (b nn : Nat) (D0 : DataW Unit) (R : Value → Option (DataW Unit × List MemPlace)) (w : World) (hown : w.ownsMap Try.prog 3 R b nn D0) (hmax : Maps.size D0 ≤ maxLen) (hbytes : Maps.size D0 * 8 ≤ 140737488355328) :
    CallsIn Fence.wide 5 Try.prog 55 #[.func (.func 62) #[] #[.pointer (some ⟨w.heap.size, 0, none⟩)]] (w.alloc (.cells #[.map (some b)] 65)) fun e w' => ∃ (v : Value) (ss : List Int), e = .returned v ∧ ss.Perm (intKeys D0) ∧
      w'.ownsRow (w.alloc (.cells #[.map (some b)] 65)).heap.size 3 1 v ss.length ((ss.mergeSort (fun x y => decide (x ≤ y))).map encZ) ∧ (v = .slice none 0 0 ↔ ss = []) ∧ Below (w.alloc (.cells #[.map (some b)] 65)).heap.size (w.alloc (.cells #[.map (some b)] 65)) w' := by
  have hbl := hown.lt
  have hseq : SeqGives Fence.wide 2 Try.prog 62 #[.pointer (some ⟨w.heap.size, 0, none⟩)] encZ (fun ss => ss.Perm (intKeys D0)) (Maps.size D0) (w.alloc (.cells #[.map (some b)] 65)) :=
    AnyZI.keys_gives (ρ := lay.keysI_ren) { lay.keysI with } Fence.wide _ trivial rfl (by omega) w.heap.size b nn D0 _ (by simp) (by simp) (by
      obtain ⟨es, clock, hb, Ft, hs, hD⟩ := hown
      exact ⟨es, clock, (Below.heap_alloc _ _ b hbl).trans hb, Ft, hs, hD⟩)
  exact AnyZI.sorted_in lay.sortedI Fence.wide 5 trivial trivial trivial trivial rfl (by omega) (sorts_int _) (enters_of Try.func61 (by kernel_rfl) rfl) 62 #[.pointer (some ⟨w.heap.size, 0, none⟩)] trivial (enters_of Try.func62 (by kernel_rfl) rfl) _ _ hmax hbytes _ hseq

/-- What 'dirtySectors' answers with: the sectors, rising, in a new slice. -/
def SectorsOut (w : World) (l : List Nat) (e : Ending) (w' : World) : Prop :=
  ∃ v, e = .returned v ∧ w'.ownsRow w.heap.size 3 1 v l.length (l.map fun (s : Nat) => encZ (s : Int)) ∧ Below w.heap.size w w'

theorem secs_keys (l : List Nat) : intKeys (secs l) = l.map fun (s : Nat) => (s : Int) := by
  show (l.map fun (s : Nat) => (Lit.int .i64 (s : Int), (DataW.agg [] : DataW Unit))).map (fun p => Go.intOf p.1) = _
  rw [List.map_map]; rfl

set_option maxHeartbeats 1000000 in
theorem sectors_any (w : World) (b dm n : Nat) (l : List Nat) (hc2 : w.cell? ⟨b, 2, none⟩ = some (.map (some dm))) (h : w.ownsMap Try.prog 3 unitElem dm n (secs l)) (hr : Rising l) (hn : l.length ≤ 1000000000) :
    Calls Try.prog 50 #[.pointer (some ⟨b, 0, none⟩)] w (SectorsOut w l) := by
  have hsort : ∀ ss : List Int, ss.Perm (l.map fun (s : Nat) => (s : Int)) → ss.mergeSort (fun x y => decide (x ≤ y)) = l.map fun (s : Nat) => (s : Int) := by
    intro ss hp
    have e := mergeSort_of_perm_i hp
    have hs : (l.map fun (s : Nat) => (s : Int)).Pairwise fun x y : Int => decide (x ≤ y) = true := List.pairwise_map.2 (hr.imp fun {a b} hab => by simp only [decide_eq_true_eq]; omega)
    exact e.trans (List.mergeSort_of_pairwise hs)
  have SRT := Lib.hid hsort
  have hsz := secs_size l
  have cS := sorted_int dm n (secs l) unitElem w h (by rw [hsz]; unfold maxLen; omega) (by rw [hsz]; omega)
  have CS := Lib.hid cS
  have cK := Lib.hid keys_int
  refine (callsIn_wide (n := 6)).1 ?_
  have hfK : Fence.wide.fn 56 := trivial
  have hfS : Fence.wide.fn 55 := trivial
  have hkeys := Lib.hid (secs_keys l)
  clear hsort h hsz cS
  refine callsIn_of_wp Try.func50 rfl trivial ?_ rfl
  simp only [Try.ntmps50, List.size_toArray, List.length_cons, List.length_nil, Nat.reduceAdd, Nat.reduceSub, Array.replicate_succ, Array.replicate_zero, List.push_toArray, List.append_toArray, List.nil_append, List.cons_append]
  gi_wp2_with (first
    | (gi_at_call 56; refine (cK.out _ _).mono ?_; rintro e w' ⟨rfl, rfl⟩)
    | (gi_at_call 55; refine CS.out.mono ?_; rintro e w' ⟨v, ss, rfl, hS, hrow, hnil, hb⟩))
  go_ret
  rw [hkeys.out] at hS
  rw [SRT.out ss hS] at hrow
  have hl : ss.length = l.length := by rw [hS.length_eq, List.length_map]
  rw [hl, List.map_map] at hrow
  exact ⟨v, rfl, ownsRow_base_a hrow (by simp), ((Below.refl _ w).alloc (Nat.le_refl _) _).trans (hb.mono (by simp))⟩

/-! maps.Clone -/
/-- What maps.Clone leaves. -/
def CloneOut (w : World) (d : Dir) (e : Ending) (w' : World) : Prop :=
  e = .returned (.map (some w.heap.size)) ∧ IsDir w' w.heap.size d ∧ Below w.heap.size w w'
theorem clone_dir (w : World) (m : Nat) (d : Dir) (h : IsDir w m d) : Calls Try.prog 37 #[.map (some m)] w (CloneOut w d) :=
  (AnyW.maps_Clone_owns lay.cloneM 9 fileElem m d.length (dirD d) w h.owns).mono fun _ _ ⟨h1, h2, _, h4⟩ => ⟨h1, ⟨_, h2⟩, h4⟩
end Go.Proofs.Ytpbffjpghnijkaa.disk
