/-
  A DIRECTORY OF THE DISK: which file has which name; contract of (disk.change).apply, (*disk.FS).named.
-/
import Derived.Test.YtpbffjpghnijkaaDkFile
import Derived.Maps.OwnOps
import Derived.StringKeys
import Derived.Maps.RangeWalk
import Derived.Sort.KeysCollected
namespace Go.Proofs.Ytpbffjpghnijkaa.disk
open Go.RowKit Go.Maps

abbrev Nm := List UInt8
/-- Names with their files' blocks, by names rising. -/
abbrev Dir := List (Nm × Nat)
def fileD (b : Nat) : DataW Unit := .lit (.int .i64 (b : Int))
def dirD (d : Dir) : DataW Unit := .map (d.map fun p => (Lit.string p.1, fileD p.2))
def dins (x : Nm × Nat) : Dir → Dir
  | [] => [x]
  | y :: r => if bytesBefore x.1 y.1 then x :: y :: r else y :: dins x r
def ddel (n : Nm) (d : Dir) : Dir := d.filter fun p => !(p.1 == n)
def dput (n : Nm) (b : Nat) (d : Dir) : Dir := dins (n, b) (ddel n d)
def dlook (n : Nm) (d : Dir) : Option Nat := (d.find? fun p => p.1 == n).map (·.2)

theorem dirD_insert (x : Nm × Nat) : ∀ d : Dir, DataW.insert (Lit.string x.1, fileD x.2) (d.map fun p => (Lit.string p.1, fileD p.2)) = (dins x d).map fun p => (Lit.string p.1, fileD p.2)
  | [] => rfl
  | y :: r => by
    rw [List.map_cons, DataW.insert]
    unfold dins
    have e : (Lit.string x.1).before (Lit.string y.1) = bytesBefore x.1 y.1 := rfl
    rw [e]
    by_cases h : bytesBefore x.1 y.1 = true
    · rw [if_pos h, if_pos h]; rfl
    · rw [if_neg h, if_neg h, List.map_cons, dirD_insert x r]
theorem same_str (a b : Nm) : (Lit.string a).sameKey (Lit.string b) = (a == b) := rfl
theorem dirD_filter (n : Nm) (d : Dir) : ((d.map fun p => (Lit.string p.1, fileD p.2)).filter fun p => !p.1.sameKey (.string n)) = (ddel n d).map fun p => (Lit.string p.1, fileD p.2) := by
  rw [List.filter_map]; rfl
theorem dirD_put (n : Nm) (b : Nat) (d : Dir) : (dirD d).put (.string n) (fileD b) = dirD (dput n b d) := by
  show DataW.map (DataW.insert (Lit.string n, fileD b) ((d.map fun p => (Lit.string p.1, fileD p.2)).filter fun p => !p.1.sameKey (.string n))) = _
  rw [dirD_filter, dirD_insert (n, b)]; rfl
theorem dirD_del (n : Nm) (d : Dir) : (dirD d).del (.string n) = dirD (ddel n d) := by
  show DataW.map ((d.map fun p => (Lit.string p.1, fileD p.2)).filter fun p => !p.1.sameKey (.string n)) = _
  rw [dirD_filter]; rfl
theorem dirD_at (n : Nm) (d : Dir) : (dirD d).atKey (.string n) .nil = match dlook n d with | some b => fileD b | none => .nil := by
  unfold dirD DataW.atKey
  simp only
  rw [List.find?_map]
  unfold dlook
  have e : ((fun p : Lit × DataW Unit => p.1.sameKey (.string n)) ∘ fun p : Nm × Nat => (Lit.string p.1, fileD p.2)) = fun p => p.1 == n := rfl
  rw [e]
  cases d.find? fun p => p.1 == n <;> rfl
theorem dirD_has (n : Nm) (d : Dir) : Maps.has (dirD d) (.string n) = (dlook n d).isSome := by
  show (d.map fun p => (Lit.string p.1, fileD p.2)).any (fun p => p.1.sameKey (.string n)) = _
  rw [List.any_map]
  unfold dlook
  rw [Option.isSome_map, List.isSome_find?]; rfl
theorem dirD_size (d : Dir) : Maps.size (dirD d) = d.length := by simp [dirD, Maps.size]
theorem dirD_keys (d : Dir) : strKeys (dirD d) = d.map (·.1) := by
  show (d.map fun p => (Lit.string p.1, fileD p.2)).map (fun p => strOf p.1) = _
  rw [List.map_map]; rfl

theorem find_dins (x : Nm × Nat) (n : Nm) : ∀ d : Dir, (∀ p ∈ d, p.1 ≠ x.1) → (dins x d).find? (fun p => p.1 == n) = if x.1 = n then some x else d.find? fun p => p.1 == n
  | [], _ => by
    unfold dins
    by_cases h : x.1 = n <;> simp [h]
  | y :: r, hd => by
    unfold dins
    have hy := hd y (by simp)
    have ih := find_dins x n r fun p hp => hd p (by simp [hp])
    split
    · by_cases h : x.1 = n <;> simp [h]
    · by_cases h : x.1 = n
      · have hyn : ¬ y.1 = n := fun e => hy (e.trans h.symm)
        rw [if_pos h] at ih ⊢
        simp [hyn, ih]
      · rw [if_neg h] at ih ⊢
        by_cases hyn : y.1 = n <;> simp [hyn, ih]
theorem dlook_ddel (n m : Nm) (d : Dir) : dlook n (ddel m d) = if n = m then none else dlook n d := by
  unfold dlook ddel
  by_cases h : n = m
  · subst h
    rw [if_pos rfl, List.find?_eq_none.2]
    · rfl
    · intro p hp
      have := (List.mem_filter.1 hp).2
      simpa using this
  · rw [if_neg h]
    congr 1
    induction d with
    | nil => rfl
    | cons y r ih =>
      by_cases hy : y.1 = m
      · have hn : ¬ y.1 = n := fun e => h (e.symm.trans hy)
        have hn' : ¬ m = n := fun e => h e.symm
        simp [hy, ih, hn']
      · by_cases hn : y.1 = n
        · simp [hn, h]
        · simp [hy, hn, ih]
theorem ddel_apart (n : Nm) (d : Dir) : ∀ p ∈ ddel n d, p.1 ≠ n := fun p hp => by simpa using (List.mem_filter.1 hp).2
theorem dlook_dput (n m : Nm) (b : Nat) (d : Dir) : dlook n (dput m b d) = if n = m then some b else dlook n d := by
  unfold dput
  unfold dlook
  rw [find_dins (m, b) n (ddel m d) (ddel_apart m d)]
  by_cases h : n = m
  · subst h; simp
  · have h' : ¬ m = n := fun e => h e.symm
    rw [if_neg h', if_neg h]
    have := dlook_ddel n m d
    rw [if_neg h] at this
    exact this
theorem mem_dins (x : Nm × Nat) (p : Nm × Nat) : ∀ d : Dir, p ∈ dins x d ↔ p = x ∨ p ∈ d
  | [] => by simp [dins]
  | y :: r => by
    unfold dins
    split
    · simp
    · simp only [List.mem_cons, mem_dins x p r]
      constructor
      · rintro (h | h | h)
        · exact .inr (.inl h)
        · exact .inl h
        · exact .inr (.inr h)
      · rintro (h | h | h)
        · exact .inr (.inl h)
        · exact .inl h
        · exact .inr (.inr h)
theorem mem_dput {n : Nm} {b : Nat} {d : Dir} {p : Nm × Nat} (h : p ∈ dput n b d) : p = (n, b) ∨ p ∈ d := by
  rcases (mem_dins _ _ _).1 h with h | h
  · exact .inl h
  · exact .inr (List.mem_filter.1 h).1
theorem mem_ddel {n : Nm} {d : Dir} {p : Nm × Nat} (h : p ∈ ddel n d) : p ∈ d := (List.mem_filter.1 h).1
theorem dlook_mem {n : Nm} {d : Dir} {b : Nat} (h : dlook n d = some b) : (n, b) ∈ d := by
  unfold dlook at h
  obtain ⟨p, hp, rfl⟩ := Option.map_eq_some_iff.1 h
  have h1 := List.mem_of_find?_eq_some hp
  have h2 := List.find?_some hp
  have : p.1 = n := by simpa using h2
  rw [← this]; exact h1
theorem dins_length (x : Nm × Nat) : ∀ d : Dir, (dins x d).length = d.length + 1
  | [] => rfl
  | y :: r => by
    unfold dins
    split
    · simp
    · simp [dins_length x r]
theorem ddel_length (n : Nm) (d : Dir) : (ddel n d).length ≤ d.length := List.length_filter_le _ _
theorem dput_length (n : Nm) (b : Nat) (d : Dir) : (dput n b d).length ≤ d.length + 1 := by
  rw [dput, dins_length]; have := ddel_length n d; omega

/-! in memory -/
/-- How a pointer to a file reads: by the file's block. -/
def fileElem : Value → Option (DataW Unit × List MemPlace)
  | .pointer (some a) => if a.off = 0 ∧ a.spot = none then some (fileD a.block, []) else none
  | .pointer none => some (.nil, [])
  | _ => none
theorem fileElem_some (b : Nat) : fileElem (.pointer (some ⟨b, 0, none⟩)) = some (fileD b, []) := by simp [fileElem]
theorem fileElem_none : fileElem (.pointer none) = some (.nil, []) := rfl
theorem fileElem_inv {v : Value} {b : Nat} {ps : List MemPlace} (h : fileElem v = some (fileD b, ps)) : v = .pointer (some ⟨b, 0, none⟩) := by
  unfold fileElem at h
  split at h
  · rename_i a
    obtain ⟨ab, ao, asp⟩ := a
    split at h
    · rename_i hc
      simp only [fileD, Option.some.injEq, Prod.mk.injEq, DataW.lit.injEq, Lit.int.injEq] at h
      obtain ⟨⟨_, h1⟩, _⟩ := h
      obtain ⟨h2, h3⟩ := hc
      have : ab = b := by omega
      subst this
      simp only at h2 h3
      subst h2; subst h3; rfl
    · cases h
  · simp [fileD] at h
  · cases h
theorem fileElem_inv_nil {v : Value} {ps : List MemPlace} (h : fileElem v = some (.nil, ps)) : v = .pointer none := by
  unfold fileElem at h
  split at h
  · split at h
    · simp [fileD] at h
    · cases h
  · rfl
  · cases h

/-- The block m is a map that holds the directory d. -/
def IsDir (w : World) (m : Nat) (d : Dir) : Prop := ∃ n, w.ownsMap Try.prog 9 fileElem m n (dirD d)
theorem IsDir.owns {w : World} {m : Nat} {d : Dir} (h : IsDir w m d) : w.ownsMap Try.prog 9 fileElem m d.length (dirD d) := by
  obtain ⟨n, h⟩ := h
  have := owns_tight h
  rwa [dirD_size] at this
theorem IsDir.lt {w : World} {m : Nat} {d : Dir} (h : IsDir w m d) : m < w.heap.size := h.owns.lt
theorem IsDir.same {w w' : World} {m : Nat} {d : Dir} (h : IsDir w m d) (e : w'.heap[m]? = w.heap[m]?) : IsDir w' m d := by
  obtain ⟨n, h⟩ := h; exact ⟨n, map_same h e⟩
theorem strLaw : Keyed Try.prog 9 := string_keyed Try.underlying9
theorem dirType : Try.prog.underlying 55 = some (.map 9 60) := Try.underlying55
theorem strKey (s : ByteArray) (h : s.size ≤ maxLen) : keyOf Try.prog 9 (.string s) = some (.string s.data.toList) := WideMaps.keyOf_string_mk Try.underlying9 h
theorem fileZero (w : World) : (zeroValue 60).run Try.prog w = .ok (.pointer none) w := by kernel_rfl

/-- What a look-up in a directory answers. -/
def ptrOf : Option Nat → Value
  | some b => .pointer (some ⟨b, 0, none⟩)
  | none => .pointer none
theorem IsDir.look {w : World} {m : Nat} {d : Dir} (h : IsDir w m d) (s : ByteArray) (hs : s.size ≤ maxLen) : (Instr.lookup 55 (.map (some m)) (.string s) false).run Try.prog w = .ok (ptrOf (dlook s.data.toList d)) w := by
  obtain ⟨v, ps, hrun, hv⟩ := h.owns.lookup strLaw dirType (fileZero w) fileElem_none (strKey s hs)
  rw [hrun]
  rw [dirD_at] at hv
  cases hd : dlook s.data.toList d with
  | some b => rw [hd] at hv; rw [fileElem_inv hv]; rfl
  | none => rw [hd] at hv; rw [fileElem_inv_nil hv]; rfl
theorem IsDir.sorted {w : World} {m : Nat} {d : Dir} (h : IsDir w m d) : d.Pairwise fun p q => bytesBefore p.1 q.1 = true := by
  obtain ⟨es, e, hp, _⟩ := h.owns.canon strLaw
  injection e with e
  rw [← e] at hp
  exact List.pairwise_map.1 hp

/-! changes of a directory -/
structure Ch where
  made : Option Nat
  frm : Nm
  to : Nm
def Ch.apply (c : Ch) (d : Dir) : Dir :=
  if c.to = [] then ddel c.frm d else
    match c.made with
    | some b => dput c.to b (ddel c.frm d)
    | none => match dlook c.frm d with
      | some b => dput c.to b (ddel c.frm d)
      | none => ddel c.frm d
/-- It may be made: what it names is there. -/
def Ch.Ok (c : Ch) (d : Dir) : Prop := c.made = none → (dlook c.frm d).isSome = true
/-- How a change lies in memory. -/
def chCells (c : Ch) (sf st : ByteArray) : List Value := [ptrOf c.made, .string sf, .string st]

theorem Ch.apply_length (c : Ch) (d : Dir) : (c.apply d).length ≤ d.length + 1 := by
  have h1 := ddel_length c.frm d
  unfold Ch.apply
  split
  · omega
  · split
    · have := dput_length c.to (by assumption) (ddel c.frm d); omega
    · split
      · have := dput_length c.to (by assumption) (ddel c.frm d); omega
      · omega

/-- What 'apply' leaves. -/
def ApplyOut (w : World) (m : Nat) (d : Dir) (e : Ending) (w' : World) : Prop :=
  e = .returned (.tuple #[]) ∧ IsDir w' m d ∧ w.grownBy w' (some m)

set_option maxRecDepth 100000 in
set_option maxHeartbeats 1000000 in
theorem apply_made (w : World) (m : Nat) (d : Dir) (h : IsDir w m d) (c : Ch) (sf st : ByteArray) (b : Nat) (hb : c.made = some b) (hf : sf.data.toList = c.frm) (ht : st.data.toList = c.to) (hne : c.to ≠ []) (hsf : sf.size ≤ maxLen) (hst : st.size ≤ maxLen) (hn : d.length ≤ 1000000000) :
    Calls Try.prog 40 #[.agg (chCells c sf st).toArray, .map (some m)] w (ApplyOut w m (c.apply d)) := by
  have hc : chCells c sf st = [.pointer (some ⟨b, 0, none⟩), .string sf, .string st] := by rw [chCells, hb]; rfl
  have ha : c.apply d = dput st.data.toList b (ddel sf.data.toList d) := by rw [Ch.apply, if_neg hne, hb, hf, ht]
  rw [hc, ha]
  have hte : (!st.toList.isEmpty) = true := by rw [ByteArray.toList_eq, ht]; cases hto : c.to <;> simp_all
  have HO := Lib.hid h.owns
  have HSF := Lib.hid hsf
  have HST := Lib.hid hst
  have hlt := h.lt
  have HTE := Lib.hid hte
  clear h hc ha hsf hst hb hf ht hne hte
  go_enter Try.func40, Try.ntmps40
  
  go_wp2_with (first
    | (at_delete; refine wpList_delete_own _ rfl _ _ 55 9 rfl 60 strLaw dirType fileElem m (List.length d) (dirD d) rfl (HO.out.alloc _) _ _ rfl (strKey sf HSF.out) ?_; intro w1 o1 t1; rw [dirD_del] at o1; have g1 := t1.grown; have d2 : w1.cell? ⟨w.heap.size, 2, none⟩ = some (.string st) := g1.cell (a := ⟨w.heap.size, 2, none⟩) (((Whole.made' w _ _).at_ 2).trans rfl) (fun e => by injection e with e; have e' : w.heap.size = m := e; omega); have O1 := Lib.hid o1; have G1 := Lib.hid g1; have hte := HTE.out; clear o1 t1 g1)
    | (at_mapUpdate; refine wpList_mapUpdate_own _ rfl _ _ _ 55 rfl 9 60 strLaw dirType fileElem m (List.length d) _ rfl O1.out (by unfold maxLen; omega) _ _ _ rfl rfl (strKey st HST.out) (fileD b) [] (fileElem_some b) ?_; intro w2 o2 g2; rw [dirD_put] at o2)
    | fail)
  go_end0
  exact ⟨rfl, ⟨_, o2⟩, ((World.grownBy_alloc w _ (some m)).trans G1.out).trans g2⟩

set_option maxRecDepth 100000 in
set_option maxHeartbeats 1000000 in
theorem apply_named (w : World) (m : Nat) (d : Dir) (h : IsDir w m d) (c : Ch) (sf st : ByteArray) (b : Nat) (hmd : c.made = none) (hb : dlook c.frm d = some b) (hf : sf.data.toList = c.frm) (ht : st.data.toList = c.to) (hne : c.to ≠ []) (hsf : sf.size ≤ maxLen) (hst : st.size ≤ maxLen) (hn : d.length ≤ 1000000000) :
    Calls Try.prog 40 #[.agg (chCells c sf st).toArray, .map (some m)] w (ApplyOut w m (c.apply d)) := by
  have hc : chCells c sf st = [.pointer none, .string sf, .string st] := by rw [chCells, hmd]; rfl
  have ha : c.apply d = dput st.data.toList b (ddel sf.data.toList d) := by rw [Ch.apply, if_neg hne, hmd, hf, ht]; simp only [hb]
  rw [hc, ha]
  have hte : (!st.toList.isEmpty) = true := by rw [ByteArray.toList_eq, ht]; cases hto : c.to <;> simp_all
  have HO := Lib.hid h.owns
  have HSF := Lib.hid hsf
  have HST := Lib.hid hst
  have hlt := h.lt
  have hlk := (h.same (w' := w.alloc (.cells #[.pointer none, .string sf, .string st] 64)) (heap_alloc_old w _ h.lt)).look sf hsf
  rw [hf, hb, ptrOf] at hlk
  have HLK := Lib.hid hlk
  clear hlk
  have HTE := Lib.hid hte
  clear h hc ha hsf hst hb hf ht hne hmd hte
  go_enter Try.func40, Try.ntmps40
  have hlk := HLK.out
  go_wp2_with (first
    | (at_delete; refine wpList_delete_own _ rfl _ _ 55 9 rfl 60 strLaw dirType fileElem m (List.length d) (dirD d) rfl (HO.out.alloc _) _ _ rfl (strKey sf HSF.out) ?_; intro w1 o1 t1; rw [dirD_del] at o1; have g1 := t1.grown; have d2 : w1.cell? ⟨w.heap.size, 2, none⟩ = some (.string st) := g1.cell (a := ⟨w.heap.size, 2, none⟩) (((Whole.made' w _ _).at_ 2).trans rfl) (fun e => by injection e with e; have e' : w.heap.size = m := e; omega); have O1 := Lib.hid o1; have G1 := Lib.hid g1; have hte := HTE.out; clear o1 t1 g1)
    | (at_mapUpdate; refine wpList_mapUpdate_own _ rfl _ _ _ 55 rfl 9 60 strLaw dirType fileElem m (List.length d) _ rfl O1.out (by unfold maxLen; omega) _ _ _ rfl rfl (strKey st HST.out) (fileD b) [] (fileElem_some b) ?_; intro w2 o2 g2; rw [dirD_put] at o2)
    | fail)
  go_end0
  exact ⟨rfl, ⟨_, o2⟩, ((World.grownBy_alloc w _ (some m)).trans G1.out).trans g2⟩

set_option maxRecDepth 100000 in
set_option maxHeartbeats 1000000 in
theorem apply_gone (w : World) (m : Nat) (d : Dir) (h : IsDir w m d) (c : Ch) (sf st : ByteArray) (b : Nat) (hmd : c.made = none) (hb : dlook c.frm d = some b) (hf : sf.data.toList = c.frm) (ht : st.data.toList = c.to) (hne : c.to = []) (hsf : sf.size ≤ maxLen) (hst : st.size ≤ maxLen) :
    Calls Try.prog 40 #[.agg (chCells c sf st).toArray, .map (some m)] w (ApplyOut w m (c.apply d)) := by
  have hc : chCells c sf st = [.pointer none, .string sf, .string st] := by rw [chCells, hmd]; rfl
  have ha : c.apply d = ddel sf.data.toList d := by rw [Ch.apply, if_pos hne, hf]
  rw [hc, ha]
  have hte : (!st.toList.isEmpty) = false := by rw [ByteArray.toList_eq, ht]; cases hto : c.to <;> simp_all
  have HO := Lib.hid h.owns
  have HSF := Lib.hid hsf
  have HST := Lib.hid hst
  have hlt := h.lt
  have hlk := (h.same (w' := w.alloc (.cells #[.pointer none, .string sf, .string st] 64)) (heap_alloc_old w _ h.lt)).look sf hsf
  rw [hf, hb, ptrOf] at hlk
  have HLK := Lib.hid hlk
  clear hlk
  have HTE := Lib.hid hte
  clear h hc ha hsf hst hb hf ht hne hmd hte
  go_enter Try.func40, Try.ntmps40
  have hlk := HLK.out
  go_wp2_with (first
    | (at_delete; refine wpList_delete_own _ rfl _ _ 55 9 rfl 60 strLaw dirType fileElem m (List.length d) (dirD d) rfl (HO.out.alloc _) _ _ rfl (strKey sf HSF.out) ?_; intro w1 o1 t1; rw [dirD_del] at o1; have g1 := t1.grown; have d2 : w1.cell? ⟨w.heap.size, 2, none⟩ = some (.string st) := g1.cell (a := ⟨w.heap.size, 2, none⟩) (((Whole.made' w _ _).at_ 2).trans rfl) (fun e => by injection e with e; have e' : w.heap.size = m := e; omega); have O1 := Lib.hid o1; have G1 := Lib.hid g1; have hte := HTE.out; clear o1 t1 g1)
    | fail)
  go_end0
  exact ⟨rfl, ⟨_, O1.out⟩, (World.grownBy_alloc w _ (some m)).trans G1.out⟩

/-- 'apply', whatever the change. -/
theorem apply_any (w : World) (m : Nat) (d : Dir) (h : IsDir w m d) (c : Ch) (hok : c.Ok d) (hto : c.made ≠ none → c.to ≠ []) (sf st : ByteArray) (hf : sf.data.toList = c.frm) (ht : st.data.toList = c.to) (hsf : sf.size ≤ maxLen) (hst : st.size ≤ maxLen) (hn : d.length ≤ 1000000000) :
    Calls Try.prog 40 #[.agg (chCells c sf st).toArray, .map (some m)] w (ApplyOut w m (c.apply d)) := by
  cases hm : c.made with
  | some b => exact apply_made w m d h c sf st b hm hf ht (hto (by rw [hm]; simp)) hsf hst hn
  | none =>
    obtain ⟨b, hb⟩ := Option.isSome_iff_exists.1 (hok hm)
    by_cases hne : c.to = []
    · exact apply_gone w m d h c sf st b hm hb hf ht hne hsf hst
    · exact apply_named w m d h c sf st b hm hb hf ht hne hsf hst hn
end Go.Proofs.Ytpbffjpghnijkaa.disk
