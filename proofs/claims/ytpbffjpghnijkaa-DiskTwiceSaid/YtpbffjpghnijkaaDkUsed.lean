/-
  CONTRACTS of (*disk.FS).Used and (*disk.FS).Dirty: sums over a directory, in whatever order.
-/
import Derived.Test.YtpbffjpghnijkaaDkCreate
namespace Go.Proofs.Ytpbffjpghnijkaa.disk
open Go.RowKit Go.Maps

/-! sums over a directory -/
def sumOf (f : Nat → Nat) (d : Dir) : Nat := (d.map fun p => f p.2).sum
/-- .. over what is still to come. -/
def sumLeft (f : Nat → Nat) (left : Lit → Bool) (d : Dir) : Nat := ((d.filter fun p => left (.string p.1)).map fun p => f p.2).sum

theorem sumLeft_start (f : Nat → Nat) (d : Dir) : sumLeft f (Maps.has (dirD d)) d = sumOf f d := by
  unfold sumLeft sumOf
  congr 1
  rw [List.filter_eq_self.2]
  intro p hp
  rw [dirD_has]
  unfold dlook
  rw [Option.isSome_map, List.find?_isSome]
  exact ⟨p, hp, by simp⟩
theorem sumLeft_end (f : Nat → Nat) {left : Lit → Bool} (d : Dir) (h : ∀ kl, left kl = false) : sumLeft f left d = 0 := by
  unfold sumLeft
  rw [List.filter_eq_nil_iff.2 (fun p _ => by simp [h])]
  rfl
theorem sumLeft_other (f : Nat → Nat) (left : Lit → Bool) (nm : Nm) : ∀ d : Dir, (∀ p ∈ d, p.1 ≠ nm) → sumLeft f (fun z => left z && !z.sameKey (.string nm)) d = sumLeft f left d := by
  intro d hd
  unfold sumLeft
  congr 2
  apply List.filter_congr
  intro p hp
  show (left (.string p.1) && !(Lit.string p.1).sameKey (.string nm)) = left (.string p.1)
  rw [same_str]
  have : (p.1 == nm) = false := by simpa using hd p hp
  rw [this]; simp
theorem sumLeft_step (f : Nat → Nat) (left : Lit → Bool) (nm : Nm) (b : Nat) (hl : left (.string nm) = true) : ∀ d : Dir, d.Pairwise (fun p q => p.1 ≠ q.1) → (nm, b) ∈ d → sumLeft f left d = f b + sumLeft f (fun z => left z && !z.sameKey (.string nm)) d
  | [], _, h => by cases h
  | y :: r, hp, h => by
    obtain ⟨h1, h2⟩ := List.pairwise_cons.1 hp
    rcases List.mem_cons.1 h with rfl | h
    · have e := sumLeft_other f left nm r fun p hp' => fun e => h1 p hp' e.symm
      unfold sumLeft at e ⊢
      simp only [List.filter_cons, hl, same_str, beq_self_eq_true, Bool.not_true, Bool.and_false, Bool.false_eq_true, if_true, if_false, List.map_cons, List.sum_cons]
      rw [← e]
      rfl
    · have ih := sumLeft_step f left nm b hl r h2 h
      have hy : y.1 ≠ nm := h1 (nm, b) h
      have hyb : (y.1 == nm) = false := by simpa using hy
      unfold sumLeft at ih ⊢
      cases hly : left (.string y.1)
      · simp only [List.filter_cons, hly, Bool.false_and, Bool.false_eq_true, if_false]
        exact ih
      · simp only [List.filter_cons, hly, same_str, hyb, Bool.not_false, Bool.and_true, if_true, List.map_cons, List.sum_cons]
        have ih' := ih
        simp only [same_str] at ih'
        omega
theorem sumOf_le (f : Nat → Nat) (M : Nat) : ∀ d : Dir, (∀ p ∈ d, f p.2 ≤ M) → sumOf f d ≤ d.length * M
  | [], _ => by simp [sumOf]
  | y :: r, h => by
    have := sumOf_le f M r fun p hp => h p (by simp [hp])
    have hy := h y (by simp)
    unfold sumOf at this ⊢
    rw [List.map_cons, List.sum_cons, List.length_cons, Nat.succ_mul]
    omega
theorem sorted_apart {d : Dir} (h : d.Pairwise fun p q => bytesBefore p.1 q.1 = true) : d.Pairwise fun p q => p.1 ≠ q.1 :=
  h.imp fun {a b} hab e => by rw [e, WideAt.bytes_irrefl] at hab; cases hab

theorem file_shape {v : Value} {y : DataW Unit × List MemPlace} (h : fileElem v = some y) : ∃ o : Option Nat, v = ptrOf o := by
  unfold fileElem at h
  split at h
  · rename_i a
    obtain ⟨ab, ao, asp⟩ := a
    split at h
    · rename_i hc
      obtain ⟨h2, h3⟩ := hc
      simp only at h2 h3
      subst h2; subst h3
      exact ⟨some ab, rfl⟩
    · cases h
  · exact ⟨none, rfl⟩
  · cases h

def St.used (S : St) : Nat := sumOf (fun b => (S.file b).now.length) S.now
def St.dirty (S : St) : Nat := sumOf (fun b => (S.file b).dirty.length) S.now

theorem used_nil (w : World) : Calls Try.prog 27 #[.pointer none] w fun e w' => e = .returned (.int .i64 0) ∧ w = w' := by
  go_enter Try.func27, Try.ntmps27
  go_wp2
  go_ret
  exact ⟨rfl, rfl⟩

set_option maxRecDepth 100000 in
set_option maxHeartbeats 1000000 in
theorem used_any {R : Nat → Prop} (w : World) (p : Nat) (S : St) (n : Nat) (h : Disk R w p S n) (hn : n ≤ 100000000) :
    Calls Try.prog 27 #[.pointer (some ⟨p, 0, none⟩)] w fun e w' => e = .returned (.int .i64 (S.used : Int)) ∧ Below w.heap.size w w' := by
  obtain ⟨C, mn, ms, wv, h⟩ := h
  have hc1 := h.c1
  have HH := Lib.hid h
  have hpl := h.cells.lt
  obtain ⟨tot, htot⟩ : ∃ tot, S.used = tot := ⟨_, rfl⟩
  have hle : tot ≤ 100000000 * 4194304 := by
    rw [← htot]
    have h1 := sumOf_le (fun b => (S.file b).now.length) 4194304 S.now (fun q hq => by have := (h.file q.2 (h.ok.inow q hq)).fit; have h2 := this.most; have h3 := this.few; show (S.file q.2).now.length ≤ 4194304; omega)
    have h2 := h.ok.now
    have h3 : S.now.length * 4194304 ≤ 100000000 * 4194304 := Nat.mul_le_mul_right _ (by omega)
    exact Nat.le_trans h1 h3
  have hle2 : (tot : Int) ≤ 419430400000000 := by omega
  have HTOT := Lib.hid htot
  rw [htot]
  clear htot h hle
  go_enter Try.func27, Try.ntmps27
  go_wp2_with (first
    | (at_range; refine wpList_range_own _ rfl _ 55 rfl 9 60 strLaw dirType fileElem mn S.now.length (dirD S.now) rfl HH.out.now.owns ?_; intro w0 hrg0 hg0 hs0)
    | fail)
  have HRG := Lib.hid hrg0
  have HG := Lib.hid hg0
  clear hrg0 hg0 hs0 hc1
  go_frame
  go_loopw [3, 5] (fun a _ wr => ∃ (left : Lit → Bool) (cnt acc : Nat), wr.ranges Try.prog 9 fileElem mn w.heap.size S.now.length (dirD S.now) left cnt ∧ w.grownBy wr none ∧ a = .int .i64 (acc : Int) ∧ acc + sumLeft (fun b => (S.file b).now.length) left S.now = tot) (fun _ _ wr => wr.rangeLeft mn w.heap.size)
  case atStart => exact ⟨_, _, 0, HRG.out, HG.out, rfl, by rw [sumLeft_start, ← HTOT.out, Nat.zero_add]; rfl⟩
  case round =>
    obtain ⟨left, cnt, acc, hrg, hgw, rfl, hsum⟩ := hrel
    have HR := Lib.hid hrg
    have HGW := Lib.hid hgw
    have HSUM := Lib.hid hsum
    have hacc : (acc : Int) ≤ (tot : Int) := by omega
    clear hrg hgw hsum
    go_wp2_with (first
      | (at_next; refine wpList_next_ranges _ rfl _ rfl 9 strLaw fileElem encStr ptrOf (fun key kl hk => by obtain ⟨x, hx, _⟩ := Maps.keyOf_str Try.underlying9 hk; exact ⟨x, hx⟩) (fun v y hv => file_shape hv) mn w.heap.size S.now.length _ _ _ rfl HR.out ?_ ?_)
      | fail)
    · intro _ hl0
      have HL0 := Lib.hid hl0
      clear hl0
      go_wp2_with fail
      go_ret
      have e := HSUM.out
      rw [sumLeft_end _ _ HL0.out, Nat.add_zero] at e
      have hg := HGW.out
      exact ⟨by rw [← e]; rfl, ⟨hg.os, hg.tape, hg.output, hg.size, fun k hk => hg.block k hk (by simp)⟩⟩
    · intro x o kl yd yp w1 cnt1 hkey hlk hv hat hrg1 hlt hg1 hs1 hen
      obtain ⟨x', ex, ekl, _⟩ := Maps.keyOf_str Try.underlying9 hkey
      obtain rfl : x = x' := encStr_inj ex
      subst ekl
      have hhas := Maps.has_true_of_atKey hat
      rw [dirD_has] at hhas
      obtain ⟨b, hb⟩ := Option.isSome_iff_exists.1 hhas
      have hyd := hat .nil
      rw [dirD_at, hb] at hyd
      have hyd' : fileD b = yd := hyd
      subst hyd'
      have ho := fileElem_inv hv
      rw [ho] at hen ⊢
      have hmem := dlook_mem hb
      have hh := HH.out
      have hfile := hh.file b (hh.ok.inow _ hmem)
      have hgw1 : w.grownBy w1 none := HGW.out.andThen hg1 (fun j hj => by cases hj; exact Or.inl (Nat.le_refl _))
      have hfile1 := hfile.same (w' := w1) fun k hk _ => hgw1.block k hk (by simp)
      obtain ⟨vn, vs, dm, hfa⟩ := hfile1
      obtain ⟨av, cv, ev, _⟩ := hfa.now.form
      subst ev
      have dv : w1.cell? ⟨b, 0, none⟩ = some (.slice av (S.file b).now.length cv) := hfa.cell0
      have hstep := sumLeft_step (fun b => (S.file b).now.length) left x b hlk S.now (sorted_apart hh.now.sorted) hmem
      have hsum' : acc + (S.file b).now.length + sumLeft (fun b => (S.file b).now.length) (fun z => left z && !z.sameKey (.string x)) S.now = tot := by rw [← HSUM.out, hstep]; omega
      have hacc2 : (acc : Int) + ((S.file b).now.length : Int) ≤ (tot : Int) := by omega
      have hacc3 : ((S.file b).now.length : Int) ≤ (tot : Int) := by omega
      have HS1 := Lib.hid hsum'
      have HG1 := Lib.hid hgw1
      have HRG1 := Lib.hid hrg1
      clear hkey hlk hv hat hg1 hs1 ex hhas hb hyd ho hmem hh hfile hgw1 hfa hstep hsum' hrg1
      go_wp2_with fail
      go_roundw
      case rel => exact ⟨_, cnt1, acc + (S.file b).now.length, HRG1.out, HG1.out, by go_num, HS1.out⟩
      case measure => rw [HRG1.out.left_eq, HR.out.left_eq]; exact hlt

theorem dirty_nil (w : World) : Calls Try.prog 28 #[.pointer none] w fun e w' => e = .returned (.int .i64 0) ∧ w = w' := by
  go_enter Try.func28, Try.ntmps28
  go_wp2
  go_ret
  exact ⟨rfl, rfl⟩

set_option maxRecDepth 100000 in
set_option maxHeartbeats 1000000 in
theorem dirty_any {R : Nat → Prop} (w : World) (p : Nat) (S : St) (n : Nat) (h : Disk R w p S n) (hn : n ≤ 100000000) :
    Calls Try.prog 28 #[.pointer (some ⟨p, 0, none⟩)] w fun e w' => e = .returned (.int .i64 (S.dirty : Int)) ∧ Below w.heap.size w w' := by
  obtain ⟨C, mn, ms, wv, h⟩ := h
  have hc1 := h.c1
  have HH := Lib.hid h
  have hpl := h.cells.lt
  obtain ⟨tot, htot⟩ : ∃ tot, S.dirty = tot := ⟨_, rfl⟩
  have hle : tot ≤ 100000000 * 4194304 := by
    rw [← htot]
    have h1 := sumOf_le (fun b => (S.file b).dirty.length) 4194304 S.now (fun q hq => by have := (h.file q.2 (h.ok.inow q hq)).fit; have h2 := this.most; have h3 := this.few; show (S.file q.2).dirty.length ≤ 4194304; omega)
    have h2 := h.ok.now
    have h3 : S.now.length * 4194304 ≤ 100000000 * 4194304 := Nat.mul_le_mul_right _ (by omega)
    exact Nat.le_trans h1 h3
  have hle2 : (tot : Int) ≤ 419430400000000 := by omega
  have HTOT := Lib.hid htot
  rw [htot]
  clear htot h hle
  go_enter Try.func28, Try.ntmps28
  go_wp2_with (first
    | (at_range; refine wpList_range_own _ rfl _ 55 rfl 9 60 strLaw dirType fileElem mn S.now.length (dirD S.now) rfl HH.out.now.owns ?_; intro w0 hrg0 hg0 hs0)
    | fail)
  have HRG := Lib.hid hrg0
  have HG := Lib.hid hg0
  clear hrg0 hg0 hs0 hc1
  go_frame
  go_loopw [3, 5] (fun a _ wr => ∃ (left : Lit → Bool) (cnt acc : Nat), wr.ranges Try.prog 9 fileElem mn w.heap.size S.now.length (dirD S.now) left cnt ∧ w.grownBy wr none ∧ a = .int .i64 (acc : Int) ∧ acc + sumLeft (fun b => (S.file b).dirty.length) left S.now = tot) (fun _ _ wr => wr.rangeLeft mn w.heap.size)
  case atStart => exact ⟨_, _, 0, HRG.out, HG.out, rfl, by rw [sumLeft_start, ← HTOT.out, Nat.zero_add]; rfl⟩
  case round =>
    obtain ⟨left, cnt, acc, hrg, hgw, rfl, hsum⟩ := hrel
    have HR := Lib.hid hrg
    have HGW := Lib.hid hgw
    have HSUM := Lib.hid hsum
    have hacc : (acc : Int) ≤ (tot : Int) := by omega
    clear hrg hgw hsum
    go_wp2_with (first
      | (at_next; refine wpList_next_ranges _ rfl _ rfl 9 strLaw fileElem encStr ptrOf (fun key kl hk => by obtain ⟨x, hx, _⟩ := Maps.keyOf_str Try.underlying9 hk; exact ⟨x, hx⟩) (fun v y hv => file_shape hv) mn w.heap.size S.now.length _ _ _ rfl HR.out ?_ ?_)
      | fail)
    · intro _ hl0
      have HL0 := Lib.hid hl0
      clear hl0
      go_wp2_with fail
      go_ret
      have e := HSUM.out
      rw [sumLeft_end _ _ HL0.out, Nat.add_zero] at e
      have hg := HGW.out
      exact ⟨by rw [← e]; rfl, ⟨hg.os, hg.tape, hg.output, hg.size, fun k hk => hg.block k hk (by simp)⟩⟩
    · intro x o kl yd yp w1 cnt1 hkey hlk hv hat hrg1 hlt hg1 hs1 hen
      obtain ⟨x', ex, ekl, _⟩ := Maps.keyOf_str Try.underlying9 hkey
      obtain rfl : x = x' := encStr_inj ex
      subst ekl
      have hhas := Maps.has_true_of_atKey hat
      rw [dirD_has] at hhas
      obtain ⟨b, hb⟩ := Option.isSome_iff_exists.1 hhas
      have hyd := hat .nil
      rw [dirD_at, hb] at hyd
      have hyd' : fileD b = yd := hyd
      subst hyd'
      have ho := fileElem_inv hv
      rw [ho] at hen ⊢
      have hmem := dlook_mem hb
      have hh := HH.out
      have hfile := hh.file b (hh.ok.inow _ hmem)
      have hgw1 : w.grownBy w1 none := HGW.out.andThen hg1 (fun j hj => by cases hj; exact Or.inl (Nat.le_refl _))
      have hfile1 := hfile.same (w' := w1) fun k hk _ => hgw1.block k hk (by simp)
      obtain ⟨vn, vs, dm, hfa⟩ := hfile1
      have dv : w1.cell? ⟨b, 2, none⟩ = some (.map (some dm)) := hfa.cell2
      have hln := hfa.map.len Try.underlying65 3
      rw [secs_size] at hln
      have hstep := sumLeft_step (fun b => (S.file b).dirty.length) left x b hlk S.now (sorted_apart hh.now.sorted) hmem
      have hsum' : acc + (S.file b).dirty.length + sumLeft (fun b => (S.file b).dirty.length) (fun z => left z && !z.sameKey (.string x)) S.now = tot := by rw [← HSUM.out, hstep]; omega
      have hacc2 : (acc : Int) + ((S.file b).dirty.length : Int) ≤ (tot : Int) := by omega
      have hacc3 : ((S.file b).dirty.length : Int) ≤ (tot : Int) := by omega
      have HS1 := Lib.hid hsum'
      have HG1 := Lib.hid hgw1
      have HRG1 := Lib.hid hrg1
      clear hkey hlk hv hat hg1 hs1 ex hhas hb hyd ho hmem hh hfile hgw1 hfa hstep hsum' hrg1
      go_wp2_with fail
      go_roundw
      case rel => exact ⟨_, cnt1, acc + (S.file b).dirty.length, HRG1.out, HG1.out, by go_num, HS1.out⟩
      case measure => rw [HRG1.out.left_eq, HR.out.left_eq]; exact hlt
end Go.Proofs.Ytpbffjpghnijkaa.disk
