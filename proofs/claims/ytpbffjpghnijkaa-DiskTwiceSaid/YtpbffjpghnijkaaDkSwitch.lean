/-
  THE WALK OF "DiskSwitch".
-/
import Derived.Test.YtpbffjpghnijkaaDkFrame
namespace Go.Proofs.Ytpbffjpghnijkaa.disk
open Go.RowKit Go.Maps

def curN : Nm := [99, 117, 114]
def newN : Nm := [110, 101, 119]
theorem curData : (⟨#[99, 117, 114]⟩ : ByteArray).data.toList = curN := rfl
theorem newData : (⟨#[110, 101, 119]⟩ : ByteArray).data.toList = newN := rfl
theorem curGood : isNameB curN = true := by decide
theorem newGood : isNameB newN = true := by decide

/-- A disk of the files at b1 and b2. -/
def Two (b1 b2 : Nat) (A B : FileA) (now sy : Dir) (wa : List Ch) (c : Int) : St :=
  ⟨2000, now, sy, wa, -1, c, 0, [b2, b1], fun x => if x = b2 then B else if x = b1 then A else ⟨[], [], []⟩⟩
section
variable {b1 b2 : Nat} {A B : FileA} {c : Int}
theorem Two.create : (One 2000 curN b1 A [(curN, b1)] [] (-1) c 0).create newN b2 = (0, Two b1 b2 A ⟨[], [], []⟩ [(curN, b1), (newN, b2)] [(curN, b1)] [⟨some b2, [], newN⟩] (c + 1)) := by
  unfold St.create
  rw [One.fail, if_neg (by omega), if_neg (by rw [newGood]; simp), if_neg (by show ¬ (_ ∧ 400 ≤ 1); omega)]
  rfl
theorem Two.file2 {now sy : Dir} {wa : List Ch} : (Two b1 b2 A B now sy wa c).file b2 = B := by simp [Two]
theorem Two.file1 {now sy : Dir} {wa : List Ch} (h : b1 ≠ b2) : (Two b1 b2 A B now sy wa c).file b1 = A := by simp [Two, h]
theorem Two.set {now sy : Dir} {wa : List Ch} (B' : FileA) : (Two b1 b2 A B now sy wa c).set b2 B' = Two b1 b2 A B' now sy wa c := by
  unfold Two St.set
  congr 1
  funext x
  by_cases h : x = b2 <;> simp [h]
theorem Two.begin {now sy : Dir} {wa : List Ch} : (Two b1 b2 A B now sy wa c).begin = Two b1 b2 A B now sy wa (c + 1) := rfl
theorem Two.fail {now sy : Dir} {wa : List Ch} : (Two b1 b2 A B now sy wa c).fail = -1 := rfl
theorem Two.look {sy : Dir} {wa : List Ch} : dlook newN (Two b1 b2 A B [(curN, b1), (newN, b2)] sy wa c).now = some b2 := by
  show dlook newN [(curN, b1), (newN, b2)] = some b2
  rfl
theorem Two.write {sy : Dir} {wa : List Ch} (hAB : b1 ≠ b2) (part : List Int) (hp : part.length ≤ 100) (hA : A.now.length ≤ 100) (hB : B.now = []) :
    (Two b1 b2 A B [(curN, b1), (newN, b2)] sy wa c).write newN ((0 : Nat) : Int) part = (0, Two b1 b2 A (B.write 0 part) [(curN, b1), (newN, b2)] sy wa (c + 1)) := by
  have hu : (Two b1 b2 A B [(curN, b1), (newN, b2)] sy wa c).used = A.now.length := by
    show sumOf (fun b => ((Two b1 b2 A B [(curN, b1), (newN, b2)] sy wa c).file b).now.length) [(curN, b1), (newN, b2)] = _
    simp [sumOf, Two.file1 hAB, Two.file2, hB]
  unfold St.write
  rw [Two.fail, if_neg (by omega)]
  simp only [Two.look, Two.file2, hu, Two.begin, Two.set, hB]
  rw [if_neg (by simp), if_neg]
  · rfl
  rintro ⟨h3, h4⟩
  have h4' : (2000 : Int) < (A.now.length : Int) + (((0 : Nat) : Int) + part.length - (([] : List Int).length : Nat)) := h4
  simp at h4'
  omega
theorem Two.sync {sy : Dir} {wa : List Ch} : (Two b1 b2 A B [(curN, b1), (newN, b2)] sy wa c).sync newN = (0, Two b1 b2 A ⟨B.now, B.now, []⟩ [(curN, b1), (newN, b2)] sy wa (c + 1)) := by
  unfold St.sync
  rw [Two.fail, if_neg (by omega)]
  simp only [Two.look, Two.file2, Two.begin, Two.set]
theorem Two.rename {sy : Dir} {wa : List Ch} : (Two b1 b2 A B [(curN, b1), (newN, b2)] sy wa c).begin.changed ⟨none, newN, curN⟩ = Two b1 b2 A B [(curN, b2)] sy (wa ++ [⟨none, newN, curN⟩]) (c + 1) := by
  unfold St.changed Two St.begin
  rfl
/-- What a crash leaves of the directory. -/
theorem Two.left0 {now : Dir} {wa : List Ch} : (Two b1 b2 A B now [(curN, b1)] wa c).leftDir 0 = [(curN, b1)] := by simp [St.leftDir, Two]
theorem Two.left1 {now : Dir} {x : Ch} : (Two b1 b2 A B now [(curN, b1)] [⟨some b2, [], newN⟩, x] c).leftDir 1 = [(curN, b1), (newN, b2)] := rfl
theorem Two.left2 {now : Dir} : (Two b1 b2 A B now [(curN, b1)] [⟨some b2, [], newN⟩, ⟨none, newN, curN⟩] c).leftDir 2 = [(curN, b2)] := rfl
end
theorem Built.first {S' : St} {file : Nat → FileA} {keep : List Bool} {torn : Int} {nm : Nm} {b : Nat} {r : Dir} (h : Built S' file keep torn ((nm, b) :: r)) :
    ∃ b', dlook nm S'.now = some b' ∧ S'.file b' = ⟨leftL (file b) keep torn, leftL (file b) keep torn, []⟩ := by
  unfold Built crashL at h
  simp only [List.map_cons] at h
  cases hn : S'.now with
  | nil => rw [hn] at h; simp at h
  | cons q t =>
    rw [hn] at h
    obtain ⟨n', b'⟩ := q
    simp only [List.map_cons, List.cons.injEq, Prod.mk.injEq] at h
    obtain ⟨⟨rfl, h2⟩, _⟩ := h
    exact ⟨b', by simp [dlook], h2⟩

theorem bool_elem : Try.prog.elem 23 = 4 := by kernel_rfl
theorem bool_sizeOf (w : World) : (sizeOf 4).run Try.prog w = .ok 1 w := by kernel_rfl
theorem run_bools (b off n cap hi : Nat) (hh : hi ≤ cap) (w : World) : (Instr.slice 23 (.slice (some ⟨b, off, none⟩) n cap) none (some (.int .i64 (hi : Int))) none).run Try.prog w = .ok (.slice (some ⟨b, off, none⟩) hi cap) w := by
  rw [run_slice_h w 23 _ n cap (by rw [bool_elem]; exact Try.underlying23) .i64 (hi : Int) (by omega) (by omega), bool_elem, bool_sizeOf]
  by_cases h : cap = 0 <;> simp [Result.andThen, sliced, h, Addr.add_mid]
/-- Its first n. -/
theorem BRow.front {w : World} {a : Option Addr} {len cap : Nat} {l : List Bool} (h : BRow w a len cap l) (n : Nat) (hn : n < len) :
    (∀ w', (Instr.slice 23 (.slice a len cap) none (some (.int .i64 (n : Int))) none).run Try.prog w' = .ok (.slice a n cap) w') ∧ Bools w a n (l.take n) := by
  have hle := h.le
  rcases h.bools.cells with h0 | ⟨b, off, rfl, hc⟩
  · omega
  · refine ⟨fun w' => run_bools b off len cap n (by omega) w', ⟨by rw [List.length_take, h.bools.length]; omega, by have := h.most; omega, .inr ⟨b, off, rfl, fun i hi => ?_⟩⟩⟩
    rw [hc i (by omega), List.getD_eq_getElem?_getD, List.getD_eq_getElem?_getD, List.getElem?_take_of_lt hi]
end Go.Proofs.Ytpbffjpghnijkaa.disk
