/-
  ROWS OF TENANTS in memory: as they are read, and of the call's own; rows of segments.
-/
import Derived.Test.YtpgclhpobijdeaaDoorMnMath
import Derived.Test.YtpgclhpobijdeaaDoorMScan
import Derived.Test.YtpgclhpobijdeaaDoorMBase

namespace Go.Proofs.YtpgclhpobijdeaaDoor.man
open Go.RowKit Go.Proofs.YtpgclhpobijdeaaDoor.disk Go.Proofs.YtpgclhpobijdeaaDoor.recd Go.Proofs.YtpgclhpobijdeaaDoor.num Go.Proofs.YtpgclhpobijdeaaDoor.scan
set_option linter.unusedVariables false

/-- A tenant where it lies: its numbers, and where its segments lie. -/
structure TS where
  t : Ten
  a : Option Addr
  n : Nat
  cap : Nat
def zeroTS : TS := ⟨zeroTen, none, 0, 0⟩
instance : Inhabited TS := ⟨zeroTS⟩
def TS.cells (x : TS) : List Value := [.int .u32 (x.t.id : Int), .int .u64 (x.t.epoch : Int), .int .i64 x.t.quota, .int .u64 (x.t.nobj : Int), .int .i64 x.t.nseg, .slice x.a x.n x.cap]
def TS.val (x : TS) : Value := .agg #[.int .u32 (x.t.id : Int), .int .u64 (x.t.epoch : Int), .int .i64 x.t.quota, .int .u64 (x.t.nobj : Int), .int .i64 x.t.nseg, .slice x.a x.n x.cap]
def zten : Value := .agg #[.int .u32 0, .int .u64 0, .int .i64 0, .int .u64 0, .int .i64 0, .slice none 0 0]
theorem ten_one (x : TS) : ∀ u ∈ x.cells, u.oneCell' = true := by
  intro u hu
  simp only [TS.cells, List.mem_cons, List.not_mem_nil, or_false] at hu
  rcases hu with rfl | rfl | rfl | rfl | rfl | rfl <;> rfl
def fTen : scan.Form TS := { e := 34, s := 38, sz := 6, by_ := 64, cells := TS.cells, zero := zten, under := Tryd.underlying38, info := by kernel_rfl, zeros := rfl, some_ := by decide, small := by decide, length := fun _ => rfl, one := ten_one }
def fSeg : scan.Form Int := { e := 2, s := 22, sz := 1, by_ := 8, cells := fun n => [.int .i64 n], zero := .int .i64 0, under := Tryd.underlying22, info := by kernel_rfl, zeros := rfl, some_ := by decide, small := by decide, length := fun _ => rfl, one := by intro x u hu; rw [List.mem_singleton.1 hu]; rfl }

/-- Segments where they lie. -/
structure SegsAt (w : World) (a : Option Addr) (n cap : Nat) (l : List Int) : Prop where
  length : l.length = n
  le : n ≤ cap
  most : cap ≤ 9223372036854775807
  nil : a = none → n = 0 ∧ cap = 0
  cells : n = 0 ∨ ∃ b off, a = some ⟨b, off, none⟩ ∧ ∀ i, i < n → w.cell? ⟨b, off + i, none⟩ = some (.int .i64 (l.getD i 0))
section
variable {w w' : World} {a : Option Addr} {n cap : Nat} {l : List Int}
theorem SegsAt.same (h : SegsAt w a n cap l) (hs : ∀ b off, a = some ⟨b, off, none⟩ → w'.heap[b]? = w.heap[b]?) : SegsAt w' a n cap l := by
  refine ⟨h.length, h.le, h.most, h.nil, ?_⟩
  rcases h.cells with h0 | ⟨b, off, rfl, hc⟩
  · exact .inl h0
  · exact .inr ⟨b, off, rfl, fun i hi => by rw [← hc i hi]; exact World.cell?_of_block (a := ⟨b, off + i, none⟩) (hs b off rfl)⟩
theorem SegsAt.later (h : SegsAt w a n cap l) (hb : Below w.heap.size w w') : SegsAt w' a n cap l := by
  refine ⟨h.length, h.le, h.most, h.nil, ?_⟩
  rcases h.cells with h0 | ⟨b, off, rfl, hc⟩
  · exact .inl h0
  · exact .inr ⟨b, off, rfl, fun i hi => (hb.cell (p := ⟨b, off + i, none⟩) (block_lt_of_cell (hc i hi))).trans (hc i hi)⟩
theorem SegsAt.take (h : SegsAt w a n cap l) (m : Nat) (hm : m ≤ n) : SegsAt w a m cap (l.take m) := by
  refine ⟨by rw [List.length_take, h.length]; omega, by have := h.le; omega, h.most, fun e => by have := h.nil e; omega, ?_⟩
  rcases h.cells with h0 | ⟨b, off, rfl, hc⟩
  · exact .inl (by omega)
  · refine .inr ⟨b, off, rfl, fun i hi => ?_⟩
    rw [hc i (by omega), List.getD_eq_getElem?_getD, List.getD_eq_getElem?_getD, List.getElem?_take_of_lt hi]
theorem SegsAt.of_own {v : Value} (h : OwnS fSeg w v l) : ∃ a cap, v = .slice a l.length cap ∧ SegsAt w a l.length cap l ∧ (a = none ∨ ∃ g, a = some ⟨g, 0, none⟩ ∧ g < w.heap.size) := by
  rcases h.form with ⟨rfl, rfl⟩ | ⟨g, cap, rfl, h1, h2, h3, h4⟩
  · exact ⟨none, 0, rfl, ⟨rfl, Nat.le_refl _, by omega, fun _ => ⟨rfl, rfl⟩, .inl rfl⟩, .inl rfl⟩
  · refine ⟨_, cap, rfl, ⟨rfl, h1, h2, (fun e => by cases e), .inr ⟨g, 0, rfl, fun i hi => ?_⟩⟩, .inr ⟨g, rfl, h3⟩⟩
    have := h4 i hi 0 (by decide)
    rw [show (fSeg.sz : Nat) = 1 from rfl, Nat.mul_one, Nat.add_zero] at this
    rw [Nat.zero_add, this, List.getD_eq_getElem?_getD, List.getElem?_eq_getElem hi]
    rfl
end
/-- Tenants, each with its segments where it says. -/
def Tens (w : World) (xs : List TS) : Prop := ∀ x ∈ xs, x.t.Fit ∧ SegsAt w x.a x.n x.cap x.t.segs
theorem Tens.later {w w' : World} {xs : List TS} (h : Tens w xs) (hb : Below w.heap.size w w') : Tens w' xs := fun x hx => ⟨(h x hx).1, (h x hx).2.later hb⟩
def tens (xs : List TS) : List Ten := xs.map (·.t)
theorem tens_length (xs : List TS) : (tens xs).length = xs.length := List.length_map ..
theorem Tens.fit {w : World} {xs : List TS} (h : Tens w xs) : ∀ t ∈ tens xs, t.Fit := fun t ht => by
  obtain ⟨x, hx, rfl⟩ := List.mem_map.1 ht
  exact (h x hx).1
/-- A slice of tenants that is read. -/
structure TRow (w : World) (a : Option Addr) (len cap : Nat) (xs : List TS) : Prop where
  length : xs.length = len
  le : len ≤ cap
  most : cap ≤ 9223372036854775807
  nil : a = none → len = 0 ∧ cap = 0
  cells : len = 0 ∨ ∃ b off, a = some ⟨b, off, none⟩ ∧ ∀ i x, xs[i]? = some x → ∀ j v, (x.cells)[j]? = some v → w.cell? ⟨b, off + i * 6 + j, none⟩ = some v
  tens : Tens w xs
section
variable {w w' : World} {a : Option Addr} {len cap : Nat} {xs : List TS}
theorem TRow.later (h : TRow w a len cap xs) (hb : Below w.heap.size w w') : TRow w' a len cap xs := by
  refine ⟨h.length, h.le, h.most, h.nil, ?_, h.tens.later hb⟩
  rcases h.cells with h0 | ⟨b, off, e, hc⟩
  · exact .inl h0
  · refine .inr ⟨b, off, e, fun i x hx j v hv => ?_⟩
    have := hc i x hx j v hv
    exact (hb.cell (p := ⟨b, off + i * 6 + j, none⟩) (block_lt_of_cell this)).trans this
/-- Element i's cells. -/
theorem TRow.at_ (h : TRow w a len cap xs) {i : Nat} (hi : i < len) : ∃ b off x, a = some ⟨b, off, none⟩ ∧ xs[i]? = some x ∧ x ∈ xs ∧ x.t.Fit ∧ SegsAt w x.a x.n x.cap x.t.segs ∧ w.cell? ⟨b, off + i * 6, none⟩ = some (.int .u32 (x.t.id : Int)) ∧ w.cell? ⟨b, off + i * 6 + 1, none⟩ = some (.int .u64 (x.t.epoch : Int)) ∧
    w.cell? ⟨b, off + i * 6 + 2, none⟩ = some (.int .i64 x.t.quota) ∧ w.cell? ⟨b, off + i * 6 + 3, none⟩ = some (.int .u64 (x.t.nobj : Int)) ∧ w.cell? ⟨b, off + i * 6 + 4, none⟩ = some (.int .i64 x.t.nseg) ∧ w.cell? ⟨b, off + i * 6 + 5, none⟩ = some (.slice x.a x.n x.cap) := by
  have hlen := h.length
  rcases h.cells with h0 | ⟨b, off, rfl, hc⟩
  · omega
  · have e : xs[i]? = some xs[i] := List.getElem?_eq_getElem (by omega)
    have c := hc i _ e
    have hm : xs[i] ∈ xs := List.getElem_mem _
    exact ⟨b, off, xs[i], rfl, e, hm, (h.tens _ hm).1, (h.tens _ hm).2, c 0 _ rfl, c 1 _ rfl, c 2 _ rfl, c 3 _ rfl, c 4 _ rfl, c 5 _ rfl⟩
theorem TRow.of_own {v : Value} (h : OwnS fTen w v xs) (ht : Tens w xs) : ∃ a cap, v = .slice a xs.length cap ∧ TRow w a xs.length cap xs ∧ (a = none ∨ ∃ g, a = some ⟨g, 0, none⟩ ∧ g < w.heap.size) := by
  rcases h.form with ⟨rfl, rfl⟩ | ⟨g, cap, rfl, h1, h2, h3, h4⟩
  · exact ⟨none, 0, rfl, ⟨rfl, Nat.le_refl _, by omega, fun _ => ⟨rfl, rfl⟩, .inl rfl, ht⟩, .inl rfl⟩
  · refine ⟨_, cap, rfl, ⟨rfl, h1, h2, (fun e => by cases e), .inr ⟨g, 0, rfl, fun i x hx j v hv => ?_⟩, ht⟩, .inr ⟨g, rfl, h3⟩⟩
    obtain ⟨hi, rfl⟩ := List.getElem?_eq_some_iff.1 hx
    have hj : j < 6 := by have := (List.getElem?_eq_some_iff.1 hv).1; simpa [TS.cells] using this
    have := h4 i hi j hj
    rw [Nat.zero_add, show (i * 6 + j) = i * fTen.sz + j from rfl, this]
    exact hv
theorem TRow.take (h : TRow w a len cap xs) (m : Nat) (hm : m ≤ len) : TRow w a m cap (xs.take m) := by
  refine ⟨by rw [List.length_take, h.length]; omega, by have := h.le; omega, h.most, fun e => by have := h.nil e; omega, ?_, fun x hx => h.tens x (List.mem_of_mem_take hx)⟩
  rcases h.cells with h0 | ⟨b, off, rfl, hc⟩
  · exact .inl (by omega)
  · refine .inr ⟨b, off, rfl, fun i x hx => hc i x ?_⟩
    rw [List.getElem?_take] at hx
    split at hx
    · exact hx
    · cases hx
end
end Go.Proofs.YtpgclhpobijdeaaDoor.man
