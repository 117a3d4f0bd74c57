/-
  PLAIN MATHEMATICS OF 'stillroomlaw8.SegmentMany': the records that it appends, and what stands a byte behind their beginnings.
-/
import Derived.Test.YtcmboifkfeeocaaGreatDoorSgMath2
import Derived.Test.YtcmboifkfeeocaaGreatDoorSgLaw
namespace Go.Proofs.YtcmboifkfeeocaaGreatDoor.scan
open Go.Proofs.YtcmboifkfeeocaaGreatDoor.recd Go.Proofs.YtcmboifkfeeocaaGreatDoor.disk
set_option linter.unusedVariables false

def zs (k : Nat) : ByteArray := disk.str (List.replicate k 0)
theorem zs_size (k : Nat) : (zs k).size = k := by rw [zs, disk.str_size, List.length_replicate]
def mk (k : Nat) : Rec := ⟨2, 4, 0, 0, k, zs k⟩
theorem mk_of {k : Nat} (h : k ≤ 60) : OneOf 4 (mk k) := ⟨rfl, by
  unfold mk
  rw [mayB_eq, zs_size]
  exact decide_eq_true ⟨by omega, by omega, by omega, by omega, by omega⟩⟩
theorem mk_fit {k : Nat} (h : k ≤ 60) : (mk k).Fit := ⟨by show -9223372036854775808 ≤ (2 : Int) ∧ (2 : Int) ≤ _; omega, by show 4 < 4294967296; omega, by show (zs k).size ≤ maxLen; rw [zs_size]; unfold maxLen; omega⟩
/-- The first k of them; those from i on. -/
def many (k : Nat) : List Rec := (List.range k).map mk
def span (i k : Nat) : List Rec := (List.range' i (k - i)).map mk
theorem many_length (k : Nat) : (many k).length = k := by simp [many]
theorem span_length (i k : Nat) : (span i k).length = k - i := by simp [span]
theorem span_start (i : Nat) : span i i = [] := by simp [span]
theorem span_snoc {i k : Nat} (h : i ≤ k) : span i k ++ [mk k] = span i (k + 1) := by
  unfold span
  rw [show k + 1 - i = (k - i) + 1 by omega, List.range'_1_concat, List.map_append, show i + (k - i) = k by omega]
  rfl
theorem many_span {i k : Nat} (h : i ≤ k) : many i ++ span i k = many k := by
  unfold many span
  rw [← List.map_append, List.range_eq_range', List.range_eq_range']
  congr 1
  have := List.range'_append_1 (s := 0) (m := i) (n := k - i)
  rw [Nat.zero_add, show i + (k - i) = k by omega] at this
  exact this
theorem many_mem {k : Nat} {r : Rec} (h : r ∈ many k) : ∃ j, j < k ∧ r = mk j := by
  obtain ⟨j, hj, rfl⟩ := List.mem_map.1 h
  exact ⟨j, List.mem_range.1 hj, rfl⟩
theorem span_mem {i k : Nat} {r : Rec} (h : r ∈ span i k) : ∃ j, j < k ∧ r = mk j := by
  obtain ⟨j, hj, rfl⟩ := List.mem_map.1 h
  have := List.mem_range'_1.1 hj
  exact ⟨j, by omega, rfl⟩
theorem many_at {k i : Nat} (h : i < k) (h2 : i < (many k).length) : (many k)[i] = mk i := by simp [many]
theorem many_one {k : Nat} (h : k ≤ 60) : ∀ r ∈ many k, OneOf 4 r := fun r hr => by obtain ⟨j, hj, rfl⟩ := many_mem hr; exact mk_of (by omega)
theorem many_fine {k : Nat} (h : k ≤ 60) : ∀ r ∈ many k, Fine r := fun r hr => by obtain ⟨j, hj, rfl⟩ := many_mem hr; exact ⟨(mk_of (by omega)).2, (mk_fit (by omega)).tenant⟩
theorem cat_le {gs : List Rec} (h : ∀ r ∈ gs, mayB r = true) : (cat gs).length ≤ gs.length * 1039 := by rw [← encs_cat h]; exact encs_len gs
theorem placesF_append : ∀ (N : Nat) (a b : List Rec), placesF N (a ++ b) = placesF N a ++ placesF (N + (encs a).length) b
  | N, [], b => by simp [placesF, encs]
  | N, r :: a, b => by
    rw [List.cons_append, placesF, placesF_append _ a b, placesF, encs_cons, List.length_append, Nat.add_assoc]
    rfl
/-- Each is read at its place. -/
theorem read_many {n i : Nat} (hn : n ≤ 60) (hi : i < n) : readS 4 (cat (many n)) ((pos (many n) i : Nat) : Int) = (mk i, 0) := by
  have hl : i < (many n).length := by rw [many_length]; exact hi
  have := readS_at 4 [] (many n) [] i hl (many_fine hn _ (List.getElem_mem hl)) (by rw [many_at hi]; rfl)
  rw [List.nil_append, List.append_nil, List.length_nil, Nat.zero_add, many_at hi] at this
  exact this
theorem drop_many {n i : Nat} (hn : n ≤ 60) (hi : i < n) : ∃ rest, (cat (many n)).drop (pos (many n) i) = encL (mk i) ++ rest := by
  have hl : i < (many n).length := by rw [many_length]; exact hi
  have := drop_pos [] (many n) [] i hl
  rw [List.nil_append, List.append_nil, List.length_nil, Nat.zero_add, many_at hi] at this
  exact ⟨_, this⟩
theorem pos_many {n i : Nat} (hn : n ≤ 60) (hi : i < n) : pos (many n) i + 1 < (cat (many n)).length := by
  obtain ⟨rest, h⟩ := drop_many hn hi
  have := congrArg List.length h
  rw [List.length_drop, List.length_append, encL_length] at this
  omega
/-- A byte behind it nothing is. -/
theorem read_past {n i : Nat} (hn : n ≤ 60) (hi : i < n) : readS 4 (cat (many n)) ((pos (many n) i + 1 : Nat) : Int) = (zeroRec, 4) := by
  obtain ⟨rest, h⟩ := drop_many hn hi
  obtain ⟨c, rest2, e, _⟩ := enc_front (mk i) (mk_of (by omega)).2
  have hp := pos_many hn hi
  have hd : (cat (many n)).drop (pos (many n) i + 1) = 82 :: c :: (rest2 ++ rest) := by
    rw [← List.drop_drop, h, e]
    rfl
  unfold readS
  rw [if_neg (by omega), Int.toNat_natCast, hd, if_neg]
  rintro ⟨h1, _⟩
  refine dec_nomark ?_ h1
  rintro ⟨h2, _⟩
  obtain ⟨m, hm⟩ : ∃ m, min 1039 ((cat (many n)).length - (pos (many n) i + 1)) = m + 1 := ⟨min 1039 ((cat (many n)).length - (pos (many n) i + 1)) - 1, by omega⟩
  rw [hm, List.take_succ_cons] at h2
  simp at h2
end Go.Proofs.YtcmboifkfeeocaaGreatDoor.scan
