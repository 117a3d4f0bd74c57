/-
  CONTRACTS of strconv.FormatUint, FormatInt at base 10, and of segment.Name (P8.1).
-/
import Derived.Test.YtdonblfidohncaaGreatDoorStrLay
import Derived.Test.YtdonblfidohncaaGreatDoorMDkB
import Derived.Test.YtdonblfidohncaaGreatDoorMBase
import Derived.Lib.AppendIntMem
import Derived.Lib.ItoaLen
namespace Go.Proofs.YtdonblfidohncaaGreatDoor.seg
open Go.RowKit Go.Lib Go.Sort Go.Proofs.YtdonblfidohncaaGreatDoor.disk

/-- The table of powers of ten. -/
def Pow (w : World) : Prop := Lib.TabIs Tryz.prog w "internal/strconv.uint64pow10" .u64 Lib.pow10Tab
theorem below_grow_to {w : World} {k : Nat} {os : Array Obj} : Below w.heap.size w (grow (w.drewN k) os) := Lib.below_grow _ _ (Nat.le_refl _) k os

set_option maxHeartbeats 4000000 in
set_option maxRecDepth 100000 in
theorem formatUint_any (u : Nat) (hu64 : u < 18446744073709551616) (w : World) (htab : Pow w) :
    Calls Tryz.prog 91 #[.int .u64 u, .int .i64 10] w fun e w' => e = .returned (.string ⟨(Lib.decDigits u).toArray⟩) ∧ Below w.heap.size w w' := by
  by_cases hu : u < 100
  · go_enter Tryz.func91, Tryz.ntmps91
    go_wp2_with ((refine (Any.internal_strconv_small lay.small u hu _).mono ?_); rintro e w' ⟨rfl, rfl⟩)
    go_ret
    exact ⟨rfl, Below.refl _ _⟩
  · have hu1 : 1 ≤ u := by omega
    have hnd20 : Lib.nDigits u ≤ 20 := by have := Lib.numDigits_eq u hu1 hu64; split at this <;> omega
    have hal : Tryz.prog.arrayLen 158 = 24 := by simp [Program.arrayLen, Tryz.underlying158]
    have hsl : ∀ W, (Instr.sliceAt 158 (.pointer (some ⟨w.heap.size, 0, none⟩)) none (some (.int .i64 (Lib.nDigits u : Int))) none).run Tryz.prog W = .ok (.slice (some ⟨w.heap.size, 0, none⟩) (Lib.nDigits u) 24) W := fun W => by
      rw [run_sliceAt_array_h W 158 ⟨w.heap.size, 0, none⟩ (by simp [Program.arrayLen, Program.elem, Tryz.underlying158]) .i64 (Lib.nDigits u : Int) (by omega) (by rw [hal]; omega)]
      go_simp
    have hH0 := Lib.holds_zero0 w 158 (Lib.nDigits u) (by omega)
    have hfmt := Any.internal_strconv_formatBase10 (ρ := lay.format10_ren) lay.format10 w.heap.size 0 24 u (Array.replicate (Lib.nDigits u) 0) (w.alloc (.cells Lib.zeros24 158)) hH0 (by rw [Array.size_replicate]; exact Lib.lt_pow_nDigits u) hu64 (by rw [Array.size_replicate]; omega)
    rw [Array.size_replicate] at hfmt
    have hnum := Any.internal_strconv_numDigits (ρ := lay.numDigits_ren) lay.numDigits u hu1 hu64 (w.alloc (.cells Lib.zeros24 158)) (Lib.tabIs_alloc htab _)
    have HH0 := Lib.hid hH0
    have HF := Lib.hid hfmt
    have HN := Lib.hid hnum
    have iu : (100 : Int) ≤ (u : Int) := by omega
    clear hH0 hal hfmt hnum
    go_enter Tryz.func91, Tryz.ntmps91
    go_wp2_with fail
    refine HN.out.mono ?_
    rintro e w' ⟨rfl, rfl⟩
    go_wp2_with fail
    refine HF.out.mono ?_
    rintro e w' ⟨rfl, k, v', dk, rfl, hF⟩
    have hcv : (convert 57 9 (.slice (some ⟨w.heap.size, 0, none⟩) (Lib.nDigits u) 24)).run Tryz.prog ((putRow (fun (b : UInt8) => Value.int .u8 (b.toNat : Int)) (w.alloc (.cells Lib.zeros24 158)) w.heap.size 0 dk).drewN k) = .ok (.string ⟨(Lib.decDigits u).toArray⟩) ((putRow (fun (b : UInt8) => Value.int .u8 (b.toNat : Int)) (w.alloc (.cells Lib.zeros24 158)) w.heap.size 0 dk).drewN k) := by
      have h := run_convert_bytes_back (P := Tryz.prog) ((putRow (fun (b : UInt8) => Value.int .u8 (b.toNat : Int)) (w.alloc (.cells Lib.zeros24 158)) w.heap.size 0 dk).drewN k) 57 9 5 ⟨w.heap.size, 0, none⟩ 24 (Lib.decDigits u) Tryz.underlying57 Tryz.underlying5 Tryz.underlying9 (fun j hj => by
        rw [Lib.row_is_numeral hF j hj, Lib.add_plain, World.cell?_drewN]
        exact cell?_putRow (fun (b : UInt8) => Value.int .u8 (b.toNat : Int)) _ w.heap.size 0 _ dk HH0.out (by rw [hF.size, Array.size_replicate]) j (by rw [hF.size]; rw [Lib.decDigits_length] at hj; exact hj))
      rw [Lib.decDigits_length] at h
      exact h
    obtain ⟨os, eo⟩ := Lib.fin_at w (.cells Lib.zeros24 158) dk k 0
    have hb : Below w.heap.size w ((putRow (fun (b : UInt8) => Value.int .u8 (b.toNat : Int)) (w.alloc (.cells Lib.zeros24 158)) w.heap.size 0 dk).drewN k) := by rw [eo]; exact Lib.below_grow _ w (Nat.le_refl _) k os
    have HB := Lib.hid hb
    clear hb eo HH0 HF HN
    go_wp2_with fail
    go_ret
    exact ⟨rfl, HB.out⟩
theorem formatUint_out (u : Nat) (hu64 : u < 18446744073709551616) (w : World) (htab : Pow w) :
    Calls Tryz.prog 58 #[.int .u64 u, .int .i64 10] w fun e w' => e = .returned (.string ⟨(Lib.decDigits u).toArray⟩) ∧ Below w.heap.size w w' := by
  go_enter Tryz.func58, Tryz.ntmps58
  go_wp2_with fail
  refine (formatUint_any u hu64 w htab).mono ?_
  rintro e w' ⟨rfl, hb⟩
  have HB := Lib.hid hb
  clear hb
  go_wp2_with fail
  go_ret
  exact ⟨rfl, HB.out⟩
theorem formatInt_out (u : Nat) (hu64 : u < 9223372036854775808) (w : World) (htab : Pow w) :
    Calls Tryz.prog 59 #[.int .i64 u, .int .i64 10] w fun e w' => e = .returned (.string ⟨(Lib.decDigits u).toArray⟩) ∧ Below w.heap.size w w' := by
  have hc := Any.internal_strconv_FormatInt_10 (ρ := lay.formatInt_ren) lay.formatInt u (by omega) (by omega) w htab
  rw [Lib.itoa_nonneg] at hc
  have HC := Lib.hid hc
  clear hc
  go_enter Tryz.func59, Tryz.ntmps59
  go_wp2_with fail
  refine HC.out.mono ?_
  rintro e w' ⟨rfl, k, os, rfl⟩
  have hb : Below w.heap.size w (grow (w.drewN k) os) := below_grow_to
  have HB := Lib.hid hb
  clear hb
  go_wp2_with fail
  go_ret
  exact ⟨rfl, HB.out⟩

/-! the name -/
/-- A segment's name: 't', the tenant, a point, the number. -/
def nameL (t n : Nat) : Nm := [116] ++ Lib.decDigits t ++ [46] ++ Lib.decDigits n
def nameB (t n : Nat) : ByteArray := ⟨(nameL t n).toArray⟩
theorem nameB_data (t n : Nat) : (nameB t n).data.toList = nameL t n := by simp [nameB]
theorem digit_ok (u : Nat) : ∀ c ∈ Lib.decDigits u, okC ((c.toNat : Int)) = true := by
  induction u using Nat.strongRecOn with
  | _ u ih =>
    intro c hc
    have hd : ∀ d : Fin 10, okC (((UInt8.ofNat (48 + d.val)).toNat : Int)) = true := by decide
    rw [Lib.decDigits] at hc
    split at hc
    · rename_i h
      obtain rfl : c = UInt8.ofNat (48 + u) := by simpa using hc
      exact hd ⟨u, h⟩
    · rename_i h
      rcases List.mem_append.1 hc with hc | hc
      · exact ih (u / 10) (by omega) c hc
      · obtain rfl : c = UInt8.ofNat (48 + u % 10) := by simpa using hc
        exact hd ⟨u % 10, by omega⟩
theorem digits_le {u k : Nat} (h : u < 10 ^ k) (hk : 1 ≤ k) : (Lib.decDigits u).length ≤ k := by
  induction k generalizing u with
  | zero => omega
  | succ k ih =>
    rw [Lib.decDigits]
    split
    · simp
    · rename_i h10
      rw [List.length_append]
      have : (Lib.decDigits (u / 10)).length ≤ k := by
        refine ih ?_ ?_
        · rw [Nat.pow_succ] at h; omega
        · rcases k with _ | k
          · simp at h; omega
          · omega
      simp; omega
theorem nameL_length (t n : Nat) : (nameL t n).length = 2 + (Lib.decDigits t).length + (Lib.decDigits n).length := by simp [nameL]; omega
theorem nameL_le {t n : Nat} (ht : t < 4294967296) (hn : n ≤ 1099511627776) : (nameL t n).length ≤ 25 := by
  have h1 := digits_le (u := t) (k := 10) (by omega) (by omega)
  have h2 := digits_le (u := n) (k := 13) (by omega) (by omega)
  rw [nameL_length]
  omega
theorem nameL_good {t n : Nat} (ht : t < 4294967296) (hn : n ≤ 1099511627776) : isNameB (nameL t n) = true := by
  refine isNameB_good (by rw [nameL_length]; omega) (Nat.le_trans (nameL_le ht hn) (by omega)) fun i hi => ?_
  have hm : (nameL t n)[i] ∈ nameL t n := List.getElem_mem hi
  have hall : ∀ c ∈ nameL t n, okC ((c.toNat : Int)) = true := by
    intro c hc
    unfold nameL at hc
    simp only [List.mem_append, List.mem_singleton] at hc
    rcases hc with ((rfl | hc) | rfl) | hc
    · decide
    · exact digit_ok _ c hc
    · decide
    · exact digit_ok _ c hc
  exact hall _ hm

theorem append_lists (a b : List UInt8) : (⟨a.toArray⟩ : ByteArray) ++ ⟨b.toArray⟩ = ⟨(a ++ b).toArray⟩ := by
  apply ByteArray.ext
  simp [ByteArray.data_append]

set_option maxRecDepth 100000 in
set_option maxHeartbeats 1000000 in
theorem name_any (t n : Nat) (ht : t < 4294967296) (hn : n ≤ 1099511627776) (w : World) (hp : Pow w) (hpl : ∀ w', Below w.heap.size w w' → Pow w') :
    Calls Tryz.prog 28 #[.int .u32 t, .int .i64 n] w fun e w' => e = .returned (.string (nameB t n)) ∧ Below w.heap.size w w' := by
  have CU := Lib.hid (formatUint_out t (by omega) w hp)
  have CI := Lib.hid (fun w1 hb => formatInt_out n (by omega) w1 (hpl w1 hb))
  have lt1 := digits_le (u := t) (k := 10) (by omega) (by omega)
  have lt2 := digits_le (u := n) (k := 13) (by omega) (by omega)
  have hn' : ¬ (1099511627776 : Int) < (n : Int) := by omega
  have HN := Lib.hid (show nameB t n = ⟨([116] ++ Lib.decDigits t ++ [46] ++ Lib.decDigits n).toArray⟩ from rfl)
  clear hp hpl
  generalize Lib.decDigits t = a at CU lt1 HN
  generalize Lib.decDigits n = b at CI lt2 HN
  go_enter Tryz.func28, Tryz.ntmps28
  go_wp2_with fail
  refine CU.out.mono ?_
  rintro e w1 ⟨rfl, b1⟩
  have B1 := Lib.hid b1
  have s1 : (⟨a.toArray⟩ : ByteArray).size = a.length := by simp [ByteArray.size]
  have s2 : (⟨b.toArray⟩ : ByteArray).size = b.length := by simp [ByteArray.size]
  have s3 : (⟨(116 :: a).toArray⟩ : ByteArray).size = a.length + 1 := by simp [ByteArray.size]
  have j1 : (⟨#[116]⟩ : ByteArray) ++ ⟨a.toArray⟩ = ⟨(116 :: a).toArray⟩ := append_lists [116] a
  have j2 : (⟨(116 :: a).toArray⟩ : ByteArray) ++ ⟨#[46]⟩ = ⟨(116 :: (a ++ [46])).toArray⟩ := append_lists _ [46]
  have s4 : (⟨(116 :: (a ++ [46])).toArray⟩ : ByteArray).size = a.length + 2 := by simp [ByteArray.size]
  clear b1
  go_wp2_with fail
  have cI := CI.out w1 B1.out
  refine cI.mono ?_
  rintro e w2 ⟨rfl, b2⟩
  have B2 := Lib.hid (B1.out.trans (b2.mono B1.out.size))
  have j3 : (⟨(116 :: (a ++ [46])).toArray⟩ : ByteArray) ++ ⟨b.toArray⟩ = ⟨(116 :: (a ++ [46] ++ b)).toArray⟩ := append_lists _ b
  have hs : (⟨(116 :: (a ++ [46])).toArray⟩ : ByteArray).size + (⟨b.toArray⟩ : ByteArray).size ≤ 9223372036854775807 := by rw [s4, s2]; omega
  clear b2 cI CI CU j1 j2 s3
  go_wp2_with fail
  go_ret
  refine ⟨?_, B2.out⟩
  rw [HN.out]
  simp
end Go.Proofs.YtdonblfidohncaaGreatDoor.seg
