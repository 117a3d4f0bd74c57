/-
  THE WALKS OF THE STATEMENTS' SMALL HELPERS: 'Short' and 'begun', and of the reference's sum.
-/
import Derived.Test.YtobkjkgpmkppfaaDoorCrcWalks
import Derived.Deep.QuietTactic
import Derived.BigQuiet
import Derived.Deep.DeepFit
import Derived.Lib.SlBytesConst
namespace Go.Proofs.YtobkjkgpmkppfaaDoor.crc
open Go.RowKit

theorem short_any (a : Option Addr) (len cap n : Nat) (w : World) (hlc : len ≤ cap) (ha : a = none → len = 0 ∧ cap = 0) (hn : n ≤ 1000) :
    Calls Tryd.prog 8 #[.slice a len cap, .int .i64 n] w fun e w' => e = .returned (.slice a (min len n) cap) ∧ w = w' := by
  by_cases h : n < len
  · rw [show min len n = n by omega]
    cases a with
    | none => have := ha rfl; omega
    | some x =>
      clear ha
      have h1 : (n : Int) < (len : Int) := by omega
      go_enter Tryd.func8, Tryd.ntmps8
      go_wp2
      go_ret
      exact ⟨rfl, rfl⟩
  · rw [show min len n = len by omega]
    have h1 : ¬ (n : Int) < (len : Int) := by omega
    clear ha
    go_enter Tryd.func8, Tryd.ntmps8
    go_wp2
    go_ret
    exact ⟨rfl, rfl⟩

theorem Tab.later {w w' : World} (h : Tab w) (hb : Below w.heap.size w w') : Tab w' := by
  intro k hk
  have h0 := h k hk
  have hlt : 0 < w.heap.size := by
    rcases Nat.eq_zero_or_pos w.heap.size with h' | h'
    · simp [World.cell?, Array.getElem?_eq_none (Nat.le_of_eq h')] at h0
    · exact h'
  rw [hb.cell (p := ⟨0, k, none⟩) hlt]; exact h0
theorem Bytes.later {w w' : World} {a : Option Addr} {l : List Int} (h : Bytes w a l) (hb : Below w.heap.size w w') : Bytes w' a l := by
  rcases h with h | ⟨b, off, rfl, hc⟩
  · exact .inl h
  · refine .inr ⟨b, off, rfl, fun i hi => ?_⟩
    have h0 := hc i hi
    have hlt : b < w.heap.size := by
      rcases Nat.lt_or_ge b w.heap.size with h' | h'
      · exact h'
      · simp [World.cell?, Array.getElem?_eq_none h'] at h0
    rw [hb.cell (p := ⟨b, off + i, none⟩) hlt]; exact h0

def nine : List Int := [49, 50, 51, 52, 53, 54, 55, 56, 57]
theorem nine_sum : sum nine = 3808858755#32 := by decide +kernel
theorem nine_byte : Byte nine := by intro c hc; simp [nine] at hc; omega
def nineObj : Obj := .cells #[.int .u8 49, .int .u8 50, .int .u8 51, .int .u8 52, .int .u8 53, .int .u8 54, .int .u8 55, .int .u8 56, .int .u8 57] 5 (9, 10)
theorem nine_at (w : World) : Bytes (w.alloc nineObj) (some ⟨w.heap.size, 0, none⟩) nine := by
  refine .inr ⟨_, _, rfl, fun i hi => ?_⟩
  have hi' : i < 9 := hi
  rw [Nat.zero_add]
  have h : ∀ j : Fin 9, (#[Value.int .u8 49, .int .u8 50, .int .u8 51, .int .u8 52, .int .u8 53, .int .u8 54, .int .u8 55, .int .u8 56, .int .u8 57] : Array Value)[j.val]? = some (.int .u8 (nine.getD j.val 0)) := by
    intro j
    match j with
    | 0 | 1 | 2 | 3 | 4 | 5 | 6 | 7 | 8 => rfl
  exact (World.cell?_alloc_mark w _ _ _ i).trans (h ⟨i, hi'⟩)

theorem begun_any (w : World) (hT : Tab w) :
    Calls Tryd.prog 7 #[] w fun e w' => e = .returned (.bool true) ∧ Below w.heap.size w w' := by
  have c1 := sum_any (some ⟨w.heap.size, 0, none⟩) nine 9 (w.alloc nineObj) (hT.later ((Below.refl _ _).alloc (Nat.le_refl _) _)) (nine_at w) nine_byte (by decide)
  have c2 := sum_any none [] 0 (w.alloc nineObj) (hT.later ((Below.refl _ _).alloc (Nat.le_refl _) _)) (.inl rfl) (by intro c hc; cases hc) (by decide)
  rw [nine_sum] at c1
  rw [show sum [] = 0#32 by decide] at c2
  have C1 : Hid (Calls Tryd.prog 9 #[.slice (some ⟨w.heap.size, 0, none⟩) 9 9] (w.alloc (.cells #[.int .u8 49, .int .u8 50, .int .u8 51, .int .u8 52, .int .u8 53, .int .u8 54, .int .u8 55, .int .u8 56, .int .u8 57] 5 (9, 10))) fun e w' => e = .returned (.int .u32 3808858755) ∧ w.alloc nineObj = w') := c1
  have C2 : Hid (Calls Tryd.prog 9 #[.slice none 0 0] (w.alloc nineObj) fun e w' => e = .returned (.int .u32 0) ∧ w.alloc nineObj = w') := c2
  clear c1 c2 hT
  have kc := fun (w : World) (C : Array Value) (n c : Nat) => Lib.run_convert_bytes_const (P := Tryd.prog) w 22 5 C n c Tryd.underlying22 Tryd.underlying5
  go_enter Tryd.func7, Tryd.ntmps7
  go_wp2_with fail
  refine C1.out.mono ?_; rintro e w' ⟨rfl, rfl⟩
  go_wp2_with fail
  refine C2.out.mono ?_; rintro e w' ⟨rfl, rfl⟩
  go_wp2
  go_ret
  exact ⟨rfl, (Below.refl _ _).alloc (Nat.le_refl _) _⟩
end Go.Proofs.YtobkjkgpmkppfaaDoor.crc
