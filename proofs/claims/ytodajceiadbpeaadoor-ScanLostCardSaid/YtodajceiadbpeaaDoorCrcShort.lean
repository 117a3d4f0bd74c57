/-
  THE WALKS OF THE STATEMENTS' SMALL HELPERS: 'Short' and 'begun', and of the reference's sum.
-/
import Derived.Test.YtodajceiadbpeaaDoorCrcWalks
import Derived.Deep.QuietTactic
import Derived.BigQuiet
import Derived.Deep.DeepFit
import Derived.Lib.SlBytesConst
namespace Go.Proofs.YtodajceiadbpeaaDoor.crc
open Go.RowKit

theorem short_any (a : Option Addr) (len cap n : Nat) (w : World) (hlc : len ≤ cap) (ha : a = none → len = 0 ∧ cap = 0) (hn : n ≤ 1000) :
    Calls Tryd.prog 9 #[.slice a len cap, .int .i64 n] w fun e w' => e = .returned (.slice a (min len n) cap) ∧ w = w' := by
  by_cases h : n < len
  · rw [show min len n = n by omega]
    cases a with
    | none => have := ha rfl; omega
    | some x =>
      clear ha
      have h1 : (n : Int) < (len : Int) := by omega
      go_enter Tryd.func9, Tryd.ntmps9
      go_wp2
      go_ret
      exact ⟨rfl, rfl⟩
  · rw [show min len n = len by omega]
    have h1 : ¬ (n : Int) < (len : Int) := by omega
    clear ha
    go_enter Tryd.func9, Tryd.ntmps9
    go_wp2
    go_ret
    exact ⟨rfl, rfl⟩

theorem Tab.later {w w' : World} (h : Tab w) (hb : Below w.heap.size w w') : Tab w' := by
  intro k hk
  have h0 := h k hk
  have hlt : 0 < w.heap.size := by
    rcases Nat.eq_zero_or_pos w.heap.size with h' | h'
    · simp [World.cell?, Array.getElem?_eq_none (Nat.le_of_eq h')] at h0
    · exact h'
  rw [hb.cell (p := ⟨0, k, none⟩) hlt]; exact h0
theorem Bytes.later {w w' : World} {a : Option Addr} {l : List Int} (h : Bytes w a l) (hb : Below w.heap.size w w') : Bytes w' a l := by
  rcases h with h | ⟨b, off, rfl, hc⟩
  · exact .inl h
  · refine .inr ⟨b, off, rfl, fun i hi => ?_⟩
    have h0 := hc i hi
    have hlt : b < w.heap.size := by
      rcases Nat.lt_or_ge b w.heap.size with h' | h'
      · exact h'
      · simp [World.cell?, Array.getElem?_eq_none h'] at h0
    rw [hb.cell (p := ⟨b, off + i, none⟩) hlt]; exact h0

def nine : List Int := [49, 50, 51, 52, 53, 54, 55, 56, 57]
theorem nine_sum : sum nine = 3808858755#32 := by decide +kernel
theorem nine_byte : Byte nine := by intro c hc; simp [nine] at hc; omega
def nineObj : Obj := .cells #[.int .u8 49, .int .u8 50, .int .u8 51, .int .u8 52, .int .u8 53, .int .u8 54, .int .u8 55, .int .u8 56, .int .u8 57] 5 (9, 10)
theorem nine_at (w : World) : Bytes (w.alloc nineObj) (some ⟨w.heap.size, 0, none⟩) nine := by
  refine .inr ⟨_, _, rfl, fun i hi => ?_⟩
  have hi' : i < 9 := hi
  rw [Nat.zero_add]
  have h : ∀ j : Fin 9, (#[Value.int .u8 49, .int .u8 50, .int .u8 51, .int .u8 52, .int .u8 53, .int .u8 54, .int .u8 55, .int .u8 56, .int .u8 57] : Array Value)[j.val]? = some (.int .u8 (nine.getD j.val 0)) := by
    intro j
    match j with
    | 0 | 1 | 2 | 3 | 4 | 5 | 6 | 7 | 8 => rfl
  exact (World.cell?_alloc_mark w _ _ _ i).trans (h ⟨i, hi'⟩)

end Go.Proofs.YtodajceiadbpeaaDoor.crc
