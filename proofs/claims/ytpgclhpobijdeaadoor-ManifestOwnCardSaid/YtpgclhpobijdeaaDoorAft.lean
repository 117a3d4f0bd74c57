/-
  A REGION THAT DRAWS ITS ORDER, whose operations only read and whose callees may make blocks of their own: walked once (after the kit's quiet regions, at the class of the worlds behind this one).
-/
import Derived.Test.YtpgclhpobijdeaaDoorMBase
import Derived.Deep.QuietTactic
namespace Go.Proofs.YtpgclhpobijdeaaDoor
open Go.RowKit

/-- A world behind w: all that lay in w lies there still. -/
structure Aft (w : World) where
  W : World
  h : Below w.heap.size w W
instance (w : World) : Inhabited (Aft w) := ⟨⟨w, Below.refl _ _⟩⟩
theorem wp_region_aft {P : Program} {id : Nat} {Q : Exit → Act → World → Prop} {a : Act} {w : World} {l : List Oper} (hm : P.follows .mixedOrders = true) (hB : Region.lexB .any l.toArray = true)
    (h : wpQuiet P l.toArray (fun w' => ∃ p : Aft w, w' = p.W) (fun a' => ∀ w', (∃ p : Aft w, w' = p.W) → Q .normal a' w') l a) : (Code.region id l.toArray true).wp P Q a w :=
  wp_region_quiet (C := fun w' => ∃ p : Aft w, w' = p.W) hm hB ⟨⟨w.drew, below_draws (Below.refl _ _) 1⟩, rfl⟩ (by simpa using h)
theorem Calls.aft {P : Program} {f : FuncId} {args : Array Value} {w : World} {p : Aft w} {v : Value}
    (h : Calls P f args p.W fun e w' => e = .returned v ∧ Below p.W.heap.size p.W w') : Calls P f args p.W fun e w'' => e = .returned v ∧ ∃ q : Aft w, w'' = q.W :=
  h.mono fun _ w' ⟨he, hq⟩ => ⟨he, ⟨w', p.h.trans (hq.mono p.h.size)⟩, rfl⟩
theorem Calls.aft_same {P : Program} {f : FuncId} {args : Array Value} {w : World} {p : Aft w} {v : Value}
    (h : Calls P f args p.W fun e w' => e = .returned v ∧ p.W = w') : Calls P f args p.W fun e w'' => e = .returned v ∧ ∃ q : Aft w, w'' = q.W :=
  h.mono fun _ _ ⟨he, hq⟩ => ⟨he, p, hq.symm⟩
theorem Aft.cell {w : World} {b o : Nat} {v : Value} (h : w.cell? ⟨b, o, none⟩ = some v) (p : Aft w) : p.W.cell? ⟨b, o, none⟩ = some v := (p.h.cell (p := ⟨b, o, none⟩) (block_lt_of_cell h)).trans h
end Go.Proofs.YtpgclhpobijdeaaDoor
