/-
  CONTRACT of record.Encode (P6.1).
-/
import Derived.Test.YtodajceiadbpeaaDoorRcGrow
namespace Go.Proofs.YtodajceiadbpeaaDoor.recd
open Go.RowKit Go.Proofs.YtodajceiadbpeaaDoor.num Go.Proofs.YtodajceiadbpeaaDoor.disk

theorem Below.whole_at {W w : World} {g : Nat} {t : TypeId} {l : List Value} (h : Whole W g t l) (hb : Below W.heap.size W w) (i : Nat) : w.cell? ⟨g, i, none⟩ = l[i]? := (h.kept hb).at_ i

end Go.Proofs.YtodajceiadbpeaaDoor.recd
