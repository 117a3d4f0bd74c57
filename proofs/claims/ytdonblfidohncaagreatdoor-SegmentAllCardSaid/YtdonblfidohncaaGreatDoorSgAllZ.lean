/-
  THE WALK OF 'stillroomlaw8.SegmentAll' (P8.1, K1), put together.
-/
import Derived.Test.YtdonblfidohncaaGreatDoorSgAllA
import Derived.Test.YtdonblfidohncaaGreatDoorSgAllB
namespace Go.Proofs.YtdonblfidohncaaGreatDoor.scan
open Go.RowKit Go.Proofs.YtdonblfidohncaaGreatDoor.disk Go.Proofs.YtdonblfidohncaaGreatDoor.recd Go.Proofs.YtdonblfidohncaaGreatDoor.seg
set_option linter.unusedVariables false

theorem segall (w : World) (hT : Tabs w) (t : Nat) (ht : t < 4294967296) {a1 : Option Addr} {len1 cap1 : Nat} {ps : Nat → Batch} (hps : RRRow w a1 len1 cap1 ps) {sy : Int} (hsy : -9223372036854775808 ≤ sy ∧ sy ≤ 9223372036854775807) {ka : Option Addr} {kn kc : Nat} {keep : List Bool} (hk : BRow w ka kn kc keep) {torn : Int} (htorn : -9223372036854775808 ≤ torn ∧ torn ≤ 9223372036854775807) :
    Calls Tryz.prog 3 #[.int .u32 (t : Int), .slice a1 len1 cap1, .int .i64 sy, .slice ka kn kc, .int .i64 torn] w fun e w' => e = .returned (.bool true) ∧ Below w.heap.size w w' := by
  by_cases hc : 100 < kn
  · obtain ⟨h1, h2⟩ := hk.front 100 hc
    exact segall_a w hT t ht hps sy ka kn 100 kc (keep.take 100) h2 hc rfl h1 torn
  · exact segall_b w hT t ht hps sy ka kn kn kc keep hk.bools (by omega) rfl torn
end Go.Proofs.YtdonblfidohncaaGreatDoor.scan
