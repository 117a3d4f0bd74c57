/-
  THE WALK OF 'stillroomlaw9.SlotsCrash' (P9.1, K1), put together.
-/
import Derived.Test.YtdonblfidohncaaGreatDoorSlCrashA
import Derived.Test.YtdonblfidohncaaGreatDoorSlCrashB
namespace Go.Proofs.YtdonblfidohncaaGreatDoor.slots
open Go.RowKit Go.Proofs.YtdonblfidohncaaGreatDoor.disk Go.Proofs.YtdonblfidohncaaGreatDoor.recd Go.Proofs.YtdonblfidohncaaGreatDoor.num
set_option linter.unusedVariables false

theorem slotscrash (w : World) (hT : crc.Tab w) {a1 : Option Addr} {len1 cap1 : Nat} {ps : Nat → disk.Piece} (hps : disk.RRow w a1 len1 cap1 ps) {fl : Int} (hfl : -9223372036854775808 ≤ fl ∧ fl ≤ 9223372036854775807) {n : Int} (hn : -9223372036854775808 ≤ n ∧ n ≤ 9223372036854775807) {ka : Option Addr} {kn kc : Nat} {keep : List Bool} (hk : BRow w ka kn kc keep) {torn : Int} (htorn : -9223372036854775808 ≤ torn ∧ torn ≤ 9223372036854775807) :
    Calls Tryz.prog 4 #[.slice a1 len1 cap1, .int .i64 fl, .int .i64 n, .slice ka kn kc, .int .i64 torn] w fun e w' => e = .returned (.bool true) ∧ Below w.heap.size w w' := by
  by_cases h0 : fl < 0
  · have CB := Lib.hid (begun9 w hT)
    clear hT hps hk
    go_enter Tryz.func4, Tryz.ntmps4
    go_wp2_with fail
    refine CB.out.mono ?_
    rintro e w1 ⟨rfl, b1⟩
    have B1 := Lib.hid b1
    clear b1
    go_wp2_with fail
    go_ret
    exact ⟨rfl, B1.out⟩
  by_cases h60 : 60 < fl
  · have CB := Lib.hid (begun9 w hT)
    clear hT hps hk
    go_enter Tryz.func4, Tryz.ntmps4
    go_wp2_with fail
    refine CB.out.mono ?_
    rintro e w1 ⟨rfl, b1⟩
    have B1 := Lib.hid b1
    clear b1
    go_wp2_with fail
    go_ret
    exact ⟨rfl, B1.out⟩
  obtain ⟨m, rfl⟩ : ∃ m : Nat, fl = (m : Int) := ⟨fl.toNat, by omega⟩
  by_cases hc : 140 < kn
  · obtain ⟨h1, h2⟩ := hk.front 140 hc
    exact slotscrash_a w hT hps m (by omega) n ka kn 140 kc (keep.take 140) h2 hc rfl h1 torn
  · exact slotscrash_b w hT hps m (by omega) n ka kn kn kc keep hk.bools (by omega) rfl torn
end Go.Proofs.YtdonblfidohncaaGreatDoor.slots
