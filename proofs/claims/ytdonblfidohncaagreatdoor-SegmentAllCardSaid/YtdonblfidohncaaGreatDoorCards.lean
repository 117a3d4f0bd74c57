/-
  DERIVED. GIVEN WITH THE SEED: THE CARDS: each row of YtdonblfidohncaaGreatDoorRows.lean that lists a variable, with what it lists TIED to the program's text (the seventh form; the later family's looks); each row that meets fmt, with fmt's text TOLD by the authors' own Lean function (tested against real Go, not proved from fmt's source: count such statements apart). THE CARD IS WHAT COUNTS. Prove the row's statement (the work); the ties are given (YtdonblfidohncaaGreatDoorTie.lean); close each card by the builder's one call (the guide's Derived/Test/ToyasCard.lean, 'card_holds'). Laid BY PROGRAM, IN A SANDBOX (cutbox-door.mjs). By AI agents, Wed Nov 11 2026. No macro, syntax, notation, axiom, sorry.
-/
import Derived.Test.YtdonblfidohncaaGreatDoorRows
import GoSem.ClaimSeven
namespace Go.Proofs.YtdonblfidohncaaGreatDoor
namespace Rows

/-- THE TIED CARD OF 'stillroomlaw8.SegmentAll'. -/
def segmentAllCard : Claim7 := { stood := { row := segmentAllRow, standIns := [], harness := (true, "cf7e1ecf77d13556183b396e1213d160cbf16a1f80c4d3c75bbf8dc491f34b9e"), looks := true }, kinds := [], alts := [], laidByText := true, laidKinds := [.data, .data, .data, .data], laidTests := true, laidLooks := .later }
def SegmentAllCardSaid : Prop := Claim7.holds Tryz.pinned (.plain (OpenSpec.ofChange segmentAllSpec)) segmentAllCard

/-- THE TIED CARD OF 'stillroomlaw9.SlotsCrash'. -/
def slotsCrashCard : Claim7 := { stood := { row := slotsCrashRow, standIns := [], harness := (true, "cf7e1ecf77d13556183b396e1213d160cbf16a1f80c4d3c75bbf8dc491f34b9e"), looks := true }, kinds := [], alts := [], laidByText := true, laidKinds := [.data], laidTests := true, laidLooks := .later }
def SlotsCrashCardSaid : Prop := Claim7.holds Tryz.pinned (.plain (OpenSpec.ofChange slotsCrashSpec)) slotsCrashCard

/-- THE TIED CARD OF 'stillroomlaw9.SlotsMake'. -/
def slotsMakeCard : Claim7 := { stood := { row := slotsMakeRow, standIns := [], harness := (true, "cf7e1ecf77d13556183b396e1213d160cbf16a1f80c4d3c75bbf8dc491f34b9e"), looks := true }, kinds := [], alts := [], laidByText := true, laidKinds := [.data], laidTests := true, laidLooks := .later }
def SlotsMakeCardSaid : Prop := Claim7.holds Tryz.pinned (.plain (OpenSpec.ofChange slotsMakeSpec)) slotsMakeCard

/-- THE SECOND FORM's CARD OF 'stillroomlaw8.SegmentAll'. -/
def segmentAllUptoCard : Claim7 := { stood := { row := segmentAllUptoRow, standIns := [], harness := (true, "cf7e1ecf77d13556183b396e1213d160cbf16a1f80c4d3c75bbf8dc491f34b9e"), looks := true }, kinds := [], alts := [], laidByText := true, laidKinds := [.data, .data, .data, .data], laidTests := true, laidLooks := .later }
def SegmentAllUptoCardSaid : Prop := Claim7.holds Tryz.pinned (.plain (OpenSpec.upto segmentAllSpec)) segmentAllUptoCard

/-- THE SECOND FORM's CARD OF 'stillroomlaw9.SlotsCrash'. -/
def slotsCrashUptoCard : Claim7 := { stood := { row := slotsCrashUptoRow, standIns := [], harness := (true, "cf7e1ecf77d13556183b396e1213d160cbf16a1f80c4d3c75bbf8dc491f34b9e"), looks := true }, kinds := [], alts := [], laidByText := true, laidKinds := [.data], laidTests := true, laidLooks := .later }
def SlotsCrashUptoCardSaid : Prop := Claim7.holds Tryz.pinned (.plain (OpenSpec.upto slotsCrashSpec)) slotsCrashUptoCard

/-- THE SECOND FORM's CARD OF 'stillroomlaw9.SlotsMake'. -/
def slotsMakeUptoCard : Claim7 := { stood := { row := slotsMakeUptoRow, standIns := [], harness := (true, "cf7e1ecf77d13556183b396e1213d160cbf16a1f80c4d3c75bbf8dc491f34b9e"), looks := true }, kinds := [], alts := [], laidByText := true, laidKinds := [.data], laidTests := true, laidLooks := .later }
def SlotsMakeUptoCardSaid : Prop := Claim7.holds Tryz.pinned (.plain (OpenSpec.upto slotsMakeSpec)) slotsMakeUptoCard
end Rows
end Go.Proofs.YtdonblfidohncaaGreatDoor
