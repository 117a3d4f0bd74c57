/-
  DERIVED. GIVEN WITH THE SEED: THE CARDS: each row of YtdonblfidohncaaDoorRows.lean that lists a variable, with what it lists TIED to the program's text (the seventh form; the later family's looks); each row that meets fmt, with fmt's text TOLD by the authors' own Lean function (tested against real Go, not proved from fmt's source: count such statements apart). THE CARD IS WHAT COUNTS. Prove the row's statement (the work); the ties are given (YtdonblfidohncaaDoorTie.lean); close each card by the builder's one call (the guide's Derived/Test/ToyasCard.lean, 'card_holds'). Laid BY PROGRAM, IN A SANDBOX (cutbox-door.mjs). By AI agents, Wed Nov 11 2026. No macro, syntax, notation, axiom, sorry.
-/
import Derived.Test.YtdonblfidohncaaDoorRows
import GoSem.ClaimSeven
namespace Go.Proofs.YtdonblfidohncaaDoor
namespace Rows

/-- THE TIED CARD OF 'stillroomlaw9.SlotsAll'. -/
def slotsAllCard : Claim7 := { stood := { row := slotsAllRow, standIns := [], harness := (true, "1ce66fe294ca3ae827688de4e8ad6c2feb7055ab4573742bca7922334e8a0161"), looks := true }, kinds := [], alts := [], laidByText := true, laidKinds := [.data], laidTests := true, laidLooks := .later }
def SlotsAllCardSaid : Prop := Claim7.holds Tryd.pinned (.plain (OpenSpec.ofChange slotsAllSpec)) slotsAllCard

/-- THE TIED CARD OF 'stillroomlaw9.SlotsAgain'. -/
def slotsAgainCard : Claim7 := { stood := { row := slotsAgainRow, standIns := [], harness := (true, "1ce66fe294ca3ae827688de4e8ad6c2feb7055ab4573742bca7922334e8a0161"), looks := true }, kinds := [], alts := [], laidByText := true, laidKinds := [.data], laidTests := true, laidLooks := .later }
def SlotsAgainCardSaid : Prop := Claim7.holds Tryd.pinned (.plain (OpenSpec.ofChange slotsAgainSpec)) slotsAgainCard

/-- THE TIED CARD OF 'stillroomlaw9.SlotsNone'. -/
def slotsNoneCard : Claim7 := { stood := { row := slotsNoneRow, standIns := [], harness := (true, "1ce66fe294ca3ae827688de4e8ad6c2feb7055ab4573742bca7922334e8a0161"), looks := true }, kinds := [], alts := [], laidByText := true, laidKinds := [.data], laidTests := true, laidLooks := .later }
def SlotsNoneCardSaid : Prop := Claim7.holds Tryd.pinned (.plain (OpenSpec.ofChange slotsNoneSpec)) slotsNoneCard

/-- THE TIED CARD OF 'stillroomlaw9.SlotsSpoilt'. -/
def slotsSpoiltCard : Claim7 := { stood := { row := slotsSpoiltRow, standIns := [], harness := (true, "1ce66fe294ca3ae827688de4e8ad6c2feb7055ab4573742bca7922334e8a0161"), looks := true }, kinds := [], alts := [], laidByText := true, laidKinds := [.data], laidTests := true, laidLooks := .later }
def SlotsSpoiltCardSaid : Prop := Claim7.holds Tryd.pinned (.plain (OpenSpec.ofChange slotsSpoiltSpec)) slotsSpoiltCard

/-- THE TIED CARD OF 'stillroomlaw9.SlotsMany'. -/
def slotsManyCard : Claim7 := { stood := { row := slotsManyRow, standIns := [], harness := (true, "1ce66fe294ca3ae827688de4e8ad6c2feb7055ab4573742bca7922334e8a0161"), looks := true }, kinds := [], alts := [], laidByText := true, laidKinds := [.data], laidTests := true, laidLooks := .later }
def SlotsManyCardSaid : Prop := Claim7.holds Tryd.pinned (.plain (OpenSpec.ofChange slotsManySpec)) slotsManyCard

/-- THE SECOND FORM's CARD OF 'stillroomlaw9.SlotsAll'. -/
def slotsAllUptoCard : Claim7 := { stood := { row := slotsAllUptoRow, standIns := [], harness := (true, "1ce66fe294ca3ae827688de4e8ad6c2feb7055ab4573742bca7922334e8a0161"), looks := true }, kinds := [], alts := [], laidByText := true, laidKinds := [.data], laidTests := true, laidLooks := .later }
def SlotsAllUptoCardSaid : Prop := Claim7.holds Tryd.pinned (.plain (OpenSpec.upto slotsAllSpec)) slotsAllUptoCard

/-- THE SECOND FORM's CARD OF 'stillroomlaw9.SlotsAgain'. -/
def slotsAgainUptoCard : Claim7 := { stood := { row := slotsAgainUptoRow, standIns := [], harness := (true, "1ce66fe294ca3ae827688de4e8ad6c2feb7055ab4573742bca7922334e8a0161"), looks := true }, kinds := [], alts := [], laidByText := true, laidKinds := [.data], laidTests := true, laidLooks := .later }
def SlotsAgainUptoCardSaid : Prop := Claim7.holds Tryd.pinned (.plain (OpenSpec.upto slotsAgainSpec)) slotsAgainUptoCard

/-- THE SECOND FORM's CARD OF 'stillroomlaw9.SlotsNone'. -/
def slotsNoneUptoCard : Claim7 := { stood := { row := slotsNoneUptoRow, standIns := [], harness := (true, "1ce66fe294ca3ae827688de4e8ad6c2feb7055ab4573742bca7922334e8a0161"), looks := true }, kinds := [], alts := [], laidByText := true, laidKinds := [.data], laidTests := true, laidLooks := .later }
def SlotsNoneUptoCardSaid : Prop := Claim7.holds Tryd.pinned (.plain (OpenSpec.upto slotsNoneSpec)) slotsNoneUptoCard

/-- THE SECOND FORM's CARD OF 'stillroomlaw9.SlotsSpoilt'. -/
def slotsSpoiltUptoCard : Claim7 := { stood := { row := slotsSpoiltUptoRow, standIns := [], harness := (true, "1ce66fe294ca3ae827688de4e8ad6c2feb7055ab4573742bca7922334e8a0161"), looks := true }, kinds := [], alts := [], laidByText := true, laidKinds := [.data], laidTests := true, laidLooks := .later }
def SlotsSpoiltUptoCardSaid : Prop := Claim7.holds Tryd.pinned (.plain (OpenSpec.upto slotsSpoiltSpec)) slotsSpoiltUptoCard

/-- THE SECOND FORM's CARD OF 'stillroomlaw9.SlotsMany'. -/
def slotsManyUptoCard : Claim7 := { stood := { row := slotsManyUptoRow, standIns := [], harness := (true, "1ce66fe294ca3ae827688de4e8ad6c2feb7055ab4573742bca7922334e8a0161"), looks := true }, kinds := [], alts := [], laidByText := true, laidKinds := [.data], laidTests := true, laidLooks := .later }
def SlotsManyUptoCardSaid : Prop := Claim7.holds Tryd.pinned (.plain (OpenSpec.upto slotsManySpec)) slotsManyUptoCard
end Rows
end Go.Proofs.YtdonblfidohncaaDoor
