/-
  DERIVED. GIVEN WITH THE SEED: THE CARDS: each row of YtodajceiadbpeaaDoorRows.lean that lists a variable, with what it lists TIED to the program's text (the seventh form; the later family's looks); each row that meets fmt, with fmt's text TOLD by the authors' own Lean function (tested against real Go, not proved from fmt's source: count such statements apart). THE CARD IS WHAT COUNTS. Prove the row's statement (the work); the ties are given (YtodajceiadbpeaaDoorTie.lean); close each card by the builder's one call (the guide's Derived/Test/ToyasCard.lean, 'card_holds'). Laid BY PROGRAM, IN A SANDBOX (cutbox-door.mjs). By AI agents, Wed Nov 11 2026. No macro, syntax, notation, axiom, sorry.
-/
import Derived.Test.YtodajceiadbpeaaDoorRows
import GoSem.ClaimSeven
namespace Go.Proofs.YtodajceiadbpeaaDoor
namespace Rows

/-- THE TIED CARD OF 'stillroomlaw7.ScanAll'. -/
def scanAllCard : Claim7 := { stood := { row := scanAllRow, standIns := [], harness := (true, "63e37be21b278fafe2d2d16bef74e327cfcc11c649c803a61701aac251a5efdb"), looks := false }, kinds := [], alts := [], laidByText := true, laidKinds := [.data], laidTests := true, laidLooks := .later }
def ScanAllCardSaid : Prop := Claim7.holds Tryd.pinned (.plain (OpenSpec.ofChange scanAllSpec)) scanAllCard

/-- THE TIED CARD OF 'stillroomlaw7.ScanLost'. -/
def scanLostCard : Claim7 := { stood := { row := scanLostRow, standIns := [], harness := (true, "63e37be21b278fafe2d2d16bef74e327cfcc11c649c803a61701aac251a5efdb"), looks := false }, kinds := [], alts := [], laidByText := true, laidKinds := [.data], laidTests := true, laidLooks := .later }
def ScanLostCardSaid : Prop := Claim7.holds Tryd.pinned (.plain (OpenSpec.ofChange scanLostSpec)) scanLostCard

/-- THE TIED CARD OF 'stillroomlaw7.ScanBytes'. -/
def scanBytesCard : Claim7 := { stood := { row := scanBytesRow, standIns := [], harness := (true, "63e37be21b278fafe2d2d16bef74e327cfcc11c649c803a61701aac251a5efdb"), looks := false }, kinds := [], alts := [], laidByText := true, laidKinds := [.data], laidTests := true, laidLooks := .later }
def ScanBytesCardSaid : Prop := Claim7.holds Tryd.pinned (.plain (OpenSpec.ofChange scanBytesSpec)) scanBytesCard

/-- THE TIED CARD OF 'stillroomlaw7.ScanInside'. -/
def scanInsideCard : Claim7 := { stood := { row := scanInsideRow, standIns := [], harness := (true, "63e37be21b278fafe2d2d16bef74e327cfcc11c649c803a61701aac251a5efdb"), looks := false }, kinds := [], alts := [], laidByText := true, laidKinds := [.data], laidTests := true, laidLooks := .later }
def ScanInsideCardSaid : Prop := Claim7.holds Tryd.pinned (.plain (OpenSpec.ofChange scanInsideSpec)) scanInsideCard

/-- THE SECOND FORM's CARD OF 'stillroomlaw7.ScanAll'. -/
def scanAllUptoCard : Claim7 := { stood := { row := scanAllUptoRow, standIns := [], harness := (true, "63e37be21b278fafe2d2d16bef74e327cfcc11c649c803a61701aac251a5efdb"), looks := false }, kinds := [], alts := [], laidByText := true, laidKinds := [.data], laidTests := true, laidLooks := .later }
def ScanAllUptoCardSaid : Prop := Claim7.holds Tryd.pinned (.plain (OpenSpec.upto scanAllSpec)) scanAllUptoCard

/-- THE SECOND FORM's CARD OF 'stillroomlaw7.ScanLost'. -/
def scanLostUptoCard : Claim7 := { stood := { row := scanLostUptoRow, standIns := [], harness := (true, "63e37be21b278fafe2d2d16bef74e327cfcc11c649c803a61701aac251a5efdb"), looks := false }, kinds := [], alts := [], laidByText := true, laidKinds := [.data], laidTests := true, laidLooks := .later }
def ScanLostUptoCardSaid : Prop := Claim7.holds Tryd.pinned (.plain (OpenSpec.upto scanLostSpec)) scanLostUptoCard

/-- THE SECOND FORM's CARD OF 'stillroomlaw7.ScanBytes'. -/
def scanBytesUptoCard : Claim7 := { stood := { row := scanBytesUptoRow, standIns := [], harness := (true, "63e37be21b278fafe2d2d16bef74e327cfcc11c649c803a61701aac251a5efdb"), looks := false }, kinds := [], alts := [], laidByText := true, laidKinds := [.data], laidTests := true, laidLooks := .later }
def ScanBytesUptoCardSaid : Prop := Claim7.holds Tryd.pinned (.plain (OpenSpec.upto scanBytesSpec)) scanBytesUptoCard

/-- THE SECOND FORM's CARD OF 'stillroomlaw7.ScanInside'. -/
def scanInsideUptoCard : Claim7 := { stood := { row := scanInsideUptoRow, standIns := [], harness := (true, "63e37be21b278fafe2d2d16bef74e327cfcc11c649c803a61701aac251a5efdb"), looks := false }, kinds := [], alts := [], laidByText := true, laidKinds := [.data], laidTests := true, laidLooks := .later }
def ScanInsideUptoCardSaid : Prop := Claim7.holds Tryd.pinned (.plain (OpenSpec.upto scanInsideSpec)) scanInsideUptoCard
end Rows
end Go.Proofs.YtodajceiadbpeaaDoor
