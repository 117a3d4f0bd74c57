/-
  DERIVED. GIVEN WITH THE SEED: THE CARDS: each row of YtlpennnnkbnjmaaDoorRows.lean that lists a variable, with what it lists TIED to the program's text (the seventh form; the later family's looks); each row that meets fmt, with fmt's text TOLD by the authors' own Lean function (tested against real Go, not proved from fmt's source: count such statements apart). THE CARD IS WHAT COUNTS. Prove the row's statement (the work); the ties are given (YtlpennnnkbnjmaaDoorTie.lean); close each card by the builder's one call (the guide's Derived/Test/ToyasCard.lean, 'card_holds'). Laid BY PROGRAM, IN A SANDBOX (cutbox-door.mjs). By AI agents, Wed Nov 11 2026. No macro, syntax, notation, axiom, sorry.
-/
import Derived.Test.YtlpennnnkbnjmaaDoorRows
import GoSem.ClaimSeven
namespace Go.Proofs.YtlpennnnkbnjmaaDoor
namespace Rows

/-- THE TIED CARD OF 'stillroomlaw6.RecordBytes'. -/
def recordBytesCard : Claim7 := { stood := { row := recordBytesRow, standIns := [], harness := (true, "e33f8e0a56b00b77efd973c5f53b161e3a1fb6dc4463f5ccfd3d4c30669a5982"), looks := false }, kinds := [], alts := [], laidByText := true, laidKinds := [.data], laidTests := true, laidLooks := .later }
def RecordBytesCardSaid : Prop := Claim7.holds Tryd.pinned (.plain (OpenSpec.ofChange recordBytesSpec)) recordBytesCard

/-- THE TIED CARD OF 'stillroomlaw6.RecordAny'. -/
def recordAnyCard : Claim7 := { stood := { row := recordAnyRow, standIns := [], harness := (true, "e33f8e0a56b00b77efd973c5f53b161e3a1fb6dc4463f5ccfd3d4c30669a5982"), looks := false }, kinds := [], alts := [], laidByText := true, laidKinds := [.data], laidTests := true, laidLooks := .later }
def RecordAnyCardSaid : Prop := Claim7.holds Tryd.pinned (.plain (OpenSpec.ofChange recordAnySpec)) recordAnyCard

/-- THE TIED CARD OF 'stillroomlaw6.RecordCut'. -/
def recordCutCard : Claim7 := { stood := { row := recordCutRow, standIns := [], harness := (true, "e33f8e0a56b00b77efd973c5f53b161e3a1fb6dc4463f5ccfd3d4c30669a5982"), looks := false }, kinds := [], alts := [], laidByText := true, laidKinds := [.data], laidTests := true, laidLooks := .later }
def RecordCutCardSaid : Prop := Claim7.holds Tryd.pinned (.plain (OpenSpec.ofChange recordCutSpec)) recordCutCard

/-- THE TIED CARD OF 'stillroomlaw6.RecordSpoilt'. -/
def recordSpoiltCard : Claim7 := { stood := { row := recordSpoiltRow, standIns := [], harness := (true, "e33f8e0a56b00b77efd973c5f53b161e3a1fb6dc4463f5ccfd3d4c30669a5982"), looks := false }, kinds := [], alts := [], laidByText := true, laidKinds := [.data], laidTests := true, laidLooks := .later }
def RecordSpoiltCardSaid : Prop := Claim7.holds Tryd.pinned (.plain (OpenSpec.ofChange recordSpoiltSpec)) recordSpoiltCard

/-- THE TIED CARD OF 'stillroomlaw6.RecordEnds'. -/
def recordEndsCard : Claim7 := { stood := { row := recordEndsRow, standIns := [], harness := (true, "e33f8e0a56b00b77efd973c5f53b161e3a1fb6dc4463f5ccfd3d4c30669a5982"), looks := false }, kinds := [], alts := [], laidByText := true, laidKinds := [.data], laidTests := true, laidLooks := .later }
def RecordEndsCardSaid : Prop := Claim7.holds Tryd.pinned (.plain (OpenSpec.ofChange recordEndsSpec)) recordEndsCard

/-- THE SECOND FORM's CARD OF 'stillroomlaw6.RecordBytes'. -/
def recordBytesUptoCard : Claim7 := { stood := { row := recordBytesUptoRow, standIns := [], harness := (true, "e33f8e0a56b00b77efd973c5f53b161e3a1fb6dc4463f5ccfd3d4c30669a5982"), looks := false }, kinds := [], alts := [], laidByText := true, laidKinds := [.data], laidTests := true, laidLooks := .later }
def RecordBytesUptoCardSaid : Prop := Claim7.holds Tryd.pinned (.plain (OpenSpec.upto recordBytesSpec)) recordBytesUptoCard

/-- THE SECOND FORM's CARD OF 'stillroomlaw6.RecordAny'. -/
def recordAnyUptoCard : Claim7 := { stood := { row := recordAnyUptoRow, standIns := [], harness := (true, "e33f8e0a56b00b77efd973c5f53b161e3a1fb6dc4463f5ccfd3d4c30669a5982"), looks := false }, kinds := [], alts := [], laidByText := true, laidKinds := [.data], laidTests := true, laidLooks := .later }
def RecordAnyUptoCardSaid : Prop := Claim7.holds Tryd.pinned (.plain (OpenSpec.upto recordAnySpec)) recordAnyUptoCard

/-- THE SECOND FORM's CARD OF 'stillroomlaw6.RecordCut'. -/
def recordCutUptoCard : Claim7 := { stood := { row := recordCutUptoRow, standIns := [], harness := (true, "e33f8e0a56b00b77efd973c5f53b161e3a1fb6dc4463f5ccfd3d4c30669a5982"), looks := false }, kinds := [], alts := [], laidByText := true, laidKinds := [.data], laidTests := true, laidLooks := .later }
def RecordCutUptoCardSaid : Prop := Claim7.holds Tryd.pinned (.plain (OpenSpec.upto recordCutSpec)) recordCutUptoCard

/-- THE SECOND FORM's CARD OF 'stillroomlaw6.RecordSpoilt'. -/
def recordSpoiltUptoCard : Claim7 := { stood := { row := recordSpoiltUptoRow, standIns := [], harness := (true, "e33f8e0a56b00b77efd973c5f53b161e3a1fb6dc4463f5ccfd3d4c30669a5982"), looks := false }, kinds := [], alts := [], laidByText := true, laidKinds := [.data], laidTests := true, laidLooks := .later }
def RecordSpoiltUptoCardSaid : Prop := Claim7.holds Tryd.pinned (.plain (OpenSpec.upto recordSpoiltSpec)) recordSpoiltUptoCard

/-- THE SECOND FORM's CARD OF 'stillroomlaw6.RecordEnds'. -/
def recordEndsUptoCard : Claim7 := { stood := { row := recordEndsUptoRow, standIns := [], harness := (true, "e33f8e0a56b00b77efd973c5f53b161e3a1fb6dc4463f5ccfd3d4c30669a5982"), looks := false }, kinds := [], alts := [], laidByText := true, laidKinds := [.data], laidTests := true, laidLooks := .later }
def RecordEndsUptoCardSaid : Prop := Claim7.holds Tryd.pinned (.plain (OpenSpec.upto recordEndsSpec)) recordEndsUptoCard
end Rows
end Go.Proofs.YtlpennnnkbnjmaaDoor
