/-
  NARROWER THAN 'FOR EVERY INPUT', by the rows' own cells (each row's printed sentence says how): SlotsAll: laid · SlotsAgain: laid · SlotsNone: laid · SlotsSpoilt: laid · SlotsMany: laid.
  DERIVED. THE GIVEN ROWS OF THIS SEAT. 5 by the template 'for every input the law returns true; each argument reads behind the call as it read before'; 0 by the template 'total and deterministic' (their statements: YtdonblfidohncaaDoorTotals.lean).
  GIVEN WITH THE SEED: the statements are not yours to turn. If you find one false, say at which input.
  Laid BY PROGRAM, IN A SANDBOX (cutbox-rows.mjs): the forced cells as the released guide's own fill.sh prints them over the translation 782563f0c6888ca9… (all of the seat's roots in one cut). By AI agents, Wed Nov 11 2026. No macro, syntax, notation, axiom, sorry.
-/
import Derived.Test.YtdonblfidohncaaDoorChecked
import GoSem.Claim
import GoSem.ClaimJoined
import GoSem.ClaimMapViews
import Derived.JoinedTies
import Derived.KernelRfl
namespace Go.Proofs.YtdonblfidohncaaDoor
/- THE CELL 'sum', in the pinned program and in every row, IS THE sha256 OF THE DUMP (.gsa) THAT YtdonblfidohncaaDoorProg.lean LOADS. Nothing in Lean hashes anything: it is a label: what it is worth is what the hold of that sum in a sandbox is worth. -/
noncomputable def Tryd.pinned : Pinned := { name := "ytdonblfidohncaadoor", sum := "782563f0c6888ca967738744868643513de7a2d88fd30dd0e93f9c0bc62c811f", checked := Tryd.checked }
namespace Rows
def none {H : Type} : Left H := { results := [], args := [] }

/- WHAT THE LISTED PACKAGE-LEVEL VARIABLES READ AS WHEN THE CALL BEGINS. Each datum BY PROGRAM (the guide's laid-datum.mjs) off the statement by which the dump's own 'gosem.cut.vars' lays the variable. In a bare row this is a premise. The card (YtdonblfidohncaaDoorCards.lean) ties it to the program's text. -/
def laid_stillroom_crc_nibbles {H : Type} : DataW H := .agg [.lit (.int .u32 0), .lit (.int .u32 274646895), .lit (.int .u32 549293790), .lit (.int .u32 820201905), .lit (.int .u32 1098587580), .lit (.int .u32 1361435347), .lit (.int .u32 1640403810), .lit (.int .u32 1905808397), .lit (.int .u32 2197175160), .lit (.int .u32 2460548119), .lit (.int .u32 2722870694), .lit (.int .u32 2987750089), .lit (.int .u32 3280807620), .lit (.int .u32 3553878443), .lit (.int .u32 3811616794), .lit (.int .u32 4084100981)]

/-- 'stillroomlaw9.SlotsAll': WHATEVER THE INPUT: true; the input reads as it did. -/
def slotsAllSpec : ChangeSpec := { name := "slotsAll", fn := fun _ => fun
  | [d1, d2, d3] => { results := [.lit (.bool true)], args := [d1, d2, d3] }
  | _ => none }
def slotsAllRow : OpenClaim := { program := "ytdonblfidohncaadoor", sum := "782563f0c6888ca967738744868643513de7a2d88fd30dd0e93f9c0bc62c811f", func := "stillroom/stillroomlaw9.SlotsAll", spec := "slotsAll", inPlace := ["maps.clone"], unfollowed := true, recurses := true, named := ["stillroom/crc.nibbles"], apart := false, laid := [("stillroom/crc.nibbles", laid_stillroom_crc_nibbles)] }
def SlotsAllSaid : Prop := slotsAllRow.holds Tryd.pinned (OpenSpec.ofChange slotsAllSpec)

/-- ITS FALSE NEIGHBOUR: 'it returns false'. Refute it at one input. -/
def slotsAllWrong : ChangeSpec := { name := "slotsAll", fn := fun _ => fun
  | [d1, d2, d3] => { results := [.lit (.bool false)], args := [d1, d2, d3] }
  | _ => none }
def SlotsAllWrongFalsely : Prop := slotsAllRow.holds Tryd.pinned (OpenSpec.ofChange slotsAllWrong)

/-- 'stillroomlaw9.SlotsAgain': WHATEVER THE INPUT: true; the input reads as it did. -/
def slotsAgainSpec : ChangeSpec := { name := "slotsAgain", fn := fun _ => fun
  | [d1, d2] => { results := [.lit (.bool true)], args := [d1, d2] }
  | _ => none }
def slotsAgainRow : OpenClaim := { program := "ytdonblfidohncaadoor", sum := "782563f0c6888ca967738744868643513de7a2d88fd30dd0e93f9c0bc62c811f", func := "stillroom/stillroomlaw9.SlotsAgain", spec := "slotsAgain", inPlace := ["maps.clone"], unfollowed := true, recurses := true, named := ["stillroom/crc.nibbles"], apart := false, laid := [("stillroom/crc.nibbles", laid_stillroom_crc_nibbles)] }
def SlotsAgainSaid : Prop := slotsAgainRow.holds Tryd.pinned (OpenSpec.ofChange slotsAgainSpec)

/-- ITS FALSE NEIGHBOUR: 'it returns false'. Refute it at one input. -/
def slotsAgainWrong : ChangeSpec := { name := "slotsAgain", fn := fun _ => fun
  | [d1, d2] => { results := [.lit (.bool false)], args := [d1, d2] }
  | _ => none }
def SlotsAgainWrongFalsely : Prop := slotsAgainRow.holds Tryd.pinned (OpenSpec.ofChange slotsAgainWrong)

/-- 'stillroomlaw9.SlotsNone': WHATEVER THE INPUT: true; the input reads as it did. -/
def slotsNoneSpec : ChangeSpec := { name := "slotsNone", fn := fun _ => fun
  | [] => { results := [.lit (.bool true)], args := [] }
  | _ => none }
def slotsNoneRow : OpenClaim := { program := "ytdonblfidohncaadoor", sum := "782563f0c6888ca967738744868643513de7a2d88fd30dd0e93f9c0bc62c811f", func := "stillroom/stillroomlaw9.SlotsNone", spec := "slotsNone", inPlace := ["maps.clone"], named := ["stillroom/crc.nibbles"], apart := false, laid := [("stillroom/crc.nibbles", laid_stillroom_crc_nibbles)] }
def SlotsNoneSaid : Prop := slotsNoneRow.holds Tryd.pinned (OpenSpec.ofChange slotsNoneSpec)

/-- ITS FALSE NEIGHBOUR: 'it returns false'. Refute it at one input. -/
def slotsNoneWrong : ChangeSpec := { name := "slotsNone", fn := fun _ => fun
  | [] => { results := [.lit (.bool false)], args := [] }
  | _ => none }
def SlotsNoneWrongFalsely : Prop := slotsNoneRow.holds Tryd.pinned (OpenSpec.ofChange slotsNoneWrong)

/-- 'stillroomlaw9.SlotsSpoilt': WHATEVER THE INPUT: true; the input reads as it did. -/
def slotsSpoiltSpec : ChangeSpec := { name := "slotsSpoilt", fn := fun _ => fun
  | [d1, d2, d3, d4, d5] => { results := [.lit (.bool true)], args := [d1, d2, d3, d4, d5] }
  | _ => none }
def slotsSpoiltRow : OpenClaim := { program := "ytdonblfidohncaadoor", sum := "782563f0c6888ca967738744868643513de7a2d88fd30dd0e93f9c0bc62c811f", func := "stillroom/stillroomlaw9.SlotsSpoilt", spec := "slotsSpoilt", inPlace := ["maps.clone"], named := ["stillroom/crc.nibbles"], apart := false, laid := [("stillroom/crc.nibbles", laid_stillroom_crc_nibbles)] }
def SlotsSpoiltSaid : Prop := slotsSpoiltRow.holds Tryd.pinned (OpenSpec.ofChange slotsSpoiltSpec)

/-- ITS FALSE NEIGHBOUR: 'it returns false'. Refute it at one input. -/
def slotsSpoiltWrong : ChangeSpec := { name := "slotsSpoilt", fn := fun _ => fun
  | [d1, d2, d3, d4, d5] => { results := [.lit (.bool false)], args := [d1, d2, d3, d4, d5] }
  | _ => none }
def SlotsSpoiltWrongFalsely : Prop := slotsSpoiltRow.holds Tryd.pinned (OpenSpec.ofChange slotsSpoiltWrong)

/-- 'stillroomlaw9.SlotsMany': WHATEVER THE INPUT: true; the input reads as it did. -/
def slotsManySpec : ChangeSpec := { name := "slotsMany", fn := fun _ => fun
  | [d] => { results := [.lit (.bool true)], args := [d] }
  | _ => none }
def slotsManyRow : OpenClaim := { program := "ytdonblfidohncaadoor", sum := "782563f0c6888ca967738744868643513de7a2d88fd30dd0e93f9c0bc62c811f", func := "stillroom/stillroomlaw9.SlotsMany", spec := "slotsMany", inPlace := ["maps.clone"], named := ["stillroom/crc.nibbles"], apart := false, laid := [("stillroom/crc.nibbles", laid_stillroom_crc_nibbles)] }
def SlotsManySaid : Prop := slotsManyRow.holds Tryd.pinned (OpenSpec.ofChange slotsManySpec)

/-- ITS FALSE NEIGHBOUR: 'it returns false'. Refute it at one input. -/
def slotsManyWrong : ChangeSpec := { name := "slotsMany", fn := fun _ => fun
  | [d] => { results := [.lit (.bool false)], args := [d] }
  | _ => none }
def SlotsManyWrongFalsely : Prop := slotsManyRow.holds Tryd.pinned (OpenSpec.ofChange slotsManyWrong)

/- THE SECOND FORM. 'bulk': how many values and letters a reading holds, each counted each time it is reached (what is shared counts as often as it is met; a slice's spare places count too). A statement '..UptoSaid' is the law's where the arguments, and the package variables that the reading takes, are together of bulk at most 1048576: NARROWER than '..Said'. Prove '..Said' where nothing that the law and all that it calls make is longer than what came in: it says more and counts as full. Else prove '..UptoSaid'. A law counts once. -/
mutual
def uptoBulk {H : Type} : DataW H → Nat
  | .lit (.string bytes) => bytes.length + 1
  | .lit _ => 1
  | .nil => 1
  | .ptr d => uptoBulk d + 1
  | .slice elems spare => uptoBulkAll elems + uptoBulkAll spare + 1
  | .agg parts => uptoBulkAll parts + 1
  | .iface _ d => uptoBulk d + 1
  | .map entries => uptoBulkEntries entries + 1
  | .held _ => 1
def uptoBulkAll {H : Type} : List (DataW H) → Nat
  | [] => 0
  | d :: r => uptoBulk d + uptoBulkAll r
def uptoBulkEntries {H : Type} : List (Lit × DataW H) → Nat
  | [] => 0
  | x :: r => uptoBulkEntry x + uptoBulkEntries r
def uptoBulkEntry {H : Type} : Lit × DataW H → Nat
  | (.string bytes, d) => bytes.length + uptoBulk d + 1
  | (_, d) => uptoBulk d + 1
 end
def uptoSmall : (H : Type) → List (DataW H) → Bool := fun _ ds => decide (uptoBulkAll ds ≤ 1048576)
def OpenSpec.upto (s : _root_.Go.ChangeSpec) : _root_.Go.OpenSpec := { _root_.Go.OpenSpec.ofChange s with cond := some uptoSmall }

/-- 'stillroomlaw9.SlotsAll', WHERE WHAT IT READS IS OF BULK AT MOST 1048576: true; the input reads as it did. -/
def slotsAllUptoRow : OpenClaim := { program := "ytdonblfidohncaadoor", sum := "782563f0c6888ca967738744868643513de7a2d88fd30dd0e93f9c0bc62c811f", func := "stillroom/stillroomlaw9.SlotsAll", spec := "slotsAll", inPlace := ["maps.clone"], unfollowed := true, recurses := true, named := ["stillroom/crc.nibbles"], apart := false, laid := [("stillroom/crc.nibbles", laid_stillroom_crc_nibbles)], narrowed := true }
def SlotsAllUptoSaid : Prop := slotsAllUptoRow.holds Tryd.pinned (OpenSpec.upto slotsAllSpec)

/-- 'stillroomlaw9.SlotsAgain', WHERE WHAT IT READS IS OF BULK AT MOST 1048576: true; the input reads as it did. -/
def slotsAgainUptoRow : OpenClaim := { program := "ytdonblfidohncaadoor", sum := "782563f0c6888ca967738744868643513de7a2d88fd30dd0e93f9c0bc62c811f", func := "stillroom/stillroomlaw9.SlotsAgain", spec := "slotsAgain", inPlace := ["maps.clone"], unfollowed := true, recurses := true, named := ["stillroom/crc.nibbles"], apart := false, laid := [("stillroom/crc.nibbles", laid_stillroom_crc_nibbles)], narrowed := true }
def SlotsAgainUptoSaid : Prop := slotsAgainUptoRow.holds Tryd.pinned (OpenSpec.upto slotsAgainSpec)

/-- 'stillroomlaw9.SlotsNone', WHERE WHAT IT READS IS OF BULK AT MOST 1048576: true; the input reads as it did. -/
def slotsNoneUptoRow : OpenClaim := { program := "ytdonblfidohncaadoor", sum := "782563f0c6888ca967738744868643513de7a2d88fd30dd0e93f9c0bc62c811f", func := "stillroom/stillroomlaw9.SlotsNone", spec := "slotsNone", inPlace := ["maps.clone"], named := ["stillroom/crc.nibbles"], apart := false, laid := [("stillroom/crc.nibbles", laid_stillroom_crc_nibbles)], narrowed := true }
def SlotsNoneUptoSaid : Prop := slotsNoneUptoRow.holds Tryd.pinned (OpenSpec.upto slotsNoneSpec)

/-- 'stillroomlaw9.SlotsSpoilt', WHERE WHAT IT READS IS OF BULK AT MOST 1048576: true; the input reads as it did. -/
def slotsSpoiltUptoRow : OpenClaim := { program := "ytdonblfidohncaadoor", sum := "782563f0c6888ca967738744868643513de7a2d88fd30dd0e93f9c0bc62c811f", func := "stillroom/stillroomlaw9.SlotsSpoilt", spec := "slotsSpoilt", inPlace := ["maps.clone"], named := ["stillroom/crc.nibbles"], apart := false, laid := [("stillroom/crc.nibbles", laid_stillroom_crc_nibbles)], narrowed := true }
def SlotsSpoiltUptoSaid : Prop := slotsSpoiltUptoRow.holds Tryd.pinned (OpenSpec.upto slotsSpoiltSpec)

/-- 'stillroomlaw9.SlotsMany', WHERE WHAT IT READS IS OF BULK AT MOST 1048576: true; the input reads as it did. -/
def slotsManyUptoRow : OpenClaim := { program := "ytdonblfidohncaadoor", sum := "782563f0c6888ca967738744868643513de7a2d88fd30dd0e93f9c0bc62c811f", func := "stillroom/stillroomlaw9.SlotsMany", spec := "slotsMany", inPlace := ["maps.clone"], named := ["stillroom/crc.nibbles"], apart := false, laid := [("stillroom/crc.nibbles", laid_stillroom_crc_nibbles)], narrowed := true }
def SlotsManyUptoSaid : Prop := slotsManyUptoRow.holds Tryd.pinned (OpenSpec.upto slotsManySpec)

end Rows
end Go.Proofs.YtdonblfidohncaaDoor
