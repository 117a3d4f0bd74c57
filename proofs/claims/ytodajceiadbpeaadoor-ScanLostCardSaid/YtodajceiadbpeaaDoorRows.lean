/-
  NARROWER THAN 'FOR EVERY INPUT', by the rows' own cells (each row's printed sentence says how): ScanAll: laid · ScanLost: laid · ScanBytes: laid · ScanInside: laid.
  DERIVED. THE GIVEN ROWS OF THIS SEAT. 4 by the template 'for every input the law returns true; each argument reads behind the call as it read before'; 0 by the template 'total and deterministic' (their statements: YtodajceiadbpeaaDoorTotals.lean).
  GIVEN WITH THE SEED: the statements are not yours to turn. If you find one false, say at which input.
  Laid BY PROGRAM, IN A SANDBOX (cutbox-rows.mjs): the forced cells as the released guide's own fill.sh prints them over the translation 2b602398a5d577ef… (all of the seat's roots in one cut). By AI agents, Wed Nov 11 2026. No macro, syntax, notation, axiom, sorry.
-/
import Derived.Test.YtodajceiadbpeaaDoorChecked
import GoSem.Claim
import GoSem.ClaimJoined
import GoSem.ClaimMapViews
import Derived.JoinedTies
import Derived.KernelRfl
namespace Go.Proofs.YtodajceiadbpeaaDoor
/- THE CELL 'sum', in the pinned program and in every row, IS THE sha256 OF THE DUMP (.gsa) THAT YtodajceiadbpeaaDoorProg.lean LOADS. Nothing in Lean hashes anything: it is a label: what it is worth is what the hold of that sum in a sandbox is worth. -/
noncomputable def Tryd.pinned : Pinned := { name := "ytodajceiadbpeaadoor", sum := "2b602398a5d577ef0f0ea3fb19032434b399930849b1ab0d0436d45a9908d87e", checked := Tryd.checked }
namespace Rows
def none {H : Type} : Left H := { results := [], args := [] }

/- WHAT THE LISTED PACKAGE-LEVEL VARIABLES READ AS WHEN THE CALL BEGINS. Each datum BY PROGRAM (the guide's laid-datum.mjs) off the statement by which the dump's own 'gosem.cut.vars' lays the variable. In a bare row this is a premise. The card (YtodajceiadbpeaaDoorCards.lean) ties it to the program's text. -/
def laid_stillroom_crc_nibbles {H : Type} : DataW H := .agg [.lit (.int .u32 0), .lit (.int .u32 274646895), .lit (.int .u32 549293790), .lit (.int .u32 820201905), .lit (.int .u32 1098587580), .lit (.int .u32 1361435347), .lit (.int .u32 1640403810), .lit (.int .u32 1905808397), .lit (.int .u32 2197175160), .lit (.int .u32 2460548119), .lit (.int .u32 2722870694), .lit (.int .u32 2987750089), .lit (.int .u32 3280807620), .lit (.int .u32 3553878443), .lit (.int .u32 3811616794), .lit (.int .u32 4084100981)]

/-- 'stillroomlaw7.ScanAll': WHATEVER THE INPUT: true; the input reads as it did. -/
def scanAllSpec : ChangeSpec := { name := "scanAll", fn := fun _ => fun
  | [d1, d2, d3, d4] => { results := [.lit (.bool true)], args := [d1, d2, d3, d4] }
  | _ => none }
def scanAllRow : OpenClaim := { program := "ytodajceiadbpeaadoor", sum := "2b602398a5d577ef0f0ea3fb19032434b399930849b1ab0d0436d45a9908d87e", func := "stillroom/stillroomlaw7.ScanAll", spec := "scanAll", named := ["stillroom/crc.nibbles"], apart := false, laid := [("stillroom/crc.nibbles", laid_stillroom_crc_nibbles)] }
def ScanAllSaid : Prop := scanAllRow.holds Tryd.pinned (OpenSpec.ofChange scanAllSpec)

/-- ITS FALSE NEIGHBOUR: 'it returns false'. Refute it at one input. -/
def scanAllWrong : ChangeSpec := { name := "scanAll", fn := fun _ => fun
  | [d1, d2, d3, d4] => { results := [.lit (.bool false)], args := [d1, d2, d3, d4] }
  | _ => none }
def ScanAllWrongFalsely : Prop := scanAllRow.holds Tryd.pinned (OpenSpec.ofChange scanAllWrong)

/-- 'stillroomlaw7.ScanLost': WHATEVER THE INPUT: true; the input reads as it did. -/
def scanLostSpec : ChangeSpec := { name := "scanLost", fn := fun _ => fun
  | [d1, d2, d3, d4] => { results := [.lit (.bool true)], args := [d1, d2, d3, d4] }
  | _ => none }
def scanLostRow : OpenClaim := { program := "ytodajceiadbpeaadoor", sum := "2b602398a5d577ef0f0ea3fb19032434b399930849b1ab0d0436d45a9908d87e", func := "stillroom/stillroomlaw7.ScanLost", spec := "scanLost", named := ["stillroom/crc.nibbles"], apart := false, laid := [("stillroom/crc.nibbles", laid_stillroom_crc_nibbles)] }
def ScanLostSaid : Prop := scanLostRow.holds Tryd.pinned (OpenSpec.ofChange scanLostSpec)

/-- ITS FALSE NEIGHBOUR: 'it returns false'. Refute it at one input. -/
def scanLostWrong : ChangeSpec := { name := "scanLost", fn := fun _ => fun
  | [d1, d2, d3, d4] => { results := [.lit (.bool false)], args := [d1, d2, d3, d4] }
  | _ => none }
def ScanLostWrongFalsely : Prop := scanLostRow.holds Tryd.pinned (OpenSpec.ofChange scanLostWrong)

/-- 'stillroomlaw7.ScanBytes': WHATEVER THE INPUT: true; the input reads as it did. -/
def scanBytesSpec : ChangeSpec := { name := "scanBytes", fn := fun _ => fun
  | [d] => { results := [.lit (.bool true)], args := [d] }
  | _ => none }
def scanBytesRow : OpenClaim := { program := "ytodajceiadbpeaadoor", sum := "2b602398a5d577ef0f0ea3fb19032434b399930849b1ab0d0436d45a9908d87e", func := "stillroom/stillroomlaw7.ScanBytes", spec := "scanBytes", named := ["stillroom/crc.nibbles"], apart := false, laid := [("stillroom/crc.nibbles", laid_stillroom_crc_nibbles)] }
def ScanBytesSaid : Prop := scanBytesRow.holds Tryd.pinned (OpenSpec.ofChange scanBytesSpec)

/-- ITS FALSE NEIGHBOUR: 'it returns false'. Refute it at one input. -/
def scanBytesWrong : ChangeSpec := { name := "scanBytes", fn := fun _ => fun
  | [d] => { results := [.lit (.bool false)], args := [d] }
  | _ => none }
def ScanBytesWrongFalsely : Prop := scanBytesRow.holds Tryd.pinned (OpenSpec.ofChange scanBytesWrong)

/-- 'stillroomlaw7.ScanInside': WHATEVER THE INPUT: true; the input reads as it did. -/
def scanInsideSpec : ChangeSpec := { name := "scanInside", fn := fun _ => fun
  | [d1, d2] => { results := [.lit (.bool true)], args := [d1, d2] }
  | _ => none }
def scanInsideRow : OpenClaim := { program := "ytodajceiadbpeaadoor", sum := "2b602398a5d577ef0f0ea3fb19032434b399930849b1ab0d0436d45a9908d87e", func := "stillroom/stillroomlaw7.ScanInside", spec := "scanInside", named := ["stillroom/crc.nibbles"], apart := false, laid := [("stillroom/crc.nibbles", laid_stillroom_crc_nibbles)] }
def ScanInsideSaid : Prop := scanInsideRow.holds Tryd.pinned (OpenSpec.ofChange scanInsideSpec)

/-- ITS FALSE NEIGHBOUR: 'it returns false'. Refute it at one input. -/
def scanInsideWrong : ChangeSpec := { name := "scanInside", fn := fun _ => fun
  | [d1, d2] => { results := [.lit (.bool false)], args := [d1, d2] }
  | _ => none }
def ScanInsideWrongFalsely : Prop := scanInsideRow.holds Tryd.pinned (OpenSpec.ofChange scanInsideWrong)

/- THE SECOND FORM. 'bulk': how many values and letters a reading holds, each counted each time it is reached (what is shared counts as often as it is met; a slice's spare places count too). A statement '..UptoSaid' is the law's where the arguments, and the package variables that the reading takes, are together of bulk at most 1048576: NARROWER than '..Said'. Prove '..Said' where nothing that the law and all that it calls make is longer than what came in: it says more and counts as full. Else prove '..UptoSaid'. A law counts once. -/
mutual
def uptoBulk {H : Type} : DataW H → Nat
  | .lit (.string bytes) => bytes.length + 1
  | .lit _ => 1
  | .nil => 1
  | .ptr d => uptoBulk d + 1
  | .slice elems spare => uptoBulkAll elems + uptoBulkAll spare + 1
  | .agg parts => uptoBulkAll parts + 1
  | .iface _ d => uptoBulk d + 1
  | .map entries => uptoBulkEntries entries + 1
  | .held _ => 1
def uptoBulkAll {H : Type} : List (DataW H) → Nat
  | [] => 0
  | d :: r => uptoBulk d + uptoBulkAll r
def uptoBulkEntries {H : Type} : List (Lit × DataW H) → Nat
  | [] => 0
  | x :: r => uptoBulkEntry x + uptoBulkEntries r
def uptoBulkEntry {H : Type} : Lit × DataW H → Nat
  | (.string bytes, d) => bytes.length + uptoBulk d + 1
  | (_, d) => uptoBulk d + 1
 end
def uptoSmall : (H : Type) → List (DataW H) → Bool := fun _ ds => decide (uptoBulkAll ds ≤ 1048576)
def OpenSpec.upto (s : _root_.Go.ChangeSpec) : _root_.Go.OpenSpec := { _root_.Go.OpenSpec.ofChange s with cond := some uptoSmall }

/-- 'stillroomlaw7.ScanAll', WHERE WHAT IT READS IS OF BULK AT MOST 1048576: true; the input reads as it did. -/
def scanAllUptoRow : OpenClaim := { program := "ytodajceiadbpeaadoor", sum := "2b602398a5d577ef0f0ea3fb19032434b399930849b1ab0d0436d45a9908d87e", func := "stillroom/stillroomlaw7.ScanAll", spec := "scanAll", named := ["stillroom/crc.nibbles"], apart := false, laid := [("stillroom/crc.nibbles", laid_stillroom_crc_nibbles)], narrowed := true }
def ScanAllUptoSaid : Prop := scanAllUptoRow.holds Tryd.pinned (OpenSpec.upto scanAllSpec)

/-- 'stillroomlaw7.ScanLost', WHERE WHAT IT READS IS OF BULK AT MOST 1048576: true; the input reads as it did. -/
def scanLostUptoRow : OpenClaim := { program := "ytodajceiadbpeaadoor", sum := "2b602398a5d577ef0f0ea3fb19032434b399930849b1ab0d0436d45a9908d87e", func := "stillroom/stillroomlaw7.ScanLost", spec := "scanLost", named := ["stillroom/crc.nibbles"], apart := false, laid := [("stillroom/crc.nibbles", laid_stillroom_crc_nibbles)], narrowed := true }
def ScanLostUptoSaid : Prop := scanLostUptoRow.holds Tryd.pinned (OpenSpec.upto scanLostSpec)

/-- 'stillroomlaw7.ScanBytes', WHERE WHAT IT READS IS OF BULK AT MOST 1048576: true; the input reads as it did. -/
def scanBytesUptoRow : OpenClaim := { program := "ytodajceiadbpeaadoor", sum := "2b602398a5d577ef0f0ea3fb19032434b399930849b1ab0d0436d45a9908d87e", func := "stillroom/stillroomlaw7.ScanBytes", spec := "scanBytes", named := ["stillroom/crc.nibbles"], apart := false, laid := [("stillroom/crc.nibbles", laid_stillroom_crc_nibbles)], narrowed := true }
def ScanBytesUptoSaid : Prop := scanBytesUptoRow.holds Tryd.pinned (OpenSpec.upto scanBytesSpec)

/-- 'stillroomlaw7.ScanInside', WHERE WHAT IT READS IS OF BULK AT MOST 1048576: true; the input reads as it did. -/
def scanInsideUptoRow : OpenClaim := { program := "ytodajceiadbpeaadoor", sum := "2b602398a5d577ef0f0ea3fb19032434b399930849b1ab0d0436d45a9908d87e", func := "stillroom/stillroomlaw7.ScanInside", spec := "scanInside", named := ["stillroom/crc.nibbles"], apart := false, laid := [("stillroom/crc.nibbles", laid_stillroom_crc_nibbles)], narrowed := true }
def ScanInsideUptoSaid : Prop := scanInsideUptoRow.holds Tryd.pinned (OpenSpec.upto scanInsideSpec)

end Rows
end Go.Proofs.YtodajceiadbpeaaDoor
