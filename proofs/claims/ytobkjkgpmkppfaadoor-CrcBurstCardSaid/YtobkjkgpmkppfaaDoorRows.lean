/-
  NARROWER THAN 'FOR EVERY INPUT', by the rows' own cells (each row's printed sentence says how): CrcMany: laid · CrcAll: laid · CrcBurst: laid · CrcThree: laid.
  DERIVED. THE GIVEN ROWS OF THIS SEAT. 4 by the template 'for every input the law returns true; each argument reads behind the call as it read before'; 0 by the template 'total and deterministic' (their statements: YtobkjkgpmkppfaaDoorTotals.lean).
  GIVEN WITH THE SEED: the statements are not yours to turn. If you find one false, say at which input.
  Laid BY PROGRAM, IN A SANDBOX (cutbox-rows.mjs): the forced cells as the released guide's own fill.sh prints them over the translation 5b46b3425b80a134… (all of the seat's roots in one cut). By AI agents, Wed Nov 11 2026. No macro, syntax, notation, axiom, sorry.
-/
import Derived.Test.YtobkjkgpmkppfaaDoorChecked
import GoSem.Claim
import GoSem.ClaimJoined
import GoSem.ClaimMapViews
import Derived.JoinedTies
import Derived.KernelRfl
namespace Go.Proofs.YtobkjkgpmkppfaaDoor
/- THE CELL 'sum', in the pinned program and in every row, IS THE sha256 OF THE DUMP (.gsa) THAT YtobkjkgpmkppfaaDoorProg.lean LOADS. Nothing in Lean hashes anything: it is a label: what it is worth is what the hold of that sum in a sandbox is worth. -/
noncomputable def Tryd.pinned : Pinned := { name := "ytobkjkgpmkppfaadoor", sum := "5b46b3425b80a134c8a2742be95ede9d97d7686b85a5c6a72573849cc6567b1b", checked := Tryd.checked }
namespace Rows
def none {H : Type} : Left H := { results := [], args := [] }

/- WHAT THE LISTED PACKAGE-LEVEL VARIABLES READ AS WHEN THE CALL BEGINS. Each datum BY PROGRAM (the guide's laid-datum.mjs) off the statement by which the dump's own 'gosem.cut.vars' lays the variable. In a bare row this is a premise. The card (YtobkjkgpmkppfaaDoorCards.lean) ties it to the program's text. -/
def laid_stillroom_crc_nibbles {H : Type} : DataW H := .agg [.lit (.int .u32 0), .lit (.int .u32 274646895), .lit (.int .u32 549293790), .lit (.int .u32 820201905), .lit (.int .u32 1098587580), .lit (.int .u32 1361435347), .lit (.int .u32 1640403810), .lit (.int .u32 1905808397), .lit (.int .u32 2197175160), .lit (.int .u32 2460548119), .lit (.int .u32 2722870694), .lit (.int .u32 2987750089), .lit (.int .u32 3280807620), .lit (.int .u32 3553878443), .lit (.int .u32 3811616794), .lit (.int .u32 4084100981)]

/-- 'stillroomlaw1.CrcMany': WHATEVER THE INPUT: true; the input reads as it did. -/
def crcManySpec : ChangeSpec := { name := "crcMany", fn := fun _ => fun
  | [d1, d2] => { results := [.lit (.bool true)], args := [d1, d2] }
  | _ => none }
def crcManyRow : OpenClaim := { program := "ytobkjkgpmkppfaadoor", sum := "5b46b3425b80a134c8a2742be95ede9d97d7686b85a5c6a72573849cc6567b1b", func := "stillroom/stillroomlaw1.CrcMany", spec := "crcMany", named := ["stillroom/crc.nibbles"], apart := false, laid := [("stillroom/crc.nibbles", laid_stillroom_crc_nibbles)] }
def CrcManySaid : Prop := crcManyRow.holds Tryd.pinned (OpenSpec.ofChange crcManySpec)

/-- ITS FALSE NEIGHBOUR: 'it returns false'. Refute it at one input. -/
def crcManyWrong : ChangeSpec := { name := "crcMany", fn := fun _ => fun
  | [d1, d2] => { results := [.lit (.bool false)], args := [d1, d2] }
  | _ => none }
def CrcManyWrongFalsely : Prop := crcManyRow.holds Tryd.pinned (OpenSpec.ofChange crcManyWrong)

/-- 'stillroomlaw1.CrcAll': WHATEVER THE INPUT: true; the input reads as it did. -/
def crcAllSpec : ChangeSpec := { name := "crcAll", fn := fun _ => fun
  | [d1, d2] => { results := [.lit (.bool true)], args := [d1, d2] }
  | _ => none }
def crcAllRow : OpenClaim := { program := "ytobkjkgpmkppfaadoor", sum := "5b46b3425b80a134c8a2742be95ede9d97d7686b85a5c6a72573849cc6567b1b", func := "stillroom/stillroomlaw1.CrcAll", spec := "crcAll", named := ["stillroom/crc.nibbles"], apart := false, laid := [("stillroom/crc.nibbles", laid_stillroom_crc_nibbles)] }
def CrcAllSaid : Prop := crcAllRow.holds Tryd.pinned (OpenSpec.ofChange crcAllSpec)

/-- ITS FALSE NEIGHBOUR: 'it returns false'. Refute it at one input. -/
def crcAllWrong : ChangeSpec := { name := "crcAll", fn := fun _ => fun
  | [d1, d2] => { results := [.lit (.bool false)], args := [d1, d2] }
  | _ => none }
def CrcAllWrongFalsely : Prop := crcAllRow.holds Tryd.pinned (OpenSpec.ofChange crcAllWrong)

/-- 'stillroomlaw1.CrcBurst': WHATEVER THE INPUT: true; the input reads as it did. -/
def crcBurstSpec : ChangeSpec := { name := "crcBurst", fn := fun _ => fun
  | [d1, d2, d3] => { results := [.lit (.bool true)], args := [d1, d2, d3] }
  | _ => none }
def crcBurstRow : OpenClaim := { program := "ytobkjkgpmkppfaadoor", sum := "5b46b3425b80a134c8a2742be95ede9d97d7686b85a5c6a72573849cc6567b1b", func := "stillroom/stillroomlaw1.CrcBurst", spec := "crcBurst", named := ["stillroom/crc.nibbles"], apart := false, laid := [("stillroom/crc.nibbles", laid_stillroom_crc_nibbles)] }
def CrcBurstSaid : Prop := crcBurstRow.holds Tryd.pinned (OpenSpec.ofChange crcBurstSpec)

/-- ITS FALSE NEIGHBOUR: 'it returns false'. Refute it at one input. -/
def crcBurstWrong : ChangeSpec := { name := "crcBurst", fn := fun _ => fun
  | [d1, d2, d3] => { results := [.lit (.bool false)], args := [d1, d2, d3] }
  | _ => none }
def CrcBurstWrongFalsely : Prop := crcBurstRow.holds Tryd.pinned (OpenSpec.ofChange crcBurstWrong)

/-- 'stillroomlaw1.CrcThree': WHATEVER THE INPUT: true; the input reads as it did. -/
def crcThreeSpec : ChangeSpec := { name := "crcThree", fn := fun _ => fun
  | [d1, d2, d3] => { results := [.lit (.bool true)], args := [d1, d2, d3] }
  | _ => none }
def crcThreeRow : OpenClaim := { program := "ytobkjkgpmkppfaadoor", sum := "5b46b3425b80a134c8a2742be95ede9d97d7686b85a5c6a72573849cc6567b1b", func := "stillroom/stillroomlaw1.CrcThree", spec := "crcThree", named := ["stillroom/crc.nibbles"], apart := false, laid := [("stillroom/crc.nibbles", laid_stillroom_crc_nibbles)] }
def CrcThreeSaid : Prop := crcThreeRow.holds Tryd.pinned (OpenSpec.ofChange crcThreeSpec)

/-- ITS FALSE NEIGHBOUR: 'it returns false'. Refute it at one input. -/
def crcThreeWrong : ChangeSpec := { name := "crcThree", fn := fun _ => fun
  | [d1, d2, d3] => { results := [.lit (.bool false)], args := [d1, d2, d3] }
  | _ => none }
def CrcThreeWrongFalsely : Prop := crcThreeRow.holds Tryd.pinned (OpenSpec.ofChange crcThreeWrong)

/- THE SECOND FORM. 'bulk': how many values and letters a reading holds, each counted each time it is reached (what is shared counts as often as it is met; a slice's spare places count too). A statement '..UptoSaid' is the law's where the arguments, and the package variables that the reading takes, are together of bulk at most 1048576: NARROWER than '..Said'. Prove '..Said' where nothing that the law and all that it calls make is longer than what came in: it says more and counts as full. Else prove '..UptoSaid'. A law counts once. -/
mutual
def uptoBulk {H : Type} : DataW H → Nat
  | .lit (.string bytes) => bytes.length + 1
  | .lit _ => 1
  | .nil => 1
  | .ptr d => uptoBulk d + 1
  | .slice elems spare => uptoBulkAll elems + uptoBulkAll spare + 1
  | .agg parts => uptoBulkAll parts + 1
  | .iface _ d => uptoBulk d + 1
  | .map entries => uptoBulkEntries entries + 1
  | .held _ => 1
def uptoBulkAll {H : Type} : List (DataW H) → Nat
  | [] => 0
  | d :: r => uptoBulk d + uptoBulkAll r
def uptoBulkEntries {H : Type} : List (Lit × DataW H) → Nat
  | [] => 0
  | x :: r => uptoBulkEntry x + uptoBulkEntries r
def uptoBulkEntry {H : Type} : Lit × DataW H → Nat
  | (.string bytes, d) => bytes.length + uptoBulk d + 1
  | (_, d) => uptoBulk d + 1
 end
def uptoSmall : (H : Type) → List (DataW H) → Bool := fun _ ds => decide (uptoBulkAll ds ≤ 1048576)
def OpenSpec.upto (s : _root_.Go.ChangeSpec) : _root_.Go.OpenSpec := { _root_.Go.OpenSpec.ofChange s with cond := some uptoSmall }

/-- 'stillroomlaw1.CrcMany', WHERE WHAT IT READS IS OF BULK AT MOST 1048576: true; the input reads as it did. -/
def crcManyUptoRow : OpenClaim := { program := "ytobkjkgpmkppfaadoor", sum := "5b46b3425b80a134c8a2742be95ede9d97d7686b85a5c6a72573849cc6567b1b", func := "stillroom/stillroomlaw1.CrcMany", spec := "crcMany", named := ["stillroom/crc.nibbles"], apart := false, laid := [("stillroom/crc.nibbles", laid_stillroom_crc_nibbles)], narrowed := true }
def CrcManyUptoSaid : Prop := crcManyUptoRow.holds Tryd.pinned (OpenSpec.upto crcManySpec)

/-- 'stillroomlaw1.CrcAll', WHERE WHAT IT READS IS OF BULK AT MOST 1048576: true; the input reads as it did. -/
def crcAllUptoRow : OpenClaim := { program := "ytobkjkgpmkppfaadoor", sum := "5b46b3425b80a134c8a2742be95ede9d97d7686b85a5c6a72573849cc6567b1b", func := "stillroom/stillroomlaw1.CrcAll", spec := "crcAll", named := ["stillroom/crc.nibbles"], apart := false, laid := [("stillroom/crc.nibbles", laid_stillroom_crc_nibbles)], narrowed := true }
def CrcAllUptoSaid : Prop := crcAllUptoRow.holds Tryd.pinned (OpenSpec.upto crcAllSpec)

/-- 'stillroomlaw1.CrcBurst', WHERE WHAT IT READS IS OF BULK AT MOST 1048576: true; the input reads as it did. -/
def crcBurstUptoRow : OpenClaim := { program := "ytobkjkgpmkppfaadoor", sum := "5b46b3425b80a134c8a2742be95ede9d97d7686b85a5c6a72573849cc6567b1b", func := "stillroom/stillroomlaw1.CrcBurst", spec := "crcBurst", named := ["stillroom/crc.nibbles"], apart := false, laid := [("stillroom/crc.nibbles", laid_stillroom_crc_nibbles)], narrowed := true }
def CrcBurstUptoSaid : Prop := crcBurstUptoRow.holds Tryd.pinned (OpenSpec.upto crcBurstSpec)

/-- 'stillroomlaw1.CrcThree', WHERE WHAT IT READS IS OF BULK AT MOST 1048576: true; the input reads as it did. -/
def crcThreeUptoRow : OpenClaim := { program := "ytobkjkgpmkppfaadoor", sum := "5b46b3425b80a134c8a2742be95ede9d97d7686b85a5c6a72573849cc6567b1b", func := "stillroom/stillroomlaw1.CrcThree", spec := "crcThree", named := ["stillroom/crc.nibbles"], apart := false, laid := [("stillroom/crc.nibbles", laid_stillroom_crc_nibbles)], narrowed := true }
def CrcThreeUptoSaid : Prop := crcThreeUptoRow.holds Tryd.pinned (OpenSpec.upto crcThreeSpec)

end Rows
end Go.Proofs.YtobkjkgpmkppfaaDoor
