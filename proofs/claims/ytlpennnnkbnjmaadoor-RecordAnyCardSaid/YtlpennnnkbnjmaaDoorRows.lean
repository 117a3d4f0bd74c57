/-
  NARROWER THAN 'FOR EVERY INPUT', by the rows' own cells (each row's printed sentence says how): RecordBytes: laid · RecordAny: laid · RecordCut: laid · RecordSpoilt: laid · RecordEnds: laid.
  DERIVED. THE GIVEN ROWS OF THIS SEAT. 5 by the template 'for every input the law returns true; each argument reads behind the call as it read before'; 0 by the template 'total and deterministic' (their statements: YtlpennnnkbnjmaaDoorTotals.lean).
  GIVEN WITH THE SEED: the statements are not yours to turn. If you find one false, say at which input.
  Laid BY PROGRAM, IN A SANDBOX (cutbox-rows.mjs): the forced cells as the released guide's own fill.sh prints them over the translation 6e016babe46deca0… (all of the seat's roots in one cut). By AI agents, Wed Nov 11 2026. No macro, syntax, notation, axiom, sorry.
-/
import Derived.Test.YtlpennnnkbnjmaaDoorChecked
import GoSem.Claim
import GoSem.ClaimJoined
import GoSem.ClaimMapViews
import Derived.JoinedTies
import Derived.KernelRfl
namespace Go.Proofs.YtlpennnnkbnjmaaDoor
/- THE CELL 'sum', in the pinned program and in every row, IS THE sha256 OF THE DUMP (.gsa) THAT YtlpennnnkbnjmaaDoorProg.lean LOADS. Nothing in Lean hashes anything: it is a label: what it is worth is what the hold of that sum in a sandbox is worth. -/
noncomputable def Tryd.pinned : Pinned := { name := "ytlpennnnkbnjmaadoor", sum := "6e016babe46deca097ba6d5f6302bb912a47a27997f4b630c4faa41f5226fc9c", checked := Tryd.checked }
namespace Rows
def none {H : Type} : Left H := { results := [], args := [] }

/- WHAT THE LISTED PACKAGE-LEVEL VARIABLES READ AS WHEN THE CALL BEGINS. Each datum BY PROGRAM (the guide's laid-datum.mjs) off the statement by which the dump's own 'gosem.cut.vars' lays the variable. In a bare row this is a premise. The card (YtlpennnnkbnjmaaDoorCards.lean) ties it to the program's text. -/
def laid_stillroom_crc_nibbles {H : Type} : DataW H := .agg [.lit (.int .u32 0), .lit (.int .u32 274646895), .lit (.int .u32 549293790), .lit (.int .u32 820201905), .lit (.int .u32 1098587580), .lit (.int .u32 1361435347), .lit (.int .u32 1640403810), .lit (.int .u32 1905808397), .lit (.int .u32 2197175160), .lit (.int .u32 2460548119), .lit (.int .u32 2722870694), .lit (.int .u32 2987750089), .lit (.int .u32 3280807620), .lit (.int .u32 3553878443), .lit (.int .u32 3811616794), .lit (.int .u32 4084100981)]

/-- 'stillroomlaw6.RecordBytes': WHATEVER THE INPUT: true; the input reads as it did. -/
def recordBytesSpec : ChangeSpec := { name := "recordBytes", fn := fun _ => fun
  | [d1, d2] => { results := [.lit (.bool true)], args := [d1, d2] }
  | _ => none }
def recordBytesRow : OpenClaim := { program := "ytlpennnnkbnjmaadoor", sum := "6e016babe46deca097ba6d5f6302bb912a47a27997f4b630c4faa41f5226fc9c", func := "stillroom/stillroomlaw6.RecordBytes", spec := "recordBytes", named := ["stillroom/crc.nibbles"], apart := false, laid := [("stillroom/crc.nibbles", laid_stillroom_crc_nibbles)] }
def RecordBytesSaid : Prop := recordBytesRow.holds Tryd.pinned (OpenSpec.ofChange recordBytesSpec)

/-- ITS FALSE NEIGHBOUR: 'it returns false'. Refute it at one input. -/
def recordBytesWrong : ChangeSpec := { name := "recordBytes", fn := fun _ => fun
  | [d1, d2] => { results := [.lit (.bool false)], args := [d1, d2] }
  | _ => none }
def RecordBytesWrongFalsely : Prop := recordBytesRow.holds Tryd.pinned (OpenSpec.ofChange recordBytesWrong)

/-- 'stillroomlaw6.RecordAny': WHATEVER THE INPUT: true; the input reads as it did. -/
def recordAnySpec : ChangeSpec := { name := "recordAny", fn := fun _ => fun
  | [d1, d2, d3, d4, d5, d6] => { results := [.lit (.bool true)], args := [d1, d2, d3, d4, d5, d6] }
  | _ => none }
def recordAnyRow : OpenClaim := { program := "ytlpennnnkbnjmaadoor", sum := "6e016babe46deca097ba6d5f6302bb912a47a27997f4b630c4faa41f5226fc9c", func := "stillroom/stillroomlaw6.RecordAny", spec := "recordAny", named := ["stillroom/crc.nibbles"], apart := false, laid := [("stillroom/crc.nibbles", laid_stillroom_crc_nibbles)] }
def RecordAnySaid : Prop := recordAnyRow.holds Tryd.pinned (OpenSpec.ofChange recordAnySpec)

/-- ITS FALSE NEIGHBOUR: 'it returns false'. Refute it at one input. -/
def recordAnyWrong : ChangeSpec := { name := "recordAny", fn := fun _ => fun
  | [d1, d2, d3, d4, d5, d6] => { results := [.lit (.bool false)], args := [d1, d2, d3, d4, d5, d6] }
  | _ => none }
def RecordAnyWrongFalsely : Prop := recordAnyRow.holds Tryd.pinned (OpenSpec.ofChange recordAnyWrong)

/-- 'stillroomlaw6.RecordCut': WHATEVER THE INPUT: true; the input reads as it did. -/
def recordCutSpec : ChangeSpec := { name := "recordCut", fn := fun _ => fun
  | [d1, d2] => { results := [.lit (.bool true)], args := [d1, d2] }
  | _ => none }
def recordCutRow : OpenClaim := { program := "ytlpennnnkbnjmaadoor", sum := "6e016babe46deca097ba6d5f6302bb912a47a27997f4b630c4faa41f5226fc9c", func := "stillroom/stillroomlaw6.RecordCut", spec := "recordCut", named := ["stillroom/crc.nibbles"], apart := false, laid := [("stillroom/crc.nibbles", laid_stillroom_crc_nibbles)] }
def RecordCutSaid : Prop := recordCutRow.holds Tryd.pinned (OpenSpec.ofChange recordCutSpec)

/-- ITS FALSE NEIGHBOUR: 'it returns false'. Refute it at one input. -/
def recordCutWrong : ChangeSpec := { name := "recordCut", fn := fun _ => fun
  | [d1, d2] => { results := [.lit (.bool false)], args := [d1, d2] }
  | _ => none }
def RecordCutWrongFalsely : Prop := recordCutRow.holds Tryd.pinned (OpenSpec.ofChange recordCutWrong)

/-- 'stillroomlaw6.RecordSpoilt': WHATEVER THE INPUT: true; the input reads as it did. -/
def recordSpoiltSpec : ChangeSpec := { name := "recordSpoilt", fn := fun _ => fun
  | [d1, d2, d3] => { results := [.lit (.bool true)], args := [d1, d2, d3] }
  | _ => none }
def recordSpoiltRow : OpenClaim := { program := "ytlpennnnkbnjmaadoor", sum := "6e016babe46deca097ba6d5f6302bb912a47a27997f4b630c4faa41f5226fc9c", func := "stillroom/stillroomlaw6.RecordSpoilt", spec := "recordSpoilt", named := ["stillroom/crc.nibbles"], apart := false, laid := [("stillroom/crc.nibbles", laid_stillroom_crc_nibbles)] }
def RecordSpoiltSaid : Prop := recordSpoiltRow.holds Tryd.pinned (OpenSpec.ofChange recordSpoiltSpec)

/-- ITS FALSE NEIGHBOUR: 'it returns false'. Refute it at one input. -/
def recordSpoiltWrong : ChangeSpec := { name := "recordSpoilt", fn := fun _ => fun
  | [d1, d2, d3] => { results := [.lit (.bool false)], args := [d1, d2, d3] }
  | _ => none }
def RecordSpoiltWrongFalsely : Prop := recordSpoiltRow.holds Tryd.pinned (OpenSpec.ofChange recordSpoiltWrong)

/-- 'stillroomlaw6.RecordEnds': WHATEVER THE INPUT: true; the input reads as it did. -/
def recordEndsSpec : ChangeSpec := { name := "recordEnds", fn := fun _ => fun
  | [d1, d2, d3, d4] => { results := [.lit (.bool true)], args := [d1, d2, d3, d4] }
  | _ => none }
def recordEndsRow : OpenClaim := { program := "ytlpennnnkbnjmaadoor", sum := "6e016babe46deca097ba6d5f6302bb912a47a27997f4b630c4faa41f5226fc9c", func := "stillroom/stillroomlaw6.RecordEnds", spec := "recordEnds", named := ["stillroom/crc.nibbles"], apart := false, laid := [("stillroom/crc.nibbles", laid_stillroom_crc_nibbles)] }
def RecordEndsSaid : Prop := recordEndsRow.holds Tryd.pinned (OpenSpec.ofChange recordEndsSpec)

/-- ITS FALSE NEIGHBOUR: 'it returns false'. Refute it at one input. -/
def recordEndsWrong : ChangeSpec := { name := "recordEnds", fn := fun _ => fun
  | [d1, d2, d3, d4] => { results := [.lit (.bool false)], args := [d1, d2, d3, d4] }
  | _ => none }
def RecordEndsWrongFalsely : Prop := recordEndsRow.holds Tryd.pinned (OpenSpec.ofChange recordEndsWrong)

/- THE SECOND FORM. 'bulk': how many values and letters a reading holds, each counted each time it is reached (what is shared counts as often as it is met; a slice's spare places count too). A statement '..UptoSaid' is the law's where the arguments, and the package variables that the reading takes, are together of bulk at most 1048576: NARROWER than '..Said'. Prove '..Said' where nothing that the law and all that it calls make is longer than what came in: it says more and counts as full. Else prove '..UptoSaid'. A law counts once. -/
mutual
def uptoBulk {H : Type} : DataW H → Nat
  | .lit (.string bytes) => bytes.length + 1
  | .lit _ => 1
  | .nil => 1
  | .ptr d => uptoBulk d + 1
  | .slice elems spare => uptoBulkAll elems + uptoBulkAll spare + 1
  | .agg parts => uptoBulkAll parts + 1
  | .iface _ d => uptoBulk d + 1
  | .map entries => uptoBulkEntries entries + 1
  | .held _ => 1
def uptoBulkAll {H : Type} : List (DataW H) → Nat
  | [] => 0
  | d :: r => uptoBulk d + uptoBulkAll r
def uptoBulkEntries {H : Type} : List (Lit × DataW H) → Nat
  | [] => 0
  | x :: r => uptoBulkEntry x + uptoBulkEntries r
def uptoBulkEntry {H : Type} : Lit × DataW H → Nat
  | (.string bytes, d) => bytes.length + uptoBulk d + 1
  | (_, d) => uptoBulk d + 1
 end
def uptoSmall : (H : Type) → List (DataW H) → Bool := fun _ ds => decide (uptoBulkAll ds ≤ 1048576)
def OpenSpec.upto (s : _root_.Go.ChangeSpec) : _root_.Go.OpenSpec := { _root_.Go.OpenSpec.ofChange s with cond := some uptoSmall }

/-- 'stillroomlaw6.RecordBytes', WHERE WHAT IT READS IS OF BULK AT MOST 1048576: true; the input reads as it did. -/
def recordBytesUptoRow : OpenClaim := { program := "ytlpennnnkbnjmaadoor", sum := "6e016babe46deca097ba6d5f6302bb912a47a27997f4b630c4faa41f5226fc9c", func := "stillroom/stillroomlaw6.RecordBytes", spec := "recordBytes", named := ["stillroom/crc.nibbles"], apart := false, laid := [("stillroom/crc.nibbles", laid_stillroom_crc_nibbles)], narrowed := true }
def RecordBytesUptoSaid : Prop := recordBytesUptoRow.holds Tryd.pinned (OpenSpec.upto recordBytesSpec)

/-- 'stillroomlaw6.RecordAny', WHERE WHAT IT READS IS OF BULK AT MOST 1048576: true; the input reads as it did. -/
def recordAnyUptoRow : OpenClaim := { program := "ytlpennnnkbnjmaadoor", sum := "6e016babe46deca097ba6d5f6302bb912a47a27997f4b630c4faa41f5226fc9c", func := "stillroom/stillroomlaw6.RecordAny", spec := "recordAny", named := ["stillroom/crc.nibbles"], apart := false, laid := [("stillroom/crc.nibbles", laid_stillroom_crc_nibbles)], narrowed := true }
def RecordAnyUptoSaid : Prop := recordAnyUptoRow.holds Tryd.pinned (OpenSpec.upto recordAnySpec)

/-- 'stillroomlaw6.RecordCut', WHERE WHAT IT READS IS OF BULK AT MOST 1048576: true; the input reads as it did. -/
def recordCutUptoRow : OpenClaim := { program := "ytlpennnnkbnjmaadoor", sum := "6e016babe46deca097ba6d5f6302bb912a47a27997f4b630c4faa41f5226fc9c", func := "stillroom/stillroomlaw6.RecordCut", spec := "recordCut", named := ["stillroom/crc.nibbles"], apart := false, laid := [("stillroom/crc.nibbles", laid_stillroom_crc_nibbles)], narrowed := true }
def RecordCutUptoSaid : Prop := recordCutUptoRow.holds Tryd.pinned (OpenSpec.upto recordCutSpec)

/-- 'stillroomlaw6.RecordSpoilt', WHERE WHAT IT READS IS OF BULK AT MOST 1048576: true; the input reads as it did. -/
def recordSpoiltUptoRow : OpenClaim := { program := "ytlpennnnkbnjmaadoor", sum := "6e016babe46deca097ba6d5f6302bb912a47a27997f4b630c4faa41f5226fc9c", func := "stillroom/stillroomlaw6.RecordSpoilt", spec := "recordSpoilt", named := ["stillroom/crc.nibbles"], apart := false, laid := [("stillroom/crc.nibbles", laid_stillroom_crc_nibbles)], narrowed := true }
def RecordSpoiltUptoSaid : Prop := recordSpoiltUptoRow.holds Tryd.pinned (OpenSpec.upto recordSpoiltSpec)

/-- 'stillroomlaw6.RecordEnds', WHERE WHAT IT READS IS OF BULK AT MOST 1048576: true; the input reads as it did. -/
def recordEndsUptoRow : OpenClaim := { program := "ytlpennnnkbnjmaadoor", sum := "6e016babe46deca097ba6d5f6302bb912a47a27997f4b630c4faa41f5226fc9c", func := "stillroom/stillroomlaw6.RecordEnds", spec := "recordEnds", named := ["stillroom/crc.nibbles"], apart := false, laid := [("stillroom/crc.nibbles", laid_stillroom_crc_nibbles)], narrowed := true }
def RecordEndsUptoSaid : Prop := recordEndsUptoRow.holds Tryd.pinned (OpenSpec.upto recordEndsSpec)

end Rows
end Go.Proofs.YtlpennnnkbnjmaaDoor
