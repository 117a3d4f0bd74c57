/-
  NARROWER THAN 'FOR EVERY INPUT', by the rows' own cells (each row's printed sentence says how): ManifestMany: laid · ManifestOwn: laid · TenantBytes: laid · ManifestNone: laid.
  DERIVED. THE GIVEN ROWS OF THIS SEAT. 4 by the template 'for every input the law returns true; each argument reads behind the call as it read before'; 0 by the template 'total and deterministic' (their statements: YtpgclhpobijdeaaDoorTotals.lean).
  GIVEN WITH THE SEED: the statements are not yours to turn. If you find one false, say at which input.
  Laid BY PROGRAM, IN A SANDBOX (cutbox-rows.mjs): the forced cells as the released guide's own fill.sh prints them over the translation 936127106d244463… (all of the seat's roots in one cut). By AI agents, Wed Nov 11 2026. No macro, syntax, notation, axiom, sorry.
-/
import Derived.Test.YtpgclhpobijdeaaDoorChecked
import GoSem.Claim
import GoSem.ClaimJoined
import GoSem.ClaimMapViews
import Derived.JoinedTies
import Derived.KernelRfl
namespace Go.Proofs.YtpgclhpobijdeaaDoor
/- THE CELL 'sum', in the pinned program and in every row, IS THE sha256 OF THE DUMP (.gsa) THAT YtpgclhpobijdeaaDoorProg.lean LOADS. Nothing in Lean hashes anything: it is a label: what it is worth is what the hold of that sum in a sandbox is worth. -/
noncomputable def Tryd.pinned : Pinned := { name := "ytpgclhpobijdeaadoor", sum := "936127106d244463f0203789d3c6a0fa7b451f1834927fbbc2f1d89171d27542", checked := Tryd.checked }
namespace Rows
def none {H : Type} : Left H := { results := [], args := [] }

/- WHAT THE LISTED PACKAGE-LEVEL VARIABLES READ AS WHEN THE CALL BEGINS. Each datum BY PROGRAM (the guide's laid-datum.mjs) off the statement by which the dump's own 'gosem.cut.vars' lays the variable. In a bare row this is a premise. The card (YtpgclhpobijdeaaDoorCards.lean) ties it to the program's text. -/
def laid_stillroom_crc_nibbles {H : Type} : DataW H := .agg [.lit (.int .u32 0), .lit (.int .u32 274646895), .lit (.int .u32 549293790), .lit (.int .u32 820201905), .lit (.int .u32 1098587580), .lit (.int .u32 1361435347), .lit (.int .u32 1640403810), .lit (.int .u32 1905808397), .lit (.int .u32 2197175160), .lit (.int .u32 2460548119), .lit (.int .u32 2722870694), .lit (.int .u32 2987750089), .lit (.int .u32 3280807620), .lit (.int .u32 3553878443), .lit (.int .u32 3811616794), .lit (.int .u32 4084100981)]

/-- 'stillroomlaw10.ManifestMany': WHATEVER THE INPUT: true; the input reads as it did. -/
def manifestManySpec : ChangeSpec := { name := "manifestMany", fn := fun _ => fun
  | [d1, d2] => { results := [.lit (.bool true)], args := [d1, d2] }
  | _ => none }
def manifestManyRow : OpenClaim := { program := "ytpgclhpobijdeaadoor", sum := "936127106d244463f0203789d3c6a0fa7b451f1834927fbbc2f1d89171d27542", func := "stillroom/stillroomlaw10.ManifestMany", spec := "manifestMany", inPlace := ["maps.clone", "slices.overlaps[stillroom/api.Tenant]"], unfollowed := true, recurses := true, named := ["stillroom/crc.nibbles"], apart := false, laid := [("stillroom/crc.nibbles", laid_stillroom_crc_nibbles)] }
def ManifestManySaid : Prop := manifestManyRow.holds Tryd.pinned (OpenSpec.ofChange manifestManySpec)

/-- ITS FALSE NEIGHBOUR: 'it returns false'. Refute it at one input. -/
def manifestManyWrong : ChangeSpec := { name := "manifestMany", fn := fun _ => fun
  | [d1, d2] => { results := [.lit (.bool false)], args := [d1, d2] }
  | _ => none }
def ManifestManyWrongFalsely : Prop := manifestManyRow.holds Tryd.pinned (OpenSpec.ofChange manifestManyWrong)

/-- 'stillroomlaw10.ManifestOwn': WHATEVER THE INPUT: true; the input reads as it did. -/
def manifestOwnSpec : ChangeSpec := { name := "manifestOwn", fn := fun _ => fun
  | [d] => { results := [.lit (.bool true)], args := [d] }
  | _ => none }
def manifestOwnRow : OpenClaim := { program := "ytpgclhpobijdeaadoor", sum := "936127106d244463f0203789d3c6a0fa7b451f1834927fbbc2f1d89171d27542", func := "stillroom/stillroomlaw10.ManifestOwn", spec := "manifestOwn", inPlace := ["maps.clone", "slices.overlaps[stillroom/api.Tenant]"], unfollowed := true, recurses := true, named := ["stillroom/crc.nibbles"], apart := false, laid := [("stillroom/crc.nibbles", laid_stillroom_crc_nibbles)] }
def ManifestOwnSaid : Prop := manifestOwnRow.holds Tryd.pinned (OpenSpec.ofChange manifestOwnSpec)

/-- ITS FALSE NEIGHBOUR: 'it returns false'. Refute it at one input. -/
def manifestOwnWrong : ChangeSpec := { name := "manifestOwn", fn := fun _ => fun
  | [d] => { results := [.lit (.bool false)], args := [d] }
  | _ => none }
def ManifestOwnWrongFalsely : Prop := manifestOwnRow.holds Tryd.pinned (OpenSpec.ofChange manifestOwnWrong)

/-- 'stillroomlaw10.TenantBytes': WHATEVER THE INPUT: true; the input reads as it did. -/
def tenantBytesSpec : ChangeSpec := { name := "tenantBytes", fn := fun _ => fun
  | [d1, d2, d3] => { results := [.lit (.bool true)], args := [d1, d2, d3] }
  | _ => none }
def tenantBytesRow : OpenClaim := { program := "ytpgclhpobijdeaadoor", sum := "936127106d244463f0203789d3c6a0fa7b451f1834927fbbc2f1d89171d27542", func := "stillroom/stillroomlaw10.TenantBytes", spec := "tenantBytes", inPlace := ["maps.clone", "slices.overlaps[stillroom/api.Tenant]"], unfollowed := true, recurses := true, named := ["stillroom/crc.nibbles"], apart := false, laid := [("stillroom/crc.nibbles", laid_stillroom_crc_nibbles)] }
def TenantBytesSaid : Prop := tenantBytesRow.holds Tryd.pinned (OpenSpec.ofChange tenantBytesSpec)

/-- ITS FALSE NEIGHBOUR: 'it returns false'. Refute it at one input. -/
def tenantBytesWrong : ChangeSpec := { name := "tenantBytes", fn := fun _ => fun
  | [d1, d2, d3] => { results := [.lit (.bool false)], args := [d1, d2, d3] }
  | _ => none }
def TenantBytesWrongFalsely : Prop := tenantBytesRow.holds Tryd.pinned (OpenSpec.ofChange tenantBytesWrong)

/-- 'stillroomlaw10.ManifestNone': WHATEVER THE INPUT: true; the input reads as it did. -/
def manifestNoneSpec : ChangeSpec := { name := "manifestNone", fn := fun _ => fun
  | [] => { results := [.lit (.bool true)], args := [] }
  | _ => none }
def manifestNoneRow : OpenClaim := { program := "ytpgclhpobijdeaadoor", sum := "936127106d244463f0203789d3c6a0fa7b451f1834927fbbc2f1d89171d27542", func := "stillroom/stillroomlaw10.ManifestNone", spec := "manifestNone", inPlace := ["maps.clone", "slices.overlaps[stillroom/api.Tenant]"], unfollowed := true, recurses := true, named := ["stillroom/crc.nibbles"], apart := false, laid := [("stillroom/crc.nibbles", laid_stillroom_crc_nibbles)] }
def ManifestNoneSaid : Prop := manifestNoneRow.holds Tryd.pinned (OpenSpec.ofChange manifestNoneSpec)

/-- ITS FALSE NEIGHBOUR: 'it returns false'. Refute it at one input. -/
def manifestNoneWrong : ChangeSpec := { name := "manifestNone", fn := fun _ => fun
  | [] => { results := [.lit (.bool false)], args := [] }
  | _ => none }
def ManifestNoneWrongFalsely : Prop := manifestNoneRow.holds Tryd.pinned (OpenSpec.ofChange manifestNoneWrong)

/- THE SECOND FORM. 'bulk': how many values and letters a reading holds, each counted each time it is reached (what is shared counts as often as it is met; a slice's spare places count too). A statement '..UptoSaid' is the law's where the arguments, and the package variables that the reading takes, are together of bulk at most 1048576: NARROWER than '..Said'. Prove '..Said' where nothing that the law and all that it calls make is longer than what came in: it says more and counts as full. Else prove '..UptoSaid'. A law counts once. -/
mutual
def uptoBulk {H : Type} : DataW H → Nat
  | .lit (.string bytes) => bytes.length + 1
  | .lit _ => 1
  | .nil => 1
  | .ptr d => uptoBulk d + 1
  | .slice elems spare => uptoBulkAll elems + uptoBulkAll spare + 1
  | .agg parts => uptoBulkAll parts + 1
  | .iface _ d => uptoBulk d + 1
  | .map entries => uptoBulkEntries entries + 1
  | .held _ => 1
def uptoBulkAll {H : Type} : List (DataW H) → Nat
  | [] => 0
  | d :: r => uptoBulk d + uptoBulkAll r
def uptoBulkEntries {H : Type} : List (Lit × DataW H) → Nat
  | [] => 0
  | x :: r => uptoBulkEntry x + uptoBulkEntries r
def uptoBulkEntry {H : Type} : Lit × DataW H → Nat
  | (.string bytes, d) => bytes.length + uptoBulk d + 1
  | (_, d) => uptoBulk d + 1
 end
def uptoSmall : (H : Type) → List (DataW H) → Bool := fun _ ds => decide (uptoBulkAll ds ≤ 1048576)
def OpenSpec.upto (s : _root_.Go.ChangeSpec) : _root_.Go.OpenSpec := { _root_.Go.OpenSpec.ofChange s with cond := some uptoSmall }

/-- 'stillroomlaw10.ManifestMany', WHERE WHAT IT READS IS OF BULK AT MOST 1048576: true; the input reads as it did. -/
def manifestManyUptoRow : OpenClaim := { program := "ytpgclhpobijdeaadoor", sum := "936127106d244463f0203789d3c6a0fa7b451f1834927fbbc2f1d89171d27542", func := "stillroom/stillroomlaw10.ManifestMany", spec := "manifestMany", inPlace := ["maps.clone", "slices.overlaps[stillroom/api.Tenant]"], unfollowed := true, recurses := true, named := ["stillroom/crc.nibbles"], apart := false, laid := [("stillroom/crc.nibbles", laid_stillroom_crc_nibbles)], narrowed := true }
def ManifestManyUptoSaid : Prop := manifestManyUptoRow.holds Tryd.pinned (OpenSpec.upto manifestManySpec)

/-- 'stillroomlaw10.ManifestOwn', WHERE WHAT IT READS IS OF BULK AT MOST 1048576: true; the input reads as it did. -/
def manifestOwnUptoRow : OpenClaim := { program := "ytpgclhpobijdeaadoor", sum := "936127106d244463f0203789d3c6a0fa7b451f1834927fbbc2f1d89171d27542", func := "stillroom/stillroomlaw10.ManifestOwn", spec := "manifestOwn", inPlace := ["maps.clone", "slices.overlaps[stillroom/api.Tenant]"], unfollowed := true, recurses := true, named := ["stillroom/crc.nibbles"], apart := false, laid := [("stillroom/crc.nibbles", laid_stillroom_crc_nibbles)], narrowed := true }
def ManifestOwnUptoSaid : Prop := manifestOwnUptoRow.holds Tryd.pinned (OpenSpec.upto manifestOwnSpec)

/-- 'stillroomlaw10.TenantBytes', WHERE WHAT IT READS IS OF BULK AT MOST 1048576: true; the input reads as it did. -/
def tenantBytesUptoRow : OpenClaim := { program := "ytpgclhpobijdeaadoor", sum := "936127106d244463f0203789d3c6a0fa7b451f1834927fbbc2f1d89171d27542", func := "stillroom/stillroomlaw10.TenantBytes", spec := "tenantBytes", inPlace := ["maps.clone", "slices.overlaps[stillroom/api.Tenant]"], unfollowed := true, recurses := true, named := ["stillroom/crc.nibbles"], apart := false, laid := [("stillroom/crc.nibbles", laid_stillroom_crc_nibbles)], narrowed := true }
def TenantBytesUptoSaid : Prop := tenantBytesUptoRow.holds Tryd.pinned (OpenSpec.upto tenantBytesSpec)

/-- 'stillroomlaw10.ManifestNone', WHERE WHAT IT READS IS OF BULK AT MOST 1048576: true; the input reads as it did. -/
def manifestNoneUptoRow : OpenClaim := { program := "ytpgclhpobijdeaadoor", sum := "936127106d244463f0203789d3c6a0fa7b451f1834927fbbc2f1d89171d27542", func := "stillroom/stillroomlaw10.ManifestNone", spec := "manifestNone", inPlace := ["maps.clone", "slices.overlaps[stillroom/api.Tenant]"], unfollowed := true, recurses := true, named := ["stillroom/crc.nibbles"], apart := false, laid := [("stillroom/crc.nibbles", laid_stillroom_crc_nibbles)], narrowed := true }
def ManifestNoneUptoSaid : Prop := manifestNoneUptoRow.holds Tryd.pinned (OpenSpec.upto manifestNoneSpec)

end Rows
end Go.Proofs.YtpgclhpobijdeaaDoor
