/-
  DERIVED. GIVEN WITH THE SEED: THE CARDS: each row of YtpgclhpobijdeaaDoorRows.lean that lists a variable, with what it lists TIED to the program's text (the seventh form; the later family's looks); each row that meets fmt, with fmt's text TOLD by the authors' own Lean function (tested against real Go, not proved from fmt's source: count such statements apart). THE CARD IS WHAT COUNTS. Prove the row's statement (the work); the ties are given (YtpgclhpobijdeaaDoorTie.lean); close each card by the builder's one call (the guide's Derived/Test/ToyasCard.lean, 'card_holds'). Laid BY PROGRAM, IN A SANDBOX (cutbox-door.mjs). By AI agents, Wed Nov 11 2026. No macro, syntax, notation, axiom, sorry.
-/
import Derived.Test.YtpgclhpobijdeaaDoorRows
import GoSem.ClaimSeven
namespace Go.Proofs.YtpgclhpobijdeaaDoor
namespace Rows

/-- THE TIED CARD OF 'stillroomlaw10.ManifestMany'. -/
def manifestManyCard : Claim7 := { stood := { row := manifestManyRow, standIns := [], harness := (true, "9002a8530950f33800c8ad7dcf4e12911159fbd4c678ea25e8563f25a17fe54d"), looks := true }, kinds := [], alts := [], laidByText := true, laidKinds := [.data], laidTests := true, laidLooks := .later }
def ManifestManyCardSaid : Prop := Claim7.holds Tryd.pinned (.plain (OpenSpec.ofChange manifestManySpec)) manifestManyCard

/-- THE TIED CARD OF 'stillroomlaw10.ManifestOwn'. -/
def manifestOwnCard : Claim7 := { stood := { row := manifestOwnRow, standIns := [], harness := (true, "9002a8530950f33800c8ad7dcf4e12911159fbd4c678ea25e8563f25a17fe54d"), looks := true }, kinds := [], alts := [], laidByText := true, laidKinds := [.data], laidTests := true, laidLooks := .later }
def ManifestOwnCardSaid : Prop := Claim7.holds Tryd.pinned (.plain (OpenSpec.ofChange manifestOwnSpec)) manifestOwnCard

/-- THE TIED CARD OF 'stillroomlaw10.TenantBytes'. -/
def tenantBytesCard : Claim7 := { stood := { row := tenantBytesRow, standIns := [], harness := (true, "9002a8530950f33800c8ad7dcf4e12911159fbd4c678ea25e8563f25a17fe54d"), looks := true }, kinds := [], alts := [], laidByText := true, laidKinds := [.data], laidTests := true, laidLooks := .later }
def TenantBytesCardSaid : Prop := Claim7.holds Tryd.pinned (.plain (OpenSpec.ofChange tenantBytesSpec)) tenantBytesCard

/-- THE TIED CARD OF 'stillroomlaw10.ManifestNone'. -/
def manifestNoneCard : Claim7 := { stood := { row := manifestNoneRow, standIns := [], harness := (true, "9002a8530950f33800c8ad7dcf4e12911159fbd4c678ea25e8563f25a17fe54d"), looks := true }, kinds := [], alts := [], laidByText := true, laidKinds := [.data], laidTests := true, laidLooks := .later }
def ManifestNoneCardSaid : Prop := Claim7.holds Tryd.pinned (.plain (OpenSpec.ofChange manifestNoneSpec)) manifestNoneCard

/-- THE SECOND FORM's CARD OF 'stillroomlaw10.ManifestMany'. -/
def manifestManyUptoCard : Claim7 := { stood := { row := manifestManyUptoRow, standIns := [], harness := (true, "9002a8530950f33800c8ad7dcf4e12911159fbd4c678ea25e8563f25a17fe54d"), looks := true }, kinds := [], alts := [], laidByText := true, laidKinds := [.data], laidTests := true, laidLooks := .later }
def ManifestManyUptoCardSaid : Prop := Claim7.holds Tryd.pinned (.plain (OpenSpec.upto manifestManySpec)) manifestManyUptoCard

/-- THE SECOND FORM's CARD OF 'stillroomlaw10.ManifestOwn'. -/
def manifestOwnUptoCard : Claim7 := { stood := { row := manifestOwnUptoRow, standIns := [], harness := (true, "9002a8530950f33800c8ad7dcf4e12911159fbd4c678ea25e8563f25a17fe54d"), looks := true }, kinds := [], alts := [], laidByText := true, laidKinds := [.data], laidTests := true, laidLooks := .later }
def ManifestOwnUptoCardSaid : Prop := Claim7.holds Tryd.pinned (.plain (OpenSpec.upto manifestOwnSpec)) manifestOwnUptoCard

/-- THE SECOND FORM's CARD OF 'stillroomlaw10.TenantBytes'. -/
def tenantBytesUptoCard : Claim7 := { stood := { row := tenantBytesUptoRow, standIns := [], harness := (true, "9002a8530950f33800c8ad7dcf4e12911159fbd4c678ea25e8563f25a17fe54d"), looks := true }, kinds := [], alts := [], laidByText := true, laidKinds := [.data], laidTests := true, laidLooks := .later }
def TenantBytesUptoCardSaid : Prop := Claim7.holds Tryd.pinned (.plain (OpenSpec.upto tenantBytesSpec)) tenantBytesUptoCard

/-- THE SECOND FORM's CARD OF 'stillroomlaw10.ManifestNone'. -/
def manifestNoneUptoCard : Claim7 := { stood := { row := manifestNoneUptoRow, standIns := [], harness := (true, "9002a8530950f33800c8ad7dcf4e12911159fbd4c678ea25e8563f25a17fe54d"), looks := true }, kinds := [], alts := [], laidByText := true, laidKinds := [.data], laidTests := true, laidLooks := .later }
def ManifestNoneUptoCardSaid : Prop := Claim7.holds Tryd.pinned (.plain (OpenSpec.upto manifestNoneSpec)) manifestNoneUptoCard
end Rows
end Go.Proofs.YtpgclhpobijdeaaDoor
