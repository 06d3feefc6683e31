/-
  DERIVED. GIVEN WITH THE SEED: THE CARDS: each row of YtoanekgphcijfaaDoorRows.lean that lists a variable, with what it lists TIED to the program's text (the seventh form; the later family's looks); each row that meets fmt, with fmt's text TOLD by the authors' own Lean function (tested against real Go, not proved from fmt's source: count such statements apart). THE CARD IS WHAT COUNTS. Prove the row's statement (the work); the ties are given (YtoanekgphcijfaaDoorTie.lean); close each card by the builder's one call (the guide's Derived/Test/ToyasCard.lean, 'card_holds'). Laid BY PROGRAM, IN A SANDBOX (cutbox-door.mjs). By AI agents, Wed Nov 11 2026. No macro, syntax, notation, axiom, sorry.
-/
import Derived.Test.YtoanekgphcijfaaDoorRows
import GoSem.ClaimSeven
namespace Go.Proofs.YtoanekgphcijfaaDoor
namespace Rows

/-- THE TIED CARD OF 'vouchlaw.Hashes'. -/
def hashesCard : Claim7 := { stood := { row := hashesRow, standIns := [], harness := (true, "f1c360cf4b9901333f74f58fb34c456e454e83c5b2a67fd43347f5091340bf47"), looks := true }, kinds := [], alts := [], laidByText := true, laidKinds := [.data], laidTests := true, laidLooks := .later }
def HashesCardSaid : Prop := Claim7.holds Tryd.pinned (.plain (OpenSpec.ofChange hashesSpec)) hashesCard

/-- THE TIED CARD OF 'vouchlaw.Audits'. -/
def auditsCard : Claim7 := { stood := { row := auditsRow, standIns := [], harness := (true, "f1c360cf4b9901333f74f58fb34c456e454e83c5b2a67fd43347f5091340bf47"), looks := true }, kinds := [], alts := [], laidByText := true, laidKinds := [.data], laidTests := true, laidLooks := .later }
def AuditsCardSaid : Prop := Claim7.holds Tryd.pinned (.plain (OpenSpec.ofChange auditsSpec)) auditsCard

/-- THE TIED CARD OF 'vouchlaw.Paths'. -/
def pathsCard : Claim7 := { stood := { row := pathsRow, standIns := [], harness := (true, "f1c360cf4b9901333f74f58fb34c456e454e83c5b2a67fd43347f5091340bf47"), looks := true }, kinds := [], alts := [], laidByText := true, laidKinds := [.data], laidTests := true, laidLooks := .later }
def PathsCardSaid : Prop := Claim7.holds Tryd.pinned (.plain (OpenSpec.ofChange pathsSpec)) pathsCard

/-- THE TIED CARD OF 'vouchkeep.Fair'. -/
def fairCard : Claim7 := { stood := { row := fairRow, standIns := [], harness := (true, "f1c360cf4b9901333f74f58fb34c456e454e83c5b2a67fd43347f5091340bf47"), looks := true }, kinds := [], alts := [], goes := true, laidByText := true, laidKinds := [.data], laidTests := true, laidLooks := .later }
def FairCardSaid : Prop := Claim7.holds Tryd.pinned (.plain (OpenSpec.ofChange fairSpec)) fairCard

/-- THE TIED CARD OF 'vouchkeep.Fixed'. -/
def fixedCard : Claim7 := { stood := { row := fixedRow, standIns := [], harness := (true, "f1c360cf4b9901333f74f58fb34c456e454e83c5b2a67fd43347f5091340bf47"), looks := true }, kinds := [], alts := [], goes := true, laidByText := true, laidKinds := [.data], laidTests := true, laidLooks := .later }
def FixedCardSaid : Prop := Claim7.holds Tryd.pinned (.plain (OpenSpec.ofChange fixedSpec)) fixedCard

/-- THE SECOND FORM's CARD OF 'vouchlaw.Hashes'. -/
def hashesUptoCard : Claim7 := { stood := { row := hashesUptoRow, standIns := [], harness := (true, "f1c360cf4b9901333f74f58fb34c456e454e83c5b2a67fd43347f5091340bf47"), looks := true }, kinds := [], alts := [], laidByText := true, laidKinds := [.data], laidTests := true, laidLooks := .later }
def HashesUptoCardSaid : Prop := Claim7.holds Tryd.pinned (.plain (OpenSpec.upto hashesSpec)) hashesUptoCard

/-- THE SECOND FORM's CARD OF 'vouchlaw.Audits'. -/
def auditsUptoCard : Claim7 := { stood := { row := auditsUptoRow, standIns := [], harness := (true, "f1c360cf4b9901333f74f58fb34c456e454e83c5b2a67fd43347f5091340bf47"), looks := true }, kinds := [], alts := [], laidByText := true, laidKinds := [.data], laidTests := true, laidLooks := .later }
def AuditsUptoCardSaid : Prop := Claim7.holds Tryd.pinned (.plain (OpenSpec.upto auditsSpec)) auditsUptoCard

/-- THE SECOND FORM's CARD OF 'vouchlaw.Paths'. -/
def pathsUptoCard : Claim7 := { stood := { row := pathsUptoRow, standIns := [], harness := (true, "f1c360cf4b9901333f74f58fb34c456e454e83c5b2a67fd43347f5091340bf47"), looks := true }, kinds := [], alts := [], laidByText := true, laidKinds := [.data], laidTests := true, laidLooks := .later }
def PathsUptoCardSaid : Prop := Claim7.holds Tryd.pinned (.plain (OpenSpec.upto pathsSpec)) pathsUptoCard

/-- THE SECOND FORM's CARD OF 'vouchkeep.Fair'. -/
def fairUptoCard : Claim7 := { stood := { row := fairUptoRow, standIns := [], harness := (true, "f1c360cf4b9901333f74f58fb34c456e454e83c5b2a67fd43347f5091340bf47"), looks := true }, kinds := [], alts := [], goes := true, laidByText := true, laidKinds := [.data], laidTests := true, laidLooks := .later }
def FairUptoCardSaid : Prop := Claim7.holds Tryd.pinned (.plain (OpenSpec.upto fairSpec)) fairUptoCard

/-- THE SECOND FORM's CARD OF 'vouchkeep.Fixed'. -/
def fixedUptoCard : Claim7 := { stood := { row := fixedUptoRow, standIns := [], harness := (true, "f1c360cf4b9901333f74f58fb34c456e454e83c5b2a67fd43347f5091340bf47"), looks := true }, kinds := [], alts := [], goes := true, laidByText := true, laidKinds := [.data], laidTests := true, laidLooks := .later }
def FixedUptoCardSaid : Prop := Claim7.holds Tryd.pinned (.plain (OpenSpec.upto fixedSpec)) fixedUptoCard
end Rows
end Go.Proofs.YtoanekgphcijfaaDoor
