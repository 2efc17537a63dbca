/-
  DERIVED. GIVEN WITH THE SEED: THE CARDS: each row of YtenlpbcembadcaaDoorRows.lean that lists a variable, with what it lists TIED to the program's text (the seventh form; the later family's looks); each row that meets fmt, with fmt's text TOLD by the authors' own Lean function (tested against real Go, not proved from fmt's source: count such statements apart). THE CARD IS WHAT COUNTS. Prove the row's statement (the work); the ties are given (YtenlpbcembadcaaDoorTie.lean); close each card by the builder's one call (the guide's Derived/Test/ToyasCard.lean, 'card_holds'). Laid BY PROGRAM, IN A SANDBOX (cutbox-door.mjs). By AI agents, Wed Nov 11 2026. No macro, syntax, notation, axiom, sorry.
-/
import Derived.Test.YtenlpbcembadcaaDoorRows
import GoSem.ClaimSeven
namespace Go.Proofs.YtenlpbcembadcaaDoor
namespace Rows

/-- THE TIED CARD OF 'rollkeeperlaw.ProofLeads'. -/
def proofLeadsCard : Claim7 := { stood := { row := proofLeadsRow, standIns := [], harness := (true, "6483ac1bf2134a2c274c40e182ada58d439ecf766fbd29d74ddfdcb7f12e87bf"), looks := true }, kinds := [], alts := [], laidByText := true, laidKinds := [.handle, .data], laidTests := true, laidLooks := .later }
def ProofLeadsCardSaid : Prop := Claim7.holds Tryd.pinned (.plain (OpenSpec.ofChange proofLeadsSpec)) proofLeadsCard

/-- THE TIED CARD OF 'rollkeeperkeep.ProofThere'. -/
def proofThereCard : Claim7 := { stood := { row := proofThereRow, standIns := [], harness := (true, "6483ac1bf2134a2c274c40e182ada58d439ecf766fbd29d74ddfdcb7f12e87bf"), looks := true }, kinds := [], alts := [], laidByText := true, laidKinds := [.data], laidTests := true, laidLooks := .later }
def ProofThereCardSaid : Prop := Claim7.holds Tryd.pinned (.plain (OpenSpec.ofChange proofThereSpec)) proofThereCard

/-- THE SECOND FORM's CARD OF 'rollkeeperlaw.ProofLeads'. -/
def proofLeadsUptoCard : Claim7 := { stood := { row := proofLeadsUptoRow, standIns := [], harness := (true, "6483ac1bf2134a2c274c40e182ada58d439ecf766fbd29d74ddfdcb7f12e87bf"), looks := true }, kinds := [], alts := [], laidByText := true, laidKinds := [.handle, .data], laidTests := true, laidLooks := .later }
def ProofLeadsUptoCardSaid : Prop := Claim7.holds Tryd.pinned (.plain (OpenSpec.upto proofLeadsSpec)) proofLeadsUptoCard

/-- THE SECOND FORM's CARD OF 'rollkeeperkeep.ProofThere'. -/
def proofThereUptoCard : Claim7 := { stood := { row := proofThereUptoRow, standIns := [], harness := (true, "6483ac1bf2134a2c274c40e182ada58d439ecf766fbd29d74ddfdcb7f12e87bf"), looks := true }, kinds := [], alts := [], laidByText := true, laidKinds := [.data], laidTests := true, laidLooks := .later }
def ProofThereUptoCardSaid : Prop := Claim7.holds Tryd.pinned (.plain (OpenSpec.upto proofThereSpec)) proofThereUptoCard
end Rows
end Go.Proofs.YtenlpbcembadcaaDoor
