/-
  DERIVED. GIVEN WITH THE SEED: THE CARDS: each row of YthbfmdgnhipobaaDoorRows.lean that lists a variable, with what it lists TIED to the program's text (the seventh form; the later family's looks); each row that meets fmt, with fmt's text TOLD by the authors' own Lean function (tested against real Go, not proved from fmt's source: count such statements apart). THE CARD IS WHAT COUNTS. Prove the row's statement (the work); the ties are given (YthbfmdgnhipobaaDoorTie.lean); close each card by the builder's one call (the guide's Derived/Test/ToyasCard.lean, 'card_holds'). Laid BY PROGRAM, IN A SANDBOX (cutbox-door.mjs). By AI agents, Wed Nov 11 2026. No macro, syntax, notation, axiom, sorry.
-/
import Derived.Test.YthbfmdgnhipobaaDoorRows
import GoSem.ClaimSeven
namespace Go.Proofs.YthbfmdgnhipobaaDoor
namespace Rows

/-- THE TIED CARD OF 'rollkeeperlaw.IndexLies'. -/
def indexLiesCard : Claim7 := { stood := { row := indexLiesRow, standIns := [], harness := (true, "eaa6b4ccab6d0818568bcbde9b491371bc1b17c1ea18c5af94069a7edfba6d8c"), looks := true }, kinds := [], alts := [], laidByText := true, laidKinds := [.handle, .data], laidTests := true, laidLooks := .later }
def IndexLiesCardSaid : Prop := Claim7.holds Tryd.pinned (.plain (OpenSpec.ofChange indexLiesSpec)) indexLiesCard

/-- THE TIED CARD OF 'rollkeeperkeep.IndexCommon'. -/
def indexCommonCard : Claim7 := { stood := { row := indexCommonRow, standIns := [], harness := (true, "eaa6b4ccab6d0818568bcbde9b491371bc1b17c1ea18c5af94069a7edfba6d8c"), looks := true }, kinds := [], alts := [], laidByText := true, laidKinds := [.data], laidTests := true, laidLooks := .later }
def IndexCommonCardSaid : Prop := Claim7.holds Tryd.pinned (.plain (OpenSpec.ofChange indexCommonSpec)) indexCommonCard

/-- THE SECOND FORM's CARD OF 'rollkeeperlaw.IndexLies'. -/
def indexLiesUptoCard : Claim7 := { stood := { row := indexLiesUptoRow, standIns := [], harness := (true, "eaa6b4ccab6d0818568bcbde9b491371bc1b17c1ea18c5af94069a7edfba6d8c"), looks := true }, kinds := [], alts := [], laidByText := true, laidKinds := [.handle, .data], laidTests := true, laidLooks := .later }
def IndexLiesUptoCardSaid : Prop := Claim7.holds Tryd.pinned (.plain (OpenSpec.upto indexLiesSpec)) indexLiesUptoCard

/-- THE SECOND FORM's CARD OF 'rollkeeperkeep.IndexCommon'. -/
def indexCommonUptoCard : Claim7 := { stood := { row := indexCommonUptoRow, standIns := [], harness := (true, "eaa6b4ccab6d0818568bcbde9b491371bc1b17c1ea18c5af94069a7edfba6d8c"), looks := true }, kinds := [], alts := [], laidByText := true, laidKinds := [.data], laidTests := true, laidLooks := .later }
def IndexCommonUptoCardSaid : Prop := Claim7.holds Tryd.pinned (.plain (OpenSpec.upto indexCommonSpec)) indexCommonUptoCard
end Rows
end Go.Proofs.YthbfmdgnhipobaaDoor
