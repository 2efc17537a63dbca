/-
  DERIVED. GIVEN WITH THE SEED: THE CARDS: each row of YtpoibacokdjplaaGreatDoorRows.lean that lists a variable, with what it lists TIED to the program's text (the seventh form; the later family's looks); each row that meets fmt, with fmt's text TOLD by the authors' own Lean function (tested against real Go, not proved from fmt's source: count such statements apart). THE CARD IS WHAT COUNTS. Prove the row's statement (the work); the ties are given (YtpoibacokdjplaaGreatDoorTie.lean); close each card by the builder's one call (the guide's Derived/Test/ToyasCard.lean, 'card_holds'). Laid BY PROGRAM, IN A SANDBOX (cutbox-door.mjs). By AI agents, Wed Nov 11 2026. No macro, syntax, notation, axiom, sorry.
-/
import Derived.Test.YtpoibacokdjplaaGreatDoorRows
import GoSem.ClaimSeven
namespace Go.Proofs.YtpoibacokdjplaaGreatDoor
namespace Rows

/-- THE TIED CARD OF 'rollkeeperlaw.TrieRoots'. -/
def trieRootsCard : Claim7 := { stood := { row := trieRootsRow, standIns := [], harness := (true, "1b15ad02c1ba790d1430d1d3e6e0792dc12f99a6fb5dad99d385b3efd05be2be"), looks := true }, kinds := [], alts := [], laidByText := true, laidKinds := [.handle, .data], laidTests := true, laidLooks := .later }
def TrieRootsCardSaid : Prop := Claim7.holds Tryz.pinned (.plain (OpenSpec.ofChange trieRootsSpec)) trieRootsCard

/-- THE SECOND FORM's CARD OF 'rollkeeperlaw.TrieRoots'. -/
def trieRootsUptoCard : Claim7 := { stood := { row := trieRootsUptoRow, standIns := [], harness := (true, "1b15ad02c1ba790d1430d1d3e6e0792dc12f99a6fb5dad99d385b3efd05be2be"), looks := true }, kinds := [], alts := [], laidByText := true, laidKinds := [.handle, .data], laidTests := true, laidLooks := .later }
def TrieRootsUptoCardSaid : Prop := Claim7.holds Tryz.pinned (.plain (OpenSpec.upto trieRootsSpec)) trieRootsUptoCard
end Rows
end Go.Proofs.YtpoibacokdjplaaGreatDoor
