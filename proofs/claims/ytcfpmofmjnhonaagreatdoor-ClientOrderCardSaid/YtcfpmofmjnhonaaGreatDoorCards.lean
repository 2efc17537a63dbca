/-
  DERIVED. GIVEN WITH THE SEED: THE CARDS: each row of YtcfpmofmjnhonaaGreatDoorRows.lean that lists a variable, with what it lists TIED to the program's text (the seventh form; the later family's looks); each row that meets fmt, with fmt's text TOLD by the authors' own Lean function (tested against real Go, not proved from fmt's source: count such statements apart). THE CARD IS WHAT COUNTS. Prove the row's statement (the work); the ties are given (YtcfpmofmjnhonaaGreatDoorTie.lean); close each card by the builder's one call (the guide's Derived/Test/ToyasCard.lean, 'card_holds'). Laid BY PROGRAM, IN A SANDBOX (cutbox-door.mjs). By AI agents, Wed Nov 11 2026. No macro, syntax, notation, axiom, sorry.
-/
import Derived.Test.YtcfpmofmjnhonaaGreatDoorRows
import GoSem.ClaimSeven
namespace Go.Proofs.YtcfpmofmjnhonaaGreatDoor
namespace Rows

/-- THE TIED CARD OF 'rollkeeperlaw.DirKeeps'. -/
def dirKeepsCard : Claim7 := { stood := { row := dirKeepsRow, standIns := [], harness := (true, "9a96b30ae23b4d6410e3f5336b202eb4989148ab72a07e6cf76705f18bd05d5b"), looks := true }, kinds := [], alts := [], laidByText := true, laidKinds := [.handle, .data], laidTests := true, laidLooks := .later }
def DirKeepsCardSaid : Prop := Claim7.holds Tryz.pinned (.plain (OpenSpec.ofChange dirKeepsSpec)) dirKeepsCard

/-- THE TIED CARD OF 'rollkeeperkeep.DirFresh'. -/
def dirFreshCard : Claim7 := { stood := { row := dirFreshRow, standIns := [], harness := (true, "9a96b30ae23b4d6410e3f5336b202eb4989148ab72a07e6cf76705f18bd05d5b"), looks := true }, kinds := [], alts := [], laidByText := true, laidKinds := [.handle, .data], laidTests := true, laidLooks := .later }
def DirFreshCardSaid : Prop := Claim7.holds Tryz.pinned (.plain (OpenSpec.ofChange dirFreshSpec)) dirFreshCard

/-- THE TIED CARD OF 'rollkeeperkeep.DirPast'. -/
def dirPastCard : Claim7 := { stood := { row := dirPastRow, standIns := [], harness := (true, "9a96b30ae23b4d6410e3f5336b202eb4989148ab72a07e6cf76705f18bd05d5b"), looks := true }, kinds := [], alts := [], laidByText := true, laidKinds := [.data], laidTests := true, laidLooks := .later }
def DirPastCardSaid : Prop := Claim7.holds Tryz.pinned (.plain (OpenSpec.ofChange dirPastSpec)) dirPastCard

/-- THE TIED CARD OF 'rollkeeperlaw.ClientSees'. -/
def clientSeesCard : Claim7 := { stood := { row := clientSeesRow, standIns := [], harness := (true, "9a96b30ae23b4d6410e3f5336b202eb4989148ab72a07e6cf76705f18bd05d5b"), looks := true }, kinds := [], alts := [], laidByText := true, laidKinds := [.handle, .data], laidTests := true, laidLooks := .later }
def ClientSeesCardSaid : Prop := Claim7.holds Tryz.pinned (.plain (OpenSpec.ofChange clientSeesSpec)) clientSeesCard

/-- THE TIED CARD OF 'rollkeeperkeep.ClientAgain'. -/
def clientAgainCard : Claim7 := { stood := { row := clientAgainRow, standIns := [], harness := (true, "9a96b30ae23b4d6410e3f5336b202eb4989148ab72a07e6cf76705f18bd05d5b"), looks := true }, kinds := [], alts := [], laidByText := true, laidKinds := [.data], laidTests := true, laidLooks := .later }
def ClientAgainCardSaid : Prop := Claim7.holds Tryz.pinned (.plain (OpenSpec.ofChange clientAgainSpec)) clientAgainCard

/-- THE TIED CARD OF 'rollkeeperkeep.ClientOrder'. -/
def clientOrderCard : Claim7 := { stood := { row := clientOrderRow, standIns := [], harness := (true, "9a96b30ae23b4d6410e3f5336b202eb4989148ab72a07e6cf76705f18bd05d5b"), looks := true }, kinds := [], alts := [], laidByText := true, laidKinds := [.handle, .data], laidTests := true, laidLooks := .later }
def ClientOrderCardSaid : Prop := Claim7.holds Tryz.pinned (.plain (OpenSpec.ofChange clientOrderSpec)) clientOrderCard

/-- THE SECOND FORM's CARD OF 'rollkeeperlaw.DirKeeps'. -/
def dirKeepsUptoCard : Claim7 := { stood := { row := dirKeepsUptoRow, standIns := [], harness := (true, "9a96b30ae23b4d6410e3f5336b202eb4989148ab72a07e6cf76705f18bd05d5b"), looks := true }, kinds := [], alts := [], laidByText := true, laidKinds := [.handle, .data], laidTests := true, laidLooks := .later }
def DirKeepsUptoCardSaid : Prop := Claim7.holds Tryz.pinned (.plain (OpenSpec.upto dirKeepsSpec)) dirKeepsUptoCard

/-- THE SECOND FORM's CARD OF 'rollkeeperkeep.DirFresh'. -/
def dirFreshUptoCard : Claim7 := { stood := { row := dirFreshUptoRow, standIns := [], harness := (true, "9a96b30ae23b4d6410e3f5336b202eb4989148ab72a07e6cf76705f18bd05d5b"), looks := true }, kinds := [], alts := [], laidByText := true, laidKinds := [.handle, .data], laidTests := true, laidLooks := .later }
def DirFreshUptoCardSaid : Prop := Claim7.holds Tryz.pinned (.plain (OpenSpec.upto dirFreshSpec)) dirFreshUptoCard

/-- THE SECOND FORM's CARD OF 'rollkeeperkeep.DirPast'. -/
def dirPastUptoCard : Claim7 := { stood := { row := dirPastUptoRow, standIns := [], harness := (true, "9a96b30ae23b4d6410e3f5336b202eb4989148ab72a07e6cf76705f18bd05d5b"), looks := true }, kinds := [], alts := [], laidByText := true, laidKinds := [.data], laidTests := true, laidLooks := .later }
def DirPastUptoCardSaid : Prop := Claim7.holds Tryz.pinned (.plain (OpenSpec.upto dirPastSpec)) dirPastUptoCard

/-- THE SECOND FORM's CARD OF 'rollkeeperlaw.ClientSees'. -/
def clientSeesUptoCard : Claim7 := { stood := { row := clientSeesUptoRow, standIns := [], harness := (true, "9a96b30ae23b4d6410e3f5336b202eb4989148ab72a07e6cf76705f18bd05d5b"), looks := true }, kinds := [], alts := [], laidByText := true, laidKinds := [.handle, .data], laidTests := true, laidLooks := .later }
def ClientSeesUptoCardSaid : Prop := Claim7.holds Tryz.pinned (.plain (OpenSpec.upto clientSeesSpec)) clientSeesUptoCard

/-- THE SECOND FORM's CARD OF 'rollkeeperkeep.ClientAgain'. -/
def clientAgainUptoCard : Claim7 := { stood := { row := clientAgainUptoRow, standIns := [], harness := (true, "9a96b30ae23b4d6410e3f5336b202eb4989148ab72a07e6cf76705f18bd05d5b"), looks := true }, kinds := [], alts := [], laidByText := true, laidKinds := [.data], laidTests := true, laidLooks := .later }
def ClientAgainUptoCardSaid : Prop := Claim7.holds Tryz.pinned (.plain (OpenSpec.upto clientAgainSpec)) clientAgainUptoCard

/-- THE SECOND FORM's CARD OF 'rollkeeperkeep.ClientOrder'. -/
def clientOrderUptoCard : Claim7 := { stood := { row := clientOrderUptoRow, standIns := [], harness := (true, "9a96b30ae23b4d6410e3f5336b202eb4989148ab72a07e6cf76705f18bd05d5b"), looks := true }, kinds := [], alts := [], laidByText := true, laidKinds := [.handle, .data], laidTests := true, laidLooks := .later }
def ClientOrderUptoCardSaid : Prop := Claim7.holds Tryz.pinned (.plain (OpenSpec.upto clientOrderSpec)) clientOrderUptoCard
end Rows
end Go.Proofs.YtcfpmofmjnhonaaGreatDoor
