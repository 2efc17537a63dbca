/-
  NARROWER THAN 'FOR EVERY INPUT', by the rows' own cells (each row's printed sentence says how): DirKeeps: laid · DirFresh: laid · DirPast: laid · ClientSees: laid · ClientAgain: laid · ClientOrder: laid.
  DERIVED. THE GIVEN ROWS OF THIS SEAT. 6 by the template 'for every input the law returns true; each argument reads behind the call as it read before'; 0 by the template 'total and deterministic' (their statements: YtcfpmofmjnhonaaGreatDoorTotals.lean).
  GIVEN WITH THE SEED: the statements are not yours to turn. If you find one false, say at which input.
  Laid BY PROGRAM, IN A SANDBOX (cutbox-rows.mjs): the forced cells as the released guide's own fill.sh prints them over the translation bf9b65d2aa159281… (all of the seat's roots in one cut). By AI agents, Wed Nov 11 2026. No macro, syntax, notation, axiom, sorry.
-/
import Derived.Test.YtcfpmofmjnhonaaGreatDoorChecked
import GoSem.Claim
import GoSem.ClaimJoined
import GoSem.ClaimMapViews
import Derived.JoinedTies
import Derived.KernelRfl
namespace Go.Proofs.YtcfpmofmjnhonaaGreatDoor
/- THE CELL 'sum', in the pinned program and in every row, IS THE sha256 OF THE DUMP (.gsa) THAT YtcfpmofmjnhonaaGreatDoorProg.lean LOADS. Nothing in Lean hashes anything: it is a label: what it is worth is what the hold of that sum in a sandbox is worth. -/
noncomputable def Tryz.pinned : Pinned := { name := "ytcfpmofmjnhonaagreatdoor", sum := "bf9b65d2aa15928136027ebf3cb046e6aa7d7408bf0e8b8fd70853a37e85d86c", checked := Tryz.checked }
namespace Rows
def none {H : Type} : Left H := { results := [], args := [] }

/- WHAT THE LISTED PACKAGE-LEVEL VARIABLES READ AS WHEN THE CALL BEGINS. Each datum BY PROGRAM (the guide's laid-datum.mjs) off the statement by which the dump's own 'gosem.cut.vars' lays the variable. In a bare row this is a premise. The card (YtcfpmofmjnhonaaGreatDoorCards.lean) ties it to the program's text. -/
def laid_errors_errorType {H : Type} : DataW H := .iface "internal/reflectlite.rtype" (.agg [.ptr (.lit (.string [101, 114, 114, 111, 114]))])
def laid_rollkeeper_sum_roundNumbers {H : Type} : DataW H := .agg [.lit (.int .u32 1116352408), .lit (.int .u32 1899447441), .lit (.int .u32 3049323471), .lit (.int .u32 3921009573), .lit (.int .u32 961987163), .lit (.int .u32 1508970993), .lit (.int .u32 2453635748), .lit (.int .u32 2870763221), .lit (.int .u32 3624381080), .lit (.int .u32 310598401), .lit (.int .u32 607225278), .lit (.int .u32 1426881987), .lit (.int .u32 1925078388), .lit (.int .u32 2162078206), .lit (.int .u32 2614888103), .lit (.int .u32 3248222580), .lit (.int .u32 3835390401), .lit (.int .u32 4022224774), .lit (.int .u32 264347078), .lit (.int .u32 604807628), .lit (.int .u32 770255983), .lit (.int .u32 1249150122), .lit (.int .u32 1555081692), .lit (.int .u32 1996064986), .lit (.int .u32 2554220882), .lit (.int .u32 2821834349), .lit (.int .u32 2952996808), .lit (.int .u32 3210313671), .lit (.int .u32 3336571891), .lit (.int .u32 3584528711), .lit (.int .u32 113926993), .lit (.int .u32 338241895), .lit (.int .u32 666307205), .lit (.int .u32 773529912), .lit (.int .u32 1294757372), .lit (.int .u32 1396182291), .lit (.int .u32 1695183700), .lit (.int .u32 1986661051), .lit (.int .u32 2177026350), .lit (.int .u32 2456956037), .lit (.int .u32 2730485921), .lit (.int .u32 2820302411), .lit (.int .u32 3259730800), .lit (.int .u32 3345764771), .lit (.int .u32 3516065817), .lit (.int .u32 3600352804), .lit (.int .u32 4094571909), .lit (.int .u32 275423344), .lit (.int .u32 430227734), .lit (.int .u32 506948616), .lit (.int .u32 659060556), .lit (.int .u32 883997877), .lit (.int .u32 958139571), .lit (.int .u32 1322822218), .lit (.int .u32 1537002063), .lit (.int .u32 1747873779), .lit (.int .u32 1955562222), .lit (.int .u32 2024104815), .lit (.int .u32 2227730452), .lit (.int .u32 2361852424), .lit (.int .u32 2428436474), .lit (.int .u32 2756734187), .lit (.int .u32 3204031479), .lit (.int .u32 3329325298)]

/-- 'rollkeeperlaw.DirKeeps': WHATEVER THE INPUT: true; the input reads as it did. -/
def dirKeepsSpec : ChangeSpec := { name := "dirKeeps", fn := fun _ => fun
  | [d1, d2] => { results := [.lit (.bool true)], args := [d1, d2] }
  | _ => none }
def dirKeepsRow : OpenClaim := { program := "ytcfpmofmjnhonaagreatdoor", sum := "bf9b65d2aa15928136027ebf3cb046e6aa7d7408bf0e8b8fd70853a37e85d86c", func := "rollkeeper/rollkeeperlaw.DirKeeps", spec := "dirKeeps", inPlace := ["internal/reflectlite.ValueOf", "(internal/reflectlite.Value).Type", "(internal/reflectlite.Value).IsNil", "internal/reflectlite.TypeOf", "(internal/reflectlite.Value).Elem", "(internal/reflectlite.Value).Set", "internal/reflectlite.Swapper", "(internal/reflectlite.Value).Len", "internal/abi.NoEscape", "internal/bytealg.MakeNoZero", "internal/bytealg.abigen_runtime_cmpstring"], unfollowed := true, recurses := true, named := ["rollkeeper/sum.roundNumbers", "errors.errorType"], apart := false, laid := [("errors.errorType", laid_errors_errorType), ("rollkeeper/sum.roundNumbers", laid_rollkeeper_sum_roundNumbers)] }
def DirKeepsSaid : Prop := dirKeepsRow.holds Tryz.pinned (OpenSpec.ofChange dirKeepsSpec)

/-- ITS FALSE NEIGHBOUR: 'it returns false'. Refute it at one input. -/
def dirKeepsWrong : ChangeSpec := { name := "dirKeeps", fn := fun _ => fun
  | [d1, d2] => { results := [.lit (.bool false)], args := [d1, d2] }
  | _ => none }
def DirKeepsWrongFalsely : Prop := dirKeepsRow.holds Tryz.pinned (OpenSpec.ofChange dirKeepsWrong)

/-- 'rollkeeperkeep.DirFresh': WHATEVER THE INPUT: true; the input reads as it did. -/
def dirFreshSpec : ChangeSpec := { name := "dirFresh", fn := fun _ => fun
  | [d1, d2] => { results := [.lit (.bool true)], args := [d1, d2] }
  | _ => none }
def dirFreshRow : OpenClaim := { program := "ytcfpmofmjnhonaagreatdoor", sum := "bf9b65d2aa15928136027ebf3cb046e6aa7d7408bf0e8b8fd70853a37e85d86c", func := "rollkeeper/rollkeeperkeep.DirFresh", spec := "dirFresh", inPlace := ["internal/bytealg.abigen_runtime_cmpstring", "internal/reflectlite.ValueOf", "(internal/reflectlite.Value).Type", "(internal/reflectlite.Value).IsNil", "internal/reflectlite.TypeOf", "(internal/reflectlite.Value).Elem", "(internal/reflectlite.Value).Set"], unfollowed := true, recurses := true, named := ["rollkeeper/sum.roundNumbers", "errors.errorType"], apart := false, laid := [("errors.errorType", laid_errors_errorType), ("rollkeeper/sum.roundNumbers", laid_rollkeeper_sum_roundNumbers)] }
def DirFreshSaid : Prop := dirFreshRow.holds Tryz.pinned (OpenSpec.ofChange dirFreshSpec)

/-- ITS FALSE NEIGHBOUR: 'it returns false'. Refute it at one input. -/
def dirFreshWrong : ChangeSpec := { name := "dirFresh", fn := fun _ => fun
  | [d1, d2] => { results := [.lit (.bool false)], args := [d1, d2] }
  | _ => none }
def DirFreshWrongFalsely : Prop := dirFreshRow.holds Tryz.pinned (OpenSpec.ofChange dirFreshWrong)

/-- 'rollkeeperkeep.DirPast': WHATEVER THE INPUT: true; the input reads as it did. -/
def dirPastSpec : ChangeSpec := { name := "dirPast", fn := fun _ => fun
  | [d1, d2] => { results := [.lit (.bool true)], args := [d1, d2] }
  | _ => none }
def dirPastRow : OpenClaim := { program := "ytcfpmofmjnhonaagreatdoor", sum := "bf9b65d2aa15928136027ebf3cb046e6aa7d7408bf0e8b8fd70853a37e85d86c", func := "rollkeeper/rollkeeperkeep.DirPast", spec := "dirPast", inPlace := ["internal/bytealg.abigen_runtime_cmpstring"], unfollowed := true, recurses := true, named := ["rollkeeper/sum.roundNumbers"], apart := false, laid := [("rollkeeper/sum.roundNumbers", laid_rollkeeper_sum_roundNumbers)] }
def DirPastSaid : Prop := dirPastRow.holds Tryz.pinned (OpenSpec.ofChange dirPastSpec)

/-- ITS FALSE NEIGHBOUR: 'it returns false'. Refute it at one input. -/
def dirPastWrong : ChangeSpec := { name := "dirPast", fn := fun _ => fun
  | [d1, d2] => { results := [.lit (.bool false)], args := [d1, d2] }
  | _ => none }
def DirPastWrongFalsely : Prop := dirPastRow.holds Tryz.pinned (OpenSpec.ofChange dirPastWrong)

/-- 'rollkeeperlaw.ClientSees': WHATEVER THE INPUT: true; the input reads as it did. -/
def clientSeesSpec : ChangeSpec := { name := "clientSees", fn := fun _ => fun
  | [d1, d2, d3] => { results := [.lit (.bool true)], args := [d1, d2, d3] }
  | _ => none }
def clientSeesRow : OpenClaim := { program := "ytcfpmofmjnhonaagreatdoor", sum := "bf9b65d2aa15928136027ebf3cb046e6aa7d7408bf0e8b8fd70853a37e85d86c", func := "rollkeeper/rollkeeperlaw.ClientSees", spec := "clientSees", inPlace := ["internal/reflectlite.ValueOf", "internal/reflectlite.Swapper", "(internal/reflectlite.Value).Len", "internal/abi.NoEscape", "internal/bytealg.MakeNoZero", "(internal/reflectlite.Value).Type", "(internal/reflectlite.Value).IsNil", "internal/reflectlite.TypeOf", "(internal/reflectlite.Value).Elem", "(internal/reflectlite.Value).Set"], unfollowed := true, recurses := true, named := ["errors.errorType", "rollkeeper/sum.roundNumbers"], apart := false, laid := [("errors.errorType", laid_errors_errorType), ("rollkeeper/sum.roundNumbers", laid_rollkeeper_sum_roundNumbers)] }
def ClientSeesSaid : Prop := clientSeesRow.holds Tryz.pinned (OpenSpec.ofChange clientSeesSpec)

/-- ITS FALSE NEIGHBOUR: 'it returns false'. Refute it at one input. -/
def clientSeesWrong : ChangeSpec := { name := "clientSees", fn := fun _ => fun
  | [d1, d2, d3] => { results := [.lit (.bool false)], args := [d1, d2, d3] }
  | _ => none }
def ClientSeesWrongFalsely : Prop := clientSeesRow.holds Tryz.pinned (OpenSpec.ofChange clientSeesWrong)

/-- 'rollkeeperkeep.ClientAgain': WHATEVER THE INPUT: true; the input reads as it did. -/
def clientAgainSpec : ChangeSpec := { name := "clientAgain", fn := fun _ => fun
  | [d1, d2, d3] => { results := [.lit (.bool true)], args := [d1, d2, d3] }
  | _ => none }
def clientAgainRow : OpenClaim := { program := "ytcfpmofmjnhonaagreatdoor", sum := "bf9b65d2aa15928136027ebf3cb046e6aa7d7408bf0e8b8fd70853a37e85d86c", func := "rollkeeper/rollkeeperkeep.ClientAgain", spec := "clientAgain", inPlace := ["internal/bytealg.abigen_runtime_cmpstring"], unfollowed := true, recurses := true, named := ["rollkeeper/sum.roundNumbers"], apart := false, laid := [("rollkeeper/sum.roundNumbers", laid_rollkeeper_sum_roundNumbers)] }
def ClientAgainSaid : Prop := clientAgainRow.holds Tryz.pinned (OpenSpec.ofChange clientAgainSpec)

/-- ITS FALSE NEIGHBOUR: 'it returns false'. Refute it at one input. -/
def clientAgainWrong : ChangeSpec := { name := "clientAgain", fn := fun _ => fun
  | [d1, d2, d3] => { results := [.lit (.bool false)], args := [d1, d2, d3] }
  | _ => none }
def ClientAgainWrongFalsely : Prop := clientAgainRow.holds Tryz.pinned (OpenSpec.ofChange clientAgainWrong)

/-- 'rollkeeperkeep.ClientOrder': WHATEVER THE INPUT: true; the input reads as it did. -/
def clientOrderSpec : ChangeSpec := { name := "clientOrder", fn := fun _ => fun
  | [d1, d2, d3] => { results := [.lit (.bool true)], args := [d1, d2, d3] }
  | _ => none }
def clientOrderRow : OpenClaim := { program := "ytcfpmofmjnhonaagreatdoor", sum := "bf9b65d2aa15928136027ebf3cb046e6aa7d7408bf0e8b8fd70853a37e85d86c", func := "rollkeeper/rollkeeperkeep.ClientOrder", spec := "clientOrder", inPlace := ["internal/bytealg.abigen_runtime_cmpstring", "internal/reflectlite.ValueOf", "(internal/reflectlite.Value).Type", "(internal/reflectlite.Value).IsNil", "internal/reflectlite.TypeOf", "(internal/reflectlite.Value).Elem", "(internal/reflectlite.Value).Set"], unfollowed := true, recurses := true, named := ["rollkeeper/sum.roundNumbers", "errors.errorType"], apart := false, laid := [("errors.errorType", laid_errors_errorType), ("rollkeeper/sum.roundNumbers", laid_rollkeeper_sum_roundNumbers)] }
def ClientOrderSaid : Prop := clientOrderRow.holds Tryz.pinned (OpenSpec.ofChange clientOrderSpec)

/-- ITS FALSE NEIGHBOUR: 'it returns false'. Refute it at one input. -/
def clientOrderWrong : ChangeSpec := { name := "clientOrder", fn := fun _ => fun
  | [d1, d2, d3] => { results := [.lit (.bool false)], args := [d1, d2, d3] }
  | _ => none }
def ClientOrderWrongFalsely : Prop := clientOrderRow.holds Tryz.pinned (OpenSpec.ofChange clientOrderWrong)

/- THE SECOND FORM. 'bulk': how many values and letters a reading holds, each counted each time it is reached (what is shared counts as often as it is met; a slice's spare places count too). A statement '..UptoSaid' is the law's where the arguments, and the package variables that the reading takes, are together of bulk at most 1048576: NARROWER than '..Said'. Prove '..Said' where nothing that the law and all that it calls make is longer than what came in: it says more and counts as full. Else prove '..UptoSaid'. A law counts once. -/
mutual
def uptoBulk {H : Type} : DataW H → Nat
  | .lit (.string bytes) => bytes.length + 1
  | .lit _ => 1
  | .nil => 1
  | .ptr d => uptoBulk d + 1
  | .slice elems spare => uptoBulkAll elems + uptoBulkAll spare + 1
  | .agg parts => uptoBulkAll parts + 1
  | .iface _ d => uptoBulk d + 1
  | .map entries => uptoBulkEntries entries + 1
  | .held _ => 1
def uptoBulkAll {H : Type} : List (DataW H) → Nat
  | [] => 0
  | d :: r => uptoBulk d + uptoBulkAll r
def uptoBulkEntries {H : Type} : List (Lit × DataW H) → Nat
  | [] => 0
  | x :: r => uptoBulkEntry x + uptoBulkEntries r
def uptoBulkEntry {H : Type} : Lit × DataW H → Nat
  | (.string bytes, d) => bytes.length + uptoBulk d + 1
  | (_, d) => uptoBulk d + 1
 end
def uptoSmall : (H : Type) → List (DataW H) → Bool := fun _ ds => decide (uptoBulkAll ds ≤ 1048576)
def OpenSpec.upto (s : _root_.Go.ChangeSpec) : _root_.Go.OpenSpec := { _root_.Go.OpenSpec.ofChange s with cond := some uptoSmall }

/-- 'rollkeeperlaw.DirKeeps', WHERE WHAT IT READS IS OF BULK AT MOST 1048576: true; the input reads as it did. -/
def dirKeepsUptoRow : OpenClaim := { program := "ytcfpmofmjnhonaagreatdoor", sum := "bf9b65d2aa15928136027ebf3cb046e6aa7d7408bf0e8b8fd70853a37e85d86c", func := "rollkeeper/rollkeeperlaw.DirKeeps", spec := "dirKeeps", inPlace := ["internal/reflectlite.ValueOf", "(internal/reflectlite.Value).Type", "(internal/reflectlite.Value).IsNil", "internal/reflectlite.TypeOf", "(internal/reflectlite.Value).Elem", "(internal/reflectlite.Value).Set", "internal/reflectlite.Swapper", "(internal/reflectlite.Value).Len", "internal/abi.NoEscape", "internal/bytealg.MakeNoZero", "internal/bytealg.abigen_runtime_cmpstring"], unfollowed := true, recurses := true, named := ["rollkeeper/sum.roundNumbers", "errors.errorType"], apart := false, laid := [("errors.errorType", laid_errors_errorType), ("rollkeeper/sum.roundNumbers", laid_rollkeeper_sum_roundNumbers)], narrowed := true }
def DirKeepsUptoSaid : Prop := dirKeepsUptoRow.holds Tryz.pinned (OpenSpec.upto dirKeepsSpec)

/-- 'rollkeeperkeep.DirFresh', WHERE WHAT IT READS IS OF BULK AT MOST 1048576: true; the input reads as it did. -/
def dirFreshUptoRow : OpenClaim := { program := "ytcfpmofmjnhonaagreatdoor", sum := "bf9b65d2aa15928136027ebf3cb046e6aa7d7408bf0e8b8fd70853a37e85d86c", func := "rollkeeper/rollkeeperkeep.DirFresh", spec := "dirFresh", inPlace := ["internal/bytealg.abigen_runtime_cmpstring", "internal/reflectlite.ValueOf", "(internal/reflectlite.Value).Type", "(internal/reflectlite.Value).IsNil", "internal/reflectlite.TypeOf", "(internal/reflectlite.Value).Elem", "(internal/reflectlite.Value).Set"], unfollowed := true, recurses := true, named := ["rollkeeper/sum.roundNumbers", "errors.errorType"], apart := false, laid := [("errors.errorType", laid_errors_errorType), ("rollkeeper/sum.roundNumbers", laid_rollkeeper_sum_roundNumbers)], narrowed := true }
def DirFreshUptoSaid : Prop := dirFreshUptoRow.holds Tryz.pinned (OpenSpec.upto dirFreshSpec)

/-- 'rollkeeperkeep.DirPast', WHERE WHAT IT READS IS OF BULK AT MOST 1048576: true; the input reads as it did. -/
def dirPastUptoRow : OpenClaim := { program := "ytcfpmofmjnhonaagreatdoor", sum := "bf9b65d2aa15928136027ebf3cb046e6aa7d7408bf0e8b8fd70853a37e85d86c", func := "rollkeeper/rollkeeperkeep.DirPast", spec := "dirPast", inPlace := ["internal/bytealg.abigen_runtime_cmpstring"], unfollowed := true, recurses := true, named := ["rollkeeper/sum.roundNumbers"], apart := false, laid := [("rollkeeper/sum.roundNumbers", laid_rollkeeper_sum_roundNumbers)], narrowed := true }
def DirPastUptoSaid : Prop := dirPastUptoRow.holds Tryz.pinned (OpenSpec.upto dirPastSpec)

/-- 'rollkeeperlaw.ClientSees', WHERE WHAT IT READS IS OF BULK AT MOST 1048576: true; the input reads as it did. -/
def clientSeesUptoRow : OpenClaim := { program := "ytcfpmofmjnhonaagreatdoor", sum := "bf9b65d2aa15928136027ebf3cb046e6aa7d7408bf0e8b8fd70853a37e85d86c", func := "rollkeeper/rollkeeperlaw.ClientSees", spec := "clientSees", inPlace := ["internal/reflectlite.ValueOf", "internal/reflectlite.Swapper", "(internal/reflectlite.Value).Len", "internal/abi.NoEscape", "internal/bytealg.MakeNoZero", "(internal/reflectlite.Value).Type", "(internal/reflectlite.Value).IsNil", "internal/reflectlite.TypeOf", "(internal/reflectlite.Value).Elem", "(internal/reflectlite.Value).Set"], unfollowed := true, recurses := true, named := ["errors.errorType", "rollkeeper/sum.roundNumbers"], apart := false, laid := [("errors.errorType", laid_errors_errorType), ("rollkeeper/sum.roundNumbers", laid_rollkeeper_sum_roundNumbers)], narrowed := true }
def ClientSeesUptoSaid : Prop := clientSeesUptoRow.holds Tryz.pinned (OpenSpec.upto clientSeesSpec)

/-- 'rollkeeperkeep.ClientAgain', WHERE WHAT IT READS IS OF BULK AT MOST 1048576: true; the input reads as it did. -/
def clientAgainUptoRow : OpenClaim := { program := "ytcfpmofmjnhonaagreatdoor", sum := "bf9b65d2aa15928136027ebf3cb046e6aa7d7408bf0e8b8fd70853a37e85d86c", func := "rollkeeper/rollkeeperkeep.ClientAgain", spec := "clientAgain", inPlace := ["internal/bytealg.abigen_runtime_cmpstring"], unfollowed := true, recurses := true, named := ["rollkeeper/sum.roundNumbers"], apart := false, laid := [("rollkeeper/sum.roundNumbers", laid_rollkeeper_sum_roundNumbers)], narrowed := true }
def ClientAgainUptoSaid : Prop := clientAgainUptoRow.holds Tryz.pinned (OpenSpec.upto clientAgainSpec)

/-- 'rollkeeperkeep.ClientOrder', WHERE WHAT IT READS IS OF BULK AT MOST 1048576: true; the input reads as it did. -/
def clientOrderUptoRow : OpenClaim := { program := "ytcfpmofmjnhonaagreatdoor", sum := "bf9b65d2aa15928136027ebf3cb046e6aa7d7408bf0e8b8fd70853a37e85d86c", func := "rollkeeper/rollkeeperkeep.ClientOrder", spec := "clientOrder", inPlace := ["internal/bytealg.abigen_runtime_cmpstring", "internal/reflectlite.ValueOf", "(internal/reflectlite.Value).Type", "(internal/reflectlite.Value).IsNil", "internal/reflectlite.TypeOf", "(internal/reflectlite.Value).Elem", "(internal/reflectlite.Value).Set"], unfollowed := true, recurses := true, named := ["rollkeeper/sum.roundNumbers", "errors.errorType"], apart := false, laid := [("errors.errorType", laid_errors_errorType), ("rollkeeper/sum.roundNumbers", laid_rollkeeper_sum_roundNumbers)], narrowed := true }
def ClientOrderUptoSaid : Prop := clientOrderUptoRow.holds Tryz.pinned (OpenSpec.upto clientOrderSpec)

end Rows
end Go.Proofs.YtcfpmofmjnhonaaGreatDoor
