/- What a row's listed variables give a walk: the round numbers, the handle of errors.errorType, any table on the list; a world for the witness. -/
import Derived.Test.YthbfmdgnhipobaaDoorRows
import Derived.Test.YthbfmdgnhipobaaDoorKTab
import Derived.Test.YthbfmdgnhipobaaDoorWords
import Derived.Test.YthbfmdgnhipobaaDoorAs
import Derived.WalkKit
import Derived.ProofKit
import Derived.OpenShut
import Derived.Deep.DeepHandedRow
import Derived.Lib.LaidTab
import Derived.LaidHandle
namespace Go.Proofs.YthbfmdgnhipobaaDoor
open Go.ChangeShapes Go.WideShapes Go.ChangeAt Go.RowKit

theorem sumOwn : ownKnob Tryd.prog.godebug = none := by kernel_rfl
theorem sumLaidOut : laidOutB Tryd.prog = true := by kernel_rfl
theorem gK : Tryd.prog.globalNamed "rollkeeper/sum.roundNumbers" = some 0 := by kernel_rfl
theorem gKType : (Tryd.prog.globals[0]?).map (·.type) = some 44 := by kernel_rfl
theorem cellsA32 : Tryd.prog.cellsOf 44 = 64 := by kernel_rfl
theorem cellsU32 : Tryd.prog.cellsOf 42 = 1 := by kernel_rfl
theorem cellsStr : Tryd.prog.cellsOf 9 = 1 := by kernel_rfl

/-- A table that stands somewhere on the row's list. -/
theorem tab_of_vars {P : Program} {W : World} {name : String} {k : IntKind} {zs : List Int} {rest : List (String × DataW Unit)} {ps : List MemPlace} {g : Nat} {t e : TypeId} {n : Nat}
    (hg : P.globalNamed name = some g) (hty : (P.globals[g]?).map (·.type) = some t) (ht : P.underlying t = some (.array n e)) (he : P.underlying e = some (.int k)) (hce : P.cellsOf e = 1) (hct : P.cellsOf t = n)
    (h : DataW.LaidVars P W ((name, Lib.tabData k zs) :: rest) ps) : Lib.TabIs P W name k zs := by
  obtain ⟨g', t', cs, fuel, p, q, hg', ht', hvar, hd, _, _⟩ := h
  obtain rfl := Option.some.inj (hg.symm.trans hg')
  obtain rfl := Option.some.inj (hty.symm.trans ht')
  unfold Lib.TabIs
  rw [hvar, ← Lib.cells_of_tab ht he hce hct hd]
theorem vars_tail {P : Program} {W : World} {x : String × DataW Unit} {rest : List (String × DataW Unit)} {ps : List MemPlace} (h : DataW.LaidVars P W (x :: rest) ps) : ∃ q, DataW.LaidVars P W rest q := by
  obtain ⟨n, d⟩ := x
  obtain ⟨_, _, _, _, _, q, _, _, _, _, h, _⟩ := h
  exact ⟨q, h⟩
/-- The round numbers as a row lists them. -/
def kData : DataW Unit := Lib.tabData .u32 (kTab.map fun n : Nat => (n : Int))
theorem hasK_of_vars {W : World} {rest : List (String × DataW Unit)} {ps : List MemPlace} (h : DataW.LaidVars Tryd.prog W (("rollkeeper/sum.roundNumbers", kData) :: rest) ps) : HasK W := by
  have t0 := tab_of_vars gK gKType Tryd.underlying44 Tryd.underlying42 cellsU32 cellsA32 h
  intro i hi
  rw [t0.cell gK i (by rw [List.length_map]; exact hi)]
  have hlt : kTab.getD i 0 < 4294967296 := by rw [← k_root i hi]; exact Nat.mod_lt _ (by decide)
  have e1 : (kTab.map fun n : Nat => (n : Int)).getD i 0 = ((kTab.getD i 0 : Nat) : Int) := by
    rw [List.getD_eq_getElem?_getD, List.getD_eq_getElem?_getD, List.getElem?_map]
    cases kTab[i]? <;> rfl
  rw [e1]
  unfold W32 kOf
  rw [BitVec.toNat_ofNat, Nat.mod_eq_of_lt (by omega)]

theorem gErrType : Tryd.prog.globalNamed "errors.errorType" = some 1 := by kernel_rfl
theorem rtErr : (Tryd.prog.cutTypes.find? (·.1 == "internal/reflectlite.rtype")).map (·.2) = some 100 := by kernel_rfl
theorem oneRowErr : ((List.range Tryd.prog.types.size).filter fun t => Tryd.prog.rowNamed t [101, 114, 114, 111, 114]) = [29] := by kernel_rfl
def errData : DataW Unit := .iface "internal/reflectlite.rtype" (.agg [.ptr (.lit (.string [101, 114, 114, 111, 114]))])
theorem handle_of_laid {W : World} {l : List (String × DataW Unit)} (h : handlesMet Tryd.prog l W) (hm : ("errors.errorType", errData) ∈ l) :
    W.cell? ⟨1, 0, none⟩ = some (.iface 100 (.agg #[hand 29])) := by
  obtain ⟨name, u, ty, e1, e2, e3, e4, e5⟩ := h _ hm
  have en : name = [101, 114, 114, 111, 114] := (Option.some.inj e1).symm
  subst en
  obtain rfl := Option.some.inj (rtErr.symm.trans e2)
  have hm : ty ∈ (List.range Tryd.prog.types.size).filter fun t => Tryd.prog.rowNamed t [101, 114, 114, 111, 114] := List.mem_filter.2 ⟨List.mem_range.2 e3, e4⟩
  rw [oneRowErr] at hm
  obtain rfl := List.mem_singleton.1 hm
  have hh : typeHandle Tryd.prog 29 = hand 29 := by kernel_rfl
  rw [hh] at e5
  simpa using World.var?_cell gErrType e5 0

/-- A world for the witness: variables laid, one after the other. -/
def laidCells : DataW Unit → Array Value
  | .agg l => (l.map fun
    | .lit (.int k z) => Value.int k z
    | _ => .bool false).toArray
  | _ => #[]
noncomputable def laidBy (g : Nat) (cs : Array Value) (w : World) : World :=
  { w with heap := w.heap.modify g fun
      | .cells _ t frozen => .cells cs t frozen
      | o => o }
noncomputable def laidAt (g : Nat) (d : DataW Unit) (w : World) : World := laidBy g (laidCells d) w
noncomputable def laidErr (w : World) : World := laidBy 1 #[.iface 100 (.agg #[hand 29])] w
noncomputable def laidK (w : World) : World := laidAt 0 kData w
end Go.Proofs.YthbfmdgnhipobaaDoor
