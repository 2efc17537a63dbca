/- AuditOrder: in whichever order an auditor hears what was told to each, as long as it hears of each in order, it finds the same, and it never panics: the statement and its tied card. -/
import Derived.WalkKit
import Derived.Lib.Hide
import Derived.WalkLawsBesides
import Derived.Deep.QuietTactic
import Derived.Deep.WholeRow
import Derived.ArgAppend
import Derived.Laws.AppendOwnNone
import Derived.Laws.CopyRow
import Derived.Deep.RegionLaw
import Derived.Laws.BytesString
import Derived.Laws.IdiomStrings
import Derived.Test.YtgjmbokfenpefaaGreatDoorProg
import Derived.StringKeys
import Derived.Maps.Own
import Derived.Maps.Views
import Derived.Maps.OwnSet
import Derived.Maps.OwnOps
import Derived.Maps.RangeWalk
import Derived.Sort.KeysCollected
import Derived.Laws.BitsAllLaws
import Derived.Outline
import Derived.BigQuiet
import Derived.Laws.CopyOwn
import Derived.RegionTactic
import Derived.StillTail
import Derived.Deep.Quiet
import Derived.Deep.RegionHeld3
import Derived.Deep.DeepCutAuto
import Derived.Laws.ResultCell
import Derived.IntWalk
import Derived.Sort.Walk0
import Derived.Tactics
import Derived.Orders
import Derived.LaidEql
import Derived.Stop.Asserts
import Derived.RowKitTokens
import Derived.OrdersHeld
import Derived.Sort.LotA
import Derived.Lib.SortBridge
import Derived.Deep.AppendSrc
import Derived.Shelf.SlSortFuncK.WholeK
import Derived.Ground.GgsProg
import Derived.Shelf.GgSortFunc.Tiny
import Derived.Shelf.Strings.Repeat
import Derived.KernelRfl
import Derived.Laws.StructEq
import Derived.WideKeyEntry
import Derived.Deep.CutRange
import Derived.Shelf.SlGeneric
import Derived.Shelf.SlIter.Nil
import Derived.Shelf.SortM.Plain
import Derived.Shelf.SortM.SortNone
import Derived.Ground.GgzProg
import Derived.Ground.SlgmProg
import Derived.RangeFuncNested
import Derived.RangeFuncBound
import Derived.RangeFuncCalls
import Derived.RangeFuncLeaves
import Derived.Shelf.Abstract
import Derived.Shelf.RegionOpen
import Derived.OwnWalkIn
import Derived.TacticsInMore
import Derived.LoopNIn
import Derived.LoopIn
import Derived.OrdersIn
import Derived.TacticsIn
import Derived.Shelf.Small.Strs
import Derived.Deep.Slices
import Derived.Deep.Fields
import Derived.ChangeSame
import Derived.Lib.SmallJoins
import Derived.SliceStrings
import Derived.OpenShut
import Derived.Test.YtgjmbokfenpefaaGreatDoorRows
import Derived.ProofKit
import Derived.Deep.DeepHandedRow
import Derived.Lib.LaidTab
import Derived.LaidHandle
import Derived.ChangeSlices
import Derived.Test.YtgjmbokfenpefaaGreatDoorCards
import Derived.Test.YtgjmbokfenpefaaGreatDoorTie
import Derived.Test.YtgjmbokfenpefaaGreatDoorM1
import Derived.Test.YtgjmbokfenpefaaGreatDoorM2
import Derived.Test.YtgjmbokfenpefaaGreatDoorM3
import Derived.Test.YtgjmbokfenpefaaGreatDoorM4
import Derived.Test.YtgjmbokfenpefaaGreatDoorM5
import Derived.Test.YtgjmbokfenpefaaGreatDoorM6
import Derived.Test.YtgjmbokfenpefaaGreatDoorM7
import Derived.Test.YtgjmbokfenpefaaGreatDoorM8
import Derived.Test.YtgjmbokfenpefaaGreatDoorM9
import Derived.Test.YtgjmbokfenpefaaGreatDoorM10
import Derived.Test.YtgjmbokfenpefaaGreatDoorM11
import Derived.Test.YtgjmbokfenpefaaGreatDoorM12
import Derived.Test.YtgjmbokfenpefaaGreatDoorM13
import Derived.Test.YtgjmbokfenpefaaGreatDoorM14
import Derived.Test.YtgjmbokfenpefaaGreatDoorM15
import Derived.Test.YtgjmbokfenpefaaGreatDoorM17
import Derived.Test.YtgjmbokfenpefaaGreatDoorM18
import Derived.Test.YtgjmbokfenpefaaGreatDoorM19
import Derived.Test.YtgjmbokfenpefaaGreatDoorM20
import Derived.Test.YtgjmbokfenpefaaGreatDoorM21
import Derived.Test.YtgjmbokfenpefaaGreatDoorM22
import Derived.Test.YtgjmbokfenpefaaGreatDoorM23
import Derived.Test.YtgjmbokfenpefaaGreatDoorM24
import Derived.Test.YtgjmbokfenpefaaGreatDoorM25
import Derived.Test.YtgjmbokfenpefaaGreatDoorM26
import Derived.Test.YtgjmbokfenpefaaGreatDoorM27
import Derived.Test.YtgjmbokfenpefaaGreatDoorM28
import Derived.Test.YtgjmbokfenpefaaGreatDoorM29
import Derived.Test.YtgjmbokfenpefaaGreatDoorM30
import Derived.Test.YtgjmbokfenpefaaGreatDoorM31
import Derived.Test.YtgjmbokfenpefaaGreatDoorM32
import Derived.Test.YtgjmbokfenpefaaGreatDoorM51
import Derived.Test.YtgjmbokfenpefaaGreatDoorM52
import Derived.Test.YtgjmbokfenpefaaGreatDoorM53
import Derived.Test.YtgjmbokfenpefaaGreatDoorPAu
import Derived.Test.YtgjmbokfenpefaaGreatDoorForkU
import Derived.Test.YtgjmbokfenpefaaGreatDoorIterC
import Derived.Test.YtgjmbokfenpefaaGreatDoorPTell
import Derived.Test.YtgjmbokfenpefaaGreatDoorPLast
import Derived.Test.YtgjmbokfenpefaaGreatDoorPHeadsOf
import Derived.Test.YtgjmbokfenpefaaGreatDoorPNames
import Derived.Test.YtgjmbokfenpefaaGreatDoorPForks
import Derived.Test.YtgjmbokfenpefaaGreatDoorPAuditF
namespace Go.Proofs.YtgjmbokfenpefaaGreatDoor
open Go.ChangeShapes Go.WideShapes Go.ChangeAt Go.RowKit
open Go.ChangeMaps (open_string shut_string)

theorem turn_tables {W : World} (h : laidMetH Tryz.prog Rows.auditOrderRow.laid W) : HasK W := by
  have h1 : laidMet Tryz.prog [("rollkeeper/sum.roundNumbers", kData)] W := h
  obtain ⟨ps, hv, _⟩ := h1
  exact hasK_of_vars hv

set_option maxRecDepth 100000 in
theorem turn_contract (H : Type) (enc : TypeId × Value → H) (W : World) (base : Nat) (args : Array Value) (ds gs : List (DataW H)) (before : List MemPlace)
    (hval : ∀ (j : Nat) t v, Tryz.f4.params[j]? = some t → args[j]? = some v → Value.okWide Tryz.prog W .any base t v)
    (hW : DataW.Whole enc Tryz.prog Tryz.f4.params.toList Rows.auditOrderSpec.vars false W args.toList ds gs before) (hLd : laidMetH Tryz.prog Rows.auditOrderRow.laid W) :
    Calls Tryz.prog 4 args W fun e W' => ∃ v, e = .returned v ∧ Rows.auditOrderSpec.post enc Tryz.prog Tryz.f4 false true false false W args v W' := by
  have hK := turn_tables hLd
  have hW' := hW
  obtain ⟨p, q, hA0, hV, rfl, hfz, hnd⟩ := hW
  have hA : DataW.TrodAll enc Tryz.prog W 0 (fun _ => true) true Tryz.f4.params.toList args.toList ds p := hA0
  rw [Tryz.params4] at hA hval
  obtain ⟨v0, vs0, d0, ds0, p0, q0, hargs0, rfl, rfl, h0, r0⟩ := trodAll_cons hA
  obtain ⟨v1, vs1, d1, ds1, p1, q1, hargs1, rfl, rfl, h1, r1⟩ := trodAll_cons r0
  obtain ⟨v2, vs2, d2, ds2, p2, q2, hargs2, rfl, rfl, h2, r2⟩ := trodAll_cons r1
  obtain ⟨v3, vs3, d3, ds3, p3, q3, hargs3, rfl, rfl, h3, r3⟩ := trodAll_cons r2
  obtain ⟨rfl, rfl, rfl⟩ := trodAll_nil r3
  subst hargs3 hargs2 hargs1
  obtain rfl : args = #[v0, v1, v2, v3] := by cases args; simp_all
  obtain ⟨rfl, rfl⟩ := trodVars_none hV
  have h0k := h0
  obtain ⟨a0, len0, cap0, rfl⟩ := okWide_slice Tryz.underlying76 (hval 0 76 v0 rfl rfl)
  obtain ⟨L0, rfl, hc0, hL0⟩ := open_heads Tryz.underlying76 Tryz.underlying86 (by kernel_rfl) (by kernel_rfl) Tryz.underlying3 Tryz.underlying9 Tryz.underlying9 h0
  have hlt0 : ∀ x ∈ p0, x.block < W.heap.size := fun x hx => by
    have := hW'.lt x (by simp [hx]); simpa using this
  have h1k := h1
  obtain ⟨a1, len1, cap1, rfl⟩ := okWide_slice Tryz.underlying76 (hval 1 76 v1 rfl rfl)
  obtain ⟨L1, rfl, hc1, hL1⟩ := open_heads Tryz.underlying76 Tryz.underlying86 (by kernel_rfl) (by kernel_rfl) Tryz.underlying3 Tryz.underlying9 Tryz.underlying9 h1
  have hlt1 : ∀ x ∈ p1, x.block < W.heap.size := fun x hx => by
    have := hW'.lt x (by simp [hx]); simpa using this
  have h2k := h2
  obtain ⟨a2, len2, cap2, rfl⟩ := okWide_slice Tryz.underlying76 (hval 2 76 v2 rfl rfl)
  obtain ⟨L2, rfl, hc2, hL2⟩ := open_heads Tryz.underlying76 Tryz.underlying86 (by kernel_rfl) (by kernel_rfl) Tryz.underlying3 Tryz.underlying9 Tryz.underlying9 h2
  have hlt2 : ∀ x ∈ p2, x.block < W.heap.size := fun x hx => by
    have := hW'.lt x (by simp [hx]); simpa using this
  have h3k := h3
  obtain ⟨a3, len3, cap3, rfl⟩ := okWide_slice Tryz.underlying77 (hval 3 77 v3 rfl rfl)
  obtain ⟨L3, rfl, hL3⟩ := open_bits Tryz.underlying77 Tryz.underlying4 (by kernel_rfl) h3
  have hlt3 : ∀ x ∈ p3, x.block < W.heap.size := fun x hx => by
    have := hW'.lt x (by simp [hx]); simpa using this
  refine (auditOrder_any dirFace clientFace auditFace L0 L1 L2 a0 a1 a2 cap0 cap1 cap2 L3 a3 cap3 W hK hL0 hL1 hL2 hL3).mono fun e W' ⟨he, hb⟩ => ⟨_, he, ?_⟩
  refine ⟨_, _, _, [], (p0 ++ (p1 ++ (p2 ++ (p3 ++ [])))), [], hW', ?_, ?_, rfl, hb.frame _, fun h => by cases h⟩
  · exact trodAll_mk1 (shut_bool Tryz.underlying4 _)
  · exact trodAll_cons_mk (Below.trod sumLaidOut (by kernel_rfl) (of_decide_eq_true (by kernel_rfl)) h0k hb hlt0) (trodAll_cons_mk (Below.trod sumLaidOut (by kernel_rfl) (of_decide_eq_true (by kernel_rfl)) h1k hb hlt1) (trodAll_cons_mk (Below.trod sumLaidOut (by kernel_rfl) (of_decide_eq_true (by kernel_rfl)) h2k hb hlt2) (trodAll_cons_mk (Below.trod sumLaidOut (by kernel_rfl) (of_decide_eq_true (by kernel_rfl)) h3k hb hlt3) trodAll_mk0)))

/-- A WORLD FOR THE WITNESS. -/
noncomputable def laidWorld (os : Os) : World := laidK (World.holding Tryz.prog os ⟨#[], #[], []⟩)
noncomputable abbrev witArgs : Array Value := #[.slice none 0 0, .slice none 0 0, .slice none 0 0, .slice none 0 0]
theorem laid_met (os : Os) : laidMetH Tryz.prog Rows.auditOrderRow.laid ((laidWorld os).forCall (fun _ _ => 0) ⟨#[], witArgs, []⟩).memory :=
  laidMet_of_run' 8 (by kernel_rfl) (by kernel_rfl)
theorem reads (os : Os) {H : Type} (enc : TypeId × Value → H) : ∃ places, DataW.whole enc Tryz.prog ((laidWorld os).forCall (fun _ _ => 0) ⟨#[], witArgs, []⟩).memory Tryz.f4.params.toList Rows.auditOrderSpec.vars false witArgs.toList 8 = some ([.nil, .nil, .nil, .nil], [], places) :=
  ⟨[], by kernel_rfl⟩

set_option maxRecDepth 100000 in
theorem lifted (os : Os) (started : os.Started) (H : Type) (enc : TypeId × Value → H) (F : Stop.Interp) :
    ReturnsInHanded {} Tryz.checked os 4 .any ((OpenSpec.ofChange Rows.auditOrderSpec).preRow enc Tryz.prog Tryz.f4 Rows.auditOrderRow.domain false Rows.auditOrderRow.laid) (((OpenSpec.ofChange Rows.auditOrderSpec).at F).post enc Tryz.prog Tryz.f4 false true false false) := by
  obtain ⟨places, hx⟩ := reads os enc
  refine returnsInHanded_of_row (C := Tryz.checked) (s := OpenSpec.ofChange Rows.auditOrderSpec) sumOwn started (by kernel_rfl) Tryz.func4
    (witness_row_at (enc := enc) (C := Tryz.checked) false (laidWorld os) witArgs rfl (by kernel_rfl) (by kernel_rfl) (by kernel_rfl)
      (OpenSpec.preRow_of_cond 8 hx (by kernel_rfl) (fun k hk => by cases hk) (by kernel_rfl) (laid_met os))) ?_
  intro W base args ds gs before hval hW _ _ _ hL _ _
  exact turn_contract H enc W base args ds gs before hval hW hL

theorem said : Rows.AuditOrderSaid :=
  OpenClaim.holds_of_cond 4 Tryz.f4 rfl rfl rfl rfl rfl rfl rfl ⟨rfl, rfl, rfl, rfl, rfl⟩ rfl rfl rfl rfl rfl (by kernel_rfl) Tryz.func4 (by kernel_rfl)
    (of_decide_eq_true (by kernel_rfl)) (by unfold Func.isWrapper; first | (rw [if_pos (by decide +kernel)]; kernel_rfl) | (rw [if_neg (by decide +kernel)]; exact ⟨rfl, rfl⟩))
    (fun os started H enc _ F => by rw [OpenClaim.pre_eq_preRow]; exact lifted os started H enc F)

/-- No parameter wants a stand-in; the program's own looks are off. -/
theorem plain (f : FuncId) (fn : Func) (hf : Tryz.pinned.checked.prog.funcNamed "rollkeeper/rollkeeperkeep.AuditOrder" = some f) (hfn : Tryz.pinned.checked.prog.funcs[f]? = some fn) :
    true = Tryz.pinned.checked.prog.looks [] ∧ ∀ (j : Nat) t, fn.params[j]? = some t → Tryz.pinned.checked.prog.wantsStandIn t = false := by
  obtain rfl : f = 4 := Option.some.inj ((show Tryz.prog.funcNamed "rollkeeper/rollkeeperkeep.AuditOrder" = some 4 by kernel_rfl).symm.trans hf) |>.symm
  obtain rfl : fn = Tryz.f4 := (Option.some.inj (Tryz.func4.symm.trans hfn)).symm
  refine ⟨by kernel_rfl, fun j t ht => ?_⟩
  rw [Tryz.params4] at ht
  have hm : t ∈ [76, 76, 76, 77] := by simpa using Array.mem_of_getElem? ht
  have hall : ([76, 76, 76, 77].all fun u => !Tryz.prog.wantsStandIn u) = true := by kernel_rfl
  exact (show Tryz.prog.wantsStandIn t = false by simpa using List.all_eq_true.1 hall t hm)

/-- THE CARD. -/
theorem auditOrder_card : Rows.AuditOrderCardSaid :=
  Claim7.holds_tied_plain_at .later [] _ _ _ _ said (fun _ h => by cases h) (by kernel_rfl) (fun _ h => by cases h) auditOrder_row_tie rfl ⟨rfl, rfl⟩ (by kernel_rfl) rfl plain (by kernel_rfl)
#print axioms auditOrder_card
end Go.Proofs.YtgjmbokfenpefaaGreatDoor
