/- Parts of the proof, one behind the other: As, TellErr, HeadEql, Laid. -/
import Derived.WalkKit
import Derived.Lib.Hide
import Derived.WalkLawsBesides
import Derived.Deep.QuietTactic
import Derived.Deep.WholeRow
import Derived.Test.YtgjmbokfenpefaaGreatDoorProg
import Derived.LaidEql
import Derived.Stop.Asserts
import Derived.RowKitTokens
import Derived.ArgAppend
import Derived.Laws.AppendOwnNone
import Derived.Laws.CopyRow
import Derived.Deep.RegionLaw
import Derived.Laws.BytesString
import Derived.Laws.IdiomStrings
import Derived.Laws.BitsAllLaws
import Derived.Outline
import Derived.BigQuiet
import Derived.Laws.CopyOwn
import Derived.RegionTactic
import Derived.StillTail
import Derived.Deep.Quiet
import Derived.Deep.RegionHeld3
import Derived.Deep.DeepCutAuto
import Derived.Laws.ResultCell
import Derived.IntWalk
import Derived.Sort.Walk0
import Derived.Laws.StructEq
import Derived.Test.YtgjmbokfenpefaaGreatDoorRows
import Derived.ProofKit
import Derived.OpenShut
import Derived.Deep.DeepHandedRow
import Derived.Lib.LaidTab
import Derived.LaidHandle
import Derived.Test.YtgjmbokfenpefaaGreatDoorM1
import Derived.Test.YtgjmbokfenpefaaGreatDoorM2
import Derived.Test.YtgjmbokfenpefaaGreatDoorM3
import Derived.Test.YtgjmbokfenpefaaGreatDoorM4
import Derived.Test.YtgjmbokfenpefaaGreatDoorM5
import Derived.Test.YtgjmbokfenpefaaGreatDoorM7
import Derived.Test.YtgjmbokfenpefaaGreatDoorM14
/- errors.As at a nil error, and at an api.Errno whose target is a *api.Errno (after the kit's worked example). -/
namespace Go.Proofs.YtgjmbokfenpefaaGreatDoor
open Go.RowKit Go.Extern.Stop Go.Stop Go.Extern

/-- A type's handle. -/
noncomputable def hand0 : Nat := Tryz.prog.globals.size
noncomputable abbrev hand (t : Nat) : Value := .pointer (some ⟨hand0, t, none⟩)
theorem tValueOf (t : Addr) (w : World) : (ReflectliteValue.unpack (.iface 160 (.pointer (some t)))).run Tryz.prog w
    = .ok (.agg #[hand 160, .pointer (some ⟨w.heap.size, 0, none⟩), .int .u64 150]) (w.alloc (.cells #[.pointer (some t)] 160)) := by kernel_rfl
theorem tType (a : Addr) (w : World) : (ReflectliteValue.methodAny (ReflectliteValue.valueError "reflectlite.Value.Type" 0) (fun t _ _ _ => ReflectliteType.toType t) #[.agg #[hand 160, .pointer (some a), .int .u64 150]]).run Tryz.prog w
    = .ok (.iface 247 (.agg #[hand 160])) w := by kernel_rfl

theorem tKind (m k : Nat) (w : World) : (Go.method (m + 9) 247 (.agg #[hand k]) "Kind").run Tryz.prog w = .ok (269, hand k) w := by kernel_rfl
theorem tMethodElem (m : Nat) (h : Value) (w : World) : (Go.method (m + 9) 247 (.agg #[h]) "Elem").run Tryz.prog w = .ok (281, .agg #[h]) w := by kernel_rfl
theorem tMethodImplements (m : Nat) (h : Value) (w : World) : (Go.method (m + 9) 247 (.agg #[h]) "Implements").run Tryz.prog w = .ok (282, .agg #[h]) w := by kernel_rfl
theorem tMethodAssignable (m : Nat) (h : Value) (w : World) : (Go.method (m + 9) 247 (.agg #[h]) "AssignableTo").run Tryz.prog w = .ok (279, .agg #[h]) w := by kernel_rfl
theorem tKindPtr (w : World) : ((ReflectliteType.abiMethod fun t => (fun a : Nat => Value.int IntKind.u8 (a : Int)) <$> Rtype.kind t) #[hand 160]).run Tryz.prog w = .ok (.int .u8 22) w := by kernel_rfl
theorem tKindInt (w : World) : ((ReflectliteType.abiMethod fun t => (fun a : Nat => Value.int IntKind.u8 (a : Int)) <$> Rtype.kind t) #[hand 28]).run Tryz.prog w = .ok (.int .u8 2) w := by kernel_rfl
theorem rlm (z : Sem Value) (f : TypeId → Addr → Nat → Nat → Sem Value) (v : Value) :
    ReflectliteValue.method z f #[v] = (do match ← ReflectliteValue.parts v with | none => z | some (t, a, fl) => f t a fl (fl % 32)) := rfl
theorem tParts (a : Addr) (w : World) : (ReflectliteValue.parts (.agg #[hand 160, .pointer (some a), .int .u64 150])).run Tryz.prog w = .ok (some (160, a, 150)) w := by kernel_rfl
theorem tIsNil (a p : Addr) (W : World) (ha : W.cell? a = some (.pointer (some p))) :
    (ReflectliteValue.method (ReflectliteValue.valueError "reflectlite.Value.IsNil" 0) ReflectliteValue.isNil #[.agg #[hand 160, .pointer (some a), .int .u64 150]]).run Tryz.prog W = .ok (.bool false) W := by
  rw [rlm]
  simp only [Sem.run_bind, tParts, Result.andThen]
  simp [ReflectliteValue.isNil, loadVar, isAgg, underlying, Tryz.underlying160, ha, Result.andThen]
theorem tElem (w : World) : (ReflectliteType.method ReflectliteType.elem #[.agg #[hand 160]]).run Tryz.prog w = .ok (.iface 247 (.agg #[hand 28])) w := by kernel_rfl
theorem tImplements (w : World) : (ReflectliteType.relation "Implements" ReflectliteType.implements_ #[.agg #[hand 28], .iface 247 (.agg #[hand 44])]).run Tryz.prog w = .ok (.bool true) w := by kernel_rfl
theorem tTypeOf (v : Value) (w : World) : (ReflectliteType.typeOf #[.iface 28 v]).run Tryz.prog w = .ok (.iface 247 (.agg #[hand 28])) w := by kernel_rfl
theorem tAssignable (w : World) : (ReflectliteType.relation "AssignableTo" ReflectliteType.assignableTo #[.agg #[hand 28], .iface 247 (.agg #[hand 28])]).run Tryz.prog w = .ok (.bool true) w := by kernel_rfl
theorem tValueOfE (n : Int) (w : World) : (ReflectliteValue.unpack (.iface 28 (.int .i64 n))).run Tryz.prog w
    = .ok (.agg #[hand 28, .pointer (some ⟨w.heap.size, 0, none⟩), .int .u64 130]) (w.alloc (.cells #[.int .i64 n] 28)) := by kernel_rfl
theorem tElemOf (w : World) : (Rtype.elem? 160).run Tryz.prog w = .ok (some 28) w := by kernel_rfl
theorem tMk (p : Addr) (w : World) : (ReflectliteValue.mk 28 p ReflectliteValue.flagAddr).run Tryz.prog w = .ok (.agg #[hand 28, .pointer (some p), .int .u64 386]) w := by kernel_rfl
theorem tElemV (a p : Addr) (W : World) (ha : W.cell? a = some (.pointer (some p))) :
    (ReflectliteValue.method (ReflectliteValue.valueError "reflectlite.Value.Elem" 0) ReflectliteValue.elem #[.agg #[hand 160, .pointer (some a), .int .u64 150]]).run Tryz.prog W
      = .ok (.agg #[hand 28, .pointer (some p), .int .u64 386]) W := by
  rw [rlm]
  simp only [Sem.run_bind, tParts, Result.andThen]
  simp [ReflectliteValue.elem, loadVar, isAgg, underlying, Tryz.underlying160, ha, Result.andThen, tElemOf, tMk]

theorem rls (v x : Value) : ReflectliteValue.set #[v, x] = (do
    let (some (dst, a, fl), some (src, b, _)) := (← ReflectliteValue.parts v, ← ReflectliteValue.parts x)
      | unsupported (.noEntry "extern/(internal/reflectlite.Value).Set.zeroValue")
    if fl / ReflectliteValue.flagAddr % 2 == 0 then unsupported (.noEntry "extern/(internal/reflectlite.Value).Set.unaddressable")
    let val ← loadVar src b
    if ← Rtype.directlyAssignable dst src then storeVar dst a val
    else if ← Rtype.implements dst src then
      if (← Rtype.kind src) == 20 then
        match val with
        | .nilIface => unsupported (.noEntry "extern/reflectlite: a nil value of one interface type handed on as a value of another")
        | _ => storeVar dst a val
      else storeVar dst a (.iface src val)
    else panicString ("reflectlite.Set: value of type " ++ (← Rtype.spelt src) ++ " is not assignable to type " ++ (← Rtype.spelt dst))
    pure (.tuple #[])) := rfl
theorem tPartsA (a : Addr) (w : World) : (ReflectliteValue.parts (.agg #[hand 28, .pointer (some a), .int .u64 386])).run Tryz.prog w = .ok (some (28, a, 386)) w := by kernel_rfl
theorem tPartsB (a : Addr) (w : World) : (ReflectliteValue.parts (.agg #[hand 28, .pointer (some a), .int .u64 130])).run Tryz.prog w = .ok (some (28, a, 130)) w := by kernel_rfl
theorem tDirect (w : World) : (Rtype.directlyAssignable 28 28).run Tryz.prog w = .ok true w := by kernel_rfl
theorem tSet (ta b : Addr) (n : Int) (old : Value) (W : World) (hb : W.cell? b = some (.int .i64 n)) (ht : W.cell? ta = some old) (hf : W.frozen? ta = false) :
    (ReflectliteValue.set #[.agg #[hand 28, .pointer (some ta), .int .u64 386], .agg #[hand 28, .pointer (some b), .int .u64 130]]).run Tryz.prog W
      = .ok (.tuple #[]) (W.setCell ta (.int .i64 n)) := by
  rw [rls]
  simp only [Sem.run_bind, tPartsA, tPartsB, Result.andThen]
  simp [ReflectliteValue.flagAddr, loadVar, isAgg, underlying, Tryz.underlying28, hb, Result.andThen, tDirect, storeVar, Value.cells, storeCells, Addr.add]
  rw [run_store Tryz.prog W ta _ _ (by rfl)]
  simp [ht, hf]

set_option maxRecDepth 100000 in
set_option maxHeartbeats 4000000 in
theorem as_hit (n : Int) (t : Addr) (old : Value) (w : World) (hg : w.cell? ⟨0, 0, none⟩ = some (.iface 247 (.agg #[hand 44]))) (ht0 : w.cell? t = some old) (hf0 : w.frozen? t = false) :
    Calls Tryz.prog 60 #[.iface 28 (.int .i64 n), .iface 160 (.pointer (some t))] w fun ev w' => ev = .returned (.bool true) ∧ ∃ o1 o2 o3 o4, w' = ((((w.alloc o1).alloc o2).alloc o3).alloc o4).setCell t (.int .i64 n) := by
  have h42 := @run_callFunc_extern Tryz.prog 80 _ (fun args => ReflectliteValue.unpack (args.getD 0 (.tuple #[]))) Tryz.func80 (by kernel_rfl) (by kernel_rfl) (by kernel_rfl) (by kernel_rfl)
  have h43 := @run_callFunc_extern Tryz.prog 100 _ (ReflectliteValue.methodAny (ReflectliteValue.valueError "reflectlite.Value.Type" 0) (fun t _ _ _ => ReflectliteType.toType t)) Tryz.func100 (by kernel_rfl) (by kernel_rfl) (by kernel_rfl) (by kernel_rfl)
  have h44 := @run_callFunc_extern Tryz.prog 101 _ (ReflectliteValue.method (ReflectliteValue.valueError "reflectlite.Value.IsNil" 0) ReflectliteValue.isNil) Tryz.func101 (by kernel_rfl) (by kernel_rfl) (by kernel_rfl) (by kernel_rfl)
  have hKi := @run_callFunc_extern Tryz.prog 269 _ (ReflectliteType.abiMethod fun t => do pure (.int .u8 (← Rtype.kind t))) Tryz.func269 (by kernel_rfl) (by kernel_rfl) (by kernel_rfl) (by kernel_rfl)
  have hEl := @run_callFunc_extern Tryz.prog 281 _ (ReflectliteType.method ReflectliteType.elem) Tryz.func281 (by kernel_rfl) (by kernel_rfl) (by kernel_rfl) (by kernel_rfl)
  have hIm := @run_callFunc_extern Tryz.prog 282 _ (ReflectliteType.relation "Implements" ReflectliteType.implements_) Tryz.func282 (by kernel_rfl) (by kernel_rfl) (by kernel_rfl) (by kernel_rfl)
  have hTo := @run_callFunc_extern Tryz.prog 162 _ ReflectliteType.typeOf Tryz.func162 (by kernel_rfl) (by kernel_rfl) (by kernel_rfl) (by kernel_rfl)
  have hAs := @run_callFunc_extern Tryz.prog 279 _ (ReflectliteType.relation "AssignableTo" ReflectliteType.assignableTo) Tryz.func279 (by kernel_rfl) (by kernel_rfl) (by kernel_rfl) (by kernel_rfl)
  have hVE := @run_callFunc_extern Tryz.prog 163 _ (ReflectliteValue.method (ReflectliteValue.valueError "reflectlite.Value.Elem" 0) ReflectliteValue.elem) Tryz.func163 (by kernel_rfl) (by kernel_rfl) (by kernel_rfl) (by kernel_rfl)
  have hSe := @run_callFunc_extern Tryz.prog 164 _ ReflectliteValue.set Tryz.func164 (by kernel_rfl) (by kernel_rfl) (by kernel_rfl) (by kernel_rfl)
  have f1 := tValueOf
  have f2 := tType
  have f3 := tKind
  have f4 := tMethodElem
  have f5 := tMethodImplements
  have f6 := tMethodAssignable
  have f7 := tKindPtr
  have f8 := tKindInt
  have f9 := tElem
  have f10 := tImplements
  have f11 := tTypeOf
  have f12 := tAssignable
  have f13 := tValueOfE
  have hN : ∀ W : World, W.cell? ⟨w.heap.size, 0, none⟩ = some (.pointer (some t)) → (ReflectliteValue.method (ReflectliteValue.valueError "reflectlite.Value.IsNil" 0) ReflectliteValue.isNil #[.agg #[hand 160, .pointer (some ⟨w.heap.size, 0, none⟩), .int .u64 150]]).run Tryz.prog W = .ok (.bool false) W := fun W h => tIsNil _ t W h
  have hE : ∀ o2 o3, (ReflectliteValue.method (ReflectliteValue.valueError "reflectlite.Value.Elem" 0) ReflectliteValue.elem #[.agg #[hand 160, .pointer (some ⟨w.heap.size, 0, none⟩), .int .u64 150]]).run Tryz.prog (((w.alloc (.cells #[.pointer (some t)] 160)).alloc o2).alloc o3) = .ok (.agg #[hand 28, .pointer (some t), .int .u64 386]) (((w.alloc (.cells #[.pointer (some t)] 160)).alloc o2).alloc o3) := fun o2 o3 => tElemV ⟨w.heap.size, 0, none⟩ t _ (by
    rw [World.cell?_alloc_lt _ _ ⟨w.heap.size, 0, none⟩ (by simp <;> omega), World.cell?_alloc_lt _ _ ⟨w.heap.size, 0, none⟩ (by simp)]; simp)
  have hgl : (0 : Nat) < w.heap.size := block_lt_of_cell hg
  have htl : t.block < w.heap.size := block_lt_of_cell ht0
  have hg2 : ∀ o1 o2, ((w.alloc o1).alloc o2).cell? ⟨0, 0, none⟩ = some (.iface 247 (.agg #[hand 44])) := fun o1 o2 => by
    rw [World.cell?_alloc_lt _ _ ⟨0, 0, none⟩ (by simp <;> omega), World.cell?_alloc_lt _ _ ⟨0, 0, none⟩ hgl]; exact hg
  have hS : ∀ o1 o2 o3, (ReflectliteValue.set #[.agg #[hand 28, .pointer (some t), .int .u64 386], .agg #[hand 28, .pointer (some ⟨w.heap.size + 1 + 1 + 1, 0, none⟩), .int .u64 130]]).run Tryz.prog ((((w.alloc o1).alloc o2).alloc o3).alloc (.cells #[.int .i64 n] 28))
      = .ok (.tuple #[]) (((((w.alloc o1).alloc o2).alloc o3).alloc (.cells #[.int .i64 n] 28)).setCell t (.int .i64 n)) := fun o1 o2 o3 => tSet t ⟨w.heap.size + 1 + 1 + 1, 0, none⟩ n old _
    (by rw [World.cell?_alloc_at _ _ _ _ (by simp)]; rfl)
    (by rw [World.cell?_alloc_lt _ _ t (by simp <;> omega), World.cell?_alloc_lt _ _ t (by simp <;> omega), World.cell?_alloc_lt _ _ t (by simp <;> omega), World.cell?_alloc_lt _ _ t htl]; exact ht0)
    (by rw [World.frozen?_alloc_old _ _ t (by simp <;> omega), World.frozen?_alloc_old _ _ t (by simp <;> omega), World.frozen?_alloc_old _ _ t (by simp <;> omega), World.frozen?_alloc_old _ _ t (Nat.ne_of_lt htl)]; exact hf0)
  go_enter Tryz.func60, Tryz.ntmps60
  go_wp2
  refine wp_loop_rounds 1 ?_
  rw [rounds_succ]
  go_wp2
  go_ret
  exact ⟨rfl, _, _, _, _, rfl⟩

end Go.Proofs.YtgjmbokfenpefaaGreatDoor
/- api.Tell, plain.Place: errors taken apart (nil, and a bare api.Errno). -/
namespace Go.Proofs.YtgjmbokfenpefaaGreatDoor
open Go.RowKit

theorem tell_nil (w : World) : Calls Tryz.prog 29 #[.nilIface] w fun e w' => e = .returned (.int .i64 0) ∧ w' = w := by
  go_enter Tryz.func29, Tryz.ntmps29
  go_wp2
  go_ret
  exact ⟨rfl, rfl⟩
theorem tell_errno (n : Int) (w : World) (hg : w.cell? ⟨0, 0, none⟩ = some (.iface 247 (.agg #[hand 44]))) :
    Calls Tryz.prog 29 #[.iface 28 (.int .i64 n)] w fun e w' => e = .returned (.int .i64 n) ∧ Below w.heap.size w w' := by
  have hgl : (0 : Nat) < w.heap.size := block_lt_of_cell hg
  have hg1 : (w.alloc (.cells #[.int .i64 0] 28)).cell? ⟨0, 0, none⟩ = some (.iface 247 (.agg #[hand 44])) := by
    rw [World.cell?_alloc_lt _ _ ⟨0, 0, none⟩ hgl]; exact hg
  have HG := Lib.hid hg1
  clear hg hg1
  go_enter Tryz.func29, Tryz.ntmps29
  go_wp2_with fail
  refine (as_hit n ⟨w.heap.size, 0, none⟩ (.int .i64 0) _ HG.out (by simp) (by simp)).mono ?_
  rintro e w' ⟨rfl, o1, o2, o3, o4, rfl⟩
  go_wp2
  go_ret
  refine ⟨rfl, ?_⟩
  exact (((((Below.refl w.heap.size w).alloc (Nat.le_refl _) _).alloc (by simp) _).alloc (by simp; omega) _).alloc (by simp; omega) _).alloc (by simp; omega) _
end Go.Proofs.YtgjmbokfenpefaaGreatDoor
/- Two heads, found the same. -/
namespace Go.Proofs.YtgjmbokfenpefaaGreatDoor
open Go.RowKit

set_option maxHeartbeats 1000000 in
theorem run_eql_heads (a b : Hd) (w : World) :
    (binOp .eql 52 (.agg #[.int .i64 a.epoch, .string a.root, .string a.prev]) (.agg #[.int .i64 b.epoch, .string b.root, .string b.prev])).run Tryz.prog w = .ok (.bool (decide (a = b))) w := by
  rw [run_eql_struct, run_equalIn_agg _ 9999 _ _ _ headFields stood]
  by_cases h1 : a.epoch = b.epoch
  · by_cases h2 : a.root = b.root
    · by_cases h3 : a.prev = b.prev
      · have e : decide (a = b) = true := by simp [hd_eq_iff, h1, h2, h3]
        rw [e, h1, h2, h3]
        go_simp
      · have e : decide (a = b) = false := by simp [hd_eq_iff, h3]
        have e3 := text_ne h3
        rw [e, h1, h2]
        go_simp
    · have e : decide (a = b) = false := by simp [hd_eq_iff, h2]
      have e3 := text_ne h2
      rw [e, h1]
      go_simp
  · have e : decide (a = b) = false := by simp [hd_eq_iff, h1]
    have e3 : (a.epoch == b.epoch) = false := by rw [beq_eq_false_iff_ne]; exact h1
    rw [e]
    go_simp
end Go.Proofs.YtgjmbokfenpefaaGreatDoor
/- What a row's listed variables give a walk: the round numbers, the handle of errors.errorType, any table on the list; a world for the witness. -/
namespace Go.Proofs.YtgjmbokfenpefaaGreatDoor
open Go.ChangeShapes Go.WideShapes Go.ChangeAt Go.RowKit

theorem gErrType : Tryz.prog.globalNamed "errors.errorType" = some 0 := by kernel_rfl
theorem rtErr : (Tryz.prog.cutTypes.find? (·.1 == "internal/reflectlite.rtype")).map (·.2) = some 247 := by kernel_rfl
theorem oneRowErr : ((List.range Tryz.prog.types.size).filter fun t => Tryz.prog.rowNamed t [101, 114, 114, 111, 114]) = [44] := by kernel_rfl
def errData : DataW Unit := .iface "internal/reflectlite.rtype" (.agg [.ptr (.lit (.string [101, 114, 114, 111, 114]))])
theorem handle_of_laid {W : World} {l : List (String × DataW Unit)} (h : handlesMet Tryz.prog l W) (hm : ("errors.errorType", errData) ∈ l) :
    W.cell? ⟨0, 0, none⟩ = some (.iface 247 (.agg #[hand 44])) := by
  obtain ⟨name, u, ty, e1, e2, e3, e4, e5⟩ := h _ hm
  have en : name = [101, 114, 114, 111, 114] := (Option.some.inj e1).symm
  subst en
  obtain rfl := Option.some.inj (rtErr.symm.trans e2)
  have hm : ty ∈ (List.range Tryz.prog.types.size).filter fun t => Tryz.prog.rowNamed t [101, 114, 114, 111, 114] := List.mem_filter.2 ⟨List.mem_range.2 e3, e4⟩
  rw [oneRowErr] at hm
  obtain rfl := List.mem_singleton.1 hm
  have hh : typeHandle Tryz.prog 44 = hand 44 := by kernel_rfl
  rw [hh] at e5
  simpa using World.var?_cell gErrType e5 0

noncomputable def laidErr (w : World) : World := laidBy 0 #[.iface 247 (.agg #[hand 44])] w
end Go.Proofs.YtgjmbokfenpefaaGreatDoor
