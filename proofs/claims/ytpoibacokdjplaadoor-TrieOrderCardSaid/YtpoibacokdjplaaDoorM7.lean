/- Parts of the proof, one behind the other: Index2, As, TellErr, Of, LaterR, CopyOf, TrieLaw, Order, Made, HeldK, ItemEq. -/
import Derived.Test.YtpoibacokdjplaaDoorM6
import Derived.Test.YtpoibacokdjplaaDoorM2
import Derived.Test.YtpoibacokdjplaaDoorProg
import Derived.WalkKit
import Derived.LaidEql
import Derived.Stop.Asserts
import Derived.RowKitTokens
import Derived.Test.YtpoibacokdjplaaDoorM1
import Derived.BigQuiet
import Derived.Test.YtpoibacokdjplaaDoorM4
import Derived.Test.YtpoibacokdjplaaDoorM5
import Derived.Deep.AppendSrc
import Derived.Deep.RegionHeld3
import Derived.Laws.StructEq
/- The program's Name, Bit and Common. -/
namespace Go.Proofs.YtpoibacokdjplaaDoor
open Go.RowKit

theorem goodAt_is (l : List UInt8) (i : Nat) : goodAt l i = (letterB (l.getD i 0).toNat || (decide (i ≠ 0) && digitB (l.getD i 0).toNat)) := rfl
/-- The program's error of this number, or none. -/
def errOf (n : Int) : Value := if n = 0 then .nilIface else .iface 47 (.int .i64 n)
set_option maxRecDepth 100000 in
theorem ixBit_any (ix : ByteArray) (k : Int) (w : World) :
    Calls Tryd.prog 58 #[.string ix, .int .i64 k] w fun e w' => e = .returned (.tuple (if ix.size = 16 then (if 0 ≤ k ∧ k ≤ 127 then #[.int .i64 ((bitOf ix.data.toList k.toNat : Nat) : Int), .nilIface] else #[.int .i64 0, .iface 47 (.int .i64 2)]) else #[.int .i64 0, .iface 47 (.int .i64 1)])) ∧ w' = w := by
  by_cases h16 : ix.size = 16
  · rw [if_pos h16]
    have E1 := Lib.hid (show decide (ix.size = 16) = true by simp [h16])
    by_cases hk : 0 ≤ k ∧ k ≤ 127
    · rw [if_pos hk]
      obtain ⟨m, rfl⟩ : ∃ m : Nat, k = (m : Int) := ⟨k.toNat, by omega⟩
      have hm : m < 128 := by omega
      rw [Int.toNat_natCast]
      clear hk
      go_enter Tryd.func58, Tryd.ntmps58
      go_wp2_with fail
      refine (ixIsMark_any _ _).mono ?_
      rintro e w1 ⟨rfl, rfl⟩
      rw [E1.out]
      go_wp2_with fail
      refine (bit_any ix m _ h16 hm).mono ?_
      rintro e w1 ⟨rfl, rfl⟩
      go_wp2
      refine bodyPost_ret (results_tmp2 rfl _ _ _) rfl ?_
      exact ⟨rfl, rfl⟩
    · rw [if_neg hk]
      by_cases hk0 : k < 0
      · clear hk
        go_enter Tryd.func58, Tryd.ntmps58
        go_wp2_with fail
        refine (ixIsMark_any _ _).mono ?_
        rintro e w1 ⟨rfl, rfl⟩
        rw [E1.out]
        go_wp2
        refine bodyPost_ret (results_tmp2 rfl _ _ _) rfl ?_
        exact ⟨rfl, rfl⟩
      · have hk1 : 0 ≤ k := by omega
        have hk2 : 128 ≤ k := by omega
        clear hk hk0
        go_enter Tryd.func58, Tryd.ntmps58
        go_wp2_with fail
        refine (ixIsMark_any _ _).mono ?_
        rintro e w1 ⟨rfl, rfl⟩
        rw [E1.out]
        go_wp2
        refine bodyPost_ret (results_tmp2 rfl _ _ _) rfl ?_
        exact ⟨rfl, rfl⟩
  · rw [if_neg h16]
    have E1 := Lib.hid (show decide (ix.size = 16) = false by simp [h16])
    clear h16
    go_enter Tryd.func58, Tryd.ntmps58
    go_wp2_with fail
    refine (ixIsMark_any _ _).mono ?_
    rintro e w1 ⟨rfl, rfl⟩
    rw [E1.out]
    go_wp2
    refine bodyPost_ret (results_tmp2 rfl _ _ _) rfl ?_
    exact ⟨rfl, rfl⟩
end Go.Proofs.YtpoibacokdjplaaDoor
/- errors.As at a nil error, and at an api.Errno whose target is a *api.Errno (after the kit's worked example). -/
namespace Go.Proofs.YtpoibacokdjplaaDoor
open Go.RowKit Go.Extern.Stop Go.Stop Go.Extern

/-- A type's handle. -/
noncomputable def hand0 : Nat := Tryd.prog.globals.size
noncomputable abbrev hand (t : Nat) : Value := .pointer (some ⟨hand0, t, none⟩)
theorem tKindInt (w : World) : ((ReflectliteType.abiMethod fun t => (fun a : Nat => Value.int IntKind.u8 (a : Int)) <$> Rtype.kind t) #[hand 47]).run Tryd.prog w = .ok (.int .u8 2) w := by kernel_rfl
theorem rlm (z : Sem Value) (f : TypeId → Addr → Nat → Nat → Sem Value) (v : Value) :
    ReflectliteValue.method z f #[v] = (do match ← ReflectliteValue.parts v with | none => z | some (t, a, fl) => f t a fl (fl % 32)) := rfl
theorem tValueOfE (n : Int) (w : World) : (ReflectliteValue.unpack (.iface 47 (.int .i64 n))).run Tryd.prog w
    = .ok (.agg #[hand 47, .pointer (some ⟨w.heap.size, 0, none⟩), .int .u64 130]) (w.alloc (.cells #[.int .i64 n] 47)) := by kernel_rfl
theorem tMk (p : Addr) (w : World) : (ReflectliteValue.mk 47 p ReflectliteValue.flagAddr).run Tryd.prog w = .ok (.agg #[hand 47, .pointer (some p), .int .u64 386]) w := by kernel_rfl
theorem rls (v x : Value) : ReflectliteValue.set #[v, x] = (do
    let (some (dst, a, fl), some (src, b, _)) := (← ReflectliteValue.parts v, ← ReflectliteValue.parts x)
      | unsupported (.noEntry "extern/(internal/reflectlite.Value).Set.zeroValue")
    if fl / ReflectliteValue.flagAddr % 2 == 0 then unsupported (.noEntry "extern/(internal/reflectlite.Value).Set.unaddressable")
    let val ← loadVar src b
    if ← Rtype.directlyAssignable dst src then storeVar dst a val
    else if ← Rtype.implements dst src then
      if (← Rtype.kind src) == 20 then
        match val with
        | .nilIface => unsupported (.noEntry "extern/reflectlite: a nil value of one interface type handed on as a value of another")
        | _ => storeVar dst a val
      else storeVar dst a (.iface src val)
    else panicString ("reflectlite.Set: value of type " ++ (← Rtype.spelt src) ++ " is not assignable to type " ++ (← Rtype.spelt dst))
    pure (.tuple #[])) := rfl
theorem tPartsA (a : Addr) (w : World) : (ReflectliteValue.parts (.agg #[hand 47, .pointer (some a), .int .u64 386])).run Tryd.prog w = .ok (some (47, a, 386)) w := by kernel_rfl
theorem tPartsB (a : Addr) (w : World) : (ReflectliteValue.parts (.agg #[hand 47, .pointer (some a), .int .u64 130])).run Tryd.prog w = .ok (some (47, a, 130)) w := by kernel_rfl
theorem tDirect (w : World) : (Rtype.directlyAssignable 47 47).run Tryd.prog w = .ok true w := by kernel_rfl
theorem tSize (w : World) : (sizeOf 47).run Tryd.prog w = .ok 1 w := by kernel_rfl
theorem tSet (ta b : Addr) (n : Int) (old : Value) (W : World) (hb : W.cell? b = some (.int .i64 n)) (ht : W.cell? ta = some old) (hf : W.frozen? ta = false) :
    (ReflectliteValue.set #[.agg #[hand 47, .pointer (some ta), .int .u64 386], .agg #[hand 47, .pointer (some b), .int .u64 130]]).run Tryd.prog W
      = .ok (.tuple #[]) (W.setCell ta (.int .i64 n)) := by
  rw [rls]
  simp only [Sem.run_bind, tPartsA, tPartsB, Result.andThen]
  simp [ReflectliteValue.flagAddr, loadVar, isAgg, underlying, Tryd.underlying47, hb, Result.andThen, tDirect, storeVar, Value.cells, storeCells, Addr.add]
  rw [run_store Tryd.prog W ta _ _ (by rfl)]
  simp [ht, hf]

end Go.Proofs.YtpoibacokdjplaaDoor
/- Of, Bit and Common, of the program and of the document, each by one answer: a value and the number of an error. -/
namespace Go.Proofs.YtpoibacokdjplaaDoor
open Go.RowKit

def ofAns (name : ByteArray) : ByteArray × Int := if nameOk name.data.toList then (markOf 105 [name], 0) else (⟨#[]⟩, 5)
def bitAns (ix : ByteArray) (k : Int) : Int × Int := if ix.size = 16 then (if 0 ≤ k ∧ k ≤ 127 then (((bitOf ix.data.toList k.toNat : Nat) : Int), 0) else (0, 2)) else (0, 1)
def comAns (a b : ByteArray) : Int × Int := if a.size = 16 ∧ b.size = 16 then (((commonOf a.data.toList b.data.toList : Nat) : Int), 0) else (0, 1)

theorem ixBit_is (ix : ByteArray) (k x n : Int) (w : World) (h : bitAns ix k = (x, n)) :
    Calls Tryd.prog 58 #[.string ix, .int .i64 k] w fun e w' => e = .returned (.tuple #[.int .i64 x, errOf n]) ∧ w' = w := by
  refine (ixBit_any ix k w).mono ?_
  rintro e w' ⟨rfl, rfl⟩
  refine ⟨?_, rfl⟩
  unfold bitAns at h
  by_cases h16 : ix.size = 16
  · rw [if_pos h16] at h ⊢
    by_cases hk : 0 ≤ k ∧ k ≤ 127
    · rw [if_pos hk] at h ⊢; cases h; rfl
    · rw [if_neg hk] at h ⊢; cases h; rfl
  · rw [if_neg h16] at h ⊢; cases h; rfl
/-- One text in a block that was made just now. -/
theorem one_part (name : ByteArray) (w : World) : ∀ (i : Nat) p, ([name] : List ByteArray)[i]? = some p → ∃ a, some (⟨w.heap.size, 0, none⟩ : Addr) = some a ∧ a.block < (w.alloc (.cells #[.string name] 9)).heap.size ∧ (w.alloc (.cells #[.string name] 9)).cell? (a.add i) = some (.string p) := by
  intro i p hp
  match i, hp with
  | 0, hp =>
    simp at hp; subst hp
    refine ⟨_, rfl, by simp, ?_⟩
    rw [show (⟨w.heap.size, 0, none⟩ : Addr).add 0 = ⟨w.heap.size, 0, none⟩ by simp [Addr.add]]
    exact (Holds.new w 1 (fun _ => .string name) 9).cell 0 (by omega)
theorem nameOk_size (s : ByteArray) (h : nameOk s.data.toList = true) : s.size ≤ 12 := by
  unfold nameOk at h
  simp at h
  exact h.2.2
theorem HasK.alloc {w : World} (h : HasK w) (o : Obj) : HasK (w.alloc o) := h.below ((Below.refl w.heap.size w).alloc (Nat.le_refl _) o) h.lt
end Go.Proofs.YtpoibacokdjplaaDoor
/- Regions that only read and call what makes memory. No program is imported. -/
namespace Go.Proofs.YtpoibacokdjplaaDoor
open Go.RowKit

/-- A region that only reads and calls what makes memory: one walk, in the text's order, over the worlds later than its own. -/
theorem wp_region_later {P : Program} {id : Nat} {Q : Exit → Act → World → Prop} {a : Act} {w : World} {l : List Oper} (hm : P.follows .mixedOrders = true) (hB : Region.lexB .any l.toArray = true)
    (h : wpQuiet P l.toArray (fun w' => ∃ z : Later w.heap.size w, w' = z.at') (fun a' => ∀ w', (∃ z : Later w.heap.size w, w' = z.at') → Q .normal a' w') l a) : (Code.region id l.toArray true).wp P Q a w :=
  wp_region_quiet (C := fun w' => ∃ z : Later w.heap.size w, w' = z.at') hm hB ⟨⟨w.drew, (Below.refl _ _).drew⟩, rfl⟩ (by simpa using h)

end Go.Proofs.YtpoibacokdjplaaDoor
/- append([]T{}, l...): the items of a list, once more, in memory of the call's own. -/
namespace Go.Proofs.YtpoibacokdjplaaDoor
open Go.RowKit

theorem Itms.cells {w : World} {A : Option Addr} {L : List It} (h : Itms w A L) (hn : 0 < L.length) : ∃ a, A = some a ∧ ∀ j u, (itCells L)[j]? = some u → w.cell? (a.add j) = some u := by
  obtain ⟨a, rfl, -⟩ := h.at_ hn
  refine ⟨a, rfl, fun j u hj => ?_⟩
  have hjl := (List.getElem?_eq_some_iff.1 hj).1
  rw [itCells_length] at hjl
  have hi : j / 2 < L.length := by omega
  obtain ⟨a', ha, _, h0, h1⟩ := h.at_ hi
  obtain rfl : a = a' := Option.some.inj ha
  have hx : L[j / 2]? = some (itAt L (j / 2)) := by rw [List.getElem?_eq_getElem hi, itAt_of hi]
  obtain ⟨e1, e2⟩ := itCells_get L (j / 2) _ hx
  rcases (show j = j / 2 * 2 ∨ j = j / 2 * 2 + 1 by omega) with e | e
  · rw [← e] at e1 h0
    rw [hj] at e1
    rw [h0, ← e1]
  · rw [← e] at e2
    rw [add_add', ← e] at h1
    rw [hj] at e2
    rw [h1, ← e2]
theorem itCells_one' (L : List It) : ∀ u ∈ itCells L, u.oneCell' = true := by
  intro u hu
  unfold itCells at hu
  simp only [List.mem_flatMap] at hu
  obtain ⟨x, _, hx⟩ := hu
  simp at hx
  rcases hx with rfl | rfl <;> rfl
theorem wpList_append_copyc {P : Program} {ops : Array Oper} {rest : List Oper} {o : Oper} {a : Act} {w : World} {Q : Exit → Act → World → Prop} (hgd : o.guard = none) (d s : Operand) (T : TypeId)
    (ho : o.op = .call { callee := .builtin .append, args := #[d, s], argTypes := #[T, T] }) (e : TypeId) (ht : P.underlying T = some (.slice e)) (i : TypeInfo) (z : Value) (hi : P.info? e = some i) (hz : i.zero = some z) (hsz : i.size = 2) (hby : i.bytes = 32) (hzc : z.cells.size = 2)
    (L : List It) (A : Option Addr) (cap : Nat) (b0 : Addr) (hd : a.eval d = .slice (some b0) 0 0) (hs : a.eval s = .slice A L.length cap) (hm : Itms w A L) (hl : L.length ≤ 1000000)
    (hK : ∀ A' cap' w', Hid (Below w.heap.size w w') → Hid (Itms w' A' L) → Hid (L.length ≤ cap') → wpList P ops Q rest (a.put o.dst (.slice A' L.length cap')) w') : wpList P ops Q (o :: rest) a w := by
  by_cases h0 : L.length = 0
  · obtain rfl := List.eq_nil_of_length_eq_zero h0
    have hsrc : ∃ news, Src P i.size T (.slice A 0 cap) 0 news w := by
      cases A with
      | none => exact ⟨[], Src.ofNil w ht cap⟩
      | some x => exact ⟨[], Src.ofSlice w ht x 0 cap [] (by simp) (fun j u h => by simp at h) (fun u h => by cases h)⟩
    obtain ⟨news, hsrc⟩ := hsrc
    have hnl : news = [] := List.eq_nil_of_length_eq_zero (by simpa using hsrc.newsLen)
    subst hnl
    have hk1 : ∃ e', P.underlying T = some (.slice e') := ⟨e, ht⟩
    have hrun : (Builtin.append_ #[T, T] o.type #[.slice (some b0) 0 0, .slice A 0 cap]).run P w = .ok (.slice (some b0) 0 0) w := by
      have hst : (storeCells (b0.add 0) []).run P w = .ok () w := by simp [storeCells]
      simp [Builtin.append_, run_underlying ht, sizeOf, typeInfo, hi, hsrc.len, hsrc.cells, hst]
    refine wpList_plain hgd fun K hK' => ?_
    unfold Oper.wp
    simp [execOp, ho, resolve, invoke, builtin, hd, hs, hrun, Result.andThen]
    exact hK' _ _ (hK _ _ _ (Lib.hid (Below.refl _ _)) (Lib.hid (Itms.nil _ _)) (Lib.hid (Nat.le_refl 0)))
  · obtain ⟨x, rfl, hc⟩ := hm.cells (by omega)
    refine wpList_append_grows w hgd d s T ho e i z 2 32 ht hi hz hsz hby hzc (by omega) (some b0) 0 0 [] hd (fun h => by cases h) (by simp) (fun _ _ j u h => by simp at h) x L.length cap (itCells L) hs (itCells_length L) hc (itCells_one' L) (by omega) (by unfold maxLen; omega) (by omega) ?_
    intro v' w' hown hg
    have hrow : Row w' w.heap.size 2 v' L.length (itCells L) := by simpa using Row.of_owns hown
    obtain ⟨_, A', cap', rfl, hit⟩ := hrow.itms
    have hcap : L.length ≤ cap' := by
      obtain ⟨g, c', hv, _, _, hle, _⟩ := hrow.shape (by omega)
      injection hv with _ _ e3
      omega
    exact hK A' cap' w' (Lib.hid (grownBy.below hg (Nat.le_refl _) (fun k h => by cases h))) (Lib.hid hit) (Lib.hid hcap)
theorem wpList_append_copyr {P : Program} {ops : Array Oper} {rest : List Oper} {o : Oper} {a : Act} {w : World} {Q : Exit → Act → World → Prop} (hgd : o.guard = none) (d s : Operand) (T : TypeId)
    (ho : o.op = .call { callee := .builtin .append, args := #[d, s], argTypes := #[T, T] }) (e : TypeId) (ht : P.underlying T = some (.slice e)) (i : TypeInfo) (z : Value) (hi : P.info? e = some i) (hz : i.zero = some z) (hsz : i.size = 2) (hby : i.bytes = 32) (hzc : z.cells.size = 2)
    (L : List It) (A : Option Addr) (cap : Nat) (g : Nat) (hg : g < w.heap.size) (base : Nat) (hbg : base ≤ g) (hd : a.eval d = .slice (some ⟨g, 0, none⟩) 0 0) (hs : a.eval s = .slice A L.length cap) (hm : Itms w A L) (hl : L.length ≤ 1000000)
    (hK : ∀ A' cap' w', Hid (Below w.heap.size w w') → Hid (Row w' base 2 (.slice A' L.length cap') L.length (itCells L)) → wpList P ops Q rest (a.put o.dst (.slice A' L.length cap')) w') : wpList P ops Q (o :: rest) a w := by
  by_cases h0 : L.length = 0
  · obtain rfl := List.eq_nil_of_length_eq_zero h0
    have hsrc : ∃ news, Src P i.size T (.slice A 0 cap) 0 news w := by
      cases A with
      | none => exact ⟨[], Src.ofNil w ht cap⟩
      | some x => exact ⟨[], Src.ofSlice w ht x 0 cap [] (by simp) (fun j u h => by simp at h) (fun u h => by cases h)⟩
    obtain ⟨news, hsrc⟩ := hsrc
    have hnl : news = [] := List.eq_nil_of_length_eq_zero (by simpa using hsrc.newsLen)
    subst hnl
    have hk1 : ∃ e', P.underlying T = some (.slice e') := ⟨e, ht⟩
    have hrun : (Builtin.append_ #[T, T] o.type #[.slice (some ⟨g, 0, none⟩) 0 0, .slice A 0 cap]).run P w = .ok (.slice (some ⟨g, 0, none⟩) 0 0) w := by
      have hst : (storeCells ((Addr.mk g 0 none).add 0) []).run P w = .ok () w := by simp [storeCells]
      simp [Builtin.append_, run_underlying ht, sizeOf, typeInfo, hi, hsrc.len, hsrc.cells, hst]
    refine wpList_plain hgd fun K hK' => ?_
    unfold Oper.wp
    simp [execOp, ho, resolve, invoke, builtin, hd, hs, hrun, Result.andThen]
    exact hK' _ _ (hK _ _ _ (Lib.hid (Below.refl _ _)) (Lib.hid ⟨rfl, .inr ⟨g, 0, rfl, hbg, hg, Nat.le_refl 0, fun j u h => (by cases h), fun j h => by omega⟩⟩))
  · obtain ⟨x, rfl, hc⟩ := hm.cells (by omega)
    refine wpList_append_grows w hgd d s T ho e i z 2 32 ht hi hz hsz hby hzc (by omega) (some ⟨g, 0, none⟩) 0 0 [] hd (fun h => by cases h) (by simp) (fun _ _ j u h => by simp at h) x L.length cap (itCells L) hs (itCells_length L) hc (itCells_one' L) (by omega) (by unfold maxLen; omega) (by omega) ?_
    intro v' w' hown hg'
    have hrow : Row w' w.heap.size 2 v' L.length (itCells L) := by simpa using Row.of_owns hown
    obtain ⟨A', cap', rfl⟩ := hrow.any
    exact hK A' cap' w' (Lib.hid (grownBy.below hg' (Nat.le_refl _) (fun k h => by cases h))) (Lib.hid (hrow.mono (by omega)))
theorem wpList_append_copy {P : Program} {ops : Array Oper} {rest : List Oper} {o : Oper} {a : Act} {w : World} {Q : Exit → Act → World → Prop} (hgd : o.guard = none) (d s : Operand) (T : TypeId)
    (ho : o.op = .call { callee := .builtin .append, args := #[d, s], argTypes := #[T, T] }) (e : TypeId) (ht : P.underlying T = some (.slice e)) (i : TypeInfo) (z : Value) (hi : P.info? e = some i) (hz : i.zero = some z) (hsz : i.size = 2) (hby : i.bytes = 32) (hzc : z.cells.size = 2)
    (L : List It) (A : Option Addr) (cap : Nat) (b0 : Addr) (hd : a.eval d = .slice (some b0) 0 0) (hs : a.eval s = .slice A L.length cap) (hm : Itms w A L) (hl : L.length ≤ 1000000)
    (hK : ∀ A' cap' w', Hid (Below w.heap.size w w') → Hid (Itms w' A' L) → wpList P ops Q rest (a.put o.dst (.slice A' L.length cap')) w') : wpList P ops Q (o :: rest) a w :=
  wpList_append_copyc hgd d s T ho e ht i z hi hz hsz hby hzc L A cap b0 hd hs hm hl fun A' c' w' h1 h2 _ => hK A' c' w' h1 h2
end Go.Proofs.YtpoibacokdjplaaDoor
/- TrieRoots, the walk, over whatever contracts the program's trie keeps. -/
namespace Go.Proofs.YtpoibacokdjplaaDoor
open Go.RowKit

theorem setOf_le {L : List It} {x : It} {T : List It} {n : Int} (h : setOf L x = (T, n)) : T.length ≤ L.length + 1 := by
  unfold setOf at h
  have h1 := others_le L x
  split at h
  · split at h
    · obtain ⟨rfl, _⟩ := Prod.mk.inj h; simp
    · obtain ⟨rfl, _⟩ := Prod.mk.inj h
      have := (insIt_perm x (others L x)).length_eq
      rw [List.length_cons] at this
      omega
  · obtain ⟨rfl, _⟩ := Prod.mk.inj h; simp
theorem proveFrom_le (ix : ByteArray) : ∀ (f : Nat) (L : List It) (d : Nat), (proveFrom f L ix d).1.length ≤ f
  | 0, L, d => by simp [proveFrom]
  | f + 1, L, d => by
    rw [proveFrom]
    split
    · simp
    · have := proveFrom_le ix f (half L d (bitOf ix.data.toList d)) (d + 1)
      simp; omega
theorem prove_le {L : List It} {ix : ByteArray} {P : List ByteArray} {y : It} {m : Int} (h : proveAns L ix = (P, y, m)) : P.length ≤ 1000000 := by
  unfold proveAns at h
  split at h
  · obtain ⟨rfl, _⟩ := Prod.mk.inj h
    have := proveFrom_le ix 128 L 0
    omega
  · obtain ⟨rfl, _⟩ := Prod.mk.inj h; simp
end Go.Proofs.YtpoibacokdjplaaDoor
/- Items set one behind the other: plain lists (for TrieOrder). -/
namespace Go.Proofs.YtpoibacokdjplaaDoor

def goodI (x : It) : Bool := decide (x.1.size = 16) && decide (x.2.size = 16)
theorem right_one (x : It) : rightItems [x] = goodI x := by
  unfold rightItems goodItems goodItem goodI itAt
  simp
/-- Items that rise, each of the right sizes, are right. -/
theorem right_of {T : List It} (hs : T.Pairwise ltI) (hg : ∀ x ∈ T, goodI x = true) (hl : T.length ≤ 60) : rightItems T = true := by
  unfold rightItems
  rw [Bool.and_eq_true]
  refine ⟨?_, decide_eq_true hl⟩
  unfold goodItems
  rw [List.all_eq_true]
  intro i hi
  have hi := List.mem_range.1 hi
  have hgi := hg T[i] (List.getElem_mem hi)
  unfold goodI at hgi
  rw [Bool.and_eq_true] at hgi
  unfold goodItem
  rw [itAt_get (List.getElem?_eq_getElem hi), Bool.and_eq_true, Bool.and_eq_true]
  refine ⟨⟨hgi.1, hgi.2⟩, ?_⟩
  rw [Bool.or_eq_true]
  by_cases h0 : i = 0
  · exact .inl (decide_eq_true h0)
  · right
    have hj : i - 1 < T.length := by omega
    rw [itAt_get (List.getElem?_eq_getElem hj)]
    exact decide_eq_true (List.pairwise_iff_getElem.1 hs (i - 1) i hj hi (by omega))
/-- One more is set, as far as it may be. -/
def putIn (T : List It) (x : It) : List It := if (setOf T x).2 = 0 then (setOf T x).1 else T
def madeOf (L : List It) : List It := L.foldl putIn []
theorem putIn_good {T : List It} {x : It} (hr : rightItems T = true) (hl : T.length < 60) (hx : goodI x = true) : putIn T x = insIt x (others T x) := by
  have hs : setOf T x = (insIt x (others T x), 0) := by
    unfold setOf
    rw [if_pos ⟨hr, (right_one x).trans hx⟩, if_neg (by omega)]
  unfold putIn
  rw [hs]
  rfl
theorem putIn_bad {T : List It} {x : It} (hx : goodI x = false) : putIn T x = T := by
  have hs : setOf T x = ([], 1) := by
    unfold setOf
    rw [if_neg (by rw [right_one, hx]; simp)]
  unfold putIn
  rw [hs]
  rfl
theorem others_few (T : List It) (x : It) : (others T x).length ≤ T.length := List.length_filter_le _ _
theorem putIn_right {T : List It} {x : It} (hr : rightItems T = true) (hl : T.length < 60) : rightItems (putIn T x) = true ∧ (putIn T x).length ≤ T.length + 1 := by
  cases hx : goodI x
  · rw [putIn_bad hx]
    exact ⟨hr, by omega⟩
  · rw [putIn_good hr hl hx]
    have hp := insIt_perm x (others T x)
    have hn := hp.length_eq
    have hf := others_few T x
    have hsz := right_sizes hr
    rw [List.length_cons] at hn
    refine ⟨right_of (insIt_sorted x _ (others_sorted (right_sorted hr) x) (others_ne T x)) (fun y hy => ?_) (by omega), by omega⟩
    rcases List.mem_cons.1 (hp.mem_iff.1 hy) with rfl | hy
    · exact hx
    · have hy := hsz y (List.mem_filter.1 hy).1
      unfold goodI
      rw [hy.1, hy.2]
      rfl
theorem right_nil : rightItems [] = true := right_of List.Pairwise.nil (fun x hx => by cases hx) (by simp)
theorem fold_right : ∀ (L T : List It), rightItems T = true → T.length + L.length ≤ 60 → rightItems (L.foldl putIn T) = true ∧ (L.foldl putIn T).length ≤ T.length + L.length
  | [], T, hr, _ => ⟨hr, by simp⟩
  | x :: r, T, hr, hl => by
    rw [List.length_cons] at hl
    obtain ⟨h1, h2⟩ := putIn_right (x := x) hr (by omega)
    obtain ⟨h3, h4⟩ := fold_right r (putIn T x) h1 (by omega)
    rw [List.foldl_cons, List.length_cons]
    exact ⟨h3, by omega⟩
/-- What is set is right, and no more than it was set of. -/
theorem made_right (L : List It) (hl : L.length ≤ 60) : rightItems (madeOf L) = true ∧ (madeOf L).length ≤ L.length := by
  obtain ⟨h1, h2⟩ := fold_right L [] right_nil (by simpa using hl)
  exact ⟨h1, by simpa [madeOf] using h2⟩
theorem others_all {T : List It} {x : It} (h : ∀ y ∈ T, y.1 ≠ x.1) : others T x = T := List.filter_eq_self.2 fun y hy => decide_eq_true (h y hy)
/-- None twice: all that are good are there. -/
theorem fold_perm : ∀ (L T : List It), rightItems T = true → T.length + L.length ≤ 60 → (L.Pairwise fun x y => x.1 ≠ y.1) → (∀ x ∈ L, ∀ y ∈ T, y.1 ≠ x.1) → (L.foldl putIn T).Perm (T ++ L.filter goodI)
  | [], T, _, _, _, _ => by simp
  | x :: r, T, hr, hl, hp, hn => by
    rw [List.length_cons] at hl
    obtain ⟨p1, p2⟩ := List.pairwise_cons.1 hp
    have hput := putIn_right (x := x) hr (by omega)
    rw [List.foldl_cons]
    cases hx : goodI x
    · rw [putIn_bad hx, List.filter_cons, hx]
      exact fold_perm r T hr (by omega) p2 (fun z hz y hy => hn z (List.mem_cons_of_mem _ hz) y hy)
    · have ho : others T x = T := others_all (hn x (List.mem_cons_self ..))
      have he : putIn T x = insIt x T := by rw [putIn_good hr (by omega) hx, ho]
      have hpm : (putIn T x).Perm (x :: T) := by rw [he]; exact insIt_perm x T
      refine (fold_perm r (putIn T x) hput.1 (by omega) p2 (fun z hz y hy => ?_)).trans ?_
      · rcases List.mem_cons.1 (hpm.mem_iff.1 hy) with rfl | hy
        · exact p1 z hz
        · exact hn z (List.mem_cons_of_mem _ hz) y hy
      · rw [List.filter_cons, hx]
        exact (hpm.append_right _).trans (List.perm_middle.symm)
theorem made_perm {L : List It} (hl : L.length ≤ 60) (hd : L.Pairwise fun x y => x.1 ≠ y.1) : (madeOf L).Perm (L.filter goodI) := by
  have := fold_perm L [] right_nil (by simpa using hl) hd (fun x _ y hy => by cases hy)
  simpa [madeOf] using this
/-- The order is nothing. -/
theorem made_order {L M : List It} (hl : L.length ≤ 60) (hd : L.Pairwise fun x y => x.1 ≠ y.1) (p : M.Perm L) : madeOf M = madeOf L := by
  have hm : M.length ≤ 60 := by rw [p.length_eq]; exact hl
  have hdm : M.Pairwise fun x y => x.1 ≠ y.1 := p.symm.pairwise hd (fun h => h.symm)
  exact sorted_one ((made_perm hm hdm).trans ((p.filter goodI).trans (made_perm hl hd).symm)) (right_sorted (made_right M hm).1) (right_sorted (made_right L hl).1)
theorem fold_keeps : ∀ (L T : List It) (y : It), rightItems T = true → T.length + L.length ≤ 60 → y ∈ T → (∀ x ∈ L, goodI x = true → x.1 ≠ y.1) → y ∈ L.foldl putIn T
  | [], _, _, _, _, hy, _ => hy
  | x :: r, T, y, hr, hl, hy, hn => by
    rw [List.length_cons] at hl
    have hput := putIn_right (x := x) hr (by omega)
    rw [List.foldl_cons]
    refine fold_keeps r (putIn T x) y hput.1 (by omega) ?_ (fun z hz hg => hn z (List.mem_cons_of_mem _ hz) hg)
    cases hx : goodI x
    · rw [putIn_bad hx]; exact hy
    · rw [putIn_good hr (by omega) hx, (insIt_perm x _).mem_iff]
      exact List.mem_cons_of_mem _ (List.mem_filter.2 ⟨hy, decide_eq_true fun he => hn x (List.mem_cons_self ..) hx he.symm⟩)
/-- One that is set again is as it was set last. -/
theorem made_last {L R : List It} {y : It} (hl : (L ++ y :: R).length ≤ 60) (hy : goodI y = true) (hn : ∀ x ∈ R, goodI x = true → x.1 ≠ y.1) : y ∈ madeOf (L ++ y :: R) := by
  rw [List.length_append, List.length_cons] at hl
  have hm := made_right L (by omega)
  unfold madeOf at hm ⊢
  rw [List.foldl_append, List.foldl_cons]
  have hput := putIn_right (x := y) hm.1 (by omega)
  refine fold_keeps R _ y hput.1 (by omega) ?_ hn
  rw [putIn_good hm.1 (by omega) hy, (insIt_perm y _).mem_iff]
  exact List.mem_cons_self ..
end Go.Proofs.YtpoibacokdjplaaDoor
/- The keeps' made: items set one behind the other, over whatever contracts the program's trie keeps. -/
namespace Go.Proofs.YtpoibacokdjplaaDoor
open Go.RowKit

theorem putIn_ok {T S : List It} {x : It} (h : setOf T x = (S, 0)) : putIn T x = S := by
  unfold putIn
  rw [h]
  rfl
theorem putIn_not {T S : List It} {x : It} {n : Int} (h : setOf T x = (S, n)) (hn : n ≠ 0) : putIn T x = T := by
  unfold putIn
  rw [h, if_neg hn]
theorem made_next {L : List It} {k : Nat} {x : It} (h : L[k]? = some x) : madeOf (L.take (k + 1)) = putIn (madeOf (L.take k)) x := by
  unfold madeOf
  rw [List.take_add_one, h, List.foldl_append]
  rfl
theorem made_few (L : List It) (k : Nat) (hl : L.length ≤ 60) : (madeOf (L.take k)).length ≤ 60 := by
  have h1 := (made_right (L.take k) (by rw [List.length_take]; omega)).2
  rw [List.length_take] at h1
  omega
end Go.Proofs.YtpoibacokdjplaaDoor
/- The keeps' held: items few and short enough. -/
namespace Go.Proofs.YtpoibacokdjplaaDoor
open Go.RowKit

def longItem (x : It) : Bool := decide (40 < x.1.size) || decide (40 < x.2.size)
set_option maxRecDepth 100000 in
theorem held1_any (x : It) (w : World) :
    Calls Tryd.prog 16 #[.agg #[.string x.1, .string x.2]] w fun e w' => e = .returned (.bool (longItem x)) ∧ Below w.heap.size w w' := by
  have HB := Lib.hid (alloc_below w (.cells #[.string x.1, .string x.2] 28))
  go_enter Tryd.func16, Tryd.ntmps16
  by_cases h : 40 < x.1.size
  · go_wp2
    go_ret
    exact ⟨by unfold longItem; simp [h], HB.out⟩
  · by_cases h2 : 40 < x.2.size
    · go_wp2
      go_ret
      exact ⟨by unfold longItem; simp [h2]; omega, HB.out⟩
    · go_wp2
      go_ret
      exact ⟨by unfold longItem; simp [h, h2]; omega, HB.out⟩
set_option maxRecDepth 100000 in
theorem heldIx_any (L : List It) (A : Option Addr) (cap : Nat) (w : World) (hm : Itms w A L) (hl : L.length ≤ 1000000) :
    Calls Tryd.prog 23 #[.slice A L.length cap, .func (.func 16) #[] #[]] w fun e w' => Below w.heap.size w w' ∧ ∃ n : Int, e = .returned (.int .i64 n) ∧ (0 ≤ n ∨ n = -1 ∧ L.all (fun x => !longItem x) = true) := by
  have HM := Lib.hid hm
  clear hm
  go_enter Tryd.func23, Tryd.ntmps23
  go_wp2
  go_loopw [8] (fun i wr => ∃ k : Nat, k ≤ L.length ∧ i = .int .i64 (k : Int) ∧ Below w.heap.size w wr ∧ (L.take k).all (fun x => !longItem x) = true) (fun i _ => L.length - (intOf i).toNat)
  case atStart => exact ⟨0, by omega, rfl, Below.refl _ _, rfl⟩
  case round =>
    obtain ⟨k, hk, rfl, hb, hall⟩ := hrel
    have HB := Lib.hid hb
    have HALL := Lib.hid hall
    clear hb hall
    by_cases hlt : k < L.length
    · have hmk := Itms.below HM.out HB.out
      obtain ⟨a, rfl, hal, c0, c1⟩ := hmk.at_ hlt
      have d2 : wr.cell? ⟨(a.add (k * 2)).block, (a.add (k * 2)).off + 1, none⟩ = some (.string (itAt L k).2) := c1
      have HX := Lib.hid (show L[k]? = some (itAt L k) by rw [List.getElem?_eq_getElem hlt, itAt_get (List.getElem?_eq_getElem hlt)])
      clear hmk
      generalize itAt L k = x at c0 c1 d2 HX
      go_wp2_with fail
      refine (held1_any x _).mono ?_
      rintro e w1 ⟨rfl, hb1⟩
      have HB1 := Lib.hid (HB.out.trans (hb1.mono HB.out.size))
      clear hb1 c0 c1 d2
      generalize hq : longItem x = q
      have HQ := Lib.hid hq
      clear hq
      cases q with
      | true =>
        go_wp2
        go_ret
        exact ⟨HB1.out, k, rfl, .inl (by omega)⟩
      | false =>
        go_wp2
        go_roundw
        case rel =>
          refine ⟨k + 1, by omega, by go_num, HB1.out, ?_⟩
          rw [List.take_add_one, HX.out, List.all_append, HALL.out]
          simp [HQ.out]
        case measure => simp [intOf]; omega
    · go_wp2
      go_ret
      have he : L.take k = L := List.take_of_length_le (by omega)
      exact ⟨HB.out, -1, rfl, .inr ⟨rfl, by have := HALL.out; rw [he] at this; exact this⟩⟩
theorem heldHas_any (L : List It) (A : Option Addr) (cap : Nat) (w : World) (hm : Itms w A L) (hl : L.length ≤ 1000000) :
    Calls Tryd.prog 13 #[.slice A L.length cap, .func (.func 16) #[] #[]] w fun e w' => Below w.heap.size w w' ∧ ∃ b, e = .returned (.bool b) ∧ (b = false → L.all (fun x => !longItem x) = true) := by
  have HM := Lib.hid hm
  clear hm
  go_enter Tryd.func13, Tryd.ntmps13
  go_wp2_with fail
  refine (heldIx_any L A cap _ HM.out hl).mono ?_
  rintro e w1 ⟨hb, n, rfl, hn⟩
  have HB := Lib.hid hb
  clear hb
  rcases hn with hn | ⟨rfl, hn⟩
  · go_wp2
    go_ret
    exact ⟨HB.out, true, rfl, fun h => by cases h⟩
  · have HN := Lib.hid hn
    clear hn
    go_wp2
    go_ret
    exact ⟨HB.out, false, rfl, fun _ => HN.out⟩
/-- Held: few items, and short ones. -/
theorem held_any (L : List It) (A : Option Addr) (cap : Nat) (w : World) (hm : Itms w A L) :
    Calls Tryd.prog 4 #[.slice A L.length cap] w fun e w' => Below w.heap.size w w' ∧ ∃ b, e = .returned (.bool b) ∧ (b = true → L.length ≤ 40 ∧ L.all (fun x => !longItem x) = true) := by
  have HM := Lib.hid hm
  clear hm
  by_cases hl : L.length ≤ 40
  · go_enter Tryd.func4, Tryd.ntmps4
    go_wp2_with fail
    refine (heldHas_any L A cap _ HM.out (by omega)).mono ?_
    rintro e w1 ⟨hb, b, rfl, hn⟩
    have HB := Lib.hid hb
    have HN := Lib.hid hn
    clear hb hn
    cases b with
    | true =>
      go_wp2
      go_ret
      exact ⟨HB.out, false, rfl, fun h => by cases h⟩
    | false =>
      have HN2 := Lib.hid (HN.out rfl)
      clear HN
      go_wp2
      go_ret
      exact ⟨HB.out, true, rfl, fun _ => ⟨hl, HN2.out⟩⟩
  · go_enter Tryd.func4, Tryd.ntmps4
    go_wp2
    go_ret
    exact ⟨Below.refl _ _, rfl⟩
end Go.Proofs.YtpoibacokdjplaaDoor
/- Items compared: one with one, and slices.Equal of the same items. -/
namespace Go.Proofs.YtpoibacokdjplaaDoor
open Go.RowKit

theorem stoodI : Tryd.prog.stoodInHeld 28 = false := by kernel_rfl
theorem itemFields : Tryd.prog.underlying 28 = some (.struct (Tryd.prog.fieldsOf 28)) := by kernel_rfl
theorem textI_ne {a b : ByteArray} (h : ¬ a = b) : (a.toList == b.toList) = false := by
  rw [beq_eq_false_iff_ne]
  intro e
  rw [ByteArray.toList_eq, ByteArray.toList_eq] at e
  exact h (text_of e)
set_option maxHeartbeats 1000000 in
theorem run_neq_items (a b : It) (w : World) :
    (binOp .neq 28 (.agg #[.string a.1, .string a.2]) (.agg #[.string b.1, .string b.2])).run Tryd.prog w = .ok (.bool (!decide (a = b))) w := by
  rw [run_neq_struct, run_equalIn_agg _ 9999 _ _ _ itemFields stoodI]
  by_cases h2 : a.1 = b.1
  · by_cases h3 : a.2 = b.2
    · have e : decide (a = b) = true := by simp [Prod.ext_iff, h2, h3]
      rw [e, h2, h3]
      go_simp
    · have e : decide (a = b) = false := by simp [Prod.ext_iff, h3]
      have e3 := textI_ne h3
      rw [e, h2]
      go_simp
  · have e : decide (a = b) = false := by simp [Prod.ext_iff, h2]
    have e3 := textI_ne h2
    rw [e]
    go_simp
set_option maxRecDepth 100000 in
theorem equalItems_same (L : List It) (A B : Option Addr) (cap cap' : Nat) (w : World) (hl : L.length ≤ 1000000) (ha : Itms w A L) (hb : Itms w B L) :
    Calls Tryd.prog 12 #[.slice A L.length cap, .slice B L.length cap'] w fun e w' => e = .returned (.bool true) ∧ ∃ q, w' = w.drewN q := by
  have HA := Lib.hid ha
  have HB := Lib.hid hb
  clear ha hb
  go_enter Tryd.func12, Tryd.ntmps12
  go_wp2
  go_loopw [13] (fun i wr => ∃ k q : Nat, k ≤ L.length ∧ i = .int .i64 (k : Int) ∧ wr = w.drewN q) (fun i _ => L.length - (intOf i).toNat)
  case atStart => exact ⟨0, 0, by omega, rfl, rfl⟩
  case round =>
    obtain ⟨k, q, hk, rfl, rfl⟩ := hrel
    by_cases hlt : k < L.length
    · obtain ⟨a, rfl, _, c0, c1⟩ := HA.out.at_ hlt
      obtain ⟨b, rfl, _, f0, f1⟩ := HB.out.at_ hlt
      have c2 : w.cell? ⟨(a.add (k * 2)).block, (a.add (k * 2)).off + 1, none⟩ = some (.string (itAt L k).2) := c1
      have f2 : w.cell? ⟨(b.add (k * 2)).block, (b.add (k * 2)).off + 1, none⟩ = some (.string (itAt L k).2) := f1
      generalize itAt L k = x at c0 c2 f0 f2
      clear c1 f1
      have hne : ∀ u : World, (binOp .neq 28 (.agg #[.string x.1, .string x.2]) (.agg #[.string x.1, .string x.2])).run Tryd.prog u = .ok (.bool false) u := fun u => by rw [run_neq_items]; simp
      go_wp2
      go_quiet (fail)
      go_wp2
      go_roundw
      case rel => exact ⟨k + 1, _, by omega, by go_num, rfl⟩
      case measure => simp [intOf]; omega
    · go_wp2
      go_ret
      exact ⟨rfl, q, rfl⟩
end Go.Proofs.YtpoibacokdjplaaDoor
