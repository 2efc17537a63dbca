/- Parts of the proof, one behind the other: Times, Above, Primes, Digits, Right, Step, Halves, Node, Prove, Index2, Of, RProof, Once, OnceFrom, Row3. -/
import Derived.WalkKit
import Derived.Lib.Hide
import Derived.WalkLawsBesides
import Derived.Deep.QuietTactic
import Derived.Deep.WholeRow
import Derived.ArgAppend
import Derived.Laws.AppendOwnNone
import Derived.Laws.CopyRow
import Derived.Deep.RegionLaw
import Derived.Laws.BytesString
import Derived.Laws.IdiomStrings
import Derived.Test.YtgjmbokfenpefaaGreatDoorProg
import Derived.StillTail
import Derived.Deep.Quiet
import Derived.BigQuiet
import Derived.Laws.BitsAllLaws
import Derived.Outline
import Derived.Laws.CopyOwn
import Derived.RegionTactic
import Derived.IntWalk
import Derived.Sort.Walk0
import Derived.Tactics
import Derived.Orders
import Derived.Deep.RegionHeld3
import Derived.Deep.DeepCutAuto
import Derived.Laws.ResultCell
import Derived.LaidEql
import Derived.Stop.Asserts
import Derived.RowKitTokens
import Derived.Test.YtgjmbokfenpefaaGreatDoorM1
import Derived.Test.YtgjmbokfenpefaaGreatDoorM2
import Derived.Test.YtgjmbokfenpefaaGreatDoorM3
import Derived.Test.YtgjmbokfenpefaaGreatDoorM4
/- The document's numbers of rounds: times, above, root. -/
namespace Go.Proofs.YtgjmbokfenpefaaGreatDoor
open Go.RowKit

def u64s (l : List Nat) : List Value := l.map fun (n : Nat) => Value.int .u64 (n : Int)
/-- What is left of a number, digit by digit of 2^16. -/
def digs : Nat → Nat → List Nat
  | 0, _ => []
  | f + 1, c => if c = 0 then [] else (c % 65536) :: digs f (c / 65536)
def timesL (x : Nat) : List Nat → Nat → List Nat
  | [], c => digs 4 c
  | d :: l, c => ((c + d * x) % 65536) :: timesL x l ((c + d * x) / 65536)
structure TimesRel (N : Nat) (w wr : World) (v : Value) (done : List Nat) : Prop where
  below : Below N w wr
  row : Row wr N 1 v done.length (u64s done)
end Go.Proofs.YtgjmbokfenpefaaGreatDoor
/- The document's numbers of rounds: above. -/
namespace Go.Proofs.YtgjmbokfenpefaaGreatDoor
open Go.RowKit

def powL (x : Nat) : Nat → List Nat
  | 0 => [1]
  | j + 1 => timesL x (powL x j) 0
def noughts (n : Nat) : List Nat := List.replicate n 0
def padTo (n : Nat) (l : List Nat) : List Nat := l ++ noughts (n - l.length)
def cmpAt (A B : List Nat) : Nat → Bool
  | 0 => false
  | n + 1 => if A.getD n 0 = B.getD n 0 then cmpAt A B n else decide (B.getD n 0 < A.getD n 0)
def aboveL (x k p : Nat) : Bool :=
  let B0 := noughts (2 * k) ++ [p]
  let A := padTo B0.length (powL x k)
  let B := padTo A.length B0
  cmpAt A B A.length

structure RowOf (N : Nat) (w wr : World) (p : Option Addr) (cap : Nat) (l : List Nat) : Prop where
  below : Below N w wr
  row : Row wr N 1 (.slice p l.length cap) l.length (u64s l)

structure TwoRows (N : Nat) (w wr : World) (vA vB : Value) (A B : List Nat) : Prop where
  below : Below N w wr
  a : Row wr N 1 vA A.length (u64s A)
  b : Row wr N 1 vB B.length (u64s B)
  ne : ∀ c, vA.ownBlock = some c → vB.ownBlock ≠ some c
theorem TwoRows.symm {N : Nat} {w wr : World} {vA vB : Value} {A B : List Nat} (h : TwoRows N w wr vA vB A B) : TwoRows N w wr vB vA B A :=
  ⟨h.below, h.b, h.a, fun c h1 h2 => h.ne c h2 h1⟩
end Go.Proofs.YtgjmbokfenpefaaGreatDoor
/- The document's numbers of rounds: primes. -/
namespace Go.Proofs.YtgjmbokfenpefaaGreatDoor
open Go.RowKit

def i64s (l : List Nat) : List Value := l.map fun (n : Nat) => Value.int .i64 (n : Int)
/-- The primes among the first so many numbers from 2. -/
def pl : Nat → List Nat
  | 0 => []
  | m + 1 => if (pl m).all (fun p => (m + 2) % p != 0) then pl m ++ [m + 2] else pl m
end Go.Proofs.YtgjmbokfenpefaaGreatDoor
/- The document's digits. -/
namespace Go.Proofs.YtgjmbokfenpefaaGreatDoor
open Go.RowKit

/-- append of values of one cell, just built. -/
theorem wpList_append_new {P : Program} {w : World} {ops : Array Oper} {rest : List Oper} {o : Oper} {a : Act} {Q : Exit → Act → World → Prop}
    (hg : o.guard = none) (s x : Operand) (t : TypeId) (hop : o.op = Op.call { callee := Callee.builtin Builtin.append, args := #[s, x], argTypes := #[t, t] })
    (e : TypeId) (h1 : P.underlying t = some (.slice e)) (z : Value) (bytes : Nat) (hi : (P.info? e).map (fun i => (i.zero, i.size, i.bytes)) = some (some z, 1, bytes)) (h6 : z.cells.size = 1) (hby : bytes ≤ 64)
    (base : Nat) (v : Value) (n : Nat) (xs : List Value) (hs : a.eval s = v) (hrow : Row w base 1 v n xs) (hbase : base ≤ w.heap.size) (hn : n ≤ 1000000)
    (us : List Value) (m : Nat) (hm : us.length = m) (hm2 : m ≤ 1000000) (hx : a.eval x = .slice (some ⟨w.heap.size, 0, none⟩) m m) (h1c : ∀ u ∈ us, u.oneCell' = true) (e' : TypeId)
    (hK : ∀ v' w', Hid (Row w' base 1 v' (n + m) (xs ++ us)) → Hid (w.grownBy w' v.ownBlock) → Hid (Moved w v v') → wpList P ops Q rest (a.put o.dst v') w') :
    wpList P ops Q (o :: rest) a (w.alloc (.cells us.toArray e')) := by
  obtain ⟨i0, hi0, hz0, hz1, hz2⟩ := info_parts hi
  refine wpList_append_row2 hg s x t hop e i0 z 1 bytes h1 hi0 hz0 hz1 hz2 h6 (by decide) base v n xs hs (hrow.alloc _) (by simp; omega) ⟨w.heap.size, 0, none⟩ m m us hx (by omega) ?_ h1c (by unfold maxLen; omega) ?_ ?_
  · intro j y hj
    rw [add_none, Nat.zero_add, cell_of_row _ _ _ _ _ _ (heap_alloc_new w (.cells us.toArray e'))]
    simpa using hj
  · have := Nat.mul_le_mul (show n + m ≤ 2000000 by omega) hby
    omega
  · intro v' w' hr' hg' hm'
    have hg2 := hg'.out
    exact hK v' w' hr' (show World.grownBy _ _ _ from ⟨hg2.os, hg2.tape, hg2.output, by have := hg2.size; simp at this; omega, fun k hk hne => (hg2.block k (by simp; omega) hne).trans (Below.heap_alloc _ _ _ hk)⟩) (show Moved _ _ _ from hm'.out.imp id fun h b hb => Nat.le_trans (by simp) (h b hb))

def digsOf (l : List UInt8) : List Nat := l.flatMap fun b => [b.toNat / 16, b.toNat % 16]
def lackOf (l : List UInt8) : Nat := (l.map fun b => 30 - b.toNat / 16 - b.toNat % 16).sum
def digitsOf (l : List UInt8) : List Nat := digsOf l ++ [lackOf l / 256, lackOf l / 16 % 16, lackOf l % 16]
theorem digsOf_length (l : List UInt8) : (digsOf l).length = 2 * l.length := by
  unfold digsOf
  induction l with
  | nil => rfl
  | cons b l ih => simp only [List.flatMap_cons, List.length_append, List.length_cons, ih]; simp; omega
theorem lackOf_le (l : List UInt8) : lackOf l ≤ 30 * l.length := by
  unfold lackOf
  induction l with
  | nil => simp
  | cons b l ih => simp only [List.map_cons, List.sum_cons, List.length_cons]; omega
theorem digitsOf_lt {l : List UInt8} (h : l.length = 16) (d : Nat) (hd : d ∈ digitsOf l) : d < 16 := by
  unfold digitsOf digsOf at hd
  have := lackOf_le l
  simp only [List.mem_append, List.mem_flatMap, List.mem_cons, List.not_mem_nil, or_false] at hd
  rcases hd with ⟨b, _, hb⟩ | hd
  · have := b.toNat_lt; omega
  · omega
theorem below_drewP {B : Nat} {u w : World} (h : Below B u w) (n : Nat) : Below B u (w.drewN n) := ⟨h.os, h.tape, h.output, h.size, h.block⟩
end Go.Proofs.YtgjmbokfenpefaaGreatDoor
/- The document's RightItems. -/
namespace Go.Proofs.YtgjmbokfenpefaaGreatDoor
open Go.RowKit

theorem below_drew {B : Nat} {u w : World} (h : Below B u w) (n : Nat) : Below B u (w.drewN n) := ⟨h.os, h.tape, h.output, h.size, h.block⟩
end Go.Proofs.YtgjmbokfenpefaaGreatDoor
/- A law of the walk over a list of operations, at one step of a region that draws its order. No program is imported. -/
namespace Go.Proofs.YtgjmbokfenpefaaGreatDoor
open Go.RowKit

/-- What holds behind the one operation, and nothing at any other way out. -/
def Then1 (K : Act → World → Prop) : Exit → Act → World → Prop
  | .normal, a, w => K a w
  | _, _, _ => False
theorem then1 {P : Program} {ops : Array Oper} {K : Act → World → Prop} {a : Act} {w : World} (h : K a w) : wpList P ops (Then1 K) [] a w := h
theorem wp_of_list {P : Program} {ops : Array Oper} {o : Oper} {a : Act} {w : World} {K : Act → World → Prop} {Q : Exit → Act → World → Prop} (hgd : o.guard = none) (h : wpList P ops (Then1 K) [o] a w) : o.wp P a w K Q := by
  have hw : Region.wanted o (yielded ops a.tmps) = true := by simp [Region.wanted, hgd]
  unfold wpList at h
  rw [if_pos hw] at h
  rcases h with h | ⟨_, _, _, h⟩
  · unfold Oper.wp at *
    generalize (execOp a.eval o).run P w = r at *
    cases r with
    | ok n w' =>
      cases n <;> simp only [Oper.upon] at h ⊢
      all_goals first
        | exact h
        | exact h.elim
        | exact Calls.mono h (fun e w'' hh => by cases e <;> first | exact hh | exact hh.elim | (obtain ⟨_, _, hh⟩ := hh; exact hh.elim))
        | exact Rows.mono h (fun _ _ he => he)
    | halt x w' => cases x <;> simp only [Oper.upon] at h ⊢ <;> first | exact h | exact h.elim | (obtain ⟨_, _, h⟩ := h; exact h.elim)
  · exact h.elim
theorem step_of_list {P : Program} {ops : Array Oper} {o : Oper} {a : Act} {w : World} {K : Act → World → Prop} {Q : Exit → Act → World → Prop} {E : Prop} (hgd : o.guard = none) (h : wpList P ops (Then1 K) [o] a w) :
    if Region.wanted o (yielded ops a.tmps) = true then Oper.wp P o a w K Q else E := by
  have hw : Region.wanted o (yielded ops a.tmps) = true := by simp [Region.wanted, hgd]
  rw [if_pos hw]
  exact wp_of_list hgd h
end Go.Proofs.YtgjmbokfenpefaaGreatDoor
/- The document's Halves. -/
namespace Go.Proofs.YtgjmbokfenpefaaGreatDoor
open Go.RowKit

theorem infoItem : (Tryz.prog.info? 59).map (fun i => (i.zero, i.size, i.bytes)) = some (some (.agg #[.string ⟨#[]⟩, .string ⟨#[]⟩]), 2, 32) := by kernel_rfl
/-- append of one item, just built. -/
theorem wpList_append_item {P : Program} {w : World} {ops : Array Oper} {rest : List Oper} {o : Oper} {a : Act} {Q : Exit → Act → World → Prop}
    (hg : o.guard = none) (s x : Operand) (t : TypeId) (hop : o.op = Op.call { callee := Callee.builtin Builtin.append, args := #[s, x], argTypes := #[t, t] })
    (e : TypeId) (h1 : P.underlying t = some (.slice e)) (z : Value) (bytes : Nat) (hi : (P.info? e).map (fun i => (i.zero, i.size, i.bytes)) = some (some z, 2, bytes)) (h6 : z.cells.size = 2) (hby : bytes ≤ 64)
    (base : Nat) (v : Value) (L : List It) (hs : a.eval s = v) (hrow : Row w base 2 v L.length (itCells L)) (hbase : base ≤ w.heap.size) (hn : L.length ≤ 2147483647)
    (y : It) (B : Nat) (hx : a.eval x = .slice (some ⟨B, 0, none⟩) 1 1) (e' : TypeId) (hB : w.heap[B]? = some (.cells #[.string y.1, .string y.2] e' (0, 0)))
    (hK : ∀ v' w', Hid (Row w' base 2 v' (L ++ [y]).length (itCells (L ++ [y]))) → Hid (w.grownBy w' v.ownBlock) → Hid (Moved w v v') → wpList P ops Q rest (a.put o.dst v') w') :
    wpList P ops Q (o :: rest) a w := by
  obtain ⟨i0, hi0, hz0, hz1, hz2⟩ := info_parts hi
  refine wpList_append_row2 hg s x t hop e i0 z 2 bytes h1 hi0 hz0 hz1 hz2 h6 (by decide) base v L.length (itCells L) hs hrow hbase ⟨B, 0, none⟩ 1 1 (itCells [y]) hx rfl ?_ ?_ (by unfold maxLen; omega) ?_ ?_
  · intro j u hj
    rw [add_none, Nat.zero_add, cell_of_row _ B j _ e' (0, 0) hB]
    simpa [itCells] using hj
  · intro u hu; simp [itCells] at hu; rcases hu with rfl | rfl <;> rfl
  · have := Nat.mul_le_mul (show L.length + 1 ≤ 2147483648 by omega) hby
    omega
  · intro v' w' hr' hg' hm'
    refine hK v' w' ?_ hg' hm'
    have := hr'.out
    rw [← itCells_append] at this
    rw [List.length_append]
    exact Lib.hid this

structure HalfRel (N : Nat) (w wr : World) (L : List It) (d k : Nat) (v0 v1 : Value) : Prop where
  below : Below N w wr
  own : Holds wr N 2 (fun i => if i = 0 then v0 else v1) 339
  row0 : Row wr (N + 1) 2 v0 (half (L.take k) d 0).length (itCells (half (L.take k) d 0))
  row1 : Row wr (N + 1) 2 v1 (half (L.take k) d 1).length (itCells (half (L.take k) d 1))
  apart : ∀ b, v0.ownBlock = some b → v1.ownBlock ≠ some b
end Go.Proofs.YtgjmbokfenpefaaGreatDoor
/- The document's NODE and Root. -/
namespace Go.Proofs.YtgjmbokfenpefaaGreatDoor
open Go.RowKit

theorem nodeOf_nil (f : Nat) (L : List It) (d : Nat) (h : L.length = 0) : nodeOf f L d = emptyM d := by
  obtain rfl := List.eq_nil_of_length_eq_zero h
  cases f <;> simp [nodeOf]
theorem nodeOf_one (f : Nat) (L : List It) (d : Nat) (h : L.length = 1) : nodeOf f L d = leafM (itAt L 0) d := by
  match L, h with
  | [x], _ => cases f <;> simp [nodeOf, itAt]
theorem nodeOf_two (f : Nat) (L : List It) (d : Nat) (h : 2 ≤ L.length) : nodeOf (f + 1) L d = joinM (nodeOf f (half L d 0) (d + 1)) (nodeOf f (half L d 1) (d + 1)) := by
  rw [nodeOf, if_neg (by omega), if_neg (by omega)]
theorem nodeOf_size : ∀ (f : Nat) (L : List It) (d : Nat), (nodeOf f L d).size = 16 := by
  intro f L d
  rcases (show L.length = 0 ∨ L.length = 1 ∨ 2 ≤ L.length by omega) with h | h | h
  · rw [nodeOf_nil f L d h]; unfold emptyM; exact markOf_len _ _
  · rw [nodeOf_one f L d h]; unfold leafM; exact markOf_len _ _
  · cases f with
    | zero =>
      match L, h with
      | x :: _, _ => exact markOf_len _ _
    | succ f => rw [nodeOf_two f L d h]; exact markOf_len _ _
/-- The root of what is right. -/
def rootOf (L : List It) : ByteArray := nodeOf 128 L 0
def rootAns (L : List It) : ByteArray × Int := if rightItems L = true then (rootOf L, 0) else (⟨#[]⟩, 1)
theorem right_cm {L : List It} (h : rightItems L = true) : ∀ x ∈ L, x.2.size ≤ 1000000 := fun x hx => by have := (right_sizes h x hx).2; omega
end Go.Proofs.YtgjmbokfenpefaaGreatDoor
/- The document's Prove. -/
namespace Go.Proofs.YtgjmbokfenpefaaGreatDoor
open Go.RowKit

def proveFrom : Nat → List It → ByteArray → Nat → List ByteArray × It
  | 0, L, _, _ => ([], itAt L 0)
  | f + 1, L, ix, d => if L.length < 2 then ([], itAt L 0) else
      (nodeOf f (half L d (1 - bitOf ix.data.toList d)) (d + 1) :: (proveFrom f (half L d (bitOf ix.data.toList d)) ix (d + 1)).1, (proveFrom f (half L d (bitOf ix.data.toList d)) ix (d + 1)).2)
def noIt : It := (⟨#[]⟩, ⟨#[]⟩)
def proveAns (L : List It) (ix : ByteArray) : List ByteArray × It × Int := if rightItems L = true ∧ ix.size = 16 then ((proveFrom 128 L ix 0).1, (proveFrom 128 L ix 0).2, 0) else ([], noIt, 1)
def pCells (v : Value) (x : It) : Nat → Value := fun i => if i = 0 then v else if i = 1 then .string x.1 else .string x.2
structure ProveRel (pb : Nat) (w wr : World) (M : List It) (A : Option Addr) (P : List ByteArray) (v : Value) : Prop where
  below : Below w.heap.size w wr
  lt : w.heap.size < pb
  res : Holds wr w.heap.size 3 (pCells (.slice none 0 0) noIt) 61
  own : Holds wr pb 3 (pCells v noIt) 61
  itms : Itms wr A M
  row : Row wr (pb + 1) 1 v P.length (stCells P)
theorem infoStr : (Tryz.prog.info? 9).map (fun i => (i.zero, i.size, i.bytes)) = some (some (.string ⟨#[]⟩), 1, 16) := by kernel_rfl
/-- A round's end: the path has one mark more. -/
theorem ProveRel.next {pb : Nat} {w wr w3 w4 : World} {M M' : List It} {A A' : Option Addr} {P : List ByteArray} {v v' : Value} {y : ByteArray} {cap' : Nat} (h : ProveRel pb w wr M A P v) (hb : Below wr.heap.size wr w3) (hi : Row w3 wr.heap.size 2 (.slice A' M'.length cap') M'.length (itCells M'))
    (hrow : Row w4 (pb + 1) 1 v' (P.length + 1) (stCells P ++ [.string y])) (hg : w3.grownBy w4 v.ownBlock) : ProveRel pb w (w4.setCell ⟨pb, 0, none⟩ v') M' A' (P ++ [y]) v' := by
  have hrow3 : Row w3 (pb + 1) 1 v P.length (stCells P) := h.row.belowAll hb
  have hne : ∀ c, c < pb + 1 → v.ownBlock ≠ some c := fun c hc => hrow3.fresh hc
  have hown3 := h.own.below hb h.own.lt
  have hres3 := h.res.below hb h.res.lt
  have hpb : pb < w3.heap.size := hown3.lt
  have hlt := h.lt
  have hb3 : Below w.heap.size w w3 := h.below.trans (hb.mono h.below.size)
  have keep : ∀ c, c < w3.heap.size → c < pb + 1 → w4.heap[c]? = w3.heap[c]? := fun c hc hc2 => hg.block c hc (fun e => hne c hc2 e.symm)
  refine ⟨(hb3.grown hg (by omega) (fun k hk => by have := (hrow3.lt k hk).1; omega)).setCell (p := ⟨pb, 0, none⟩) (by show w.heap.size ≤ pb; omega) _, hlt, ?_, ?_, ?_, ?_⟩
  · refine Holds.other ?_ (a := ⟨pb, 0, none⟩) (by show w.heap.size ≠ pb; omega) v'
    unfold Holds at hres3 ⊢; rw [keep _ (lt_of_block hres3) (by omega)]; exact hres3
  · have h4 : Holds w4 pb 3 (pCells v noIt) 61 := by unfold Holds at hown3 ⊢; rw [keep _ hpb (by omega)]; exact hown3
    refine (h4.set 0 v').congr fun i _ => ?_
    unfold upd pCells
    by_cases h : i = 0 <;> simp [h]
  · have hv : ∀ c, v.ownBlock = some c → c < wr.heap.size := fun c hc => (h.row.lt c hc).2
    have hpw : pb < wr.heap.size := h.own.lt
    have hi4 : Row (w4.setCell ⟨pb, 0, none⟩ v') wr.heap.size 2 (.slice A' M'.length cap') M'.length (itCells M') := by
      refine (hi.kept (w' := w4) (fun k hk => ?_) hg.size).setOther (fun e => ?_) _
      · have h1 := hi.lt k hk
        exact hg.block k h1.2 (fun e => by have := hv k e.symm; omega)
      · have h1 := (hi.lt pb e).1; omega
    obtain ⟨_, B, c, hB, hI⟩ := hi4.itms
    injection hB with e1 e2 e3
    subst e1
    exact hI
  · have e : stCells (P ++ [y]) = stCells P ++ [.string y] := by simp [stCells]
    rw [List.length_append, e]
    exact hrow.setOther (hrow.fresh (Nat.lt_succ_self _)) _
structure LeafRel (pb : Nat) (w wr : World) (M : List It) (A : Option Addr) (P : List ByteArray) (v : Value) (k : Nat) : Prop where
  below : Below w.heap.size w wr
  lt : w.heap.size < pb
  res : Holds wr w.heap.size 3 (pCells (.slice none 0 0) noIt) 61
  own : Holds wr pb 3 (pCells v (if k = 0 then noIt else itAt M 0)) 61
  itms : k = 0 → Itms wr A M
  row : Row wr (pb + 1) 1 v P.length (stCells P)
theorem LeafRel.start {pb : Nat} {w wr : World} {M : List It} {A : Option Addr} {P : List ByteArray} {v : Value} (h : ProveRel pb w wr M A P v) : LeafRel pb w wr M A P v 0 :=
  ⟨h.below, h.lt, h.res, h.own, fun _ => h.itms, h.row⟩
end Go.Proofs.YtgjmbokfenpefaaGreatDoor
/- The program's Name, Bit and Common. -/
namespace Go.Proofs.YtgjmbokfenpefaaGreatDoor
open Go.RowKit

/-- The program's error of this number, or none. -/
def errOf (n : Int) : Value := if n = 0 then .nilIface else .iface 28 (.int .i64 n)
end Go.Proofs.YtgjmbokfenpefaaGreatDoor
/- Of, Bit and Common, of the program and of the document, each by one answer: a value and the number of an error. -/
namespace Go.Proofs.YtgjmbokfenpefaaGreatDoor
open Go.RowKit

def ofAns (name : ByteArray) : ByteArray × Int := if nameOk name.data.toList then (markOf 105 [name], 0) else (⟨#[]⟩, 5)
/-- One text in a block that was made just now. -/
theorem one_part (name : ByteArray) (w : World) : ∀ (i : Nat) p, ([name] : List ByteArray)[i]? = some p → ∃ a, some (⟨w.heap.size, 0, none⟩ : Addr) = some a ∧ a.block < (w.alloc (.cells #[.string name] 9)).heap.size ∧ (w.alloc (.cells #[.string name] 9)).cell? (a.add i) = some (.string p) := by
  intro i p hp
  match i, hp with
  | 0, hp =>
    simp at hp; subst hp
    refine ⟨_, rfl, by simp, ?_⟩
    rw [show (⟨w.heap.size, 0, none⟩ : Addr).add 0 = ⟨w.heap.size, 0, none⟩ by simp [Addr.add]]
    exact (Holds.new w 1 (fun _ => .string name) 9).cell 0 (by omega)
theorem nameOk_size (s : ByteArray) (h : nameOk s.data.toList = true) : s.size ≤ 12 := by
  unfold nameOk at h
  simp at h
  exact h.2.2
theorem HasK.alloc {w : World} (h : HasK w) (o : Obj) : HasK (w.alloc o) := h.below ((Below.refl w.heap.size w).alloc (Nat.le_refl _) o) h.lt
end Go.Proofs.YtgjmbokfenpefaaGreatDoor
/- The document's RightProof, ProofRoot, Verify, Commit. -/
namespace Go.Proofs.YtgjmbokfenpefaaGreatDoor
open Go.RowKit

def marksOk (L : List ByteArray) : Bool := L.all fun s => decide (s.size = 16)
def marksUpto (L : List ByteArray) (k : Nat) : Bool := marksOk (L.take k)
theorem marksOk_false {L : List ByteArray} {k : Nat} {p : ByteArray} (h : L[k]? = some p) (hp : ¬ p.size = 16) : marksOk L = false := by
  unfold marksOk
  rw [List.all_eq_false]
  exact ⟨p, List.mem_of_getElem? h, by simpa using hp⟩
theorem marksOk_get {L : List ByteArray} (h : marksOk L = true) {k : Nat} {p : ByteArray} (hp : L[k]? = some p) : p.size = 16 := by
  unfold marksOk at h
  rw [List.all_eq_true] at h
  simpa using h p (List.mem_of_getElem? hp)
def leafOk (ix : ByteArray) (n : Nat) (x : It) : Bool := decide (x.1.size = 16) && decide (n ≤ commonOf ix.data.toList x.1.data.toList) && decide (x.2.size = 16)
def rightProof (ix : ByteArray) (P : List ByteArray) (x : It) : Bool :=
  decide (ix.size = 16) && decide (P.length ≤ 128) && marksOk P && (if x.1.size = 0 ∧ x.2.size = 0 then true else leafOk ix P.length x)
end Go.Proofs.YtgjmbokfenpefaaGreatDoor
/- The document's OncePublic, OnceSign, OnceFrom. -/
namespace Go.Proofs.YtgjmbokfenpefaaGreatDoor
open Go.RowKit

/-- Where a chain begins. -/
def seedOf (seed : ByteArray) (key : Int) (c : Nat) : ByteArray := markOf 115 [seed, txt (num8 key), txt (num8 (c : Int))]
def pubChains (seed : ByteArray) (key : Int) (k : Nat) : List ByteArray := (List.range k).map fun c : Nat => alongFrom (c : Int) 15 0 (seedOf seed key c)
def publicOf (seed : ByteArray) (key : Int) : ByteArray := markOf 112 (pubChains seed key 35)
def publicAns (seed : ByteArray) (key : Int) : ByteArray × Int := if seed.size = 16 then (publicOf seed key, 0) else (⟨#[]⟩, 1)
def signChains (seed : ByteArray) (key : Int) (m : ByteArray) (k : Nat) : List ByteArray := (List.range k).map fun c : Nat => alongFrom (c : Int) ((digitsOf m.data.toList).getD c 0) 0 (seedOf seed key c)
def signAns (seed : ByteArray) (key : Int) (m : ByteArray) : List ByteArray × Int := if seed.size = 16 ∧ m.size = 16 then (signChains seed key m 35, 0) else ([], 1)
def fromChains (m : ByteArray) (sig : List ByteArray) (k : Nat) : List ByteArray := (List.range k).map fun c : Nat => alongFrom (c : Int) (15 - (digitsOf m.data.toList).getD c 0) ((digitsOf m.data.toList).getD c 0) (sig.getD c ⟨#[]⟩)
def fromAns (m : ByteArray) (sig : List ByteArray) : ByteArray × Int := if m.size = 16 ∧ sig.length = 35 ∧ marksOk sig = true then (markOf 112 (fromChains m sig 35), 0) else (⟨#[]⟩, 1)
theorem total_leM (l : List ByteArray) (n : Nat) (h : ∀ p ∈ l, p.size ≤ n) : total l ≤ l.length * (n + 8) := by
  unfold total
  induction l with
  | nil => simp
  | cons x r ih =>
    have h1 := h x (by simp)
    have h2 := ih fun p hp => h p (by simp [hp])
    simp only [List.map_cons, List.sum_cons, List.length_cons, Nat.add_mul]
    omega
theorem seedOf_size (seed : ByteArray) (key : Int) (c : Nat) : (seedOf seed key c).size = 16 := markOf_len _ _
theorem pub_size (seed : ByteArray) (key : Int) (k : Nat) : ∀ p ∈ pubChains seed key k, p.size ≤ 16 := by
  intro p hp
  unfold pubChains at hp
  obtain ⟨c, _, rfl⟩ := List.mem_map.1 hp
  exact Nat.le_of_eq (along_size _ _ _ _ (seedOf_size _ _ _))
theorem stCells_append (a b : List ByteArray) : stCells (a ++ b) = stCells a ++ stCells b := by unfold stCells; simp

theorem digit_le {m : ByteArray} (h16 : m.size = 16) (k : Nat) : (digitsOf m.data.toList).getD k 0 ≤ 15 := by
  by_cases hk : k < (digitsOf m.data.toList).length
  · have := digitsOf_lt (show m.data.toList.length = 16 by rw [size_len]; exact h16) ((digitsOf m.data.toList).getD k 0) (by rw [List.getD_eq_getElem?_getD, List.getElem?_eq_getElem hk]; exact List.getElem_mem _)
    omega
  · rw [List.getD_eq_getElem?_getD, List.getElem?_eq_none (by omega)]; simp
theorem chains_len (f : Nat → ByteArray) (k : Nat) : ((List.range k).map f).length = k := by simp

end Go.Proofs.YtgjmbokfenpefaaGreatDoor
/- The document's OnceFrom. -/
namespace Go.Proofs.YtgjmbokfenpefaaGreatDoor
open Go.RowKit

theorem from_size (m : ByteArray) (sig : List ByteArray) (h : ∀ p ∈ sig, p.size = 16) (hl : sig.length = 35) (k : Nat) (hk : k ≤ 35) : ∀ p ∈ fromChains m sig k, p.size ≤ 16 := by
  intro p hp
  unfold fromChains at hp
  obtain ⟨c, hc, rfl⟩ := List.mem_map.1 hp
  have hc' : c < sig.length := by have := List.mem_range.1 hc; omega
  refine Nat.le_of_eq (along_size _ _ _ _ ?_)
  rw [List.getD_eq_getElem?_getD, List.getElem?_eq_getElem hc']
  exact h _ (List.getElem_mem _)
theorem marksOk_all {L : List ByteArray} (h : marksOk L = true) : ∀ p ∈ L, p.size = 16 := by
  unfold marksOk at h
  rw [List.all_eq_true] at h
  intro p hp
  simpa using h p hp

end Go.Proofs.YtgjmbokfenpefaaGreatDoor
/- append onto a row, once more: what stood in it stands where it stood. -/
namespace Go.Proofs.YtgjmbokfenpefaaGreatDoor
open Go.RowKit

/-- append onto a row; and what stood in it stands where it stood. -/
theorem wpList_append_row3 {P : Program} {w : World} {ops : Array Oper} {rest : List Oper} {o : Oper} {a : Act} {Q : Exit → Act → World → Prop}
    (hg : o.guard = none) (s x : Operand) (t : TypeId) (hop : o.op = Op.call { callee := Callee.builtin Builtin.append, args := #[s, x], argTypes := #[t, t] })
    (e : TypeId) (i : TypeInfo) (z : Value) (size bytes : Nat) (h1 : P.underlying t = some (.slice e)) (h2 : P.info? e = some i) (h3 : i.zero = some z) (h4 : i.size = size) (h5 : i.bytes = bytes) (h6 : z.cells.size = size) (h7 : 0 < size)
    (base : Nat) (v : Value) (n : Nat) (xs : List Value) (hs : a.eval s = v) (hrow : Row w base size v n xs) (hbase : base ≤ w.heap.size)
    (ad : Addr) (m c : Nat) (news : List Value) (hx : a.eval x = .slice (some ad) m c) (hn : news.length = m * size) (hc : ∀ j u, news[j]? = some u → w.cell? (ad.add j) = some u) (h1c : ∀ u ∈ news, u.oneCell' = true)
    (b1 : n + m ≤ maxLen) (b2 : (n + m) * bytes ≤ 140737488355328)
    (hK : ∀ v' w', Hid (Row w' base size v' (n + m) (xs ++ news)) → Hid (w.grownBy w' v.ownBlock) → Hid (Moved w v v') → Hid (∀ g c, v = .slice (some ⟨g, 0, none⟩) n c → ∀ j, j < xs.length → w'.cell? ⟨g, j, none⟩ = w.cell? ⟨g, j, none⟩) → wpList P ops Q rest (a.put o.dst v') w') :
    wpList P ops Q (o :: rest) a w := by
  obtain ⟨hl, hr⟩ := hrow
  rcases hr with ⟨rfl, rfl⟩ | ⟨g, cap, rfl, hgb, hgl, hnc, hcell, hspare⟩
  · obtain rfl : xs = [] := List.eq_nil_of_length_eq_zero (by simpa using hl)
    refine wpList_append_own w hg s x t hop w.heap.size e i z size bytes h1 h2 h3 h4 h5 h6 h7 _ 0 [] hs (World.ownsRow_nil _ _ _ _) ad m c news hx hn hc h1c (by simpa using b1) (by simpa using b2) (Nat.le_refl w.heap.size) ?_
    intro v' w' r1 r2 _
    exact hK v' w' (show Row _ _ _ _ _ _ from (Row.of_owns r1).mono hbase) r2 (show Moved _ _ _ from .inr fun b hb => ((Row.of_owns r1).lt b hb).1) (show ∀ g c, _ → _ from fun _ _ e => by cases e)
  · refine wpList_append_arg w hg s x t hop e i z size bytes h1 h2 h3 h4 h5 h6 h7 g 0 n cap xs hs hl (fun j u hj => by rw [Nat.zero_add]; exact hcell j u hj) ad m c news hx hn hc h1c ?_ b1 b2 ?_ ?_
    · intro hroom j hj
      rw [Nat.zero_add]
      refine hspare _ ?_
      have := Nat.mul_le_mul_right size hroom
      rw [Nat.add_mul] at this
      omega
    · intro hroom
      rw [Nat.zero_add]
      have hin : ∀ j, j < news.length → (w.cell? ⟨g, n * size + j, none⟩).isSome = true := fun j hj => (hspare _ (by
        have := Nat.mul_le_mul_right size hroom
        rw [Nat.add_mul] at this
        omega)).1
      refine hK _ _ ?_ ?_ (show Moved _ _ _ from .inl rfl) (show ∀ g' c', Value.slice (some ⟨g, 0, none⟩) n cap = _ → _ from fun g' c' e j hj => by
        injection e with e1 _ _; injection e1 with e1; injection e1 with e1 _ _; subst e1
        exact World.cell?_setCells_out g _ _ _ _ (fun _ _ => Or.inl (by show j < n * size; omega)))
      · refine ⟨by rw [List.length_append, hl, hn, Nat.add_mul], .inr ⟨g, cap, rfl, hgb, by rw [setCells_size]; exact hgl, hroom, ?_, ?_⟩⟩
        · intro j u hj
          by_cases hjn : j < xs.length
          · rw [List.getElem?_append_left hjn] at hj
            rw [World.cell?_setCells_out g _ _ _ _ (fun _ _ => Or.inl (by show j < n * size; omega))]
            exact hcell j u hj
          · rw [List.getElem?_append_right (by omega)] at hj
            have hjl := (List.getElem?_eq_some_iff.1 hj).1
            have := World.cell?_setCells_in g news (n * size) w hin (j - xs.length) hjl
            rw [show n * size + (j - xs.length) = j from by omega] at this
            rw [this]
            rw [List.getElem?_eq_getElem hjl] at hj
            exact hj
        · intro j hj
          rw [World.frozen?_setCells]
          refine ⟨?_, (hspare j hj).2⟩
          by_cases hjn : n * size ≤ j ∧ j < n * size + news.length
          · have := World.cell?_setCells_in g news (n * size) w hin (j - n * size) (by omega)
            rw [show n * size + (j - n * size) = j from by omega] at this
            rw [this]; rfl
          · rw [World.cell?_setCells_out g _ _ _ _ (fun _ _ => by show j < n * size ∨ n * size + news.length ≤ j; omega)]
            exact (hspare j hj).1
      · have hr := setCells_rest g news (n * size) w
        exact (show World.grownBy _ _ _ from ⟨hr.1, hr.2.1, hr.2.2, by rw [setCells_size]; exact Nat.le_refl _, fun k _ hk => setCells_block g _ _ _ k (fun e => hk (by rw [e]; rfl))⟩)
    · intro hgrow v' w' r1 r2
      refine hK v' w' (show Row _ _ _ _ _ _ from (Row.of_owns r1).mono hbase) ?_ (show Moved _ _ _ from .inr fun b hb => ((Row.of_owns r1).lt b hb).1) (show ∀ g' c', Value.slice (some ⟨g, 0, none⟩) n cap = _ → _ from fun g' c' e j hj => by
        injection e with e1 _ _; injection e1 with e1; injection e1 with e1 _ _; subst e1
        have h1 := r2.block g hgl (by simp)
        unfold World.cell?; simp only [h1])
      exact (show World.grownBy _ _ _ from ⟨r2.os, r2.tape, r2.output, r2.size, fun k hk _ => r2.block k hk (by simp)⟩)
/-- append of one value of one cell, just built. -/
theorem wpList_append_one3 {P : Program} {w : World} {ops : Array Oper} {rest : List Oper} {o : Oper} {a : Act} {Q : Exit → Act → World → Prop}
    (hg : o.guard = none) (s x : Operand) (t : TypeId) (hop : o.op = Op.call { callee := Callee.builtin Builtin.append, args := #[s, x], argTypes := #[t, t] })
    (e : TypeId) (h1 : P.underlying t = some (.slice e)) (z : Value) (bytes : Nat) (hi : (P.info? e).map (fun i => (i.zero, i.size, i.bytes)) = some (some z, 1, bytes)) (h6 : z.cells.size = 1) (hby : bytes ≤ 64)
    (base : Nat) (v : Value) (n : Nat) (xs : List Value) (hs : a.eval s = v) (hrow : Row w base 1 v n xs) (hbase : base ≤ w.heap.size) (hn : n ≤ 2147483647)
    (u : Value) (hx : a.eval x = .slice (some ⟨w.heap.size, 0, none⟩) 1 1) (h1c : u.oneCell' = true) (e' : TypeId)
    (hK : ∀ v' w', Hid (Row w' base 1 v' (n + 1) (xs ++ [u])) → Hid (w.grownBy w' v.ownBlock) → Hid (Moved w v v') → Hid (∀ g c, v = .slice (some ⟨g, 0, none⟩) n c → ∀ j, j < xs.length → w'.cell? ⟨g, j, none⟩ = w.cell? ⟨g, j, none⟩) → wpList P ops Q rest (a.put o.dst v') w') :
    wpList P ops Q (o :: rest) a (w.alloc (.cells #[u] e')) := by
  obtain ⟨i0, hi0, hz0, hz1, hz2⟩ := info_parts hi
  refine wpList_append_row3 hg s x t hop e i0 z 1 bytes h1 hi0 hz0 hz1 hz2 h6 (by decide) base v n xs hs (hrow.alloc _) (by simp; omega) ⟨w.heap.size, 0, none⟩ 1 1 [u] hx rfl ?_ ?_ (by unfold maxLen; omega) ?_ ?_
  · intro j y hj
    match j, hj with
    | 0, hj =>
      simp at hj; subst hj
      have hadd : (⟨w.heap.size, 0, none⟩ : Addr).add 0 = ⟨w.heap.size, 0, none⟩ := by unfold Addr.add; split <;> simp_all
      rw [hadd, cell_of_row _ _ _ _ _ _ (heap_alloc_new w (.cells #[u] e'))]; rfl
  · intro y hy; simp at hy; subst hy; exact h1c
  · have := Nat.mul_le_mul (show n + 1 ≤ 2147483648 by omega) hby
    omega
  · intro v' w' hr' hg' hm' hk'
    have hg2 := hg'.out
    exact hK v' w' hr' (show World.grownBy _ _ _ from ⟨hg2.os, hg2.tape, hg2.output, by have := hg2.size; simp at this; omega, fun k hk hne => (hg2.block k (by simp; omega) hne).trans (Below.heap_alloc _ _ _ hk)⟩) (show Moved _ _ _ from hm'.out.imp id fun h b hb => Nat.le_trans (by simp) (h b hb)) (show ∀ g c, _ → _ from fun g c e j hj => (hk'.out g c e j hj).trans (by
      have hgl : g < w.heap.size := (hrow.lt g (by rw [e]; rfl)).2
      exact (alloc_below w (.cells #[u] e')).cell (p := ⟨g, j, none⟩) hgl))
end Go.Proofs.YtgjmbokfenpefaaGreatDoor
