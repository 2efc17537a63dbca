/- Parts of the proof, one behind the other: Mem, RNum, Rot2, RWords, Tail, RSum, RMark, Later, Leafs, Heads, Along, Times, Above, Primes, Digits, Right, Step, Halves, Node. -/
import Derived.Test.YtcfpmofmjnhonaaGreatDoorM1
import Derived.Test.YtcfpmofmjnhonaaGreatDoorM4
import Derived.Test.YtcfpmofmjnhonaaGreatDoorM3
import Derived.Test.YtcfpmofmjnhonaaGreatDoorProg
import Derived.Test.YtcfpmofmjnhonaaGreatDoorM2
import Derived.WalkLawsBesides
import Derived.Lib.Hide
import Derived.Outline
import Derived.Deep.QuietTactic
import Derived.BigQuiet
import Derived.StillTail
import Derived.Deep.Quiet
import Derived.WalkKit
import Derived.Deep.RegionHeld3
import Derived.Deep.DeepCutAuto
import Derived.Laws.ResultCell
import Derived.IntWalk
import Derived.Sort.Walk0
import Derived.Tactics
import Derived.Orders
import Derived.Deep.RegionLaw
/- Lists of texts and of items in memory. -/
namespace Go.Proofs.YtcfpmofmjnhonaaGreatDoor
open Go.RowKit

theorem block_add (a : Addr) (n : Nat) : (a.add n).block = a.block := by unfold Addr.add; split <;> rfl
theorem add_add' (a : Addr) (i j : Nat) : (a.add i).add j = a.add (i + j) := by
  unfold Addr.add
  by_cases hi : i = 0 <;> by_cases hj : j = 0 <;> simp [hi, hj, Nat.add_assoc]
theorem add_zero' (a : Addr) : a.add 0 = a := by simp [Addr.add]
theorem add_none (g o n : Nat) : (⟨g, o, none⟩ : Addr).add n = ⟨g, o + n, none⟩ := by unfold Addr.add; split <;> simp_all
theorem alloc_below (w : World) (o : Obj) : Below w.heap.size w (w.alloc o) := (Below.refl _ _).alloc (Nat.le_refl _) o

/-- The texts L lie at A. -/
def Strs (w : World) (A : Option Addr) (L : List ByteArray) : Prop := ∀ (i : Nat) p, L[i]? = some p → ∃ a, A = some a ∧ a.block < w.heap.size ∧ w.cell? (a.add i) = some (.string p)
/-- The items L lie at A. -/
def Itms (w : World) (A : Option Addr) (L : List It) : Prop := ∀ (i : Nat) x, L[i]? = some x → ∃ a, A = some a ∧ a.block < w.heap.size ∧ w.cell? (a.add (i * 2)) = some (.string x.1) ∧ w.cell? ((a.add (i * 2)).add 1) = some (.string x.2)
theorem Strs.nil (w : World) (A : Option Addr) : Strs w A [] := fun i p h => by simp at h
theorem Itms.nil (w : World) (A : Option Addr) : Itms w A [] := fun i p h => by simp at h
theorem Strs.below {w w' : World} {A : Option Addr} {L : List ByteArray} (h : Strs w A L) (hb : Below w.heap.size w w') : Strs w' A L := fun i p hp => by
  obtain ⟨a, ha, hl, hc⟩ := h i p hp
  exact ⟨a, ha, Nat.lt_of_lt_of_le hl hb.size, (hb.cell (by rw [block_add]; exact hl)).trans hc⟩
theorem Itms.below {w w' : World} {A : Option Addr} {L : List It} (h : Itms w A L) (hb : Below w.heap.size w w') : Itms w' A L := fun i p hp => by
  obtain ⟨a, ha, hl, hc, hd⟩ := h i p hp
  exact ⟨a, ha, Nat.lt_of_lt_of_le hl hb.size, (hb.cell (by rw [block_add]; exact hl)).trans hc, (hb.cell (by rw [block_add, block_add]; exact hl)).trans hd⟩
theorem Strs.drew {w : World} {A : Option Addr} {L : List ByteArray} (h : Strs w A L) : Strs w.drew A L := fun i p hp => h i p hp
theorem Itms.drew {w : World} {A : Option Addr} {L : List It} (h : Itms w A L) : Itms w.drew A L := fun i p hp => h i p hp
theorem Itms.at_ {w : World} {A : Option Addr} {L : List It} (h : Itms w A L) {i : Nat} (hi : i < L.length) : ∃ a, A = some a ∧ a.block < w.heap.size ∧ w.cell? (a.add (i * 2)) = some (.string (itAt L i).1) ∧ w.cell? ((a.add (i * 2)).add 1) = some (.string (itAt L i).2) :=
  h i _ (by rw [List.getElem?_eq_getElem hi, itAt_of hi])
def itCells (L : List It) : List Value := L.flatMap fun x => [.string x.1, .string x.2]
theorem itCells_length (L : List It) : (itCells L).length = L.length * 2 := by
  unfold itCells; induction L with
  | nil => rfl
  | cons x r ih => simp only [List.flatMap_cons, List.length_append, List.length_cons, ih]; simp; omega
theorem itCells_append (L M : List It) : itCells (L ++ M) = itCells L ++ itCells M := by simp [itCells]
theorem itCells_get (L : List It) : ∀ (i : Nat) (x : It), L[i]? = some x → (itCells L)[i * 2]? = some (.string x.1) ∧ (itCells L)[i * 2 + 1]? = some (.string x.2) := by
  induction L with
  | nil => intro i x h; simp at h
  | cons y r ih =>
    intro i x h
    cases i with
    | zero => simp at h; subst h; exact ⟨rfl, rfl⟩
    | succ i =>
      have e : itCells (y :: r) = [.string y.1, .string y.2] ++ itCells r := rfl
      obtain ⟨h1, h2⟩ := ih i x (by simpa using h)
      rw [e]
      constructor
      · rw [show (i + 1) * 2 = 2 + i * 2 by omega, List.getElem?_append_right (by simp)]; simpa using h1
      · rw [show (i + 1) * 2 + 1 = 2 + (i * 2 + 1) by omega, List.getElem?_append_right (by simp)]; simpa using h2
def stCells (L : List ByteArray) : List Value := L.map .string
/-- A row of the call's own, read as items. -/
theorem Row.itms {w : World} {base : Nat} {v : Value} {L : List It} {n : Nat} (h : Row w base 2 v n (itCells L)) : n = L.length ∧ ∃ A cap, v = .slice A n cap ∧ Itms w A L := by
  have hn : n = L.length := by have := h.1; rw [itCells_length] at this; omega
  refine ⟨hn, ?_⟩
  obtain ⟨p, cap, rfl⟩ := h.any
  refine ⟨p, cap, rfl, fun i x hi => ?_⟩
  have hil : i < L.length := (List.getElem?_eq_some_iff.1 hi).1
  obtain ⟨g, cap', hv, _, hg, _, hc, _⟩ := h.shape (by omega)
  injection hv with hv _ _
  obtain ⟨e1, e2⟩ := itCells_get L i x hi
  refine ⟨⟨g, 0, none⟩, hv, hg, ?_, ?_⟩
  · rw [add_none, Nat.zero_add]; exact hc _ _ e1
  · rw [add_add', add_none, Nat.zero_add]; exact hc _ _ e2
theorem Row.strs {w : World} {base : Nat} {v : Value} {L : List ByteArray} {n : Nat} (h : Row w base 1 v n (stCells L)) : n = L.length ∧ ∃ A cap, v = .slice A n cap ∧ Strs w A L := by
  have hn : n = L.length := by have := h.1; unfold stCells at this; rw [List.length_map] at this; omega
  refine ⟨hn, ?_⟩
  obtain ⟨p, cap, rfl⟩ := h.any
  refine ⟨p, cap, rfl, fun i x hi => ?_⟩
  have hil : i < L.length := (List.getElem?_eq_some_iff.1 hi).1
  obtain ⟨g, cap', hv, _, hg, _, hc, _⟩ := h.shape (by omega)
  injection hv with hv _ _
  refine ⟨⟨g, 0, none⟩, hv, hg, ?_⟩
  rw [add_none, Nat.zero_add]; exact hc _ _ (by unfold stCells; rw [List.getElem?_map, hi]; rfl)
/-- A block of texts that was made just now. -/
theorem strs_new (w : World) (L : List ByteArray) (t : TypeId) : Strs (w.alloc (.cells (stCells L).toArray t)) (some ⟨w.heap.size, 0, none⟩) L := by
  intro i p hp
  refine ⟨_, rfl, by simp, ?_⟩
  rw [add_none, Nat.zero_add, cell_of_row _ w.heap.size i (stCells L).toArray t (0, 0) (heap_alloc_new _ _)]
  unfold stCells
  simp [hp]
/-- One item in a block that was made just now. -/
theorem one_item (x : It) (w : World) (t : TypeId) : Itms (w.alloc (.cells #[.string x.1, .string x.2] t)) (some ⟨w.heap.size, 0, none⟩) [x] := by
  intro i y hy
  match i, hy with
  | 0, hy =>
    simp at hy; subst hy
    refine ⟨_, rfl, by simp, ?_, ?_⟩
    · rw [Nat.zero_mul, add_zero', cell_of_row _ w.heap.size 0 _ t (0, 0) (heap_alloc_new _ _)]; rfl
    · rw [Nat.zero_mul, add_zero', add_none, cell_of_row _ w.heap.size _ _ t (0, 0) (heap_alloc_new _ _)]; rfl
end Go.Proofs.YtcfpmofmjnhonaaGreatDoor
/- The document's Num. -/
namespace Go.Proofs.YtcfpmofmjnhonaaGreatDoor
open Go.RowKit

/-- The last k bytes. -/
def low (m : Nat) : Nat → List UInt8
  | 0 => []
  | k + 1 => UInt8.ofNat (m / 256 ^ k) :: low m k
end Go.Proofs.YtcfpmofmjnhonaaGreatDoor
/- The document's Sum. -/
namespace Go.Proofs.YtcfpmofmjnhonaaGreatDoor
open Go.RowKit

def sliceLen : Value → Nat | .slice _ n _ => n | _ => 0
/-- Loop over the noughts: what holds. -/
structure PadRel (N : Nat) (w0 wr : World) (v : Value) (L : Nat) (l : List UInt8) : Prop where
  row : Row wr N 1 v L (bcells l)
  below : Below N w0 wr
theorem PadRel.grow {N : Nat} {w0 wr w' : World} {v v' : Value} {L : Nat} {l : List UInt8} {c : UInt8} (h : PadRel N w0 wr v L l) (hN : N ≤ w0.heap.size)
    (hr : Row w' N 1 v' (L + 1) (bcells l ++ [.int .u8 (c.toNat : Int)])) (hg : wr.grownBy w' v.ownBlock) : PadRel N w0 w' v' (L + 1) (l ++ [c]) :=
  ⟨by simpa [bcells] using hr, grown_below h.below h.row hg (Nat.le_refl _) (Nat.le_trans hN h.below.size)⟩

structure BRel (N g : Nat) (w wr : World) (M : List UInt8) (h : Nat → BitVec 32) : Prop where
  below : Below N w wr
  gl : N < g
  cells : ∀ i u, (bcells M)[i]? = some u → wr.cell? ⟨g, i, none⟩ = some u
  st : Holds wr N 8 (fun i => .int .u32 (W32 (h i))) 118
theorem BRel.lt {N g : Nat} {w wr : World} {M : List UInt8} {h : Nat → BitVec 32} (hb : BRel N g w wr M h) (hM : 0 < M.length) : g < wr.heap.size := by
  have e : (bcells M)[0]? = some ((bcells M)[0]'(by rw [bcells_length]; exact hM)) := List.getElem?_eq_getElem _
  exact block_lt_of_cell (hb.cells 0 _ e)
theorem BRel.later {N g : Nat} {w wr w' : World} {M : List UInt8} {h : Nat → BitVec 32} (hb : BRel N g w wr M h) (hN : N < wr.heap.size) (hM : 0 < M.length) (hb2 : Below wr.heap.size wr w') : BRel N g w w' M h :=
  ⟨hb.below.trans (hb2.mono (Nat.le_of_lt hN)), hb.gl, fun i u hu => by rw [hb2.cell (hb.lt hM)]; exact hb.cells i u hu, hb.st.below hb2 hb.st.lt⟩
theorem BRel.store {N g : Nat} {w wr : World} {M : List UInt8} {h : Nat → BitVec 32} (hb : BRel N g w wr M h) (k : Nat) (x : BitVec 32) : BRel N g w (wr.setCell ⟨N, k, none⟩ (.int .u32 (W32 x))) M (upd h k x) :=
  ⟨hb.below.setCell (Nat.le_refl _) _, hb.gl, fun i u hu => by rw [World.cell?_setCell_other _ _ _ _ (by intro e; injection e with e1 e2; have := hb.gl; omega)]; exact hb.cells i u hu, (hb.st.set k _).congr fun i _ => by unfold upd; split <;> rfl⟩
theorem BRel.congr {N g : Nat} {w wr : World} {M : List UInt8} {h h' : Nat → BitVec 32} (hb : BRel N g w wr M h) (e : ∀ i, i < 8 → h i = h' i) : BRel N g w wr M h' :=
  ⟨hb.below, hb.gl, hb.cells, hb.st.congr fun i hi => by rw [e i hi]⟩
structure WRel2 (wo wi : World) (f : Nat → BitVec 32) : Prop where
  below : Below wo.heap.size wo wi
  own : Holds wi wo.heap.size 64 (fun i => .int .u32 (W32 (f i))) 119
theorem WRel2.store {wo wi : World} {f : Nat → BitVec 32} (h : WRel2 wo wi f) (k : Nat) (x : BitVec 32) : WRel2 wo (wi.setCell ⟨wo.heap.size, k, none⟩ (.int .u32 (W32 x))) (upd f k x) :=
  ⟨h.below.setCell (Nat.le_refl _) _, (h.own.set k _).congr fun i _ => by unfold upd; split <;> rfl⟩

end Go.Proofs.YtcfpmofmjnhonaaGreatDoor
/- Worlds later than one: for regions that hold calls that make memory. No program is imported. -/
namespace Go.Proofs.YtcfpmofmjnhonaaGreatDoor
open Go.RowKit

/-- What is later than a world, and the same below N. -/
structure Later (N : Nat) (w : World) where
  at' : World
  below : Below N w at'
theorem later_of {P : Program} {f : FuncId} {args : Array Value} {w : World} {v : Value} {z : Later w.heap.size w} (h : Calls P f args z.at' fun e w' => e = .returned v ∧ Below z.at'.heap.size z.at' w') :
    Calls P f args z.at' fun e w'' => e = .returned v ∧ ∃ z' : Later w.heap.size w, w'' = z'.at' :=
  h.mono fun _ w' ⟨he, hb⟩ => ⟨he, ⟨w', z.below.trans (hb.mono z.below.size)⟩, rfl⟩
instance (N : Nat) (w : World) : Nonempty (Later N w) := ⟨⟨w, Below.refl _ _⟩⟩

end Go.Proofs.YtcfpmofmjnhonaaGreatDoor
/- The document's Empty, Leaf, Join. -/
namespace Go.Proofs.YtcfpmofmjnhonaaGreatDoor
open Go.RowKit

theorem markOf_len (kind : UInt8) (parts : List ByteArray) : (markOf kind parts).size = 16 := by
  unfold markOf
  rw [txt_size, List.length_take]
  unfold sumOf
  rw [sumText_length]
  rfl
theorem num_size (d : Int) : (txt (num8 d)).size = 8 := by rw [txt_size, num8_length]
end Go.Proofs.YtcfpmofmjnhonaaGreatDoor
/- Heads: plain facts, and lists of heads in memory. -/
namespace Go.Proofs.YtcfpmofmjnhonaaGreatDoor
open Go.RowKit

structure Hd where
  epoch : Int
  root : ByteArray
  prev : ByteArray
def noHd : Hd := ⟨0, ⟨#[]⟩, ⟨#[]⟩⟩
def Hd.val (h : Hd) : Value := .agg #[.int .i64 h.epoch, .string h.root, .string h.prev]
def rightHead (h : Hd) : Bool := decide (0 < h.epoch) && decide (h.root.size = 16) && decide (h.prev.size = 16)
def headMark (h : Hd) : ByteArray := markOf 104 [txt (num8 h.epoch), h.root, h.prev]
def headMarkAns (h : Hd) : ByteArray × Int := if rightHead h = true then (headMark h, 0) else (⟨#[]⟩, 1)
def none16 : ByteArray := txt (List.replicate 16 0)
def firstHd (root : ByteArray) : Hd := ⟨1, root, none16⟩
def afterHd (h : Hd) (root : ByteArray) : Hd := ⟨wrap64 (h.epoch + 1), root, headMark h⟩
def nextHd (l : List Hd) (root : ByteArray) : Option Hd :=
  match l.getLast? with
  | none => some (firstHd root)
  | some h => if rightHead h = true then some (afterHd h root) else none
def nextAns (l : List Hd) (root : ByteArray) : Hd × Int :=
  match nextHd l root with
  | none => (noHd, 1)
  | some h => if rightHead h = true then (h, 0) else (noHd, 1)
instance : DecidableEq Hd := fun a b =>
  if h : a.epoch = b.epoch ∧ a.root = b.root ∧ a.prev = b.prev then isTrue (by cases a; cases b; simp_all) else isFalse (fun e => h (by rw [e]; exact ⟨rfl, rfl, rfl⟩))
def hdAt (L : List Hd) (i : Nat) : Hd := L.getD i noHd
theorem hdAt_get {L : List Hd} {i : Nat} {x : Hd} (h : L[i]? = some x) : hdAt L i = x := by unfold hdAt; rw [List.getD_eq_getElem?_getD, h]; rfl
theorem hdAt_of {L : List Hd} {i : Nat} (hi : i < L.length) : hdAt L i = L[i] := hdAt_get (List.getElem?_eq_getElem hi)
/-- Is head i just the next one of those ahead of it? -/
def linkOk (L : List Hd) (i : Nat) : Bool := decide ((nextAns (L.take i) (hdAt L i).root).2 = 0) && decide ((nextAns (L.take i) (hdAt L i).root).1 = hdAt L i)
def wholeFrom (L : List Hd) : Nat → Nat → Nat × Bool
  | 0, _ => (0, true)
  | f + 1, i => if linkOk L i = true then wholeFrom L f (i + 1) else (i, false)
def wholeAns (L : List Hd) : Nat × Bool := wholeFrom L L.length 0
/-- The heads L lie at A. -/
def Hds (w : World) (A : Option Addr) (L : List Hd) : Prop := ∀ (i : Nat) x, L[i]? = some x → ∃ a, A = some a ∧ a.block < w.heap.size ∧ w.cell? (a.add (i * 3)) = some (.int .i64 x.epoch) ∧ w.cell? ((a.add (i * 3)).add 1) = some (.string x.root) ∧ w.cell? ((a.add (i * 3)).add 2) = some (.string x.prev)
theorem Hds.nil (w : World) (A : Option Addr) : Hds w A [] := fun i p h => by simp at h
theorem Hds.below {w w' : World} {A : Option Addr} {L : List Hd} (h : Hds w A L) (hb : Below w.heap.size w w') : Hds w' A L := fun i p hp => by
  obtain ⟨a, ha, hl, hc, hd, he⟩ := h i p hp
  exact ⟨a, ha, Nat.lt_of_lt_of_le hl hb.size, (hb.cell (by rw [block_add]; exact hl)).trans hc, (hb.cell (by rw [block_add, block_add]; exact hl)).trans hd, (hb.cell (by rw [block_add, block_add]; exact hl)).trans he⟩
theorem Hds.drew {w : World} {A : Option Addr} {L : List Hd} (h : Hds w A L) : Hds w.drew A L := fun i p hp => h i p hp
theorem Hds.take {w : World} {A : Option Addr} {L : List Hd} (h : Hds w A L) (n : Nat) : Hds w A (L.take n) := fun i x hi => by
  refine h i x ?_
  rw [List.getElem?_take] at hi
  split at hi
  · exact hi
  · cases hi
theorem Hds.at_ {w : World} {A : Option Addr} {L : List Hd} (h : Hds w A L) {i : Nat} (hi : i < L.length) : ∃ a, A = some a ∧ a.block < w.heap.size ∧ w.cell? (a.add (i * 3)) = some (.int .i64 (hdAt L i).epoch) ∧ w.cell? ((a.add (i * 3)).add 1) = some (.string (hdAt L i).root) ∧ w.cell? ((a.add (i * 3)).add 2) = some (.string (hdAt L i).prev) :=
  h i _ (by rw [List.getElem?_eq_getElem hi, hdAt_of hi])
theorem results_row2 {P : Program} {fn : Func} {p u : Tmp} {ty : TypeId} (h : fn.results = #[.cell p ty, .tmp u]) (tmps : Array Value) (w : World) (g : Nat) (t : TypeId) (cs : Array Value) (fr : Nat × Nat) (d : TypeDesc)
    (hp : tmps.getD p undef = .pointer (some ⟨g, 0, none⟩)) (hg : w.heap[g]? = some (.cells cs t fr))
    (hu : P.underlying ty = some d) (hd : (match d with | .struct _ | .array _ _ => true | _ => false) = true) (hi : (P.info? ty).map (·.size) = some cs.size) :
    (results fn tmps).run P w = .ok (.tuple #[.agg cs, tmps.getD u undef]) w := by
  rw [results_cell_tmp h, hp]
  simp [asAddr, run_loadVar_row w g t ty cs fr d hg hu hd hi, Result.andThen]
def hdF (h : Hd) : Nat → Value := fun i => if i = 0 then .int .i64 h.epoch else if i = 1 then .string h.root else .string h.prev
end Go.Proofs.YtcfpmofmjnhonaaGreatDoor
/- The document's along: so many steps of a chain. -/
namespace Go.Proofs.YtcfpmofmjnhonaaGreatDoor
open Go.RowKit

def alongFrom (c : Int) : Nat → Nat → ByteArray → ByteArray
  | 0, _, s => s
  | n + 1, k, s => alongFrom c n (k + 1) (markOf 119 [s, txt (num8 c), txt (num8 (k : Int))])
theorem along_size (c : Int) : ∀ (n k : Nat) (s : ByteArray), s.size = 16 → (alongFrom c n k s).size = 16
  | 0, _, _, h => h
  | n + 1, k, _, _ => along_size c n (k + 1) _ (markOf_len _ _)
end Go.Proofs.YtcfpmofmjnhonaaGreatDoor
/- The document's numbers of rounds: times, above, root. -/
namespace Go.Proofs.YtcfpmofmjnhonaaGreatDoor
open Go.RowKit

def u64s (l : List Nat) : List Value := l.map fun (n : Nat) => Value.int .u64 (n : Int)
/-- What is left of a number, digit by digit of 2^16. -/
def digs : Nat → Nat → List Nat
  | 0, _ => []
  | f + 1, c => if c = 0 then [] else (c % 65536) :: digs f (c / 65536)
def timesL (x : Nat) : List Nat → Nat → List Nat
  | [], c => digs 4 c
  | d :: l, c => ((c + d * x) % 65536) :: timesL x l ((c + d * x) / 65536)
structure TimesRel (N : Nat) (w wr : World) (v : Value) (done : List Nat) : Prop where
  below : Below N w wr
  row : Row wr N 1 v done.length (u64s done)
theorem TimesRel.grow {N : Nat} {w wr w' : World} {v v' : Value} {l : List Nat} {c : Nat} (h : TimesRel N w wr v l) (hN : N ≤ w.heap.size)
    (hr : Row w' N 1 v' (l.length + 1) (u64s l ++ [.int .u64 (c : Int)])) (hg : wr.grownBy w' v.ownBlock) : TimesRel N w w' v' (l ++ [c]) :=
  ⟨grown_below h.below h.row hg (Nat.le_refl _) (Nat.le_trans hN h.below.size), by simpa [u64s] using hr⟩

end Go.Proofs.YtcfpmofmjnhonaaGreatDoor
/- The document's numbers of rounds: above. -/
namespace Go.Proofs.YtcfpmofmjnhonaaGreatDoor
open Go.RowKit

def powL (x : Nat) : Nat → List Nat
  | 0 => [1]
  | j + 1 => timesL x (powL x j) 0
def noughts (n : Nat) : List Nat := List.replicate n 0
def padTo (n : Nat) (l : List Nat) : List Nat := l ++ noughts (n - l.length)
def cmpAt (A B : List Nat) : Nat → Bool
  | 0 => false
  | n + 1 => if A.getD n 0 = B.getD n 0 then cmpAt A B n else decide (B.getD n 0 < A.getD n 0)
def aboveL (x k p : Nat) : Bool :=
  let B0 := noughts (2 * k) ++ [p]
  let A := padTo B0.length (powL x k)
  let B := padTo A.length B0
  cmpAt A B A.length

structure RowOf (N : Nat) (w wr : World) (p : Option Addr) (cap : Nat) (l : List Nat) : Prop where
  below : Below N w wr
  row : Row wr N 1 (.slice p l.length cap) l.length (u64s l)

structure TwoRows (N : Nat) (w wr : World) (vA vB : Value) (A B : List Nat) : Prop where
  below : Below N w wr
  a : Row wr N 1 vA A.length (u64s A)
  b : Row wr N 1 vB B.length (u64s B)
  ne : ∀ c, vA.ownBlock = some c → vB.ownBlock ≠ some c
theorem TwoRows.symm {N : Nat} {w wr : World} {vA vB : Value} {A B : List Nat} (h : TwoRows N w wr vA vB A B) : TwoRows N w wr vB vA B A :=
  ⟨h.below, h.b, h.a, fun c h1 h2 => h.ne c h2 h1⟩
theorem TwoRows.grow {N : Nat} {w wr w' : World} {vA vB v' : Value} {A B : List Nat} {c : Nat} (h : TwoRows N w wr vA vB A B) (hN : N ≤ w.heap.size)
    (hr : Row w' N 1 v' (A.length + 1) (u64s A ++ [.int .u64 (c : Int)])) (hg : wr.grownBy w' vA.ownBlock) (hm : Moved wr vA v') : TwoRows N w w' v' vB (A ++ [c]) B :=
  ⟨grown_below h.below h.a hg (Nat.le_refl _) (Nat.le_trans hN h.below.size), by simpa [u64s] using hr,
   h.b.kept (fun k hk => hg.block k (h.b.lt k hk).2 (fun e => h.ne k e.symm hk)) hg.size,
   fun d h1 h2 => by
     rcases hm with hm | hm
     · exact h.ne d (hm ▸ h1) h2
     · have := hm d h1; have := (h.b.lt d h2).2; omega⟩
end Go.Proofs.YtcfpmofmjnhonaaGreatDoor
/- The document's numbers of rounds: primes. -/
namespace Go.Proofs.YtcfpmofmjnhonaaGreatDoor
open Go.RowKit

def i64s (l : List Nat) : List Value := l.map fun (n : Nat) => Value.int .i64 (n : Int)
/-- The primes among the first so many numbers from 2. -/
def pl : Nat → List Nat
  | 0 => []
  | m + 1 => if (pl m).all (fun p => (m + 2) % p != 0) then pl m ++ [m + 2] else pl m
end Go.Proofs.YtcfpmofmjnhonaaGreatDoor
/- The document's digits. -/
namespace Go.Proofs.YtcfpmofmjnhonaaGreatDoor
open Go.RowKit

/-- append of values of one cell, just built. -/
theorem wpList_append_new {P : Program} {w : World} {ops : Array Oper} {rest : List Oper} {o : Oper} {a : Act} {Q : Exit → Act → World → Prop}
    (hg : o.guard = none) (s x : Operand) (t : TypeId) (hop : o.op = Op.call { callee := Callee.builtin Builtin.append, args := #[s, x], argTypes := #[t, t] })
    (e : TypeId) (h1 : P.underlying t = some (.slice e)) (z : Value) (bytes : Nat) (hi : (P.info? e).map (fun i => (i.zero, i.size, i.bytes)) = some (some z, 1, bytes)) (h6 : z.cells.size = 1) (hby : bytes ≤ 64)
    (base : Nat) (v : Value) (n : Nat) (xs : List Value) (hs : a.eval s = v) (hrow : Row w base 1 v n xs) (hbase : base ≤ w.heap.size) (hn : n ≤ 1000000)
    (us : List Value) (m : Nat) (hm : us.length = m) (hm2 : m ≤ 1000000) (hx : a.eval x = .slice (some ⟨w.heap.size, 0, none⟩) m m) (h1c : ∀ u ∈ us, u.oneCell' = true) (e' : TypeId)
    (hK : ∀ v' w', Hid (Row w' base 1 v' (n + m) (xs ++ us)) → Hid (w.grownBy w' v.ownBlock) → Hid (Moved w v v') → wpList P ops Q rest (a.put o.dst v') w') :
    wpList P ops Q (o :: rest) a (w.alloc (.cells us.toArray e')) := by
  obtain ⟨i0, hi0, hz0, hz1, hz2⟩ := info_parts hi
  refine wpList_append_row2 hg s x t hop e i0 z 1 bytes h1 hi0 hz0 hz1 hz2 h6 (by decide) base v n xs hs (hrow.alloc _) (by simp; omega) ⟨w.heap.size, 0, none⟩ m m us hx (by omega) ?_ h1c (by unfold maxLen; omega) ?_ ?_
  · intro j y hj
    rw [add_none, Nat.zero_add, cell_of_row _ _ _ _ _ _ (heap_alloc_new w (.cells us.toArray e'))]
    simpa using hj
  · have := Nat.mul_le_mul (show n + m ≤ 2000000 by omega) hby
    omega
  · intro v' w' hr' hg' hm'
    have hg2 := hg'.out
    exact hK v' w' hr' (show World.grownBy _ _ _ from ⟨hg2.os, hg2.tape, hg2.output, by have := hg2.size; simp at this; omega, fun k hk hne => (hg2.block k (by simp; omega) hne).trans (Below.heap_alloc _ _ _ hk)⟩) (show Moved _ _ _ from hm'.out.imp id fun h b hb => Nat.le_trans (by simp) (h b hb))

def digsOf (l : List UInt8) : List Nat := l.flatMap fun b => [b.toNat / 16, b.toNat % 16]
def lackOf (l : List UInt8) : Nat := (l.map fun b => 30 - b.toNat / 16 - b.toNat % 16).sum
def digitsOf (l : List UInt8) : List Nat := digsOf l ++ [lackOf l / 256, lackOf l / 16 % 16, lackOf l % 16]
theorem digsOf_length (l : List UInt8) : (digsOf l).length = 2 * l.length := by
  unfold digsOf
  induction l with
  | nil => rfl
  | cons b l ih => simp only [List.flatMap_cons, List.length_append, List.length_cons, ih]; simp; omega
theorem lackOf_le (l : List UInt8) : lackOf l ≤ 30 * l.length := by
  unfold lackOf
  induction l with
  | nil => simp
  | cons b l ih => simp only [List.map_cons, List.sum_cons, List.length_cons]; omega
theorem digitsOf_lt {l : List UInt8} (h : l.length = 16) (d : Nat) (hd : d ∈ digitsOf l) : d < 16 := by
  unfold digitsOf digsOf at hd
  have := lackOf_le l
  simp only [List.mem_append, List.mem_flatMap, List.mem_cons, List.not_mem_nil, or_false] at hd
  rcases hd with ⟨b, _, hb⟩ | hd
  · have := b.toNat_lt; omega
  · omega
theorem below_drewP {B : Nat} {u w : World} (h : Below B u w) (n : Nat) : Below B u (w.drewN n) := ⟨h.os, h.tape, h.output, h.size, h.block⟩
end Go.Proofs.YtcfpmofmjnhonaaGreatDoor
/- The document's RightItems. -/
namespace Go.Proofs.YtcfpmofmjnhonaaGreatDoor
open Go.RowKit

theorem below_drew {B : Nat} {u w : World} (h : Below B u w) (n : Nat) : Below B u (w.drewN n) := ⟨h.os, h.tape, h.output, h.size, h.block⟩
end Go.Proofs.YtcfpmofmjnhonaaGreatDoor
/- A law of the walk over a list of operations, at one step of a region that draws its order. No program is imported. -/
namespace Go.Proofs.YtcfpmofmjnhonaaGreatDoor
open Go.RowKit

/-- What holds behind the one operation, and nothing at any other way out. -/
def Then1 (K : Act → World → Prop) : Exit → Act → World → Prop
  | .normal, a, w => K a w
  | _, _, _ => False
theorem then1 {P : Program} {ops : Array Oper} {K : Act → World → Prop} {a : Act} {w : World} (h : K a w) : wpList P ops (Then1 K) [] a w := h
theorem wp_of_list {P : Program} {ops : Array Oper} {o : Oper} {a : Act} {w : World} {K : Act → World → Prop} {Q : Exit → Act → World → Prop} (hgd : o.guard = none) (h : wpList P ops (Then1 K) [o] a w) : o.wp P a w K Q := by
  have hw : Region.wanted o (yielded ops a.tmps) = true := by simp [Region.wanted, hgd]
  unfold wpList at h
  rw [if_pos hw] at h
  rcases h with h | ⟨_, _, _, h⟩
  · unfold Oper.wp at *
    generalize (execOp a.eval o).run P w = r at *
    cases r with
    | ok n w' =>
      cases n <;> simp only [Oper.upon] at h ⊢
      all_goals first
        | exact h
        | exact h.elim
        | exact Calls.mono h (fun e w'' hh => by cases e <;> first | exact hh | exact hh.elim | (obtain ⟨_, _, hh⟩ := hh; exact hh.elim))
        | exact Rows.mono h (fun _ _ he => he)
    | halt x w' => cases x <;> simp only [Oper.upon] at h ⊢ <;> first | exact h | exact h.elim | (obtain ⟨_, _, h⟩ := h; exact h.elim)
  · exact h.elim
theorem step_of_list {P : Program} {ops : Array Oper} {o : Oper} {a : Act} {w : World} {K : Act → World → Prop} {Q : Exit → Act → World → Prop} {E : Prop} (hgd : o.guard = none) (h : wpList P ops (Then1 K) [o] a w) :
    if Region.wanted o (yielded ops a.tmps) = true then Oper.wp P o a w K Q else E := by
  have hw : Region.wanted o (yielded ops a.tmps) = true := by simp [Region.wanted, hgd]
  rw [if_pos hw]
  exact wp_of_list hgd h
end Go.Proofs.YtcfpmofmjnhonaaGreatDoor
/- The document's Halves. -/
namespace Go.Proofs.YtcfpmofmjnhonaaGreatDoor
open Go.RowKit

theorem infoItem : (Tryz.prog.info? 61).map (fun i => (i.zero, i.size, i.bytes)) = some (some (.agg #[.string ⟨#[]⟩, .string ⟨#[]⟩]), 2, 32) := by kernel_rfl
/-- append of one item, just built. -/
theorem wpList_append_item {P : Program} {w : World} {ops : Array Oper} {rest : List Oper} {o : Oper} {a : Act} {Q : Exit → Act → World → Prop}
    (hg : o.guard = none) (s x : Operand) (t : TypeId) (hop : o.op = Op.call { callee := Callee.builtin Builtin.append, args := #[s, x], argTypes := #[t, t] })
    (e : TypeId) (h1 : P.underlying t = some (.slice e)) (z : Value) (bytes : Nat) (hi : (P.info? e).map (fun i => (i.zero, i.size, i.bytes)) = some (some z, 2, bytes)) (h6 : z.cells.size = 2) (hby : bytes ≤ 64)
    (base : Nat) (v : Value) (L : List It) (hs : a.eval s = v) (hrow : Row w base 2 v L.length (itCells L)) (hbase : base ≤ w.heap.size) (hn : L.length ≤ 2147483647)
    (y : It) (B : Nat) (hx : a.eval x = .slice (some ⟨B, 0, none⟩) 1 1) (e' : TypeId) (hB : w.heap[B]? = some (.cells #[.string y.1, .string y.2] e' (0, 0)))
    (hK : ∀ v' w', Hid (Row w' base 2 v' (L ++ [y]).length (itCells (L ++ [y]))) → Hid (w.grownBy w' v.ownBlock) → Hid (Moved w v v') → wpList P ops Q rest (a.put o.dst v') w') :
    wpList P ops Q (o :: rest) a w := by
  obtain ⟨i0, hi0, hz0, hz1, hz2⟩ := info_parts hi
  refine wpList_append_row2 hg s x t hop e i0 z 2 bytes h1 hi0 hz0 hz1 hz2 h6 (by decide) base v L.length (itCells L) hs hrow hbase ⟨B, 0, none⟩ 1 1 (itCells [y]) hx rfl ?_ ?_ (by unfold maxLen; omega) ?_ ?_
  · intro j u hj
    rw [add_none, Nat.zero_add, cell_of_row _ B j _ e' (0, 0) hB]
    simpa [itCells] using hj
  · intro u hu; simp [itCells] at hu; rcases hu with rfl | rfl <;> rfl
  · have := Nat.mul_le_mul (show L.length + 1 ≤ 2147483648 by omega) hby
    omega
  · intro v' w' hr' hg' hm'
    refine hK v' w' ?_ hg' hm'
    have := hr'.out
    rw [← itCells_append] at this
    rw [List.length_append]
    exact Lib.hid this

structure HalfRel (N : Nat) (w wr : World) (L : List It) (d k : Nat) (v0 v1 : Value) : Prop where
  below : Below N w wr
  own : Holds wr N 2 (fun i => if i = 0 then v0 else v1) 286
  row0 : Row wr (N + 1) 2 v0 (half (L.take k) d 0).length (itCells (half (L.take k) d 0))
  row1 : Row wr (N + 1) 2 v1 (half (L.take k) d 1).length (itCells (half (L.take k) d 1))
  apart : ∀ b, v0.ownBlock = some b → v1.ownBlock ≠ some b
end Go.Proofs.YtcfpmofmjnhonaaGreatDoor
/- The document's NODE and Root. -/
namespace Go.Proofs.YtcfpmofmjnhonaaGreatDoor
open Go.RowKit

theorem nodeOf_nil (f : Nat) (L : List It) (d : Nat) (h : L.length = 0) : nodeOf f L d = emptyM d := by
  obtain rfl := List.eq_nil_of_length_eq_zero h
  cases f <;> simp [nodeOf]
theorem nodeOf_one (f : Nat) (L : List It) (d : Nat) (h : L.length = 1) : nodeOf f L d = leafM (itAt L 0) d := by
  match L, h with
  | [x], _ => cases f <;> simp [nodeOf, itAt]
theorem nodeOf_two (f : Nat) (L : List It) (d : Nat) (h : 2 ≤ L.length) : nodeOf (f + 1) L d = joinM (nodeOf f (half L d 0) (d + 1)) (nodeOf f (half L d 1) (d + 1)) := by
  rw [nodeOf, if_neg (by omega), if_neg (by omega)]
theorem nodeOf_size : ∀ (f : Nat) (L : List It) (d : Nat), (nodeOf f L d).size = 16 := by
  intro f L d
  rcases (show L.length = 0 ∨ L.length = 1 ∨ 2 ≤ L.length by omega) with h | h | h
  · rw [nodeOf_nil f L d h]; unfold emptyM; exact markOf_len _ _
  · rw [nodeOf_one f L d h]; unfold leafM; exact markOf_len _ _
  · cases f with
    | zero =>
      match L, h with
      | x :: _, _ => exact markOf_len _ _
    | succ f => rw [nodeOf_two f L d h]; exact markOf_len _ _
/-- The root of what is right. -/
def rootOf (L : List It) : ByteArray := nodeOf 128 L 0
def rootAns (L : List It) : ByteArray × Int := if rightItems L = true then (rootOf L, 0) else (⟨#[]⟩, 1)
theorem right_cm {L : List It} (h : rightItems L = true) : ∀ x ∈ L, x.2.size ≤ 1000000 := fun x hx => by have := (right_sizes h x hx).2; omega
end Go.Proofs.YtcfpmofmjnhonaaGreatDoor
