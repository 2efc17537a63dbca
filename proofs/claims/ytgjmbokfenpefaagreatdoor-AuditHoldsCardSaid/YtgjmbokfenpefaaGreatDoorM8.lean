/- Parts of the proof, one behind the other: RAu, MapE, RDirV, SealG, RDirI2, RDirL, RDirW, RSee, RTell0. -/
import Derived.WalkKit
import Derived.Lib.Hide
import Derived.WalkLawsBesides
import Derived.Deep.QuietTactic
import Derived.Deep.WholeRow
import Derived.ArgAppend
import Derived.Laws.AppendOwnNone
import Derived.Laws.CopyRow
import Derived.Deep.RegionLaw
import Derived.Laws.BytesString
import Derived.Laws.IdiomStrings
import Derived.Test.YtgjmbokfenpefaaGreatDoorProg
import Derived.StringKeys
import Derived.Maps.Own
import Derived.Maps.Views
import Derived.Maps.OwnSet
import Derived.Maps.OwnOps
import Derived.Maps.RangeWalk
import Derived.Sort.KeysCollected
import Derived.Laws.BitsAllLaws
import Derived.Outline
import Derived.BigQuiet
import Derived.Laws.CopyOwn
import Derived.RegionTactic
import Derived.StillTail
import Derived.Deep.Quiet
import Derived.Deep.RegionHeld3
import Derived.Deep.DeepCutAuto
import Derived.Laws.ResultCell
import Derived.IntWalk
import Derived.Sort.Walk0
import Derived.Tactics
import Derived.Orders
import Derived.LaidEql
import Derived.Stop.Asserts
import Derived.RowKitTokens
import Derived.OrdersHeld
import Derived.Sort.LotA
import Derived.Lib.SortBridge
import Derived.Shelf.Strings.Repeat
import Derived.KernelRfl
import Derived.Laws.StructEq
import Derived.WideKeyEntry
import Derived.Shelf.SlSortFuncK.WholeK
import Derived.Ground.GgsProg
import Derived.Shelf.GgSortFunc.Tiny
import Derived.Deep.CutRange
import Derived.Test.YtgjmbokfenpefaaGreatDoorM1
import Derived.Test.YtgjmbokfenpefaaGreatDoorM2
import Derived.Test.YtgjmbokfenpefaaGreatDoorM3
import Derived.Test.YtgjmbokfenpefaaGreatDoorM4
import Derived.Test.YtgjmbokfenpefaaGreatDoorM5
import Derived.Test.YtgjmbokfenpefaaGreatDoorM6
import Derived.Test.YtgjmbokfenpefaaGreatDoorM7
/- The document's auditor in memory: NewAuditor. -/
namespace Go.Proofs.YtgjmbokfenpefaaGreatDoor
open Go.RowKit

noncomputable def kC : MKind (Option Nat) := kP 108 124 Tryz.underlying108 (fun w => by kernel_rfl)
def auF (rb b : Nat) (pub : ByteArray) : Nat → Value := fun i => if i = 0 then .pointer (some ⟨rb, 0, none⟩) else if i = 1 then .string pub else .map (some b)
/-- The document's auditor at block p: its map b, clients of footprints G. -/
structure RAuM (F : Nat → Prop) (w : World) (p rb : Nat) (a : Au) (b : Nat) (W : List (ByteArray × Option Nat)) (G : ByteArray → Nat → Prop) : Prop where
  own : Holds w p 3 (auF rb b a.pub) 110
  map : MapIs kC w b W
  all : ∀ s, (look W s).isSome = (look a.who s).isSome
  cl : ∀ s c, look a.who s = some c → ∃ n, look W s = some (some n) ∧ RCl (G s) w n rb c
  inF : ∀ s k, (look a.who s).isSome = true → G s k → F k ∧ k ≠ p ∧ k ≠ b
  apart : ∀ s t k, s ≠ t → (look a.who s).isSome = true → (look a.who t).isSome = true → G s k → ¬ G t k
  fp : F p
  fb : F b
  pb : p ≠ b
  lt : ∀ k, F k → k < w.heap.size
def RAu (F : Nat → Prop) (w : World) (p rb : Nat) (a : Au) : Prop := ∃ b W G, RAuM F w p rb a b W G
theorem RAuM.same {F : Nat → Prop} {w w' : World} {p rb : Nat} {a : Au} {b : Nat} {W : List (ByteArray × Option Nat)} {G : ByteArray → Nat → Prop} (h : RAuM F w p rb a b W G) (hs : Same F w w') : RAuM F w' p rb a b W G where
  own := by have := h.own; unfold Holds at this ⊢; rw [hs.block p h.fp]; exact this
  map := h.map.block (hs.block b h.fb)
  all := h.all
  cl s c hc := by
    obtain ⟨n, h1, h2⟩ := h.cl s c hc
    exact ⟨n, h1, h2.same (hs.mono fun k hk => (h.inF s k (by rw [hc]; rfl) hk).1)⟩
  inF := h.inF
  apart := h.apart
  fp := h.fp
  fb := h.fb
  pb := h.pb
  lt k hk := Nat.lt_of_lt_of_le (h.lt k hk) hs.size
theorem RAu.same {F : Nat → Prop} {w w' : World} {p rb : Nat} {a : Au} (h : RAu F w p rb a) (hs : Same F w w') : RAu F w' p rb a := by
  obtain ⟨b, W, G, h⟩ := h
  exact ⟨b, W, G, h.same hs⟩
theorem RAu.lt {F : Nat → Prop} {w : World} {p rb : Nat} {a : Au} (h : RAu F w p rb a) : ∀ k, F k → k < w.heap.size := by
  obtain ⟨b, W, G, h⟩ := h
  exact h.lt
theorem RAu.below {F : Nat → Prop} {w w' : World} {p rb : Nat} {a : Au} (h : RAu F w p rb a) (hb : Below w.heap.size w w') : RAu F w' p rb a := h.same (same_of_below hb h.lt)

end Go.Proofs.YtgjmbokfenpefaaGreatDoor
/- A store into a map by its entry: 'm[s], .. = x, ..'. -/
namespace Go.Proofs.YtgjmbokfenpefaaGreatDoor
open Go.RowKit Go.Maps Go.ChangeMaps

theorem MapIs.entry {α : Type} {K : MKind α} {w : World} {b : Nat} {L : List (ByteArray × α)} (h : MapIs K w b L) (hL : L.length ≤ 1000000) {s : ByteArray} (hs : s.size ≤ 1000000) {y : α} (hy : K.good y) :
    ∃ (v0 : Value) (st : Nat) (w1 : World), (Instr.mapEntry K.M (.map (some b)) (.string s)).run Tryz.prog w = .ok (.tuple #[v0, .int .i64 (st : Int)]) w1 ∧ w.grownBy w1 (some b) ∧ w1.heap.size = w.heap.size ∧
      ∀ w2 : World, w2.heap[b]? = w1.heap[b]? → ∃ w3, (Instr.entryStore K.M (.map (some b)) (.int .i64 (st : Int)) (K.wd y)).run Tryz.prog w2 = .ok () w3 ∧ MapIs K w3 b (ups L s y) ∧ w2.grownBy w3 (some b) ∧ w3.heap.size = w2.heap.size := by
  obtain ⟨wp, hput, hmp, hgp⟩ := h.put hL hs hy
  obtain ⟨⟨D, ⟨es, clock, hb, F, hsz, hD⟩, _⟩, _, _⟩ := h
  obtain ⟨v0, st, es1, clock1, hrun, _, hst⟩ := Go.WideElems.entry_then_store (WideMaps.string_law Tryz.underlying9) K.und (K.zer) hb F (keyS hs)
  have grown : ∀ (u : World) (e0 : Array MapEntry) (c0 : Nat) (Y : Obj), u.heap[b]? = some (.map e0 c0) → u.grownBy (setBlock u b Y) (some b) := fun u _ _ Y hu =>
    ⟨rfl, rfl, rfl, by simp [setBlock], fun i _ hi => heap_setBlock_other hu _ (fun e => hi (by rw [e]))⟩
  refine ⟨v0, st, _, hrun, grown w _ _ _ hb, by simp [setBlock], fun w2 h2 => ?_⟩
  have h2' : w2.heap[b]? = some (.map es1 clock1) := by rw [h2]; exact heap_setBlock_same hb _
  obtain ⟨es', clock', hr2, hu⟩ := hst w2 (K.wd y) h2'
  rw [hput] at hu
  have ew : wp = setBlock w b (.map es' clock') := by injection hu
  subst ew
  exact ⟨_, hr2, hmp.block (by rw [heap_setBlock_same h2' _, heap_setBlock_same hb _]), grown w2 _ _ _ h2', by simp [setBlock]⟩
end Go.Proofs.YtgjmbokfenpefaaGreatDoor
/- For the document's Publish: what a directory's memory becomes, and heads put behind one another. -/
namespace Go.Proofs.YtgjmbokfenpefaaGreatDoor
open Go.RowKit Go.Maps

/-- A new map is laid, and waits. -/
theorem RDirM.fresh {F : Nat → Prop} {w : World} {p rb : Nat} {d : Dst} {bb g m1 m2 m3 : Nat} {v : Value} {M : List SgM} (h : RDirM F w p rb d bb g m1 m2 m3 v M) :
    RDirM (fun k => F k ∨ k = w.heap.size) ((w.alloc (.map #[] 0)).setCell ⟨p, 3, none⟩ (.map (some w.heap.size))) p rb { d with wait := [] } bb g w.heap.size m2 m3 v M := by
  have hlt := h.lt
  have hp := h.own.lt
  have hb := alloc_below w (.map #[] 0)
  have hs : Same (fun k => F k ∧ k ≠ p) w ((w.alloc (.map #[] 0)).setCell ⟨p, 3, none⟩ (.map (some w.heap.size))) := ⟨by simp [World.setCell], fun k hk => (Below.heap_setCell _ _ _ _ hk.2).trans (hb.block k (hlt k hk.1))⟩
  have hm : MapIs kS ((w.alloc (.map #[] 0)).setCell ⟨p, 3, none⟩ (.map (some w.heap.size))) w.heap.size [] := (MapIs.made kS w).block (Below.heap_setCell _ _ _ _ (show w.heap.size ≠ p by omega))
  have hp2 : m2 ≠ p := (holds_map h.own h.vals).symm
  have hp3 : m3 ≠ p := (holds_map h.own h.since).symm
  have hvp : ∀ k, v.ownBlock = some k → k ≠ p := fun k hk e => by have := (h.row.lt k hk).1; omega
  exact {
    own := by
      refine ((h.own.alloc (.map #[] 0)).set 3 (.map (some w.heap.size))).congr fun i hi => ?_
      unfold upd rdF
      rcases (show i = 0 ∨ i = 1 ∨ i = 2 ∨ i = 3 ∨ i = 4 ∨ i = 5 ∨ i = 6 by omega) with rfl | rfl | rfl | rfl | rfl | rfl | rfl <;> rfl
    box := h.box.same hs ⟨h.fb, by have := h.lb; omega⟩ ⟨h.fg, by have := h.lg; omega⟩
    wait := hm
    vals := h.vals.block (hs.block _ ⟨h.f2, hp2⟩)
    since := h.since.block (hs.block _ ⟨h.f3, hp3⟩)
    row := h.row.kept (fun k hk => hs.block k ⟨h.fv k hk, hvp k hk⟩) hs.size
    eps := h.eps
    sgs := fun m hm => by
      have h1 := (h.sgs m hm).same (hs.mono fun _ h => ⟨h.1, h.2.2.2.2.2⟩)
      exact h1.mono fun k hk => ⟨.inl hk.1, hk.2.1, by have := hlt k hk.1; omega, hk.2.2.2.1, hk.2.2.2.2.1, hk.2.2.2.2.2⟩
    fp := .inl h.fp, fb := .inl h.fb, fg := .inl h.fg, f1 := .inr rfl, f2 := .inl h.f2, f3 := .inl h.f3, fv := fun k hk => .inl (h.fv k hk)
    n12 := by have := hlt _ h.f2; omega
    n13 := by have := hlt _ h.f3; omega
    n23 := h.n23, lb := h.lb, lg := h.lg
    out := fun k hk => by
      have h1 := h.out k hk
      refine ⟨?_, h1.2⟩
      rcases hk with rfl | rfl | hk
      · have := hlt _ h.fb; omega
      · have := hlt _ h.fg; omega
      · have := hlt _ (h.fv k hk); omega
    lt := fun k hk => by
      have e : ((w.alloc (.map #[] 0)).setCell ⟨p, 3, none⟩ (.map (some w.heap.size))).heap.size = w.heap.size + 1 := by simp [World.setCell]
      rw [e]
      rcases hk with hk | rfl
      · have := hlt k hk; omega
      · omega }
end Go.Proofs.YtgjmbokfenpefaaGreatDoor
/- The document's SealSign. -/
namespace Go.Proofs.YtgjmbokfenpefaaGreatDoor
open Go.RowKit

theorem infoSeal : (Tryz.prog.info? 55).map (·.size) = some 3 := by kernel_rfl
theorem sealPath_length (seed : ByteArray) (key t : Nat) : (sealPath seed key t).length = t := by unfold sealPath; simp
theorem Strs.keep {w : World} {A : Option Addr} {L : List ByteArray} (h : Strs w A L) (x : Addr) (v : Value) (hx : ∀ a, A = some a → 0 < L.length → x.block < a.block) : Strs (w.setCell x v) A L := fun i p hp => by
  obtain ⟨a, ha, hl, hc⟩ := h i p hp
  have hn := hx a ha (by have := (List.getElem?_eq_some_iff.1 hp).1; omega)
  refine ⟨a, ha, by simp [World.setCell]; exact hl, ?_⟩
  have hb : (w.setCell x v).heap[(a.add i).block]? = w.heap[(a.add i).block]? := Below.heap_setCell _ _ _ _ (by rw [block_add]; omega)
  rw [← hc]
  unfold World.cell?
  rw [hb]
/-- The seal under way. -/
structure SealRel (pb : Nat) (w wr : World) (key : Int) (A : Option Addr) (ca : Nat) (S P : List ByteArray) (v : Value) : Prop where
  below : Below w.heap.size w wr
  lt : w.heap.size < pb
  res : Holds wr w.heap.size 3 (slF 0 (.slice none 0 0) (.slice none 0 0)) 55
  own : Holds wr pb 3 (slF key (.slice A S.length ca) v) 55
  sig : Strs wr A S
  sigLt : ∀ a, A = some a → 0 < S.length → a.block < pb
  row : Row wr (pb + 1) 1 v P.length (stCells P)
theorem SealRel.next {pb : Nat} {w wr w6 : World} {key : Int} {A : Option Addr} {ca : Nat} {S P : List ByteArray} {v v' : Value} {y : ByteArray} (h : SealRel pb w wr key A ca S P v)
    (hrow : Row w6 (pb + 1) 1 v' (P.length + 1) (stCells P ++ [.string y])) (hg : wr.drew.grownBy w6 v.ownBlock) : SealRel pb w (w6.setCell ⟨pb, 2, none⟩ v') key A ca S (P ++ [y]) v' := by
  have hlt := h.lt
  have hpb := h.own.lt
  have hv := fun j hj => (h.row.lt j hj).1
  have hG : Below (pb + 1) wr w6 := (show Below (pb + 1) wr wr.drew from (Below.refl _ _).drew).grown hg (show pb + 1 ≤ wr.heap.size from hpb) hv
  have hGp : Below pb wr (w6.setCell ⟨pb, 2, none⟩ v') := (hG.mono (Nat.le_succ pb)).setCell (p := ⟨pb, 2, none⟩) (Nat.le_refl _) v'
  refine ⟨h.below.trans (hGp.mono (by omega)), hlt, h.res.below hGp hlt, ?_, ?_, h.sigLt, ?_⟩
  · refine ((h.own.below hG (Nat.lt_succ_self pb)).set 2 v').congr fun i hi => ?_
    unfold upd slF
    rcases (show i = 0 ∨ i = 1 ∨ i = 2 by omega) with rfl | rfl | rfl <;> simp
  · intro i p hp
    obtain ⟨a, ha, hl, hc⟩ := h.sig i p hp
    have hap := h.sigLt a ha (by have := (List.getElem?_eq_some_iff.1 hp).1; omega)
    exact ⟨a, ha, Nat.lt_of_lt_of_le hl hGp.size, (hGp.cell (by rw [block_add]; exact hap)).trans hc⟩
  · have e : stCells (P ++ [y]) = stCells P ++ [.string y] := by simp [stCells]
    rw [List.length_append, e]
    exact hrow.setOther (hrow.fresh (Nat.lt_succ_self _)) _
structure SealZ (pb bb g i : Nat) (v u : Value) (y : ByteArray) where
  at' : World
  h0 : at'.cell? ⟨pb, 2, none⟩ = some v
  h1 : at'.cell? ⟨bb, 1, none⟩ = some u
  h2 : at'.cell? ⟨g, i, none⟩ = some (.string y)
end Go.Proofs.YtgjmbokfenpefaaGreatDoor
/- The document's items of a directory: the walk. -/
namespace Go.Proofs.YtgjmbokfenpefaaGreatDoor
open Go.RowKit Go.Maps

structure ItRel (lb : Nat) (w wr : World) (K : List It) (v : Value) : Prop where
  below : Below w.heap.size w wr
  lt : w.heap.size ≤ lb
  own : Holds wr lb 1 (fun _ => v) 155
  row : Row wr (lb + 2) 2 v K.length (itCells K)
theorem ItRel.later {lb : Nat} {w wr w2 : World} {K : List It} {v : Value} (h : ItRel lb w wr K v) (hb : Below wr.heap.size wr w2) : ItRel lb w w2 K v :=
  ⟨h.below.trans (hb.mono h.below.size), h.lt, h.own.below hb h.own.lt, h.row.belowAll hb⟩
theorem ItRel.other {lb r : Nat} {w wr w2 : World} {K : List It} {v : Value} (h : ItRel lb w wr K v) (hg : wr.grownBy w2 (some r)) (hr : r = lb + 1) : ItRel lb w w2 K v := by
  subst hr
  refine ⟨h.below.grown hg h.below.size (fun k hk => by cases hk; have := h.lt; omega), h.lt, ?_, h.row.kept (fun k hk => hg.block k (h.row.lt k hk).2 (fun e => by cases e; have := (h.row.lt (lb + 1) hk).1; omega)) hg.size⟩
  have := h.own
  have hl := this.lt
  unfold Holds at this ⊢
  rw [hg.block lb hl (by simp)]; exact this
theorem ItRel.put {lb : Nat} {w w2 w3 : World} {K K' : List It} {v v' : Value} {X : Obj} (h : ItRel lb w w2 K v) (hrow : Row w3 (lb + 2) 2 v' K'.length (itCells K')) (hg : (w2.alloc X).grownBy w3 v.ownBlock) : ItRel lb w (w3.setCell ⟨lb, 0, none⟩ v') K' v' := by
  have hl := h.own.lt
  have hlt := h.lt
  have h4 : Holds w3 lb 1 (fun _ => v) 155 := by
    have hown := h.own
    unfold Holds at hown ⊢
    rw [hg.block lb (by simp; omega) (fun e => by have := (h.row.lt lb e.symm).1; omega), Below.heap_alloc _ _ _ hl]
    exact hown
  refine ⟨((h.below.alloc h.below.size X).grown hg (Nat.le_trans h.below.size (by simp)) (fun c hc => by have := (h.row.lt c hc).1; omega)).setCell (p := ⟨lb, 0, none⟩) hlt _, hlt, ?_, hrow.setOther (hrow.fresh (show lb < lb + 2 by omega)) _⟩
  refine (h4.set 0 v').congr fun i hi => ?_
  have : i = 0 := by omega
  subst this; rfl
theorem ItRel.after {lb : Nat} {w w2 w3 : World} {K : List It} {v : Value} {X : Obj} (h : ItRel lb w w2 K v) (hg : (w2.alloc X).grownBy w3 v.ownBlock) : Holds w3 lb 1 (fun _ => v) 155 := by
  have hown := h.own
  have hob := hown.lt
  unfold Holds at hown ⊢
  rw [hg.block lb (by simp; omega) (fun e => by have := (h.row.lt lb e.symm).1; omega), Below.heap_alloc _ _ _ hob]
  exact hown
end Go.Proofs.YtgjmbokfenpefaaGreatDoor
/- The document's Lookup. -/
namespace Go.Proofs.YtgjmbokfenpefaaGreatDoor
open Go.RowKit Go.Maps

/-- An answer in memory. -/
structure AnM where
  sg : SgM
  C : Option Addr
  cc : Nat
  a : Answ
def AnM.cells (m : AnM) : Array Value := #[.int .i64 m.sg.s.head.epoch, .string m.sg.s.head.root, .string m.sg.s.head.prev, .int .i64 m.sg.s.key, .slice m.sg.A m.sg.s.sig.length m.sg.ca, .slice m.sg.B m.sg.s.path.length m.sg.cb,
  .slice m.C m.a.path.length m.cc, .string m.a.leaf.1, .string m.a.leaf.2, .string m.a.opening, .string m.a.value]
def anF (m : SgM) (C : Option Addr) (n cc : Nat) (x : It) (o v : ByteArray) : Nat → Value := fun i =>
  [Value.int .i64 m.s.head.epoch, .string m.s.head.root, .string m.s.head.prev, .int .i64 m.s.key, .slice m.A m.s.sig.length m.ca, .slice m.B m.s.path.length m.cb, .slice C n cc, .string x.1, .string x.2, .string o, .string v].getD i undef
theorem infoAnsw : (Tryz.prog.info? 63).map (·.size) = some 11 := by kernel_rfl
def noM : SgM := ⟨noSgn, none, 0, none, 0⟩
def noAnF : Nat → Value := anF noM none 0 0 noIt ⟨#[]⟩ ⟨#[]⟩
theorem an_cells {w : World} {b : Nat} {m : SgM} {C : Option Addr} {n cc : Nat} {x : It} {o v : ByteArray} {t : TypeId} (h : Holds w b 11 (anF m C n cc x o v) t) :
    w.cell? ⟨b, 0, none⟩ = some (.int .i64 m.s.head.epoch) ∧ w.cell? ⟨b, 1, none⟩ = some (.string m.s.head.root) ∧ w.cell? ⟨b, 2, none⟩ = some (.string m.s.head.prev) ∧ w.cell? ⟨b, 3, none⟩ = some (.int .i64 m.s.key) ∧ w.cell? ⟨b, 4, none⟩ = some (.slice m.A m.s.sig.length m.ca) ∧
    w.cell? ⟨b, 5, none⟩ = some (.slice m.B m.s.path.length m.cb) ∧ w.cell? ⟨b, 6, none⟩ = some (.slice C n cc) ∧ w.cell? ⟨b, 7, none⟩ = some (.string x.1) ∧ w.cell? ⟨b, 8, none⟩ = some (.string x.2) ∧ w.cell? ⟨b, 9, none⟩ = some (.string o) ∧ w.cell? ⟨b, 10, none⟩ = some (.string v) :=
  ⟨h.cell 0 (by omega), h.cell 1 (by omega), h.cell 2 (by omega), h.cell 3 (by omega), h.cell 4 (by omega), h.cell 5 (by omega), h.cell 6 (by omega), h.cell 7 (by omega), h.cell 8 (by omega), h.cell 9 (by omega), h.cell 10 (by omega)⟩
/-- All eleven cells written, one behind the other. -/
def put11 (w : World) (b : Nat) (m : SgM) (C : Option Addr) (n cc : Nat) (x : It) (o v : ByteArray) : World := (((((((((((w.setCell ⟨b, 0, none⟩ (.int .i64 m.s.head.epoch)).setCell ⟨b, 1, none⟩ (.string m.s.head.root)).setCell ⟨b, 2, none⟩ (.string m.s.head.prev)).setCell ⟨b, 3, none⟩ (.int .i64 m.s.key)).setCell ⟨b, 4, none⟩ (.slice m.A m.s.sig.length m.ca)).setCell ⟨b, 5, none⟩ (.slice m.B m.s.path.length m.cb)).setCell ⟨b, 6, none⟩ (.slice C n cc)).setCell ⟨b, 7, none⟩ (.string x.1)).setCell ⟨b, 8, none⟩ (.string x.2)).setCell ⟨b, 9, none⟩ (.string o)).setCell ⟨b, 10, none⟩ (.string v))
theorem put11_holds {w : World} {b : Nat} {f : Nat → Value} {t : TypeId} (h : Holds w b 11 f t) (m : SgM) (C : Option Addr) (n cc : Nat) (x : It) (o v : ByteArray) : Holds (put11 w b m C n cc x o v) b 11 (anF m C n cc x o v) t := by
  refine ((((((((((((h.set 0 _).set 1 _).set 2 _).set 3 _).set 4 _).set 5 _).set 6 _).set 7 _).set 8 _).set 9 _).set 10 _)).congr fun i hi => ?_
  unfold upd
  rcases (show i = 0 ∨ i = 1 ∨ i = 2 ∨ i = 3 ∨ i = 4 ∨ i = 5 ∨ i = 6 ∨ i = 7 ∨ i = 8 ∨ i = 9 ∨ i = 10 by omega) with rfl | rfl | rfl | rfl | rfl | rfl | rfl | rfl | rfl | rfl | rfl <;> rfl
theorem put11_below {B : Nat} {u w : World} (h : Below B u w) {b : Nat} (hb : B ≤ b) (m : SgM) (C : Option Addr) (n cc : Nat) (x : It) (o v : ByteArray) : Below B u (put11 w b m C n cc x o v) :=
  (((((((((((h.setCell (p := ⟨b, 0, none⟩) hb _).setCell (p := ⟨b, 1, none⟩) hb _).setCell (p := ⟨b, 2, none⟩) hb _).setCell (p := ⟨b, 3, none⟩) hb _).setCell (p := ⟨b, 4, none⟩) hb _).setCell (p := ⟨b, 5, none⟩) hb _).setCell (p := ⟨b, 6, none⟩) hb _).setCell (p := ⟨b, 7, none⟩) hb _).setCell (p := ⟨b, 8, none⟩) hb _).setCell (p := ⟨b, 9, none⟩) hb _).setCell (p := ⟨b, 10, none⟩) hb _)
structure AnIn (w : World) (m : AnM) (a : Answ) : Prop where
  is : m.a = a
  sgn : m.sg.s = a.sgn
  sig : Strs w m.sg.A a.sgn.sig
  path : Strs w m.sg.B a.sgn.path
  way : Strs w m.C a.path
  cap : a.sgn.sig.length ≤ m.sg.ca
/-- Its signed head's texts lie in F, its way's are new. -/
structure AnAt (F : Nat → Prop) (w : World) (m : AnM) : Prop where
  sig : ∀ a, m.sg.A = some a → 0 < m.sg.s.sig.length → F a.block
  path : ∀ a, m.sg.B = some a → 0 < m.sg.s.path.length → F a.block
  way : ∀ a, m.C = some a → 0 < m.a.path.length → w.heap.size ≤ a.block
end Go.Proofs.YtgjmbokfenpefaaGreatDoor
/- One more epoch, written into a directory's memory. -/
namespace Go.Proofs.YtgjmbokfenpefaaGreatDoor
open Go.RowKit Go.Maps

/-- An epoch was appended, and the new list stored. -/
theorem RDirM.pushed {F : Nat → Prop} {u w7 : World} {X : Obj} {N p rb bb g m1 m2 m3 : Nat} {d : Dst} {v v' : Value} {M : List SgM} (h : RDirM F u p rb d bb g m1 m2 m3 v M) (hN : ∀ k, F k → k < N) (m : SgM)
    (hs : Strs u m.A m.s.sig) (hp : Strs u m.B m.s.path) (hk : m.s.sig.length ≤ m.ca) (ha : ∀ a, m.A = some a → 0 < m.s.sig.length → N ≤ a.block) (hb : ∀ a, m.B = some a → 0 < m.s.path.length → N ≤ a.block)
    (hrow : Row w7 (p + 1) 6 v' (M.length + 1) (sgCells M ++ m.cells)) (hg : (u.alloc X).grownBy w7 v.ownBlock) (hm : Moved (u.alloc X) v v') (hNu : N ≤ u.heap.size) :
    RDirM (fun k => (F k ∨ N ≤ k) ∧ k < w7.heap.size) (w7.setCell ⟨p, 6, none⟩ v') p rb { d with eps := d.eps ++ [m.s] } bb g m1 m2 m3 v' (M ++ [m]) := by
  have hz : u.heap.size < w7.heap.size := by have := hg.size; simp at this; omega
  have hvp : v.ownBlock ≠ some p := h.row.fresh (Nat.lt_succ_self p)
  have hvp' : v'.ownBlock ≠ some p := hrow.fresh (Nat.lt_succ_self p)
  have hpu := h.own.lt
  have hblk : ∀ k, k < u.heap.size → v.ownBlock ≠ some k → k ≠ p → (w7.setCell ⟨p, 6, none⟩ v').heap[k]? = u.heap[k]? := fun k hk hv hkp =>
    (Below.heap_setCell _ _ _ _ hkp).trans ((hg.block k (by simp; omega) (fun e => hv e.symm)).trans ((alloc_below u X).block k hk))
  have hsz : u.heap.size ≤ (w7.setCell ⟨p, 6, none⟩ v').heap.size := by simp [World.setCell]; omega
  have hS : Same (fun k => k < u.heap.size ∧ v.ownBlock ≠ some k ∧ k ≠ p) u (w7.setCell ⟨p, 6, none⟩ v') := ⟨hsz, fun k hk => hblk k hk.1 hk.2.1 hk.2.2⟩
  have hmp : ∀ k, k = m1 ∨ k = m2 ∨ k = m3 → v.ownBlock ≠ some k ∧ k ≠ p := fun k hk => by
    refine ⟨fun e => ?_, fun e => ?_⟩
    · have := h.out k (.inr (.inr e))
      rcases hk with rfl | rfl | rfl
      · exact this.1 rfl
      · exact this.2.1 rfl
      · exact this.2.2 rfl
    · rcases hk with rfl | rfl | rfl
      · exact holds_map h.own h.wait e.symm
      · exact holds_map h.own h.vals e.symm
      · exact holds_map h.own h.since e.symm
  have hvb : ∀ k, k < p → v.ownBlock ≠ some k := fun k hk e => by have := (h.row.lt k e).1; omega
  have hlt : ∀ k, F k → k < u.heap.size := h.lt
  have hnew : ∀ k, v'.ownBlock = some k → v.ownBlock = some k ∨ u.heap.size ≤ k := fun k hk => by
    rcases hm with e | e
    · exact .inl (e ▸ hk)
    · have := e k hk
      simp at this
      exact .inr (by omega)
  have hG : ∀ k, F k → (F k ∨ N ≤ k) ∧ k < w7.heap.size := fun k hk => ⟨.inl hk, by have := hlt k hk; omega⟩
  exact {
    own := by
      have h0 : Holds w7 p 7 (rdF rb bb m1 m2 m3 d.secret v) 40 := by
        have h1 := h.own
        unfold Holds at h1 ⊢
        rw [hg.block p (by simp; omega) (fun e => hvp e.symm), (alloc_below u X).block p hpu]
        exact h1
      refine (h0.set 6 v').congr fun i hi => ?_
      unfold upd rdF
      rcases (show i = 0 ∨ i = 1 ∨ i = 2 ∨ i = 3 ∨ i = 4 ∨ i = 5 ∨ i = 6 by omega) with rfl | rfl | rfl | rfl | rfl | rfl | rfl <;> rfl
    box := h.box.same hS ⟨hlt _ h.fb, hvb _ h.lb, by have := h.lb; omega⟩ ⟨hlt _ h.fg, hvb _ h.lg, by have := h.lg; omega⟩
    wait := h.wait.block (hS.block _ ⟨hlt _ h.f1, hmp _ (.inl rfl)⟩)
    vals := h.vals.block (hS.block _ ⟨hlt _ h.f2, hmp _ (.inr (.inl rfl))⟩)
    since := h.since.block (hS.block _ ⟨hlt _ h.f3, hmp _ (.inr (.inr rfl))⟩)
    row := by
      rw [List.length_append, sgCells_snoc]
      exact hrow.setOther hvp' _
    eps := by rw [List.map_append, h.eps]; rfl
    sgs := fun x hx => by
      rcases List.mem_append.1 hx with hx | hx
      · have h1 := (h.sgs x hx).same (w' := w7.setCell ⟨p, 6, none⟩ v') ⟨hsz, fun k hk => hblk k (hlt k hk.1) hk.2.1 hk.2.2.2.2.2⟩
        refine h1.mono fun k hk => ⟨hG k hk.1, fun e => ?_, hk.2.2⟩
        rcases hnew k e with e | e
        · exact hk.2.1 e
        · have := hlt k hk.1; omega
      · obtain rfl := List.mem_singleton.1 hx
        have hin : ∀ k, k < u.heap.size → N ≤ k → ((F k ∨ N ≤ k) ∧ k < w7.heap.size) ∧ v'.ownBlock ≠ some k ∧ k ≠ m1 ∧ k ≠ m2 ∧ k ≠ m3 ∧ k ≠ p := fun k hk hNk =>
          ⟨⟨.inr hNk, by omega⟩, (fun e => by
            rcases hnew k e with e | e
            · have := hN k (h.fv k e); omega
            · omega), by have := hN _ h.f1; omega, by have := hN _ h.f2; omega, by have := hN _ h.f3; omega, by have := hN _ h.fp; omega⟩
        have hkeep : ∀ (A : Option Addr) (L : List ByteArray), Strs u A L → (∀ a, A = some a → 0 < L.length → N ≤ a.block) → Strs (w7.setCell ⟨p, 6, none⟩ v') A L ∧ ∀ a, A = some a → 0 < L.length → a.block < u.heap.size := fun A L hL hA => by
          have hlt2 : ∀ a, A = some a → 0 < L.length → a.block < u.heap.size := fun a e hl => by
            obtain ⟨a', e', hlt', _⟩ := hL 0 _ (List.getElem?_eq_getElem hl)
            rw [e] at e'
            obtain rfl := Option.some.inj e'
            exact hlt'
          refine ⟨Strs.same hL (fun a e hl => ?_) hS, hlt2⟩
          have h1 := hA a e hl
          exact ⟨hlt2 a e hl, fun e2 => by have := hN _ (h.fv _ e2); omega, by have := hN _ h.fp; omega⟩
        obtain ⟨k1, k2⟩ := hkeep _ _ hs ha
        obtain ⟨k3, k4⟩ := hkeep _ _ hp hb
        exact ⟨k1, k3, fun a e hl => hin _ (k2 a e hl) (ha a e hl), fun a e hl => hin _ (k4 a e hl) (hb a e hl), hk⟩
    fp := hG _ h.fp
    fb := hG _ h.fb
    fg := hG _ h.fg
    f1 := hG _ h.f1
    f2 := hG _ h.f2
    f3 := hG _ h.f3
    fv := fun k hk => by
      refine ⟨?_, (hrow.lt k hk).2⟩
      rcases hnew k hk with e | e
      · exact .inl (h.fv k e)
      · exact .inr (by omega)
    n12 := h.n12
    n13 := h.n13
    n23 := h.n23
    lb := h.lb
    lg := h.lg
    out := fun k hk => by
      rcases hk with rfl | rfl | hk
      · exact h.out _ (.inl rfl)
      · exact h.out _ (.inr (.inl rfl))
      · rcases hnew k hk with e | e
        · exact h.out _ (.inr (.inr e))
        · have h1 := hlt _ h.f1
          have h2 := hlt _ h.f2
          have h3 := hlt _ h.f3
          omega
    lt := fun k hk => by
      have : (w7.setCell ⟨p, 6, none⟩ v').heap.size = w7.heap.size := by simp [World.setCell]
      rw [this]
      exact hk.2 }
def sgF (h : Hd) (key : Int) (u v : Value) : Nat → Value := fun i => [Value.int .i64 h.epoch, .string h.root, .string h.prev, .int .i64 key, u, v].getD i undef
theorem grown_keeps {w w' : World} {b n c : Nat} {f : Nat → Value} {t : TypeId} (h : Holds w b n f t) (hg : w.grownBy w' (some c)) (hne : b ≠ c) : Holds w' b n f t := by
  have hl := h.lt
  unfold Holds at h ⊢
  rw [hg.block b hl (by simpa using hne)]; exact h
structure PubZ (p yb sb : Nat) (v : Value) (y : Hd) (kk : Int) (a b : Value) where
  at' : World
  h0 : at'.cell? ⟨p, 6, none⟩ = some v
  h1 : at'.cell? ⟨yb, 0, none⟩ = some (.int .i64 y.epoch)
  h2 : at'.cell? ⟨yb, 1, none⟩ = some (.string y.root)
  h3 : at'.cell? ⟨yb, 2, none⟩ = some (.string y.prev)
  h4 : at'.cell? ⟨sb, 0, none⟩ = some (.int .i64 kk)
  h5 : at'.cell? ⟨sb, 1, none⟩ = some a
  h6 : at'.cell? ⟨sb, 2, none⟩ = some b
theorem infoSg6 : (Tryz.prog.info? 57).map (·.size) = some 6 := by kernel_rfl
def put6 (w : World) (b : Nat) (h : Hd) (key : Int) (u v : Value) : World := (((((w.setCell ⟨b, 0, none⟩ (.int .i64 h.epoch)).setCell ⟨b, 1, none⟩ (.string h.root)).setCell ⟨b, 2, none⟩ (.string h.prev)).setCell ⟨b, 3, none⟩ (.int .i64 key)).setCell ⟨b, 4, none⟩ u).setCell ⟨b, 5, none⟩ v
theorem put6_holds {w : World} {b : Nat} {f : Nat → Value} {t : TypeId} (h0 : Holds w b 6 f t) (h : Hd) (key : Int) (u v : Value) : Holds (put6 w b h key u v) b 6 (sgF h key u v) t := by
  refine ((((((h0.set 0 _).set 1 _).set 2 _).set 3 _).set 4 _).set 5 _).congr fun i hi => ?_
  rcases (show i = 0 ∨ i = 1 ∨ i = 2 ∨ i = 3 ∨ i = 4 ∨ i = 5 by omega) with rfl | rfl | rfl | rfl | rfl | rfl <;> rfl
theorem put6_block (w : World) (b : Nat) (h : Hd) (key : Int) (u v : Value) (k : Nat) (hk : k ≠ b) : (put6 w b h key u v).heap[k]? = w.heap[k]? := by
  unfold put6
  rw [Below.heap_setCell _ _ _ _ hk, Below.heap_setCell _ _ _ _ hk, Below.heap_setCell _ _ _ _ hk, Below.heap_setCell _ _ _ _ hk, Below.heap_setCell _ _ _ _ hk, Below.heap_setCell _ _ _ _ hk]
theorem put6_size (w : World) (b : Nat) (h : Hd) (key : Int) (u v : Value) : (put6 w b h key u v).heap.size = w.heap.size := by unfold put6; simp [World.setCell]
theorem put6_below {B : Nat} {u w : World} (h0 : Below B u w) {b : Nat} (hb : B ≤ b) (h : Hd) (key : Int) (x v : Value) : Below B u (put6 w b h key x v) :=
  (((((h0.setCell hb _).setCell hb _).setCell hb _).setCell hb _).setCell hb _).setCell hb _
end Go.Proofs.YtgjmbokfenpefaaGreatDoor
/- The document's client: See. -/
namespace Go.Proofs.YtgjmbokfenpefaaGreatDoor
open Go.RowKit

structure SeeZ (p q : Nat) (v : Value) (h : Hd) where
  at' : World
  h0 : at'.cell? ⟨p, 2, none⟩ = some v
  h1 : at'.cell? ⟨q, 0, none⟩ = some (.int .i64 h.epoch)
  h2 : at'.cell? ⟨q, 1, none⟩ = some (.string h.root)
  h3 : at'.cell? ⟨q, 2, none⟩ = some (.string h.prev)
/-- One more head was appended, and the new list stored. -/
theorem RClM.pushed {F : Nat → Prop} {u w7 : World} {X : Obj} {p rb : Nat} {c : Cl} {v v' : Value} {h : Hd} (hc : RClM F u p rb c v) (hrow : Row w7 (p + 1) 3 v' (c.heads.length + 1) (hdCells c.heads ++ h.cells)) (hg : (u.alloc X).grownBy w7 v.ownBlock) (hm : Moved (u.alloc X) v v') :
    RClM (fun k => (F k ∨ u.heap.size ≤ k) ∧ k < w7.heap.size) (w7.setCell ⟨p, 2, none⟩ v') p rb { c with heads := c.heads ++ [h] } v' := by
  have hz : u.heap.size < w7.heap.size := by have := hg.size; simp at this; omega
  have hvp : v.ownBlock ≠ some p := hc.row.fresh (Nat.lt_succ_self p)
  have hvp' : v'.ownBlock ≠ some p := hrow.fresh (Nat.lt_succ_self p)
  have hpu := hc.own.lt
  exact {
    own := by
      have h0 : Holds w7 p 3 (clF rb c.pub v) 132 := by
        have h1 := hc.own
        unfold Holds at h1 ⊢
        rw [hg.block p (by simp; omega) (fun e => hvp e.symm), (alloc_below u X).block p hpu]
        exact h1
      refine (h0.set 2 v').congr fun i hi => ?_
      unfold upd clF
      rcases (show i = 0 ∨ i = 1 ∨ i = 2 by omega) with rfl | rfl | rfl <;> rfl
    row := by
      rw [List.length_append, hdCells_append]
      have e : hdCells [h] = h.cells := by simp [hdCells]
      rw [e]
      exact hrow.setOther hvp' _
    fp := ⟨.inl hc.fp, by omega⟩
    fv := fun k hk => by
      refine ⟨?_, (hrow.lt k hk).2⟩
      rcases hm with e | e
      · exact .inl (hc.fv k (e ▸ hk))
      · have := e k hk
        simp at this
        exact .inr (by omega)
    lt := fun k hk => by
      have : (w7.setCell ⟨p, 2, none⟩ v').heap.size = w7.heap.size := by simp [World.setCell]
      rw [this]
      exact hk.2 }
end Go.Proofs.YtgjmbokfenpefaaGreatDoor
/- The document's auditor, behind a Tell: what lies where. -/
namespace Go.Proofs.YtgjmbokfenpefaaGreatDoor
open Go.RowKit

/-- The footprints behind a name's being told. -/
def tellG (G : ByteArray → Nat → Prop) (name : ByteArray) (H : Nat → Prop) : ByteArray → Nat → Prop := fun s k => (s = name ∧ H k) ∨ (s ≠ name ∧ G s k)
/-- Behind See, ahead of the map's store: all is as it was, but the client of that name. -/
theorem RAuM.seen {F : Nat → Prop} {w w0 : World} {p rb : Nat} {a : Au} {b : Nat} {W : List (ByteArray × Option Nat)} {G : ByteArray → Nat → Prop} {name : ByteArray} {q : Nat} {H : Nat → Prop} (hm : RAuM F w p rb a b W G)
    (hO : Off (fun k => (look a.who name).isSome = true ∧ G name k) w w0) (hH : ∀ k, H k → ((look a.who name).isSome = true ∧ G name k) ∨ w.heap.size ≤ k) (hc : RCl H w0 q rb (auCl a name)) (hq : ∀ c, look a.who name = some c → look W name = some (some q)) :
    RAuM (fun k => (F k ∨ w.heap.size ≤ k) ∧ k < w0.heap.size) w0 p rb a b W (tellG G name H) := by
  have hp : w0.heap[p]? = w.heap[p]? := hO.block p (hm.lt p hm.fp) (fun h => (hm.inF name p h.1 h.2).2.1 rfl)
  have hb : w0.heap[b]? = w.heap[b]? := hO.block b (hm.lt b hm.fb) (fun h => (hm.inF name b h.1 h.2).2.2 rfl)
  have hsz := hO.size
  refine {
    own := by have := hm.own; unfold Holds at this ⊢; rw [hp]; exact this
    map := hm.map.block hb
    all := hm.all
    cl := fun s c hs => ?_
    inF := fun s k hs hk => ?_
    apart := fun s t k hst hs ht hk => ?_
    fp := ⟨.inl hm.fp, by have := hm.lt p hm.fp; omega⟩
    fb := ⟨.inl hm.fb, by have := hm.lt b hm.fb; omega⟩
    pb := hm.pb
    lt := fun k hk => hk.2 }
  · by_cases e : s = name
    · subst e
      refine ⟨q, hq c hs, ?_⟩
      have h1 : auCl a s = c := by unfold auCl; rw [hs]; rfl
      rw [h1] at hc
      exact hc.wide (fun k hk => .inl ⟨rfl, hk⟩) (fun k hk => by
        rcases hk with ⟨_, hk⟩ | ⟨h, _⟩
        · exact hc.lt k hk
        · exact absurd rfl h)
    · obtain ⟨n, h1, h2⟩ := hm.cl s c hs
      have h3 : RCl (G s) w0 n rb c := h2.same ⟨hsz, fun k hk => hO.block k (h2.lt k hk) (fun h => hm.apart s name k e (by rw [hs]; rfl) h.1 hk h.2)⟩
      exact ⟨n, h1, h3.wide (fun k hk => .inr ⟨e, hk⟩) (fun k hk => by
        rcases hk with ⟨h, _⟩ | ⟨_, hk⟩
        · exact absurd h e
        · exact h3.lt k hk)⟩
  · rcases hk with ⟨rfl, hk⟩ | ⟨_, hk⟩
    · have hl := hc.lt k hk
      rcases hH k hk with h | h
      · have h1 := hm.inF s k h.1 h.2
        exact ⟨⟨.inl h1.1, hl⟩, h1.2⟩
      · have l1 := hm.lt p hm.fp
        have l2 := hm.lt b hm.fb
        exact ⟨⟨.inr h, hl⟩, by omega, by omega⟩
    · have h1 := hm.inF s k hs hk
      have l1 := hm.lt k h1.1
      exact ⟨⟨.inl h1.1, by omega⟩, h1.2⟩
  · rcases hk with ⟨rfl, hk⟩ | ⟨e1, hk⟩
    · rintro (⟨rfl, _⟩ | ⟨e2, hk2⟩)
      · exact hst rfl
      · have h1 := hm.inF t k ht hk2
        have l1 := hm.lt k h1.1
        rcases hH k hk with h | h
        · exact hm.apart s t k hst h.1 ht h.2 hk2
        · omega
    · rintro (⟨rfl, hk2⟩ | ⟨e2, hk2⟩)
      · have h1 := hm.inF s k hs hk
        have l1 := hm.lt k h1.1
        rcases hH k hk2 with h | h
        · exact hm.apart s t k hst hs h.1 hk h.2
        · omega
      · exact hm.apart s t k hst hs ht hk hk2
/-- Behind the map's store. -/
theorem RAuM.told {F : Nat → Prop} {w w0 w1 : World} {p rb : Nat} {a : Au} {b : Nat} {W : List (ByteArray × Option Nat)} {G : ByteArray → Nat → Prop} {name : ByteArray} {q : Nat} {H : Nat → Prop} {c' : Cl} (hm : RAuM F w p rb a b W G)
    (hO : Off (fun k => (look a.who name).isSome = true ∧ G name k) w w0) (hH : ∀ k, H k → ((look a.who name).isSome = true ∧ G name k) ∨ w.heap.size ≤ k) (hc : RCl H w0 q rb c')
    (hmap : MapIs kC w1 b (ups W name (some q))) (hg : w0.grownBy w1 (some b)) :
    RAuM (fun k => (F k ∨ w.heap.size ≤ k) ∧ k < w1.heap.size) w1 p rb { a with who := ups a.who name c' } b (ups W name (some q)) (tellG G name H) := by
  have l1 := hm.lt p hm.fp
  have l2 := hm.lt b hm.fb
  have hsz := hO.size
  have hs2 := hg.size
  have hp : w1.heap[p]? = w.heap[p]? := (hg.block p (by omega) (fun e => hm.pb (Option.some.inj e))).trans (hO.block p l1 (fun h => (hm.inF name p h.1 h.2).2.1 rfl))
  have hHb : ∀ k, H k → k ≠ b ∧ k ≠ p := fun k hk => by
    rcases hH k hk with h | h
    · have := hm.inF name k h.1 h.2; exact ⟨this.2.2, this.2.1⟩
    · exact ⟨by omega, by omega⟩
  have hc1 : RCl H w1 q rb c' := hc.same ⟨hs2, fun k hk => hg.block k (hc.lt k hk) (fun e => (hHb k hk).1 (Option.some.inj e))⟩
  have hlk : ∀ s, s ≠ name → look (ups a.who name c') s = look a.who s := fun s e => look_ups_other _ _ _ _ e
  refine {
    own := by have := hm.own; unfold Holds at this ⊢; rw [hp]; exact this
    map := hmap
    all := fun s => ?_
    cl := fun s c hs => ?_
    inF := fun s k hs hk => ?_
    apart := fun s t k hst hs ht hk => ?_
    fp := ⟨.inl hm.fp, by omega⟩
    fb := ⟨.inl hm.fb, by omega⟩
    pb := hm.pb
    lt := fun k hk => hk.2 }
  · by_cases e : s = name
    · subst e
      show (look (ups W s (some q)) s).isSome = (look (ups a.who s c') s).isSome
      rw [look_ups_same, look_ups_same]; rfl
    · show (look (ups W name (some q)) s).isSome = (look (ups a.who name c') s).isSome
      rw [look_ups_other _ _ _ _ e, look_ups_other _ _ _ _ e]; exact hm.all s
  · replace hs : look (ups a.who name c') s = some c := hs
    by_cases e : s = name
    · subst e
      rw [look_ups_same] at hs
      obtain rfl := Option.some.inj hs
      refine ⟨q, look_ups_same _ _ _, hc1.wide (fun k hk => .inl ⟨rfl, hk⟩) (fun k hk => ?_)⟩
      rcases hk with ⟨_, hk⟩ | ⟨h, _⟩
      · exact hc1.lt k hk
      · exact absurd rfl h
    · rw [hlk s e] at hs
      obtain ⟨n, h1, h2⟩ := hm.cl s c hs
      have h3 : RCl (G s) w1 n rb c := h2.same ⟨by omega, fun k hk => by
        have h4 := hm.inF s k (by rw [hs]; rfl) hk
        have h5 := hm.lt k h4.1
        exact (hg.block k (by omega) (fun e' => h4.2.2 (Option.some.inj e'))).trans (hO.block k h5 (fun h => hm.apart s name k e (by rw [hs]; rfl) h.1 hk h.2))⟩
      refine ⟨n, by rw [look_ups_other _ _ _ _ e]; exact h1, h3.wide (fun k hk => .inr ⟨e, hk⟩) (fun k hk => ?_)⟩
      rcases hk with ⟨h, _⟩ | ⟨_, hk⟩
      · exact absurd h e
      · exact h3.lt k hk
  · replace hs : (look (ups a.who name c') s).isSome = true := hs
    rcases hk with ⟨rfl, hk⟩ | ⟨e, hk⟩
    · have hl := hc1.lt k hk
      have h2 := hHb k hk
      rcases hH k hk with h | h
      · exact ⟨⟨.inl (hm.inF s k h.1 h.2).1, hl⟩, h2.2, h2.1⟩
      · exact ⟨⟨.inr h, hl⟩, h2.2, h2.1⟩
    · rw [hlk s e] at hs
      have h1 := hm.inF s k hs hk
      have h3 := hm.lt k h1.1
      exact ⟨⟨.inl h1.1, by omega⟩, h1.2⟩
  · replace hs : (look (ups a.who name c') s).isSome = true := hs
    replace ht : (look (ups a.who name c') t).isSome = true := ht
    rcases hk with ⟨rfl, hk⟩ | ⟨e1, hk⟩
    · rintro (⟨rfl, _⟩ | ⟨e2, hk2⟩)
      · exact hst rfl
      · rw [hlk t e2] at ht
        have h1 := hm.inF t k ht hk2
        have h3 := hm.lt k h1.1
        rcases hH k hk with h | h
        · exact hm.apart s t k hst h.1 ht h.2 hk2
        · omega
    · rw [hlk s e1] at hs
      rintro (⟨rfl, hk2⟩ | ⟨e2, hk2⟩)
      · have h1 := hm.inF s k hs hk
        have h3 := hm.lt k h1.1
        rcases hH k hk2 with h | h
        · exact hm.apart s t k hst hs h.1 hk h.2
        · omega
      · rw [hlk t e2] at ht
        exact hm.apart s t k hst hs ht hk hk2
/-- Ahead of the map's store its own two blocks are as they were. -/
theorem RAuM.keep {F : Nat → Prop} {w w0 : World} {p rb : Nat} {a : Au} {b : Nat} {W : List (ByteArray × Option Nat)} {G : ByteArray → Nat → Prop} {name : ByteArray} (hm : RAuM F w p rb a b W G)
    (hO : Off (fun k => (look a.who name).isSome = true ∧ G name k) w w0) : Holds w0 p 3 (auF rb b a.pub) 110 ∧ MapIs kC w0 b W := by
  have hp : w0.heap[p]? = w.heap[p]? := hO.block p (hm.lt p hm.fp) (fun h => (hm.inF name p h.1 h.2).2.1 rfl)
  have hb : w0.heap[b]? = w.heap[b]? := hO.block b (hm.lt b hm.fb) (fun h => (hm.inF name b h.1 h.2).2.2 rfl)
  exact ⟨by have := hm.own; unfold Holds at this ⊢; rw [hp]; exact this, hm.map.block hb⟩
theorem RAuM.len {F : Nat → Prop} {w : World} {p rb : Nat} {a : Au} {b : Nat} {W : List (ByteArray × Option Nat)} {G : ByteArray → Nat → Prop} (hm : RAuM F w p rb a b W G) (hk : (keysL a.who).Nodup) : W.length = a.who.length := by
  have h : (keysL W).Perm (keysL a.who) := (List.perm_ext_iff_of_nodup hm.map.keys hk).2 fun s => by rw [← look_isSome, ← look_isSome, hm.all s]
  have := h.length_eq
  unfold keysL at this
  rw [List.length_map, List.length_map] at this
  exact this
end Go.Proofs.YtgjmbokfenpefaaGreatDoor
