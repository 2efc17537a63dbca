/- Parts of the proof, one behind the other: LaterR, Root, KTab, New, RDirO, Sorted, Gg, RSet, RSet2, RDirI, RDirI2, MapE, RDirP, Long, LawItems, RHead, RepL, Rep, RNext, RDirV, SealG, RDirL, RDirW. -/
import Derived.Test.YtcfpmofmjnhonaaGreatDoorM5
import Derived.BigQuiet
import Derived.Test.YtcfpmofmjnhonaaGreatDoorM9
import Derived.Test.YtcfpmofmjnhonaaGreatDoorM8
import Derived.Shelf.SlSortFuncK.WholeK
import Derived.Ground.GgsProg
import Derived.Shelf.GgSortFunc.Tiny
import Derived.Test.YtcfpmofmjnhonaaGreatDoorProg
import Derived.Test.YtcfpmofmjnhonaaGreatDoorM2
import Derived.WideKeyEntry
import Derived.Test.YtcfpmofmjnhonaaGreatDoorM1
import Derived.Deep.RegionHeld3
import Derived.Deep.DeepCutAuto
import Derived.Shelf.Strings.Repeat
import Derived.KernelRfl
import Derived.Test.YtcfpmofmjnhonaaGreatDoorM6
import Derived.Deep.CutRange
/- Regions that only read and call what makes memory. No program is imported. -/
namespace Go.Proofs.YtcfpmofmjnhonaaGreatDoor
open Go.RowKit

/-- A region that only reads and calls what makes memory: one walk, in the text's order, over the worlds later than its own. -/
theorem wp_region_later {P : Program} {id : Nat} {Q : Exit → Act → World → Prop} {a : Act} {w : World} {l : List Oper} (hm : P.follows .mixedOrders = true) (hB : Region.lexB .any l.toArray = true)
    (h : wpQuiet P l.toArray (fun w' => ∃ z : Later w.heap.size w, w' = z.at') (fun a' => ∀ w', (∃ z : Later w.heap.size w, w' = z.at') → Q .normal a' w') l a) : (Code.region id l.toArray true).wp P Q a w :=
  wp_region_quiet (C := fun w' => ∃ z : Later w.heap.size w, w' = z.at') hm hB ⟨⟨w.drew, (Below.refl _ _).drew⟩, rfl⟩ (by simpa using h)

end Go.Proofs.YtcfpmofmjnhonaaGreatDoor
/- The document's numbers of rounds: root. -/
namespace Go.Proofs.YtcfpmofmjnhonaaGreatDoor
open Go.RowKit

def searchL (k p : Nat) : Nat → Nat → Nat → Nat
  | 0, low, _ => low
  | f + 1, low, high => if low + 1 < high then (if aboveL ((low + high) / 2) k p then searchL k p f low ((low + high) / 2) else searchL k p f ((low + high) / 2) high) else low
def rootL (p k : Nat) : Nat := searchL k p 40 0 1099511627776 % 4294967296
end Go.Proofs.YtcfpmofmjnhonaaGreatDoor
/- The numbers of rounds, reckoned from roots of primes, are the tables'. -/
namespace Go.Proofs.YtcfpmofmjnhonaaGreatDoor
open Go.RowKit

theorem k_all : (List.range 64).all (fun i => rootL ((pl 310).getD i 0) 3 == kTab.getD i 0) = true := by decide +kernel
theorem k_root (i : Nat) (h : i < 64) : rootL ((pl 310).getD i 0) 3 = kTab.getD i 0 := by
  have := List.all_eq_true.1 k_all i (List.mem_range.2 h); simpa using this
end Go.Proofs.YtcfpmofmjnhonaaGreatDoor
/- The document's numbers of rounds: New. -/
namespace Go.Proofs.YtcfpmofmjnhonaaGreatDoor
open Go.RowKit

def partR (i j : Nat) : Value := if j < 8 then (if j < i then .int .u32 (W32 (iv j)) else .int .u32 0) else if j - 8 < i then .int .u32 (W32 (kOf (j - 8))) else .int .u32 0
structure NewRel (N : Nat) (w wr : World) (v : Value) (i : Nat) : Prop where
  below : Below N w wr
  own : Holds wr N 72 (partR i) 121
  row : Row wr (N + 1) 1 v 64 (i64s (pl 310))

end Go.Proofs.YtcfpmofmjnhonaaGreatDoor
/- The document's Set: the walk. -/
namespace Go.Proofs.YtcfpmofmjnhonaaGreatDoor
open Go.RowKit

structure SetRel (ob : Nat) (w wr : World) (L : List It) (x : It) (k : Nat) (v : Value) : Prop where
  below : Below w.heap.size w wr
  lt : w.heap.size < ob
  box : Holds wr w.heap.size 2 (fun i => if i = 0 then .string x.1 else .string x.2) 61
  own : Holds wr ob 1 (fun _ => v) 132
  row : Row wr (ob + 1) 2 v (others (L.take k) x).length (itCells (others (L.take k) x))
/-- The world behind an append to what the variable holds, and the store of it. -/
theorem SetRel.alloc {ob : Nat} {w wr : World} {L : List It} {x : It} {k : Nat} {v : Value} (h : SetRel ob w wr L x k v) (X : Obj) : SetRel ob w (wr.alloc X) L x k v :=
  ⟨h.below.alloc h.below.size _, h.lt, h.box.alloc _, h.own.alloc _, h.row.alloc _⟩
theorem SetRel.after {ob : Nat} {w w2 w3 : World} {L : List It} {x : It} {k : Nat} {v : Value} {X : Obj} (h : SetRel ob w w2 L x k v) (hg : (w2.alloc X).grownBy w3 v.ownBlock) : Holds w3 ob 1 (fun _ => v) 132 := by
  have hown := h.own
  have hob := hown.lt
  unfold Holds at hown ⊢
  rw [hg.block ob (by simp; omega) (fun e => by have := (h.row.lt ob e.symm).1; omega), Below.heap_alloc _ _ _ hob]
  exact hown
theorem SetRel.put {ob : Nat} {w w2 w3 : World} {L : List It} {x y : It} {k : Nat} {v v' : Value} {X : Obj} {K : List It} (h : SetRel ob w w2 L x k v) (hrow : Row w3 (ob + 1) 2 v' K.length (itCells K)) (hg : (w2.alloc X).grownBy w3 v.ownBlock) (_hy : y = y) :
    Below w.heap.size w (w3.setCell ⟨ob, 0, none⟩ v') ∧ Holds (w3.setCell ⟨ob, 0, none⟩ v') w.heap.size 2 (fun i => if i = 0 then .string x.1 else .string x.2) 61 ∧ Holds (w3.setCell ⟨ob, 0, none⟩ v') ob 1 (fun _ => v') 132 ∧
      Row (w3.setCell ⟨ob, 0, none⟩ v') (ob + 1) 2 v' K.length (itCells K) := by
  have hlt := h.lt
  have hb2 : Below w.heap.size w (w2.alloc X) := h.below.alloc h.below.size X
  have hob := h.own.lt
  have keep : ∀ c, c < w2.heap.size → c < ob + 1 → w3.heap[c]? = w2.heap[c]? := fun c hc hc2 =>
    (hg.block c (by simp; omega) (fun e => by have := (h.row.lt c e.symm).1; omega)).trans (Below.heap_alloc _ _ _ hc)
  have hbox := h.box
  have hown := h.own
  refine ⟨(hb2.grown hg (Nat.le_trans h.below.size (by simp)) (fun c hc => by have := (h.row.lt c hc).1; omega)).setCell (p := ⟨ob, 0, none⟩) (Nat.le_of_lt hlt) _, ?_, ?_, hrow.setOther (hrow.fresh (Nat.lt_succ_self _)) _⟩
  · refine Holds.other ?_ (a := ⟨ob, 0, none⟩) (by show w.heap.size ≠ ob; omega) v'
    have := hbox.lt
    unfold Holds at hbox ⊢; rw [keep _ this (by omega)]; exact hbox
  · have h4 : Holds w3 ob 1 (fun _ => v) 132 := by unfold Holds at hown ⊢; rw [keep _ hob (by omega)]; exact hown
    refine (h4.set 0 v').congr fun i hi => ?_
    have : i = 0 := by omega
    subst this; rfl
end Go.Proofs.YtcfpmofmjnhonaaGreatDoor
/- The document's items of a directory: the walk. -/
namespace Go.Proofs.YtcfpmofmjnhonaaGreatDoor
open Go.RowKit Go.Maps

structure ItRel (lb : Nat) (w wr : World) (K : List It) (v : Value) : Prop where
  below : Below w.heap.size w wr
  lt : w.heap.size ≤ lb
  own : Holds wr lb 1 (fun _ => v) 132
  row : Row wr (lb + 2) 2 v K.length (itCells K)
theorem ItRel.later {lb : Nat} {w wr w2 : World} {K : List It} {v : Value} (h : ItRel lb w wr K v) (hb : Below wr.heap.size wr w2) : ItRel lb w w2 K v :=
  ⟨h.below.trans (hb.mono h.below.size), h.lt, h.own.below hb h.own.lt, h.row.belowAll hb⟩
theorem ItRel.other {lb r : Nat} {w wr w2 : World} {K : List It} {v : Value} (h : ItRel lb w wr K v) (hg : wr.grownBy w2 (some r)) (hr : r = lb + 1) : ItRel lb w w2 K v := by
  subst hr
  refine ⟨h.below.grown hg h.below.size (fun k hk => by cases hk; have := h.lt; omega), h.lt, ?_, h.row.kept (fun k hk => hg.block k (h.row.lt k hk).2 (fun e => by cases e; have := (h.row.lt (lb + 1) hk).1; omega)) hg.size⟩
  have := h.own
  have hl := this.lt
  unfold Holds at this ⊢
  rw [hg.block lb hl (by simp)]; exact this
theorem ItRel.put {lb : Nat} {w w2 w3 : World} {K K' : List It} {v v' : Value} {X : Obj} (h : ItRel lb w w2 K v) (hrow : Row w3 (lb + 2) 2 v' K'.length (itCells K')) (hg : (w2.alloc X).grownBy w3 v.ownBlock) : ItRel lb w (w3.setCell ⟨lb, 0, none⟩ v') K' v' := by
  have hl := h.own.lt
  have hlt := h.lt
  have h4 : Holds w3 lb 1 (fun _ => v) 132 := by
    have hown := h.own
    unfold Holds at hown ⊢
    rw [hg.block lb (by simp; omega) (fun e => by have := (h.row.lt lb e.symm).1; omega), Below.heap_alloc _ _ _ hl]
    exact hown
  refine ⟨((h.below.alloc h.below.size X).grown hg (Nat.le_trans h.below.size (by simp)) (fun c hc => by have := (h.row.lt c hc).1; omega)).setCell (p := ⟨lb, 0, none⟩) hlt _, hlt, ?_, hrow.setOther (hrow.fresh (show lb < lb + 2 by omega)) _⟩
  refine (h4.set 0 v').congr fun i hi => ?_
  have : i = 0 := by omega
  subst this; rfl
theorem ItRel.after {lb : Nat} {w w2 w3 : World} {K : List It} {v : Value} {X : Obj} (h : ItRel lb w w2 K v) (hg : (w2.alloc X).grownBy w3 v.ownBlock) : Holds w3 lb 1 (fun _ => v) 132 := by
  have hown := h.own
  have hob := hown.lt
  unfold Holds at hown ⊢
  rw [hg.block lb (by simp; omega) (fun e => by have := (h.row.lt lb e.symm).1; omega), Below.heap_alloc _ _ _ hob]
  exact hown
end Go.Proofs.YtcfpmofmjnhonaaGreatDoor
/- A store into a map by its entry: 'm[s], .. = x, ..'. -/
namespace Go.Proofs.YtcfpmofmjnhonaaGreatDoor
open Go.RowKit Go.Maps Go.ChangeMaps

theorem MapIs.entry {α : Type} {K : MKind α} {w : World} {b : Nat} {L : List (ByteArray × α)} (h : MapIs K w b L) (hL : L.length ≤ 1000000) {s : ByteArray} (hs : s.size ≤ 1000000) {y : α} (hy : K.good y) :
    ∃ (v0 : Value) (st : Nat) (w1 : World), (Instr.mapEntry K.M (.map (some b)) (.string s)).run Tryz.prog w = .ok (.tuple #[v0, .int .i64 (st : Int)]) w1 ∧ w.grownBy w1 (some b) ∧ w1.heap.size = w.heap.size ∧
      ∀ w2 : World, w2.heap[b]? = w1.heap[b]? → ∃ w3, (Instr.entryStore K.M (.map (some b)) (.int .i64 (st : Int)) (K.wd y)).run Tryz.prog w2 = .ok () w3 ∧ MapIs K w3 b (ups L s y) ∧ w2.grownBy w3 (some b) ∧ w3.heap.size = w2.heap.size := by
  obtain ⟨wp, hput, hmp, hgp⟩ := h.put hL hs hy
  obtain ⟨⟨D, ⟨es, clock, hb, F, hsz, hD⟩, _⟩, _, _⟩ := h
  obtain ⟨v0, st, es1, clock1, hrun, _, hst⟩ := Go.WideElems.entry_then_store (WideMaps.string_law Tryz.underlying9) K.und (K.zer) hb F (keyS hs)
  have grown : ∀ (u : World) (e0 : Array MapEntry) (c0 : Nat) (Y : Obj), u.heap[b]? = some (.map e0 c0) → u.grownBy (setBlock u b Y) (some b) := fun u _ _ Y hu =>
    ⟨rfl, rfl, rfl, by simp [setBlock], fun i _ hi => heap_setBlock_other hu _ (fun e => hi (by rw [e]))⟩
  refine ⟨v0, st, _, hrun, grown w _ _ _ hb, by simp [setBlock], fun w2 h2 => ?_⟩
  have h2' : w2.heap[b]? = some (.map es1 clock1) := by rw [h2]; exact heap_setBlock_same hb _
  obtain ⟨es', clock', hr2, hu⟩ := hst w2 (K.wd y) h2'
  rw [hput] at hu
  have ew : wp = setBlock w b (.map es' clock') := by injection hu
  subst ew
  exact ⟨_, hr2, hmp.block (by rw [heap_setBlock_same h2' _, heap_setBlock_same hb _]), grown w2 _ _ _ h2', by simp [setBlock]⟩
end Go.Proofs.YtcfpmofmjnhonaaGreatDoor
/- The document's RightHead, HeadMark. -/
namespace Go.Proofs.YtcfpmofmjnhonaaGreatDoor
open Go.RowKit

theorem rightHead_facts {h : Hd} (e : rightHead h = true) : 0 < h.epoch ∧ h.root.size = 16 ∧ h.prev.size = 16 := by
  unfold rightHead at e
  simp at e
  exact ⟨e.1.1, e.1.2, e.2⟩
end Go.Proofs.YtcfpmofmjnhonaaGreatDoor
/- The document's Next. -/
namespace Go.Proofs.YtcfpmofmjnhonaaGreatDoor
open Go.RowKit

theorem infoHead : (Tryz.prog.info? 49).map (·.size) = some 3 := by kernel_rfl
/-- What stands in the next head's variable ahead of round k. -/
def nextUpto (L : List Hd) (root : ByteArray) (k : Nat) : Hd := if k = L.length ∧ 0 < L.length then afterHd (hdAt L (k - 1)) root else firstHd root
theorem nextUpto_last {L : List Hd} {root : ByteArray} {k : Nat} (h : k + 1 = L.length) : nextUpto L root (k + 1) = afterHd (hdAt L k) root := by
  unfold nextUpto; rw [if_pos (by omega)]; rfl
theorem last_of {L : List Hd} {k : Nat} (h : k + 1 = L.length) : L.getLast? = some (hdAt L k) := by
  rw [List.getLast?_eq_getElem?, ← h, Nat.add_sub_cancel, List.getElem?_eq_getElem (by omega), hdAt_of (by omega)]
theorem nextAns_bad {L : List Hd} {root : ByteArray} {k : Nat} (h : k + 1 = L.length) (hr : rightHead (hdAt L k) = false) : nextAns L root = (noHd, 1) := by
  unfold nextAns nextHd
  rw [last_of h]
  simp [hr]
theorem nextAns_upto {L : List Hd} {root : ByteArray} (hr : 0 < L.length → rightHead (hdAt L (L.length - 1)) = true) : nextAns L root = if rightHead (nextUpto L root L.length) = true then (nextUpto L root L.length, 0) else (noHd, 1) := by
  unfold nextAns nextHd
  rcases Nat.eq_zero_or_pos L.length with h | h
  · obtain rfl := List.eq_nil_of_length_eq_zero h
    rfl
  · obtain ⟨k, hk⟩ : ∃ k, k + 1 = L.length := ⟨L.length - 1, by omega⟩
    have h2 := hr h
    rw [← hk, Nat.add_sub_cancel] at h2
    rw [last_of hk, ← hk, nextUpto_last hk]
    simp [h2]
end Go.Proofs.YtcfpmofmjnhonaaGreatDoor
/- For the document's Publish: what a directory's memory becomes, and heads put behind one another. -/
namespace Go.Proofs.YtcfpmofmjnhonaaGreatDoor
open Go.RowKit Go.Maps

/-- A new map is laid, and waits. -/
theorem RDirM.fresh {F : Nat → Prop} {w : World} {p rb : Nat} {d : Dst} {bb g m1 m2 m3 : Nat} {v : Value} {M : List SgM} (h : RDirM F w p rb d bb g m1 m2 m3 v M) :
    RDirM (fun k => F k ∨ k = w.heap.size) ((w.alloc (.map #[] 0)).setCell ⟨p, 3, none⟩ (.map (some w.heap.size))) p rb { d with wait := [] } bb g w.heap.size m2 m3 v M := by
  have hlt := h.lt
  have hp := h.own.lt
  have hb := alloc_below w (.map #[] 0)
  have hs : Same (fun k => F k ∧ k ≠ p) w ((w.alloc (.map #[] 0)).setCell ⟨p, 3, none⟩ (.map (some w.heap.size))) := ⟨by simp [World.setCell], fun k hk => (Below.heap_setCell _ _ _ _ hk.2).trans (hb.block k (hlt k hk.1))⟩
  have hm : MapIs kS ((w.alloc (.map #[] 0)).setCell ⟨p, 3, none⟩ (.map (some w.heap.size))) w.heap.size [] := (MapIs.made kS w).block (Below.heap_setCell _ _ _ _ (show w.heap.size ≠ p by omega))
  have hp2 : m2 ≠ p := (holds_map h.own h.vals).symm
  have hp3 : m3 ≠ p := (holds_map h.own h.since).symm
  have hvp : ∀ k, v.ownBlock = some k → k ≠ p := fun k hk e => by have := (h.row.lt k hk).1; omega
  exact {
    own := by
      refine ((h.own.alloc (.map #[] 0)).set 3 (.map (some w.heap.size))).congr fun i hi => ?_
      unfold upd rdF
      rcases (show i = 0 ∨ i = 1 ∨ i = 2 ∨ i = 3 ∨ i = 4 ∨ i = 5 ∨ i = 6 by omega) with rfl | rfl | rfl | rfl | rfl | rfl | rfl <;> rfl
    box := h.box.same hs ⟨h.fb, by have := h.lb; omega⟩ ⟨h.fg, by have := h.lg; omega⟩
    wait := hm
    vals := h.vals.block (hs.block _ ⟨h.f2, hp2⟩)
    since := h.since.block (hs.block _ ⟨h.f3, hp3⟩)
    row := h.row.kept (fun k hk => hs.block k ⟨h.fv k hk, hvp k hk⟩) hs.size
    eps := h.eps
    sgs := fun m hm => by
      have h1 := (h.sgs m hm).same (hs.mono fun _ h => ⟨h.1, h.2.2.2.2.2⟩)
      exact h1.mono fun k hk => ⟨.inl hk.1, hk.2.1, by have := hlt k hk.1; omega, hk.2.2.2.1, hk.2.2.2.2.1, hk.2.2.2.2.2⟩
    fp := .inl h.fp, fb := .inl h.fb, fg := .inl h.fg, f1 := .inr rfl, f2 := .inl h.f2, f3 := .inl h.f3, fv := fun k hk => .inl (h.fv k hk)
    n12 := by have := hlt _ h.f2; omega
    n13 := by have := hlt _ h.f3; omega
    n23 := h.n23, lb := h.lb, lg := h.lg
    out := fun k hk => by
      have h1 := h.out k hk
      refine ⟨?_, h1.2⟩
      rcases hk with rfl | rfl | hk
      · have := hlt _ h.fb; omega
      · have := hlt _ h.fg; omega
      · have := hlt _ (h.fv k hk); omega
    lt := fun k hk => by
      have e : ((w.alloc (.map #[] 0)).setCell ⟨p, 3, none⟩ (.map (some w.heap.size))).heap.size = w.heap.size + 1 := by simp [World.setCell]
      rw [e]
      rcases hk with hk | rfl
      · have := hlt k hk; omega
      · omega }
end Go.Proofs.YtcfpmofmjnhonaaGreatDoor
/- The document's SealSign. -/
namespace Go.Proofs.YtcfpmofmjnhonaaGreatDoor
open Go.RowKit

theorem infoSeal : (Tryz.prog.info? 52).map (·.size) = some 3 := by kernel_rfl
theorem sealPath_length (seed : ByteArray) (key t : Nat) : (sealPath seed key t).length = t := by unfold sealPath; simp
theorem Strs.keep {w : World} {A : Option Addr} {L : List ByteArray} (h : Strs w A L) (x : Addr) (v : Value) (hx : ∀ a, A = some a → 0 < L.length → x.block < a.block) : Strs (w.setCell x v) A L := fun i p hp => by
  obtain ⟨a, ha, hl, hc⟩ := h i p hp
  have hn := hx a ha (by have := (List.getElem?_eq_some_iff.1 hp).1; omega)
  refine ⟨a, ha, by simp [World.setCell]; exact hl, ?_⟩
  have hb : (w.setCell x v).heap[(a.add i).block]? = w.heap[(a.add i).block]? := Below.heap_setCell _ _ _ _ (by rw [block_add]; omega)
  rw [← hc]
  unfold World.cell?
  rw [hb]
/-- The seal under way. -/
structure SealRel (pb : Nat) (w wr : World) (key : Int) (A : Option Addr) (ca : Nat) (S P : List ByteArray) (v : Value) : Prop where
  below : Below w.heap.size w wr
  lt : w.heap.size < pb
  res : Holds wr w.heap.size 3 (slF 0 (.slice none 0 0) (.slice none 0 0)) 52
  own : Holds wr pb 3 (slF key (.slice A S.length ca) v) 52
  sig : Strs wr A S
  sigLt : ∀ a, A = some a → 0 < S.length → a.block < pb
  row : Row wr (pb + 1) 1 v P.length (stCells P)
theorem SealRel.next {pb : Nat} {w wr w6 : World} {key : Int} {A : Option Addr} {ca : Nat} {S P : List ByteArray} {v v' : Value} {y : ByteArray} (h : SealRel pb w wr key A ca S P v)
    (hrow : Row w6 (pb + 1) 1 v' (P.length + 1) (stCells P ++ [.string y])) (hg : wr.drew.grownBy w6 v.ownBlock) : SealRel pb w (w6.setCell ⟨pb, 2, none⟩ v') key A ca S (P ++ [y]) v' := by
  have hlt := h.lt
  have hpb := h.own.lt
  have hv := fun j hj => (h.row.lt j hj).1
  have hG : Below (pb + 1) wr w6 := (show Below (pb + 1) wr wr.drew from (Below.refl _ _).drew).grown hg (show pb + 1 ≤ wr.heap.size from hpb) hv
  have hGp : Below pb wr (w6.setCell ⟨pb, 2, none⟩ v') := (hG.mono (Nat.le_succ pb)).setCell (p := ⟨pb, 2, none⟩) (Nat.le_refl _) v'
  refine ⟨h.below.trans (hGp.mono (by omega)), hlt, h.res.below hGp hlt, ?_, ?_, h.sigLt, ?_⟩
  · refine ((h.own.below hG (Nat.lt_succ_self pb)).set 2 v').congr fun i hi => ?_
    unfold upd slF
    rcases (show i = 0 ∨ i = 1 ∨ i = 2 by omega) with rfl | rfl | rfl <;> simp
  · intro i p hp
    obtain ⟨a, ha, hl, hc⟩ := h.sig i p hp
    have hap := h.sigLt a ha (by have := (List.getElem?_eq_some_iff.1 hp).1; omega)
    exact ⟨a, ha, Nat.lt_of_lt_of_le hl hGp.size, (hGp.cell (by rw [block_add]; exact hap)).trans hc⟩
  · have e : stCells (P ++ [y]) = stCells P ++ [.string y] := by simp [stCells]
    rw [List.length_append, e]
    exact hrow.setOther (hrow.fresh (Nat.lt_succ_self _)) _
structure SealZ (pb bb g i : Nat) (v u : Value) (y : ByteArray) where
  at' : World
  h0 : at'.cell? ⟨pb, 2, none⟩ = some v
  h1 : at'.cell? ⟨bb, 1, none⟩ = some u
  h2 : at'.cell? ⟨g, i, none⟩ = some (.string y)
end Go.Proofs.YtcfpmofmjnhonaaGreatDoor
/- The document's Lookup. -/
namespace Go.Proofs.YtcfpmofmjnhonaaGreatDoor
open Go.RowKit Go.Maps

/-- An answer in memory. -/
structure AnM where
  sg : SgM
  C : Option Addr
  cc : Nat
  a : Answ
def AnM.cells (m : AnM) : Array Value := #[.int .i64 m.sg.s.head.epoch, .string m.sg.s.head.root, .string m.sg.s.head.prev, .int .i64 m.sg.s.key, .slice m.sg.A m.sg.s.sig.length m.sg.ca, .slice m.sg.B m.sg.s.path.length m.sg.cb,
  .slice m.C m.a.path.length m.cc, .string m.a.leaf.1, .string m.a.leaf.2, .string m.a.opening, .string m.a.value]
def anF (m : SgM) (C : Option Addr) (n cc : Nat) (x : It) (o v : ByteArray) : Nat → Value := fun i =>
  [Value.int .i64 m.s.head.epoch, .string m.s.head.root, .string m.s.head.prev, .int .i64 m.s.key, .slice m.A m.s.sig.length m.ca, .slice m.B m.s.path.length m.cb, .slice C n cc, .string x.1, .string x.2, .string o, .string v].getD i undef
theorem infoAnsw : (Tryz.prog.info? 65).map (·.size) = some 11 := by kernel_rfl
def noM : SgM := ⟨noSgn, none, 0, none, 0⟩
def noAnF : Nat → Value := anF noM none 0 0 noIt ⟨#[]⟩ ⟨#[]⟩
theorem an_cells {w : World} {b : Nat} {m : SgM} {C : Option Addr} {n cc : Nat} {x : It} {o v : ByteArray} {t : TypeId} (h : Holds w b 11 (anF m C n cc x o v) t) :
    w.cell? ⟨b, 0, none⟩ = some (.int .i64 m.s.head.epoch) ∧ w.cell? ⟨b, 1, none⟩ = some (.string m.s.head.root) ∧ w.cell? ⟨b, 2, none⟩ = some (.string m.s.head.prev) ∧ w.cell? ⟨b, 3, none⟩ = some (.int .i64 m.s.key) ∧ w.cell? ⟨b, 4, none⟩ = some (.slice m.A m.s.sig.length m.ca) ∧
    w.cell? ⟨b, 5, none⟩ = some (.slice m.B m.s.path.length m.cb) ∧ w.cell? ⟨b, 6, none⟩ = some (.slice C n cc) ∧ w.cell? ⟨b, 7, none⟩ = some (.string x.1) ∧ w.cell? ⟨b, 8, none⟩ = some (.string x.2) ∧ w.cell? ⟨b, 9, none⟩ = some (.string o) ∧ w.cell? ⟨b, 10, none⟩ = some (.string v) :=
  ⟨h.cell 0 (by omega), h.cell 1 (by omega), h.cell 2 (by omega), h.cell 3 (by omega), h.cell 4 (by omega), h.cell 5 (by omega), h.cell 6 (by omega), h.cell 7 (by omega), h.cell 8 (by omega), h.cell 9 (by omega), h.cell 10 (by omega)⟩
/-- All eleven cells written, one behind the other. -/
def put11 (w : World) (b : Nat) (m : SgM) (C : Option Addr) (n cc : Nat) (x : It) (o v : ByteArray) : World := (((((((((((w.setCell ⟨b, 0, none⟩ (.int .i64 m.s.head.epoch)).setCell ⟨b, 1, none⟩ (.string m.s.head.root)).setCell ⟨b, 2, none⟩ (.string m.s.head.prev)).setCell ⟨b, 3, none⟩ (.int .i64 m.s.key)).setCell ⟨b, 4, none⟩ (.slice m.A m.s.sig.length m.ca)).setCell ⟨b, 5, none⟩ (.slice m.B m.s.path.length m.cb)).setCell ⟨b, 6, none⟩ (.slice C n cc)).setCell ⟨b, 7, none⟩ (.string x.1)).setCell ⟨b, 8, none⟩ (.string x.2)).setCell ⟨b, 9, none⟩ (.string o)).setCell ⟨b, 10, none⟩ (.string v))
theorem put11_holds {w : World} {b : Nat} {f : Nat → Value} {t : TypeId} (h : Holds w b 11 f t) (m : SgM) (C : Option Addr) (n cc : Nat) (x : It) (o v : ByteArray) : Holds (put11 w b m C n cc x o v) b 11 (anF m C n cc x o v) t := by
  refine ((((((((((((h.set 0 _).set 1 _).set 2 _).set 3 _).set 4 _).set 5 _).set 6 _).set 7 _).set 8 _).set 9 _).set 10 _)).congr fun i hi => ?_
  unfold upd
  rcases (show i = 0 ∨ i = 1 ∨ i = 2 ∨ i = 3 ∨ i = 4 ∨ i = 5 ∨ i = 6 ∨ i = 7 ∨ i = 8 ∨ i = 9 ∨ i = 10 by omega) with rfl | rfl | rfl | rfl | rfl | rfl | rfl | rfl | rfl | rfl | rfl <;> rfl
theorem put11_below {B : Nat} {u w : World} (h : Below B u w) {b : Nat} (hb : B ≤ b) (m : SgM) (C : Option Addr) (n cc : Nat) (x : It) (o v : ByteArray) : Below B u (put11 w b m C n cc x o v) :=
  (((((((((((h.setCell (p := ⟨b, 0, none⟩) hb _).setCell (p := ⟨b, 1, none⟩) hb _).setCell (p := ⟨b, 2, none⟩) hb _).setCell (p := ⟨b, 3, none⟩) hb _).setCell (p := ⟨b, 4, none⟩) hb _).setCell (p := ⟨b, 5, none⟩) hb _).setCell (p := ⟨b, 6, none⟩) hb _).setCell (p := ⟨b, 7, none⟩) hb _).setCell (p := ⟨b, 8, none⟩) hb _).setCell (p := ⟨b, 9, none⟩) hb _).setCell (p := ⟨b, 10, none⟩) hb _)
theorem put11_strs {w : World} {A : Option Addr} {L : List ByteArray} (h : Strs w A L) {b : Nat} (hb : ∀ a, A = some a → 0 < L.length → b < a.block) (m : SgM) (C : Option Addr) (n cc : Nat) (x : It) (o v : ByteArray) : Strs (put11 w b m C n cc x o v) A L :=
  (((((((((((h.keep ⟨b, 0, none⟩ _ hb).keep ⟨b, 1, none⟩ _ hb).keep ⟨b, 2, none⟩ _ hb).keep ⟨b, 3, none⟩ _ hb).keep ⟨b, 4, none⟩ _ hb).keep ⟨b, 5, none⟩ _ hb).keep ⟨b, 6, none⟩ _ hb).keep ⟨b, 7, none⟩ _ hb).keep ⟨b, 8, none⟩ _ hb).keep ⟨b, 9, none⟩ _ hb).keep ⟨b, 10, none⟩ _ hb)
theorem Strs.keep' {w : World} {A : Option Addr} {L : List ByteArray} (h : Strs w A L) {ab : Nat} (hb : ∀ a, A = some a → 0 < L.length → a.block < ab) (i : Nat) (v : Value) : Strs (w.setCell ⟨ab, i, none⟩ v) A L := fun j p hp => by
  obtain ⟨a, ha, hl, hc⟩ := h j p hp
  have := hb a ha (by have := (List.getElem?_eq_some_iff.1 hp).1; omega)
  exact ⟨a, ha, by simpa [World.setCell] using hl, (World.cell?_of_block (w := w) (a := a.add j) (by rw [block_add]; exact Below.heap_setCell _ _ _ _ (show a.block ≠ ab by omega))).trans hc⟩
structure AnIn (w : World) (m : AnM) (a : Answ) : Prop where
  is : m.a = a
  sgn : m.sg.s = a.sgn
  sig : Strs w m.sg.A a.sgn.sig
  path : Strs w m.sg.B a.sgn.path
  way : Strs w m.C a.path
  cap : a.sgn.sig.length ≤ m.sg.ca
/-- Its signed head's texts lie in F, its way's are new. -/
structure AnAt (F : Nat → Prop) (w : World) (m : AnM) : Prop where
  sig : ∀ a, m.sg.A = some a → 0 < m.sg.s.sig.length → F a.block
  path : ∀ a, m.sg.B = some a → 0 < m.sg.s.path.length → F a.block
  way : ∀ a, m.C = some a → 0 < m.a.path.length → w.heap.size ≤ a.block
end Go.Proofs.YtcfpmofmjnhonaaGreatDoor
/- One more epoch, written into a directory's memory. -/
namespace Go.Proofs.YtcfpmofmjnhonaaGreatDoor
open Go.RowKit Go.Maps

/-- An epoch was appended, and the new list stored. -/
theorem RDirM.pushed {F : Nat → Prop} {u w7 : World} {X : Obj} {N p rb bb g m1 m2 m3 : Nat} {d : Dst} {v v' : Value} {M : List SgM} (h : RDirM F u p rb d bb g m1 m2 m3 v M) (hN : ∀ k, F k → k < N) (m : SgM)
    (hs : Strs u m.A m.s.sig) (hp : Strs u m.B m.s.path) (hk : m.s.sig.length ≤ m.ca) (ha : ∀ a, m.A = some a → 0 < m.s.sig.length → N ≤ a.block) (hb : ∀ a, m.B = some a → 0 < m.s.path.length → N ≤ a.block)
    (hrow : Row w7 (p + 1) 6 v' (M.length + 1) (sgCells M ++ m.cells)) (hg : (u.alloc X).grownBy w7 v.ownBlock) (hm : Moved (u.alloc X) v v') (hNu : N ≤ u.heap.size) :
    RDirM (fun k => (F k ∨ N ≤ k) ∧ k < w7.heap.size) (w7.setCell ⟨p, 6, none⟩ v') p rb { d with eps := d.eps ++ [m.s] } bb g m1 m2 m3 v' (M ++ [m]) := by
  have hz : u.heap.size < w7.heap.size := by have := hg.size; simp at this; omega
  have hvp : v.ownBlock ≠ some p := h.row.fresh (Nat.lt_succ_self p)
  have hvp' : v'.ownBlock ≠ some p := hrow.fresh (Nat.lt_succ_self p)
  have hpu := h.own.lt
  have hblk : ∀ k, k < u.heap.size → v.ownBlock ≠ some k → k ≠ p → (w7.setCell ⟨p, 6, none⟩ v').heap[k]? = u.heap[k]? := fun k hk hv hkp =>
    (Below.heap_setCell _ _ _ _ hkp).trans ((hg.block k (by simp; omega) (fun e => hv e.symm)).trans ((alloc_below u X).block k hk))
  have hsz : u.heap.size ≤ (w7.setCell ⟨p, 6, none⟩ v').heap.size := by simp [World.setCell]; omega
  have hS : Same (fun k => k < u.heap.size ∧ v.ownBlock ≠ some k ∧ k ≠ p) u (w7.setCell ⟨p, 6, none⟩ v') := ⟨hsz, fun k hk => hblk k hk.1 hk.2.1 hk.2.2⟩
  have hmp : ∀ k, k = m1 ∨ k = m2 ∨ k = m3 → v.ownBlock ≠ some k ∧ k ≠ p := fun k hk => by
    refine ⟨fun e => ?_, fun e => ?_⟩
    · have := h.out k (.inr (.inr e))
      rcases hk with rfl | rfl | rfl
      · exact this.1 rfl
      · exact this.2.1 rfl
      · exact this.2.2 rfl
    · rcases hk with rfl | rfl | rfl
      · exact holds_map h.own h.wait e.symm
      · exact holds_map h.own h.vals e.symm
      · exact holds_map h.own h.since e.symm
  have hvb : ∀ k, k < p → v.ownBlock ≠ some k := fun k hk e => by have := (h.row.lt k e).1; omega
  have hlt : ∀ k, F k → k < u.heap.size := h.lt
  have hnew : ∀ k, v'.ownBlock = some k → v.ownBlock = some k ∨ u.heap.size ≤ k := fun k hk => by
    rcases hm with e | e
    · exact .inl (e ▸ hk)
    · have := e k hk
      simp at this
      exact .inr (by omega)
  have hG : ∀ k, F k → (F k ∨ N ≤ k) ∧ k < w7.heap.size := fun k hk => ⟨.inl hk, by have := hlt k hk; omega⟩
  exact {
    own := by
      have h0 : Holds w7 p 7 (rdF rb bb m1 m2 m3 d.secret v) 43 := by
        have h1 := h.own
        unfold Holds at h1 ⊢
        rw [hg.block p (by simp; omega) (fun e => hvp e.symm), (alloc_below u X).block p hpu]
        exact h1
      refine (h0.set 6 v').congr fun i hi => ?_
      unfold upd rdF
      rcases (show i = 0 ∨ i = 1 ∨ i = 2 ∨ i = 3 ∨ i = 4 ∨ i = 5 ∨ i = 6 by omega) with rfl | rfl | rfl | rfl | rfl | rfl | rfl <;> rfl
    box := h.box.same hS ⟨hlt _ h.fb, hvb _ h.lb, by have := h.lb; omega⟩ ⟨hlt _ h.fg, hvb _ h.lg, by have := h.lg; omega⟩
    wait := h.wait.block (hS.block _ ⟨hlt _ h.f1, hmp _ (.inl rfl)⟩)
    vals := h.vals.block (hS.block _ ⟨hlt _ h.f2, hmp _ (.inr (.inl rfl))⟩)
    since := h.since.block (hS.block _ ⟨hlt _ h.f3, hmp _ (.inr (.inr rfl))⟩)
    row := by
      rw [List.length_append, sgCells_snoc]
      exact hrow.setOther hvp' _
    eps := by rw [List.map_append, h.eps]; rfl
    sgs := fun x hx => by
      rcases List.mem_append.1 hx with hx | hx
      · have h1 := (h.sgs x hx).same (w' := w7.setCell ⟨p, 6, none⟩ v') ⟨hsz, fun k hk => hblk k (hlt k hk.1) hk.2.1 hk.2.2.2.2.2⟩
        refine h1.mono fun k hk => ⟨hG k hk.1, fun e => ?_, hk.2.2⟩
        rcases hnew k e with e | e
        · exact hk.2.1 e
        · have := hlt k hk.1; omega
      · obtain rfl := List.mem_singleton.1 hx
        have hin : ∀ k, k < u.heap.size → N ≤ k → ((F k ∨ N ≤ k) ∧ k < w7.heap.size) ∧ v'.ownBlock ≠ some k ∧ k ≠ m1 ∧ k ≠ m2 ∧ k ≠ m3 ∧ k ≠ p := fun k hk hNk =>
          ⟨⟨.inr hNk, by omega⟩, (fun e => by
            rcases hnew k e with e | e
            · have := hN k (h.fv k e); omega
            · omega), by have := hN _ h.f1; omega, by have := hN _ h.f2; omega, by have := hN _ h.f3; omega, by have := hN _ h.fp; omega⟩
        have hkeep : ∀ (A : Option Addr) (L : List ByteArray), Strs u A L → (∀ a, A = some a → 0 < L.length → N ≤ a.block) → Strs (w7.setCell ⟨p, 6, none⟩ v') A L ∧ ∀ a, A = some a → 0 < L.length → a.block < u.heap.size := fun A L hL hA => by
          have hlt2 : ∀ a, A = some a → 0 < L.length → a.block < u.heap.size := fun a e hl => by
            obtain ⟨a', e', hlt', _⟩ := hL 0 _ (List.getElem?_eq_getElem hl)
            rw [e] at e'
            obtain rfl := Option.some.inj e'
            exact hlt'
          refine ⟨Strs.same hL (fun a e hl => ?_) hS, hlt2⟩
          have h1 := hA a e hl
          exact ⟨hlt2 a e hl, fun e2 => by have := hN _ (h.fv _ e2); omega, by have := hN _ h.fp; omega⟩
        obtain ⟨k1, k2⟩ := hkeep _ _ hs ha
        obtain ⟨k3, k4⟩ := hkeep _ _ hp hb
        exact ⟨k1, k3, fun a e hl => hin _ (k2 a e hl) (ha a e hl), fun a e hl => hin _ (k4 a e hl) (hb a e hl), hk⟩
    fp := hG _ h.fp
    fb := hG _ h.fb
    fg := hG _ h.fg
    f1 := hG _ h.f1
    f2 := hG _ h.f2
    f3 := hG _ h.f3
    fv := fun k hk => by
      refine ⟨?_, (hrow.lt k hk).2⟩
      rcases hnew k hk with e | e
      · exact .inl (h.fv k e)
      · exact .inr (by omega)
    n12 := h.n12
    n13 := h.n13
    n23 := h.n23
    lb := h.lb
    lg := h.lg
    out := fun k hk => by
      rcases hk with rfl | rfl | hk
      · exact h.out _ (.inl rfl)
      · exact h.out _ (.inr (.inl rfl))
      · rcases hnew k hk with e | e
        · exact h.out _ (.inr (.inr e))
        · have h1 := hlt _ h.f1
          have h2 := hlt _ h.f2
          have h3 := hlt _ h.f3
          omega
    lt := fun k hk => by
      have : (w7.setCell ⟨p, 6, none⟩ v').heap.size = w7.heap.size := by simp [World.setCell]
      rw [this]
      exact hk.2 }
def sgF (h : Hd) (key : Int) (u v : Value) : Nat → Value := fun i => [Value.int .i64 h.epoch, .string h.root, .string h.prev, .int .i64 key, u, v].getD i undef
theorem grown_keeps {w w' : World} {b n c : Nat} {f : Nat → Value} {t : TypeId} (h : Holds w b n f t) (hg : w.grownBy w' (some c)) (hne : b ≠ c) : Holds w' b n f t := by
  have hl := h.lt
  unfold Holds at h ⊢
  rw [hg.block b hl (by simpa using hne)]; exact h
structure PubZ (p yb sb : Nat) (v : Value) (y : Hd) (kk : Int) (a b : Value) where
  at' : World
  h0 : at'.cell? ⟨p, 6, none⟩ = some v
  h1 : at'.cell? ⟨yb, 0, none⟩ = some (.int .i64 y.epoch)
  h2 : at'.cell? ⟨yb, 1, none⟩ = some (.string y.root)
  h3 : at'.cell? ⟨yb, 2, none⟩ = some (.string y.prev)
  h4 : at'.cell? ⟨sb, 0, none⟩ = some (.int .i64 kk)
  h5 : at'.cell? ⟨sb, 1, none⟩ = some a
  h6 : at'.cell? ⟨sb, 2, none⟩ = some b
theorem infoSg6 : (Tryz.prog.info? 54).map (·.size) = some 6 := by kernel_rfl
def put6 (w : World) (b : Nat) (h : Hd) (key : Int) (u v : Value) : World := (((((w.setCell ⟨b, 0, none⟩ (.int .i64 h.epoch)).setCell ⟨b, 1, none⟩ (.string h.root)).setCell ⟨b, 2, none⟩ (.string h.prev)).setCell ⟨b, 3, none⟩ (.int .i64 key)).setCell ⟨b, 4, none⟩ u).setCell ⟨b, 5, none⟩ v
theorem put6_holds {w : World} {b : Nat} {f : Nat → Value} {t : TypeId} (h0 : Holds w b 6 f t) (h : Hd) (key : Int) (u v : Value) : Holds (put6 w b h key u v) b 6 (sgF h key u v) t := by
  refine ((((((h0.set 0 _).set 1 _).set 2 _).set 3 _).set 4 _).set 5 _).congr fun i hi => ?_
  rcases (show i = 0 ∨ i = 1 ∨ i = 2 ∨ i = 3 ∨ i = 4 ∨ i = 5 by omega) with rfl | rfl | rfl | rfl | rfl | rfl <;> rfl
theorem put6_block (w : World) (b : Nat) (h : Hd) (key : Int) (u v : Value) (k : Nat) (hk : k ≠ b) : (put6 w b h key u v).heap[k]? = w.heap[k]? := by
  unfold put6
  rw [Below.heap_setCell _ _ _ _ hk, Below.heap_setCell _ _ _ _ hk, Below.heap_setCell _ _ _ _ hk, Below.heap_setCell _ _ _ _ hk, Below.heap_setCell _ _ _ _ hk, Below.heap_setCell _ _ _ _ hk]
theorem put6_size (w : World) (b : Nat) (h : Hd) (key : Int) (u v : Value) : (put6 w b h key u v).heap.size = w.heap.size := by unfold put6; simp [World.setCell]
theorem put6_below {B : Nat} {u w : World} (h0 : Below B u w) {b : Nat} (hb : B ≤ b) (h : Hd) (key : Int) (x v : Value) : Below B u (put6 w b h key x v) :=
  (((((h0.setCell hb _).setCell hb _).setCell hb _).setCell hb _).setCell hb _).setCell hb _
end Go.Proofs.YtcfpmofmjnhonaaGreatDoor
