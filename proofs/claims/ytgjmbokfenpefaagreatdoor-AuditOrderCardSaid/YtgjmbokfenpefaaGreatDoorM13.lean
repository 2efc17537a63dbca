/- Parts of the proof, one behind the other: VNew, PDir, RDirN, DirF, Part, PHalves, PHds, Back, ProofLaw, PSeek, PLay, ClientF. -/
import Derived.WalkKit
import Derived.Lib.Hide
import Derived.WalkLawsBesides
import Derived.Deep.QuietTactic
import Derived.Deep.WholeRow
import Derived.ArgAppend
import Derived.Laws.AppendOwnNone
import Derived.Laws.CopyRow
import Derived.Deep.RegionLaw
import Derived.Laws.BytesString
import Derived.Laws.IdiomStrings
import Derived.Test.YtgjmbokfenpefaaGreatDoorProg
import Derived.Laws.BitsAllLaws
import Derived.Outline
import Derived.BigQuiet
import Derived.Laws.CopyOwn
import Derived.RegionTactic
import Derived.StillTail
import Derived.Deep.Quiet
import Derived.Deep.RegionHeld3
import Derived.Deep.DeepCutAuto
import Derived.Laws.ResultCell
import Derived.IntWalk
import Derived.Sort.Walk0
import Derived.Tactics
import Derived.Orders
import Derived.LaidEql
import Derived.Stop.Asserts
import Derived.RowKitTokens
import Derived.OrdersHeld
import Derived.Laws.StructEq
import Derived.RangeFuncNested
import Derived.RangeFuncBound
import Derived.RangeFuncCalls
import Derived.RangeFuncLeaves
import Derived.Shelf.Abstract
import Derived.Shelf.RegionOpen
import Derived.OwnWalkIn
import Derived.TacticsInMore
import Derived.LoopNIn
import Derived.LoopIn
import Derived.OrdersIn
import Derived.TacticsIn
import Derived.StringKeys
import Derived.Maps.Own
import Derived.Maps.Views
import Derived.Maps.OwnSet
import Derived.Maps.OwnOps
import Derived.Maps.RangeWalk
import Derived.Sort.KeysCollected
import Derived.Sort.LotA
import Derived.Lib.SortBridge
import Derived.Deep.AppendSrc
import Derived.Shelf.SlSortFuncK.WholeK
import Derived.Ground.GgsProg
import Derived.Shelf.GgSortFunc.Tiny
import Derived.Shelf.Strings.Repeat
import Derived.KernelRfl
import Derived.WideKeyEntry
import Derived.Deep.CutRange
import Derived.Shelf.Small.Strs
import Derived.Shelf.SlGeneric
import Derived.Shelf.SlIter.Nil
import Derived.Shelf.SortM.Plain
import Derived.Shelf.SortM.SortNone
import Derived.Ground.GgzProg
import Derived.Ground.SlgmProg
import Derived.Test.YtgjmbokfenpefaaGreatDoorM1
import Derived.Test.YtgjmbokfenpefaaGreatDoorM2
import Derived.Test.YtgjmbokfenpefaaGreatDoorM3
import Derived.Test.YtgjmbokfenpefaaGreatDoorM4
import Derived.Test.YtgjmbokfenpefaaGreatDoorM5
import Derived.Test.YtgjmbokfenpefaaGreatDoorM6
import Derived.Test.YtgjmbokfenpefaaGreatDoorM7
import Derived.Test.YtgjmbokfenpefaaGreatDoorM8
import Derived.Test.YtgjmbokfenpefaaGreatDoorM9
import Derived.Test.YtgjmbokfenpefaaGreatDoorM10
import Derived.Test.YtgjmbokfenpefaaGreatDoorM12
/- The program's boxes: how they lie, and New. -/
namespace Go.Proofs.YtgjmbokfenpefaaGreatDoor
open Go.RowKit

def vbF (seed : ByteArray) (v : Value) (p : ByteArray) : Nat → Value := fun i => if i = 0 then .string seed else if i = 1 then v else .string p
/-- A row in memory, of blocks from B on. -/
def RowAt (B : Nat) (w : World) (bb : Nat) (v : Value) (seed : ByteArray) (t : Nat) (u : Value) : Prop :=
  ∃ g c, u = .slice (some ⟨g, 0, none⟩) (rowLen t) c ∧ rowLen t ≤ c ∧ g < w.heap.size ∧ g ≠ bb ∧ v.ownBlock ≠ some g ∧ Strs w (some ⟨g, 0, none⟩) (lvl seed t) ∧ B ≤ g
/-- While a box is made: n rows are in it, the row t is at hand. -/
structure NewAt (w : World) (bb : Nat) (seed : ByteArray) (n t : Nat) (row v : Value) (wr : World) : Prop where
  below : Below w.heap.size w wr
  lb : w.heap.size ≤ bb
  own : Holds wr bb 3 (vbF seed v ⟨#[]⟩) 220
  apart : v.ownBlock ≠ some bb
  cur : RowAt w.heap.size wr bb v seed t row
  rows : ∃ xs, Row wr w.heap.size 1 v n xs ∧ ∀ j u, xs[j]? = some u → RowAt w.heap.size wr bb v seed j u
theorem strs_block {w w' : World} {g : Nat} {L : List ByteArray} (h : Strs w (some ⟨g, 0, none⟩) L) (hb : w'.heap[g]? = w.heap[g]?) (hz : w.heap.size ≤ w'.heap.size) : Strs w' (some ⟨g, 0, none⟩) L := fun i p hp => by
  obtain ⟨a, ha, hl, hc⟩ := h i p hp
  cases ha
  rw [add_none] at hc
  exact ⟨_, rfl, Nat.lt_of_lt_of_le hl hz, by rw [add_none]; exact (World.cell?_of_block (w := w) (a := ⟨g, 0 + i, none⟩) hb).trans hc⟩
theorem RowAt.below {B : Nat} {w w' : World} {bb : Nat} {v : Value} {seed : ByteArray} {t : Nat} {u : Value} (h : RowAt B w bb v seed t u) (hb : Below w.heap.size w w') : RowAt B w' bb v seed t u := by
  obtain ⟨g, c, h1, h2, h3, h4, h5, h6, h7⟩ := h
  exact ⟨g, c, h1, h2, Nat.lt_of_lt_of_le h3 hb.size, h4, h5, h6.below hb, h7⟩
theorem RowAt.next {B : Nat} {w w' : World} {bb : Nat} {v v' : Value} {seed : ByteArray} {t : Nat} {u : Value} (h : RowAt B w bb v seed t u) (hg : w.grownBy w' v.ownBlock) (hm : Moved w v v') : RowAt B (w'.setCell ⟨bb, 1, none⟩ v') bb v' seed t u := by
  obtain ⟨g, c, h1, h2, h3, h4, h5, h6, h7⟩ := h
  have hz : w.heap.size ≤ (w'.setCell ⟨bb, 1, none⟩ v').heap.size := by have := hg.size; simp [World.setCell]; exact this
  refine ⟨g, c, h1, h2, Nat.lt_of_lt_of_le h3 hz, h4, ?_, strs_block h6 ?_ hz, h7⟩
  · rcases hm with e | e
    · rw [e]; exact h5
    · intro e2; have := e g e2; omega
  · rw [Below.heap_setCell _ _ _ _ h4]
    exact hg.block g h3 (fun e => h5 e.symm)
/-- The row at hand is put in. -/
theorem NewAt.put {w wr w4 : World} {bb : Nat} {seed : ByteArray} {n t : Nat} {row v v' : Value} {xs : List Value} (h : NewAt w bb seed n t row v wr) (hnt : t = n)
    (hx : Row wr w.heap.size 1 v n xs) (hxs : ∀ j u, xs[j]? = some u → RowAt w.heap.size wr bb v seed j u)
    (hrow : Row w4 w.heap.size 1 v' (n + 1) (xs ++ [row])) (hg : wr.grownBy w4 v.ownBlock) (hm : Moved wr v v') : NewAt w bb seed (n + 1) t row v' (w4.setCell ⟨bb, 1, none⟩ v') := by
  have hlb := h.lb
  have hbw : bb < wr.heap.size := h.own.lt
  have hap : v'.ownBlock ≠ some bb := by
    rcases hm with e | e
    · rw [e]; exact h.apart
    · intro e2; have := e bb e2; omega
  refine ⟨(h.below.grown hg h.below.size (fun k hk => (hx.lt k hk).1)).setCell (p := ⟨bb, 1, none⟩) (by show w.heap.size ≤ bb; omega) _, hlb, ?_, hap, h.cur.next hg hm, xs ++ [row], hrow.setOther hap _, ?_⟩
  · have h4 : Holds w4 bb 3 (vbF seed v ⟨#[]⟩) 220 := by
      have := h.own
      unfold Holds at this ⊢
      rw [hg.block bb (lt_of_block this) (fun e => h.apart e.symm)]; exact this
    refine (h4.set 1 v').congr fun i hi => ?_
    unfold upd vbF
    rcases (show i = 0 ∨ i = 1 ∨ i = 2 by omega) with rfl | rfl | rfl <;> simp
  · intro j u hj
    have hxl : xs.length = n := by have := hx.1; omega
    by_cases hjn : j < n
    · rw [List.getElem?_append_left (by omega)] at hj
      exact (hxs j u hj).next hg hm
    · rw [List.getElem?_append_right (by omega)] at hj
      have hj0 : j - xs.length = 0 := by have := (List.getElem?_eq_some_iff.1 hj).1; simp at this; omega
      rw [hj0] at hj
      obtain rfl : row = u := by simpa using hj
      obtain rfl : j = t := by omega
      exact h.cur.next hg hm
/-- The row above is at hand. -/
theorem NewAt.up {w wr w' : World} {bb : Nat} {seed : ByteArray} {n t : Nat} {row v : Value} (h : NewAt w bb seed n t row v wr) (hb : Below wr.heap.size wr w') {g c : Nat} (hc : rowLen (t + 1) ≤ c) (hg : wr.heap.size ≤ g) (hgl : g < w'.heap.size) (hs : Strs w' (some ⟨g, 0, none⟩) (lvl seed (t + 1))) :
    NewAt w bb seed n (t + 1) (.slice (some ⟨g, 0, none⟩) (rowLen (t + 1)) c) v w' := by
  obtain ⟨xs, hx, hxs⟩ := h.rows
  have hbw : bb < wr.heap.size := h.own.lt
  exact ⟨h.below.trans (hb.mono h.below.size), h.lb, h.own.below hb h.own.lt, h.apart, ⟨g, c, rfl, hc, hgl, by omega, (fun e => by have := (hx.lt g e).2; omega), hs, Nat.le_trans h.below.size hg⟩, xs, hx.belowAll hb, fun j u hj => (hxs j u hj).below hb⟩

/-- A box of the program's, its blocks all of G. -/
def SealIn (G : Nat → Prop) (w : World) (p : Addr) (seed : ByteArray) : Prop :=
  ∃ bb gr rc, p = ⟨bb, 0, none⟩ ∧ bb < w.heap.size ∧ gr < w.heap.size ∧ w.cell? ⟨bb, 0, none⟩ = some (.string seed) ∧ w.cell? ⟨bb, 1, none⟩ = some (.slice (some ⟨gr, 0, none⟩) 3 rc) ∧ w.cell? ⟨bb, 2, none⟩ = some (.string (boxPub seed)) ∧ G bb ∧ G gr ∧
    ∀ j, j < 3 → ∃ g c, w.cell? ⟨gr, j, none⟩ = some (.slice (some ⟨g, 0, none⟩) (rowLen j) c) ∧ Strs w (some ⟨g, 0, none⟩) (lvl seed j) ∧ G g
/-- A box of the program's. -/
def SealIs (w : World) (p : Addr) (seed : ByteArray) : Prop :=
  ∃ bb gr rc, p = ⟨bb, 0, none⟩ ∧ bb < w.heap.size ∧ gr < w.heap.size ∧ w.cell? ⟨bb, 0, none⟩ = some (.string seed) ∧ w.cell? ⟨bb, 1, none⟩ = some (.slice (some ⟨gr, 0, none⟩) 3 rc) ∧ w.cell? ⟨bb, 2, none⟩ = some (.string (boxPub seed)) ∧
    ∀ j, j < 3 → ∃ g c, w.cell? ⟨gr, j, none⟩ = some (.slice (some ⟨g, 0, none⟩) (rowLen j) c) ∧ Strs w (some ⟨g, 0, none⟩) (lvl seed j)
theorem SealIn.is {G : Nat → Prop} {w : World} {p : Addr} {seed : ByteArray} (h : SealIn G w p seed) : SealIs w p seed := by
  obtain ⟨bb, gr, rc, h1, h2, h3, h4, h5, h6, _, _, h7⟩ := h
  refine ⟨bb, gr, rc, h1, h2, h3, h4, h5, h6, fun j hj => ?_⟩
  obtain ⟨g, c, h8, h9, _⟩ := h7 j hj
  exact ⟨g, c, h8, h9⟩
theorem SealIn.mono {F G : Nat → Prop} {w : World} {p : Addr} {seed : ByteArray} (h : SealIn F w p seed) (hG : ∀ k, F k → k < w.heap.size → G k) : SealIn G w p seed := by
  obtain ⟨bb, gr, rc, h1, h2, h3, h4, h5, h6, g1, g2, h7⟩ := h
  refine ⟨bb, gr, rc, h1, h2, h3, h4, h5, h6, hG _ g1 h2, hG _ g2 h3, fun j hj => ?_⟩
  obtain ⟨g, c, h8, h9, h10⟩ := h7 j hj
  refine ⟨g, c, h8, h9, hG _ h10 ?_⟩
  obtain ⟨a, ha, hl, _⟩ := h9 0 _ (List.getElem?_eq_getElem (by rw [lvl_length seed j (by omega)]; unfold rowLen; rcases (show j = 0 ∨ j = 1 ∨ j = 2 by omega) with rfl | rfl | rfl <;> decide))
  cases ha
  exact hl
theorem SealIn.block {G : Nat → Prop} {w w' : World} {p : Addr} {seed : ByteArray} (h : SealIn G w p seed) (hz : w.heap.size ≤ w'.heap.size) (hb : ∀ k, G k → w'.heap[k]? = w.heap[k]?) : SealIn G w' p seed := by
  obtain ⟨bb, gr, rc, h1, h2, h3, h4, h5, h6, g1, g2, h7⟩ := h
  refine ⟨bb, gr, rc, h1, Nat.lt_of_lt_of_le h2 hz, Nat.lt_of_lt_of_le h3 hz, (World.cell?_of_block (w := w) (a := ⟨bb, 0, none⟩) (hb bb g1)).trans h4, (World.cell?_of_block (w := w) (a := ⟨bb, 1, none⟩) (hb bb g1)).trans h5, (World.cell?_of_block (w := w) (a := ⟨bb, 2, none⟩) (hb bb g1)).trans h6, g1, g2, fun j hj => ?_⟩
  obtain ⟨g, c, h8, h9, h10⟩ := h7 j hj
  exact ⟨g, c, (World.cell?_of_block (w := w) (a := ⟨gr, j, none⟩) (hb gr g2)).trans h8, strs_block h9 (hb g h10) hz, h10⟩
theorem SealIs.below {w w' : World} {p : Addr} {seed : ByteArray} (h : SealIs w p seed) (hb : Below w.heap.size w w') : SealIs w' p seed := by
  obtain ⟨bb, gr, rc, h1, h2, h3, h4, h5, h6, h7⟩ := h
  refine ⟨bb, gr, rc, h1, Nat.lt_of_lt_of_le h2 hb.size, Nat.lt_of_lt_of_le h3 hb.size, (hb.cell (p := ⟨bb, 0, none⟩) h2).trans h4, (hb.cell (p := ⟨bb, 1, none⟩) h2).trans h5, (hb.cell (p := ⟨bb, 2, none⟩) h2).trans h6, fun j hj => ?_⟩
  obtain ⟨g, c, h8, h9⟩ := h7 j hj
  exact ⟨g, c, (hb.cell (p := ⟨gr, j, none⟩) h3).trans h8, h9.below hb⟩
theorem NewAt.done {w wr : World} {bb : Nat} {seed : ByteArray} {row v : Value} (h : NewAt w bb seed 3 3 row v wr) : SealIn (fun k => w.heap.size ≤ k) (wr.setCell ⟨bb, 2, none⟩ (.string (boxPub seed))) ⟨bb, 0, none⟩ seed := by
  obtain ⟨xs, hx, hxs⟩ := h.rows
  have hz : wr.heap.size ≤ (wr.setCell ⟨bb, 2, none⟩ (.string (boxPub seed))).heap.size := by simp [World.setCell]
  have hx2 := hx.setOther (a := ⟨bb, 2, none⟩) h.apart (.string (boxPub seed))
  obtain ⟨gr, rc, rfl, hgb, hgl, _, hc, _⟩ := hx2.shape (by omega)
  have hH : Holds (wr.setCell ⟨bb, 2, none⟩ (.string (boxPub seed))) bb 3 (vbF seed (.slice (some ⟨gr, 0, none⟩) 3 rc) (boxPub seed)) 220 := (h.own.set 2 _).congr fun i hi => by
    unfold upd vbF
    rcases (show i = 0 ∨ i = 1 ∨ i = 2 by omega) with rfl | rfl | rfl <;> simp
  refine ⟨bb, gr, rc, rfl, Nat.lt_of_lt_of_le h.own.lt hz, hgl, hH.cell 0 (by omega), hH.cell 1 (by omega), hH.cell 2 (by omega), h.lb, hgb, fun j hj => ?_⟩
  have hjl : j < xs.length := by have := hx.1; omega
  obtain ⟨g, c, e, _, hg, hne, _, hs, hgw⟩ := hxs j xs[j] (List.getElem?_eq_getElem hjl)
  exact ⟨g, c, (hc j xs[j] (List.getElem?_eq_getElem hjl)).trans (by rw [e]), strs_block hs (Below.heap_setCell _ _ _ _ hne) hz, hgw⟩
end Go.Proofs.YtgjmbokfenpefaaGreatDoor
/- The program's directory in memory. -/
namespace Go.Proofs.YtgjmbokfenpefaaGreatDoor
open Go.RowKit Go.Maps

def pdF (secret : ByteArray) (bb : Addr) (mh mw : Nat) (vi ve : Value) : Nat → Value := fun i => [Value.string secret, .pointer (some bb), .map (some mh), .map (some mw), vi, ve].getD i undef
/-- Blocks of its own that it never writes. -/
def Calm (F : Nat → Prop) (p mh mw : Nat) (ve : Value) (k : Nat) : Prop := F k ∧ k ≠ p ∧ k ≠ mh ∧ k ≠ mw ∧ ve.ownBlock ≠ some k
theorem Itms.same {F : Nat → Prop} {w w' : World} {A : Option Addr} {L : List It} (h : Itms w A L) (hf : ∀ a, A = some a → 0 < L.length → F a.block) (hs : Same F w w') : Itms w' A L := fun i p hp => by
  obtain ⟨a, ha, hl, hc, hd⟩ := h i p hp
  have hF := hf a ha (by have := (List.getElem?_eq_some_iff.1 hp).1; omega)
  exact ⟨a, ha, Nat.lt_of_lt_of_le hl hs.size, (hs.cell (by rw [block_add]; exact hF)).trans hc, (hs.cell (by rw [block_add, block_add]; exact hF)).trans hd⟩
/-- The items lie in blocks of G. -/
def ItsIn (G : Nat → Prop) (w : World) (vi : Value) (I : List It) : Prop := ∃ A c, vi = .slice A I.length c ∧ I.length ≤ c ∧ Itms w A I ∧ ∀ a, A = some a → 0 < I.length → G a.block
theorem ItsIn.same {G : Nat → Prop} {w w' : World} {vi : Value} {I : List It} (h : ItsIn G w vi I) (hs : Same G w w') : ItsIn G w' vi I := by
  obtain ⟨A, c, h1, h2, h3, h4⟩ := h
  exact ⟨A, c, h1, h2, h3.same h4 hs, h4⟩
theorem ItsIn.mono {G H : Nat → Prop} {w : World} {vi : Value} {I : List It} (h : ItsIn G w vi I) (hG : ∀ k, G k → H k) : ItsIn H w vi I := by
  obtain ⟨A, c, h1, h2, h3, h4⟩ := h
  exact ⟨A, c, h1, h2, h3, fun a e l => hG _ (h4 a e l)⟩
/-- The texts of a signed head lie in blocks of G. -/
structure SgLie (G : Nat → Prop) (w : World) (m : SgM) : Prop where
  sig : Strs w m.A m.s.sig
  path : Strs w m.B m.s.path
  fs : ∀ a, m.A = some a → 0 < m.s.sig.length → G a.block
  fp : ∀ a, m.B = some a → 0 < m.s.path.length → G a.block
theorem SgLie.same {G : Nat → Prop} {w w' : World} {m : SgM} (h : SgLie G w m) (hs : Same G w w') : SgLie G w' m := ⟨h.sig.same h.fs hs, h.path.same h.fp hs, h.fs, h.fp⟩
theorem SgLie.mono {F G : Nat → Prop} {w : World} {m : SgM} (h : SgLie F w m) (hG : ∀ k, F k → G k) : SgLie G w m := ⟨h.sig, h.path, fun a e l => hG _ (h.fs a e l), fun a e l => hG _ (h.fp a e l)⟩
/-- The directory at block p: its box, what names have (H), what waits (W), its items (I), its epochs (M), all of F. -/
structure DMem (F : Nat → Prop) (w : World) (p : Nat) (secret : ByteArray) (bb : Addr) (mh mw : Nat) (vi ve : Value) (H : List (ByteArray × (ByteArray × ByteArray))) (W : List (ByteArray × ByteArray)) (I : List It) (M : List SgM) : Prop where
  own : Holds w p 6 (pdF secret bb mh mw vi ve) 157
  box : SealIn (Calm F p mh mw ve) w bb (dirSeed secret)
  has : MapIs kH w mh H
  wait : MapIs kS w mw W
  its : ItsIn (Calm F p mh mw ve) w vi I
  row : Row w (p + 1) 6 ve M.length (sgCells M)
  sgs : ∀ m ∈ M, SgLie (Calm F p mh mw ve) w m
  fp : F p
  fh : F mh
  fw : F mw
  fv : ∀ k, ve.ownBlock = some k → F k
  hw : mh ≠ mw
  lh : mh < p
  lw : mw < p
  lt : ∀ k, F k → k < w.heap.size
theorem DMem.calm {F : Nat → Prop} {w w' : World} {p : Nat} {secret : ByteArray} {bb : Addr} {mh mw : Nat} {vi ve : Value} {H : List (ByteArray × (ByteArray × ByteArray))} {W : List (ByteArray × ByteArray)} {I : List It} {M : List SgM}
    (h : DMem F w p secret bb mh mw vi ve H W I M) (hs : Same (Calm F p mh mw ve) w w') : SealIn (Calm F p mh mw ve) w' bb (dirSeed secret) ∧ ItsIn (Calm F p mh mw ve) w' vi I ∧ ∀ m ∈ M, SgLie (Calm F p mh mw ve) w' m :=
  ⟨h.box.block hs.size hs.block, h.its.same hs, fun m hm => (h.sgs m hm).same hs⟩
theorem DMem.apart {F : Nat → Prop} {w : World} {p : Nat} {secret : ByteArray} {bb : Addr} {mh mw : Nat} {vi ve : Value} {H : List (ByteArray × (ByteArray × ByteArray))} {W : List (ByteArray × ByteArray)} {I : List It} {M : List SgM}
    (h : DMem F w p secret bb mh mw vi ve H W I M) : ve.ownBlock ≠ some p ∧ ve.ownBlock ≠ some mh ∧ ve.ownBlock ≠ some mw :=
  ⟨h.row.fresh (Nat.lt_succ_self p), h.row.fresh (by have := h.lh; omega), h.row.fresh (by have := h.lw; omega)⟩
theorem DMem.same {F : Nat → Prop} {w w' : World} {p : Nat} {secret : ByteArray} {bb : Addr} {mh mw : Nat} {vi ve : Value} {H : List (ByteArray × (ByteArray × ByteArray))} {W : List (ByteArray × ByteArray)} {I : List It} {M : List SgM}
    (h : DMem F w p secret bb mh mw vi ve H W I M) (hs : Same F w w') : DMem F w' p secret bb mh mw vi ve H W I M := by
  obtain ⟨c1, c2, c3⟩ := h.calm (hs.mono fun _ h => h.1)
  exact {
    own := by have := h.own; unfold Holds at this ⊢; rw [hs.block p h.fp]; exact this
    box := c1
    has := h.has.block (hs.block _ h.fh)
    wait := h.wait.block (hs.block _ h.fw)
    its := c2
    row := h.row.kept (fun k hk => hs.block k (h.fv k hk)) hs.size
    sgs := c3
    fp := h.fp, fh := h.fh, fw := h.fw, fv := h.fv, hw := h.hw, lh := h.lh, lw := h.lw
    lt := fun k hk => Nat.lt_of_lt_of_le (h.lt k hk) hs.size }
theorem DMem.wide {F G : Nat → Prop} {w : World} {p : Nat} {secret : ByteArray} {bb : Addr} {mh mw : Nat} {vi ve : Value} {H : List (ByteArray × (ByteArray × ByteArray))} {W : List (ByteArray × ByteArray)} {I : List It} {M : List SgM}
    (h : DMem F w p secret bb mh mw vi ve H W I M) (hG : ∀ k, F k → G k) (lt : ∀ k, G k → k < w.heap.size) : DMem G w p secret bb mh mw vi ve H W I M := by
  have hC : ∀ k, Calm F p mh mw ve k → Calm G p mh mw ve k := fun k hk => ⟨hG k hk.1, hk.2⟩
  exact {
    own := h.own
    box := h.box.mono fun k hk _ => hC k hk
    has := h.has
    wait := h.wait
    its := h.its.mono hC
    row := h.row
    sgs := fun m hm => (h.sgs m hm).mono hC
    fp := hG _ h.fp, fh := hG _ h.fh, fw := hG _ h.fw, fv := fun k hk => hG _ (h.fv k hk), hw := h.hw, lh := h.lh, lw := h.lw
    lt := lt }
/-- What names have says what the directory knows. -/
def Says (d : Dst) (H : List (ByteArray × (ByteArray × ByteArray))) : Prop := ∀ s, look H s = (look d.vals s).map fun v => (openOf d s, v)
/-- The program's directory at block p. -/
def PDir (F : Nat → Prop) (w : World) (p : Nat) (d : Dst) : Prop := ∃ bb mh mw vi ve H M, DMem F w p d.secret bb mh mw vi ve H d.wait (overIts d) M ∧ M.map (·.s) = d.eps ∧ Says d H
theorem PDir.same {F : Nat → Prop} {w w' : World} {p : Nat} {d : Dst} (h : PDir F w p d) (hs : Same F w w') : PDir F w' p d := by
  obtain ⟨bb, mh, mw, vi, ve, H, M, h, h2⟩ := h
  exact ⟨bb, mh, mw, vi, ve, H, M, h.same hs, h2⟩
theorem PDir.lt {F : Nat → Prop} {w : World} {p : Nat} {d : Dst} (h : PDir F w p d) : ∀ k, F k → k < w.heap.size := by
  obtain ⟨bb, mh, mw, vi, ve, H, M, h, h2⟩ := h
  exact h.lt
theorem PDir.below {F : Nat → Prop} {w w' : World} {p : Nat} {d : Dst} (h : PDir F w p d) (hb : Below w.heap.size w w') : PDir F w' p d := h.same (same_of_below hb h.lt)
end Go.Proofs.YtgjmbokfenpefaaGreatDoor
/- The document's NewDir. -/
namespace Go.Proofs.YtgjmbokfenpefaaGreatDoor
open Go.RowKit

theorem BoxRel.at' {bb : Nat} {w wr : World} {seed : ByteArray} {v : Value} (h : BoxRel bb w wr seed (rowsOf seed) v) : ∃ g, bb + 1 ≤ g ∧ BoxAt wr bb g seed := by
  have hl : (rowsOf seed).length = 15 := rowsUpto_length seed 7
  obtain ⟨g, rc, rfl, hgb, hg, _, hc, _⟩ := h.row.shape (by omega)
  refine ⟨g, hgb, h.own.lt, hg, h.own.cell 0 (by omega), rc, by have := h.own.cell 1 (by omega); rw [hl] at this; exact this, fun k hk => hc k _ ?_⟩
  unfold stCells
  rw [List.getElem?_map, List.getD_eq_getElem?_getD, List.getElem?_eq_getElem (by omega)]
  rfl
end Go.Proofs.YtgjmbokfenpefaaGreatDoor
/- What the program's directory answers (a Face). -/
namespace Go.Proofs.YtgjmbokfenpefaaGreatDoor
open Go.RowKit

/-- Signed heads in memory, their texts too. -/
def Sgs (w : World) (A : Option Addr) (M : List SgM) : Prop := ∀ (i : Nat) m, M[i]? = some m → ∃ a, A = some a ∧ a.block < w.heap.size ∧ w.cell? (a.add (i * 6)) = some (.int .i64 m.s.head.epoch) ∧ w.cell? ((a.add (i * 6)).add 1) = some (.string m.s.head.root) ∧ w.cell? ((a.add (i * 6)).add 2) = some (.string m.s.head.prev) ∧
  w.cell? ((a.add (i * 6)).add 3) = some (.int .i64 m.s.key) ∧ w.cell? ((a.add (i * 6)).add 4) = some (.slice m.A m.s.sig.length m.ca) ∧ w.cell? ((a.add (i * 6)).add 5) = some (.slice m.B m.s.path.length m.cb) ∧ Strs w m.A m.s.sig ∧ Strs w m.B m.s.path ∧ m.s.sig.length ≤ m.ca
theorem Sgs.below {w w' : World} {A : Option Addr} {M : List SgM} (h : Sgs w A M) (hb : Below w.heap.size w w') : Sgs w' A M := fun i m hm => by
  obtain ⟨a, ha, hl, c0, c1, c2, c3, c4, c5, hs, hp, hc⟩ := h i m hm
  exact ⟨a, ha, Nat.lt_of_lt_of_le hl hb.size, (hb.cell (by rw [block_add]; exact hl)).trans c0, (hb.cell (by rw [block_add, block_add]; exact hl)).trans c1, (hb.cell (by rw [block_add, block_add]; exact hl)).trans c2, (hb.cell (by rw [block_add, block_add]; exact hl)).trans c3, (hb.cell (by rw [block_add, block_add]; exact hl)).trans c4, (hb.cell (by rw [block_add, block_add]; exact hl)).trans c5, hs.below hb, hp.below hb, hc⟩

/-- It lies in what is its own, or is new. -/
def Near (F : Nat → Prop) (w : World) (A : Option Addr) (n : Nat) : Prop := ∀ b, A = some b → 0 < n → F b.block ∨ w.heap.size ≤ b.block
theorem Near.apart {F G : Nat → Prop} {w : World} {A : Option Addr} {n : Nat} (h : Near F w A n) (hd : ∀ k, F k → ¬ G k) (hl : ∀ k, G k → k < w.heap.size) : ∀ b, A = some b → 0 < n → ¬ G b.block := fun b e l g => by
  rcases h b e l with h1 | h1
  · exact hd _ h1 g
  · have := hl _ g; omega
/-- What the program's directories answer; F are the blocks that are one's own. -/
structure DirFace where
  pa : Pub
  Is : (Nat → Prop) → World → Nat → Dst → Prop
  lt : ∀ {F : Nat → Prop} {w : World} {p : Nat} {d : Dst}, Is F w p d → ∀ k, F k → k < w.heap.size
  same : ∀ {F : Nat → Prop} {w w' : World} {p : Nat} {d : Dst}, Is F w p d → Same F w w' → Is F w' p d
  new_t : ∀ (secret : ByteArray) (w : World), secret.size = 16 → HasK w → Calls Tryz.prog 52 #[.string secret] w fun e w' => ∃ (p : Nat) (F : Nat → Prop), e = .returned (.tuple #[.pointer (some ⟨p, 0, none⟩), .nilIface]) ∧ Below w.heap.size w w' ∧ Is F w' p (newDst secret) ∧ ∀ k, F k → w.heap.size ≤ k
  new_f : ∀ (secret : ByteArray) (w : World), ¬ secret.size = 16 → HasK w → secret.size ≤ 1000000 → Calls Tryz.prog 52 #[.string secret] w fun e w' => e = .returned (.tuple #[.pointer none, errOf 1]) ∧ Below w.heap.size w w'
  pub : ∀ (F : Nat → Prop) (p : Nat) (d : Dst) (w : World), Is F w p d → DOk d → HasK w → Calls Tryz.prog 26 #[.pointer (some ⟨p, 0, none⟩)] w fun e w' => e = .returned (.string (boxPub (dirSeed d.secret))) ∧ Below w.heap.size w w'
  put : ∀ (F : Nat → Prop) (p : Nat) (d d' : Dst) (name value : ByteArray) (n : Int) (w : World), Is F w p d → DOk d → HasK w → name.size ≤ 1000000 → value.size ≤ 1000000 → putAns d name value = (d', n) →
    Calls Tryz.prog 53 #[.pointer (some ⟨p, 0, none⟩), .string name, .string value] w fun e w' => e = .returned (errOf n) ∧ ∃ F' : Nat → Prop, Off F w w' ∧ Grew w F F' ∧ Is F' w' p d'
  publish : ∀ (F : Nat → Prop) (p : Nat) (d d' : Dst) (sg : Sgn) (n : Int) (w : World), Is F w p d → DOk d → HasK w → pa.f d = (d', sg, n) →
    Calls Tryz.prog 54 #[.pointer (some ⟨p, 0, none⟩)] w fun e w' => ∃ (m : SgM) (F' : Nat → Prop), m.s = sg ∧ e = .returned (.tuple #[.agg #[.int .i64 sg.head.epoch, .string sg.head.root, .string sg.head.prev, .int .i64 sg.key, .slice m.A sg.sig.length m.ca, .slice m.B sg.path.length m.cb], errOf n]) ∧ Off F w w' ∧ Grew w F F' ∧ Is F' w' p d' ∧ Strs w' m.A sg.sig ∧ Strs w' m.B sg.path ∧ Near F w m.A sg.sig.length ∧ Near F w m.B sg.path.length
  lookup : ∀ (F : Nat → Prop) (p : Nat) (d : Dst) (name : ByteArray) (a : Answ) (n : Int) (w : World), Is F w p d → DOk d → HasK w → name.size ≤ 1000000 → pa.tells d name = (a, n) →
    Calls Tryz.prog 56 #[.pointer (some ⟨p, 0, none⟩), .string name] w fun e w' => ∃ m : AnM, e = .returned (.tuple #[.agg m.cells, errOf n]) ∧ Below w.heap.size w w' ∧ AnIn w' m a ∧ Near F w m.sg.A a.sgn.sig.length ∧ Near F w m.sg.B a.sgn.path.length ∧ Near F w m.C a.path.length
  epochs : ∀ (F : Nat → Prop) (p : Nat) (d : Dst) (w : World), Is F w p d → DOk d → HasK w → Calls Tryz.prog 27 #[.pointer (some ⟨p, 0, none⟩)] w fun e w' => ∃ A cap M, e = .returned (.slice A M.length cap) ∧ M.map SgM.s = d.eps ∧ M.length ≤ cap ∧ Below w.heap.size w w' ∧ Sgs w' A M ∧ Near F w A M.length ∧ ∀ m ∈ M, Near F w m.A m.s.sig.length ∧ Near F w m.B m.s.path.length

/-- Both directories, each apart from the other. -/
structure Ds (DF : DirFace) (w1 wr : World) (pw pd rb : Nat) (Fw Fd : Nat → Prop) (d d2 : Dst) : Prop where
  below : Below w1.heap.size w1 wr
  rd : RDir Fw wr pw rb d
  pd : DF.Is Fd wr pd d2
  bw : ∀ k, Fw k → w1.heap.size ≤ k
  bd : ∀ k, Fd k → w1.heap.size ≤ k
  ap : ∀ k, Fd k → ¬ Fw k
theorem Ds.calm {DF : DirFace} {w1 wr w2 : World} {pw pd rb : Nat} {Fw Fd : Nat → Prop} {d d2 : Dst} (h : Ds DF w1 wr pw pd rb Fw Fd d d2) (hb : Below wr.heap.size wr w2) : Ds DF w1 w2 pw pd rb Fw Fd d d2 where
  below := h.below.trans (hb.mono h.below.size)
  rd := h.rd.below hb
  pd := DF.same h.pd (same_of_below hb (DF.lt h.pd))
  bw := h.bw
  bd := h.bd
  ap := h.ap
theorem Ds.prog {DF : DirFace} {w1 wr w2 : World} {pw pd rb : Nat} {Fw Fd Fd' : Nat → Prop} {d d2 d2' : Dst} (h : Ds DF w1 wr pw pd rb Fw Fd d d2) (ho : Off Fd wr w2) (hg : Grew wr Fd Fd') (hp : DF.Is Fd' w2 pd d2') : Ds DF w1 w2 pw pd rb Fw Fd' d d2' where
  below := h.below.trans (ho.below h.bd h.below.size)
  rd := h.rd.same (ho.same h.rd.lt fun k hw hd => h.ap k hd hw)
  pd := hp
  bw := h.bw
  bd := hg.base h.bd h.below.size
  ap := fun k hk hw => by
    rcases hg k hk with e | e
    · exact h.ap k e hw
    · have := h.rd.lt k hw; omega
/-- What lies apart from a directory's blocks stays. -/
theorem Holds.off {F : Nat → Prop} {w w' : World} {b n : Nat} {f : Nat → Value} {t : TypeId} (h : Holds w b n f t) (ho : Off F w w') (hn : ¬ F b) : Holds w' b n f t := by
  have hl := h.lt
  unfold Holds at h ⊢
  rw [ho.block b hl hn]; exact h
theorem AnIn.later {w w' : World} {m : AnM} {a : Answ} (h : AnIn w m a) (hb : Below w.heap.size w w') : AnIn w' m a := ⟨h.is, h.sgn, h.sig.below hb, h.path.below hb, h.way.below hb, h.cap⟩
end Go.Proofs.YtgjmbokfenpefaaGreatDoor
/- Parts of a list of items: l[:r], l[r:]. -/
namespace Go.Proofs.YtgjmbokfenpefaaGreatDoor
open Go.RowKit

def partAt (A : Option Addr) (cap r : Nat) : Option Addr := if cap = r then A else A.map (·.add (r * 2))
theorem Itms.take {w : World} {A : Option Addr} {L : List It} (h : Itms w A L) (r : Nat) : Itms w A (L.take r) := fun i x hx => by
  rw [List.getElem?_take] at hx
  split at hx
  · exact h i x hx
  · cases hx
theorem Itms.drop {w : World} {A : Option Addr} {L : List It} (h : Itms w A L) {cap r : Nat} (hc : L.length ≤ cap) : Itms w (partAt A cap r) (L.drop r) := fun i x hx => by
  rw [List.getElem?_drop] at hx
  obtain ⟨a, rfl, hl, c0, c1⟩ := h _ x hx
  have hlt := (List.getElem?_eq_some_iff.1 hx).1
  unfold partAt
  rw [if_neg (by omega)]
  have e : (a.add (r * 2)).add (i * 2) = a.add ((r + i) * 2) := by rw [add_add', show r * 2 + i * 2 = (r + i) * 2 by omega]
  exact ⟨a.add (r * 2), rfl, by rw [block_add]; exact hl, by rw [e]; exact c0, by rw [e]; exact c1⟩
end Go.Proofs.YtgjmbokfenpefaaGreatDoor
/- The program's Halves: the library's search, and two copies. -/
namespace Go.Proofs.YtgjmbokfenpefaaGreatDoor
open Go.RowKit

theorem Row.cap {w : World} {base size n c : Nat} {p : Option Addr} {xs : List Value} (h : Row w base size (.slice p n c) n xs) : n ≤ c := by
  obtain ⟨_, hr⟩ := h
  rcases hr with ⟨hr, rfl⟩ | ⟨g, cap', hv, _, _, hle, _⟩
  · exact Nat.zero_le _
  · injection hv with _ _ e3
    omega
end Go.Proofs.YtgjmbokfenpefaaGreatDoor
/- The program's directory: its heads. -/
namespace Go.Proofs.YtgjmbokfenpefaaGreatDoor
open Go.RowKit Go.Maps

/-- Signed heads in memory, their cells alone. -/
def SixAt (w : World) (A : Option Addr) (M : List SgM) : Prop := ∀ (i : Nat) m, M[i]? = some m → ∃ a, A = some a ∧ a.block < w.heap.size ∧ w.cell? (a.add (i * 6)) = some (.int .i64 m.s.head.epoch) ∧ w.cell? ((a.add (i * 6)).add 1) = some (.string m.s.head.root) ∧ w.cell? ((a.add (i * 6)).add 2) = some (.string m.s.head.prev) ∧
  w.cell? ((a.add (i * 6)).add 3) = some (.int .i64 m.s.key) ∧ w.cell? ((a.add (i * 6)).add 4) = some (.slice m.A m.s.sig.length m.ca) ∧ w.cell? ((a.add (i * 6)).add 5) = some (.slice m.B m.s.path.length m.cb)
theorem SixAt.below {w w' : World} {A : Option Addr} {M : List SgM} (h : SixAt w A M) (hb : Below w.heap.size w w') : SixAt w' A M := fun i m hm => by
  obtain ⟨a, ha, hl, c0, c1, c2, c3, c4, c5⟩ := h i m hm
  exact ⟨a, ha, Nat.lt_of_lt_of_le hl hb.size, (hb.cell (by rw [block_add]; exact hl)).trans c0, (hb.cell (by rw [block_add, block_add]; exact hl)).trans c1, (hb.cell (by rw [block_add, block_add]; exact hl)).trans c2, (hb.cell (by rw [block_add, block_add]; exact hl)).trans c3, (hb.cell (by rw [block_add, block_add]; exact hl)).trans c4, (hb.cell (by rw [block_add, block_add]; exact hl)).trans c5⟩
end Go.Proofs.YtgjmbokfenpefaaGreatDoor
/- slices.Backward over strings: what its rounds are handed, in what order. -/
namespace Go.Proofs.YtgjmbokfenpefaaGreatDoor
open Go.RowKit Go.Shelf
attribute [local go_sem] Oper.semAt_some

/-- The texts lie below n₀. -/
def StrsAt (n₀ : Nat) (w : World) (A : Option Addr) (L : List ByteArray) : Prop := ∀ (i : Nat) p, L[i]? = some p → ∃ a, A = some a ∧ a.block < n₀ ∧ w.cell? (a.add i) = some (.string p)
theorem StrsAt.below {n₀ : Nat} {w w' : World} {A : Option Addr} {L : List ByteArray} (h : StrsAt n₀ w A L) (hb : Below n₀ w w') : StrsAt n₀ w' A L := fun i p hp => by
  obtain ⟨a, ha, hl, hc⟩ := h i p hp
  exact ⟨a, ha, hl, (hb.cell (by rw [block_add]; exact hl)).trans hc⟩

end Go.Proofs.YtgjmbokfenpefaaGreatDoor
/- ProofLeads, the walk, over whatever contracts the program's proofs keep. -/
namespace Go.Proofs.YtgjmbokfenpefaaGreatDoor
open Go.RowKit

/-- What the program answers of proofs. -/
structure ProofFace : Prop where
  right : ∀ (ix : ByteArray) (P : List ByteArray) (A : Option Addr) (cap : Nat) (x : It) (w : World), HasK w → P.length ≤ 1000000 → Strs w A P → ix.size ≤ 1000000 → x.1.size ≤ 1000000 → x.2.size ≤ 1000000 →
    Calls Tryz.prog 215 #[.string ix, .agg #[.slice A P.length cap, .string x.1, .string x.2]] w fun e w' => e = .returned (.bool (rightProof ix P x)) ∧ Below w.heap.size w w'
  root : ∀ (ix : ByteArray) (P : List ByteArray) (A : Option Addr) (cap : Nat) (x : It) (s : ByteArray) (n : Int) (w : World), HasK w → P.length ≤ 1000000 → Strs w A P → ix.size ≤ 1000000 → x.1.size ≤ 1000000 → x.2.size ≤ 1000000 → proofRootAns ix P x = (s, n) →
    Calls Tryz.prog 160 #[.string ix, .agg #[.slice A P.length cap, .string x.1, .string x.2]] w fun e w' => e = .returned (.tuple #[.string s, errOf n]) ∧ Below w.heap.size w w'
  verify : ∀ (root ix : ByteArray) (P : List ByteArray) (A : Option Addr) (cap : Nat) (x : It) (c : ByteArray) (t : Bool) (n : Int) (w : World), HasK w → P.length ≤ 1000000 → Strs w A P → ix.size ≤ 1000000 → x.1.size ≤ 1000000 → x.2.size ≤ 1000000 → verifyAns root ix P x = (c, t, n) →
    Calls Tryz.prog 97 #[.string root, .string ix, .agg #[.slice A P.length cap, .string x.1, .string x.2]] w fun e w' => e = .returned (.tuple #[.string c, .bool t, errOf n]) ∧ Below w.heap.size w w'
  commit : ∀ (o v c : ByteArray) (n : Int) (w : World), HasK w → o.size ≤ 1000000 → v.size ≤ 1000000 → commitAns o v = (c, n) →
    Calls Tryz.prog 161 #[.string o, .string v] w fun e w' => e = .returned (.tuple #[.string c, errOf n]) ∧ Below w.heap.size w w'

end Go.Proofs.YtgjmbokfenpefaaGreatDoor
/- Where an index lies, or would: the library's binary search over the program's comparison. -/
namespace Go.Proofs.YtgjmbokfenpefaaGreatDoor
open Go.RowKit

/-- A place, and whether it is there. -/
structure Spot where
  p : Nat
  b : Bool
structure Spot.Of (s : Spot) (L : List It) (x : It) : Prop where
  le : s.p ≤ L.length
  low : ∀ i, i < s.p → i < L.length → ltI (itAt L i) x
  there : s.b = true → s.p < L.length ∧ (itAt L s.p).1 = x.1
  high : s.b = false → ∀ i, s.p ≤ i → i < L.length → ltI x (itAt L i)
end Go.Proofs.YtgjmbokfenpefaaGreatDoor
/- The program's directory: items laid over items, names in their order. -/
namespace Go.Proofs.YtgjmbokfenpefaaGreatDoor
open Go.RowKit Go.Maps

def bytesOf (s : ByteArray) : List UInt8 := s.data.toList
def textOf (l : List UInt8) : ByteArray := ⟨l.toArray⟩
theorem text_bytes (s : ByteArray) : textOf (bytesOf s) = s := by
  obtain ⟨⟨l⟩⟩ := s
  rfl
theorem bytes_text (l : List UInt8) : bytesOf (textOf l) = l := rfl
/-- A map's keys, as what it reads as has them. -/
theorem MapIs.strs {α : Type} {K : MKind α} {w : World} {b : Nat} {L : List (ByteArray × α)} (h : MapIs K w b L) :
    ∃ D : DataW Unit, w.ownsMap Tryz.prog 9 K.R b L.length D ∧ Maps.size D = L.length ∧ ∀ ss : List (List UInt8), ss.Perm (strKeys D) → ss.Perm ((keysL L).map bytesOf) := by
  obtain ⟨⟨D, hown, hr⟩, hk, hs⟩ := h
  refine ⟨D, hown, hr.size, fun ss hp => hp.trans ?_⟩
  obtain ⟨es, hD, hpw, _⟩ := hown.entries lawS
  obtain ⟨es', hD', hko⟩ := hown.keysOf
  obtain rfl : es = es' := by rw [hD] at hD'; simpa using hD'
  subst hD
  have hnd : ((keysL L).map bytesOf).Nodup := by
    unfold List.Nodup
    rw [List.pairwise_map]
    exact hk.imp fun {a b} hne e => hne (by rw [← text_bytes a, e, text_bytes])
  refine (perm_strKeys hpw (fun p hp => by obtain ⟨v, hv⟩ := hko p hp; obtain ⟨x, _, hx, _⟩ := Maps.keyOf_str Tryz.underlying9 hv; exact ⟨x, hx⟩) hnd (fun x => ?_)).symm
  have hx : (Lit.string x) = mkey (textOf x) := rfl
  rw [hx, hr.has, look_isSome, List.mem_map]
  constructor
  · rintro ⟨s, hs, rfl⟩
    rw [text_bytes]; exact hs
  · intro hs
    exact ⟨_, hs, bytes_text x⟩
theorem sort_le (l : List (List UInt8)) : (l.mergeSort leB).Pairwise fun a b => a ≤ b := by
  have tr : ∀ a b c : List UInt8, leB a b = true → leB b c = true → leB a c = true := fun a b c h1 h2 => by simp only [leB, decide_eq_true_eq] at *; exact List.le_trans h1 h2
  have tot : ∀ a b : List UInt8, (leB a b || leB b a) = true := fun a b => by simp only [leB, Bool.or_eq_true, decide_eq_true_eq]; exact List.le_total a b
  exact (List.pairwise_mergeSort tr tot l).imp fun h => by simpa [leB] using h
end Go.Proofs.YtgjmbokfenpefaaGreatDoor
/- What the program's client answers (a Face), and what ClientSees keeps from deed to deed. -/
namespace Go.Proofs.YtgjmbokfenpefaaGreatDoor
open Go.RowKit

/-- A deed. -/
structure Dd where
  what : Int
  epoch : Int
  spoil : Int
  other : Bool
  name : ByteArray
def noDd : Dd := ⟨0, 0, 0, false, ⟨#[]⟩⟩
def ddAt (L : List Dd) (i : Nat) : Dd := L.getD i noDd
theorem ddAt_of {L : List Dd} {i : Nat} (h : i < L.length) : ddAt L i = L[i] := by unfold ddAt; rw [List.getD_eq_getElem?_getD, List.getElem?_eq_getElem h]; rfl
/-- The deeds L lie at A. -/
def Dds (w : World) (A : Option Addr) (L : List Dd) : Prop := ∀ (i : Nat) x, L[i]? = some x → ∃ a, A = some a ∧ a.block < w.heap.size ∧ w.cell? (a.add (i * 5)) = some (.int .i64 x.what) ∧ w.cell? ((a.add (i * 5)).add 1) = some (.int .i64 x.epoch) ∧ w.cell? ((a.add (i * 5)).add 2) = some (.int .i64 x.spoil) ∧ w.cell? ((a.add (i * 5)).add 3) = some (.bool x.other) ∧ w.cell? ((a.add (i * 5)).add 4) = some (.string x.name)
theorem Dds.nil (w : World) (A : Option Addr) : Dds w A [] := fun i p h => by simp at h
theorem Dds.below {w w' : World} {A : Option Addr} {L : List Dd} {B : Nat} (h : Dds w A L) (hb : Below B w w') (hB : ∀ a, A = some a → 0 < L.length → a.block < B) : Dds w' A L := fun i p hp => by
  obtain ⟨a, ha, hl, c0, c1, c2, c3, c4⟩ := h i p hp
  have hlt := hB a ha (by have := (List.getElem?_eq_some_iff.1 hp).1; omega)
  exact ⟨a, ha, Nat.lt_of_lt_of_le hl hb.size, (hb.cell (by rw [block_add]; exact hlt)).trans c0, (hb.cell (by rw [block_add, block_add]; exact hlt)).trans c1, (hb.cell (by rw [block_add, block_add]; exact hlt)).trans c2, (hb.cell (by rw [block_add, block_add]; exact hlt)).trans c3, (hb.cell (by rw [block_add, block_add]; exact hlt)).trans c4⟩
theorem Dds.lt {w : World} {A : Option Addr} {L : List Dd} (h : Dds w A L) : ∀ a, A = some a → 0 < L.length → a.block < w.heap.size := fun a ha hl => by
  obtain ⟨a', e, hlt, _⟩ := h 0 _ (List.getElem?_eq_getElem hl)
  rw [ha] at e
  obtain rfl := Option.some.inj e
  exact hlt
theorem Dds.at_ {w : World} {A : Option Addr} {L : List Dd} (h : Dds w A L) {i : Nat} (hi : i < L.length) : ∃ a, A = some a ∧ a.block < w.heap.size ∧ w.cell? (a.add (i * 5)) = some (.int .i64 (ddAt L i).what) ∧ w.cell? ((a.add (i * 5)).add 1) = some (.int .i64 (ddAt L i).epoch) ∧ w.cell? ((a.add (i * 5)).add 2) = some (.int .i64 (ddAt L i).spoil) ∧ w.cell? ((a.add (i * 5)).add 3) = some (.bool (ddAt L i).other) ∧ w.cell? ((a.add (i * 5)).add 4) = some (.string (ddAt L i).name) :=
  h i _ (by rw [List.getElem?_eq_getElem hi, ddAt_of hi])

/-- What the program's client answers. -/
structure ClientFace where
  Is : (Nat → Prop) → World → Nat → Cl → Prop
  lt : ∀ {F : Nat → Prop} {w : World} {p : Nat} {c : Cl}, Is F w p c → ∀ k, F k → k < w.heap.size
  same : ∀ {F : Nat → Prop} {w w' : World} {p : Nat} {c : Cl}, Is F w p c → Same F w w' → Is F w' p c
  new : ∀ (pub : ByteArray) (w : World), pub.size = 16 → HasK w → Calls Tryz.prog 55 #[.string pub] w fun e w' => ∃ (p : Nat) (F : Nat → Prop), e = .returned (.tuple #[.pointer (some ⟨p, 0, none⟩), .nilIface]) ∧ Below w.heap.size w w' ∧ Is F w' p ⟨pub, []⟩ ∧ ∀ k, F k → w.heap.size ≤ k
  see : ∀ (F : Nat → Prop) (p : Nat) (c c' : Cl) (h : Hd) (key : Int) (S P : List ByteArray) (A B : Option Addr) (ca cb : Nat) (n : Int) (w : World), Is F w p c → HasK w → c.heads.length ≤ 1000 → S.length ≤ 1000 → P.length ≤ 1000 → h.epoch < 9223372036854775808 → Strs w A S → Strs w B P →
    (∀ a, A = some a → 0 < S.length → ¬ F a.block) → (∀ a, B = some a → 0 < P.length → ¬ F a.block) → seeAns c ⟨h, key, S, P⟩ = (c', n) →
    Calls Tryz.prog 40 #[.pointer (some ⟨p, 0, none⟩), .agg #[.int .i64 h.epoch, .string h.root, .string h.prev, .int .i64 key, .slice A S.length ca, .slice B P.length cb]] w fun e w' => e = .returned (errOf n) ∧ ∃ F' : Nat → Prop, Off F w w' ∧ Grew w F F' ∧ Is F' w' p c'
  ask : ∀ (F : Nat → Prop) (p : Nat) (c c' : Cl) (name : ByteArray) (m : AnM) (a : Answ) (v : ByteArray) (t : Bool) (n : Int) (w : World), Is F w p c → HasK w → c.heads.length ≤ 1000 → name.size ≤ 1000000 → SpDim a → AnIn w m a →
    (∀ b, m.sg.A = some b → 0 < a.sgn.sig.length → ¬ F b.block) → (∀ b, m.sg.B = some b → 0 < a.sgn.path.length → ¬ F b.block) → (∀ b, m.C = some b → 0 < a.path.length → ¬ F b.block) → askAns c name a = (c', v, t, n) →
    Calls Tryz.prog 57 #[.pointer (some ⟨p, 0, none⟩), .string name, .agg m.cells] w fun e w' => e = .returned (.tuple #[.string v, .bool t, errOf n]) ∧ ∃ F' : Nat → Prop, Off F w w' ∧ Grew w F F' ∧ Is F' w' p c'
  heads : ∀ (F : Nat → Prop) (p : Nat) (c : Cl) (w : World), Is F w p c → HasK w → c.heads.length ≤ 1000 → Calls Tryz.prog 43 #[.pointer (some ⟨p, 0, none⟩)] w fun e w' => ∃ A cap, e = .returned (.slice A c.heads.length cap) ∧ Below w.heap.size w w' ∧ Hds w' A c.heads

/-- Two directories, the document's client and the program's, each apart from the others. -/
structure Cs (FC : ClientFace) (w1 wr : World) (pa pb pw pc rb : Nat) (Fa Fb Fw Fc : Nat → Prop) (da db : Dst) (c c2 : Cl) : Prop where
  below : Below w1.heap.size w1 wr
  da : RDir Fa wr pa rb da
  db : RDir Fb wr pb rb db
  rc : RCl Fw wr pw rb c
  pc : FC.Is Fc wr pc c2
  bw : ∀ k, Fw k → w1.heap.size ≤ k
  bc : ∀ k, Fc k → w1.heap.size ≤ k
  aw : ∀ k, Fa k → ¬ Fw k
  ac : ∀ k, Fa k → ¬ Fc k
  dw : ∀ k, Fb k → ¬ Fw k
  dc : ∀ k, Fb k → ¬ Fc k
  cw : ∀ k, Fc k → ¬ Fw k
theorem Cs.calm {FC : ClientFace} {w1 wr w2 : World} {pa pb pw pc rb : Nat} {Fa Fb Fw Fc : Nat → Prop} {da db : Dst} {c c2 : Cl} (h : Cs FC w1 wr pa pb pw pc rb Fa Fb Fw Fc da db c c2) (hb : Below wr.heap.size wr w2) : Cs FC w1 w2 pa pb pw pc rb Fa Fb Fw Fc da db c c2 where
  below := h.below.trans (hb.mono h.below.size)
  da := h.da.below hb
  db := h.db.below hb
  rc := h.rc.below hb
  pc := FC.same h.pc (same_of_below hb (FC.lt h.pc))
  bw := h.bw
  bc := h.bc
  aw := h.aw
  ac := h.ac
  dw := h.dw
  dc := h.dc
  cw := h.cw
theorem Cs.prog {FC : ClientFace} {w1 wr w2 : World} {pa pb pw pc rb : Nat} {Fa Fb Fw Fc Fc' : Nat → Prop} {da db : Dst} {c c2 c2' : Cl} (h : Cs FC w1 wr pa pb pw pc rb Fa Fb Fw Fc da db c c2) (ho : Off Fc wr w2) (hg : Grew wr Fc Fc') (hp : FC.Is Fc' w2 pc c2') : Cs FC w1 w2 pa pb pw pc rb Fa Fb Fw Fc' da db c c2' where
  below := h.below.trans (ho.below h.bc h.below.size)
  da := h.da.same (ho.same h.da.lt h.ac)
  db := h.db.same (ho.same h.db.lt h.dc)
  rc := h.rc.same (ho.same h.rc.lt fun k hw hc => h.cw k hc hw)
  pc := hp
  bw := h.bw
  bc := hg.base h.bc h.below.size
  aw := h.aw
  ac := hg.apart h.da.lt h.ac
  dw := h.dw
  dc := hg.apart h.db.lt h.dc
  cw := fun k hk hw => by
    rcases hg k hk with e | e
    · exact h.cw k e hw
    · have := h.rc.lt k hw; omega
/-- Texts that are apart from F stay. -/
theorem Strs.off {F : Nat → Prop} {w w' : World} {A : Option Addr} {L : List ByteArray} (h : Strs w A L) (ho : Off F w w') (hn : ∀ a, A = some a → 0 < L.length → ¬ F a.block) : Strs w' A L :=
  Strs.same (F := fun k => k < w.heap.size ∧ ¬ F k) h (fun a e hl => ⟨h.lt a e hl, hn a e hl⟩) ⟨ho.size, fun k hk => ho.block k hk.1 hk.2⟩
theorem AnIn.off {F : Nat → Prop} {w w' : World} {m : AnM} {a : Answ} (h : AnIn w m a) (ho : Off F w w') (h1 : ∀ b, m.sg.A = some b → 0 < a.sgn.sig.length → ¬ F b.block) (h2 : ∀ b, m.sg.B = some b → 0 < a.sgn.path.length → ¬ F b.block) (h3 : ∀ b, m.C = some b → 0 < a.path.length → ¬ F b.block) : AnIn w' m a :=
  ⟨h.is, h.sgn, h.sig.off ho h1, h.path.off ho h2, h.way.off ho h3, h.cap⟩
theorem AnIn.below {w w' : World} {m : AnM} {a : Answ} (h : AnIn w m a) (hb : Below w.heap.size w w') : AnIn w' m a := ⟨h.is, h.sgn, h.sig.below hb, h.path.below hb, h.way.below hb, h.cap⟩
end Go.Proofs.YtgjmbokfenpefaaGreatDoor
