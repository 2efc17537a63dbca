/- Parts of the proof, one behind the other: Off, RDir, HdRow, CopyOf, ActApp, PCl, SortK, RSet2, ForkS, RHead, RNext, HeadEq, RWhole, LaterR, Root, KTab, New, RCl. -/
import Derived.WalkKit
import Derived.Lib.Hide
import Derived.WalkLawsBesides
import Derived.Deep.QuietTactic
import Derived.Deep.WholeRow
import Derived.ArgAppend
import Derived.Laws.AppendOwnNone
import Derived.Laws.CopyRow
import Derived.Deep.RegionLaw
import Derived.Laws.BytesString
import Derived.Laws.IdiomStrings
import Derived.Test.YtgjmbokfenpefaaGreatDoorProg
import Derived.Laws.BitsAllLaws
import Derived.Outline
import Derived.BigQuiet
import Derived.Laws.CopyOwn
import Derived.RegionTactic
import Derived.IntWalk
import Derived.Sort.Walk0
import Derived.StringKeys
import Derived.Maps.Own
import Derived.Maps.Views
import Derived.Maps.OwnSet
import Derived.Maps.OwnOps
import Derived.Maps.RangeWalk
import Derived.Sort.KeysCollected
import Derived.StillTail
import Derived.Deep.Quiet
import Derived.Deep.RegionHeld3
import Derived.Deep.DeepCutAuto
import Derived.Laws.ResultCell
import Derived.Tactics
import Derived.Orders
import Derived.LaidEql
import Derived.Stop.Asserts
import Derived.RowKitTokens
import Derived.OrdersHeld
import Derived.Sort.LotA
import Derived.Lib.SortBridge
import Derived.Deep.AppendSrc
import Derived.Shelf.SlSortFuncK.WholeK
import Derived.Ground.GgsProg
import Derived.Shelf.GgSortFunc.Tiny
import Derived.Shelf.Strings.Repeat
import Derived.KernelRfl
import Derived.Laws.StructEq
import Derived.Test.YtgjmbokfenpefaaGreatDoorM1
import Derived.Test.YtgjmbokfenpefaaGreatDoorM2
import Derived.Test.YtgjmbokfenpefaaGreatDoorM3
import Derived.Test.YtgjmbokfenpefaaGreatDoorM4
import Derived.Test.YtgjmbokfenpefaaGreatDoorM5
import Derived.Test.YtgjmbokfenpefaaGreatDoorM6
/- Worlds that part from one another only in some blocks, and in new ones. -/
namespace Go.Proofs.YtgjmbokfenpefaaGreatDoor
open Go.RowKit

/-- But for the blocks of F, and new ones, all is as it was. -/
structure Off (F : Nat → Prop) (w w' : World) : Prop where
  os : w'.os = w.os
  tape : w'.tape = w.tape
  output : w'.output = w.output
  size : w.heap.size ≤ w'.heap.size
  block : ∀ k, k < w.heap.size → ¬ F k → w'.heap[k]? = w.heap[k]?
theorem Off.refl (F : Nat → Prop) (w : World) : Off F w w := ⟨rfl, rfl, rfl, Nat.le_refl _, fun _ _ _ => rfl⟩
theorem Off.of_below {F : Nat → Prop} {w w' : World} (h : Below w.heap.size w w') : Off F w w' := ⟨h.os, h.tape, h.output, h.size, fun k hk _ => h.block k hk⟩
theorem Off.trans {F G : Nat → Prop} {a b c : World} (h : Off F a b) (k : Off G b c) (hG : ∀ i, i < a.heap.size → G i → F i) : Off F a c :=
  ⟨k.os.trans h.os, k.tape.trans h.tape, k.output.trans h.output, Nat.le_trans h.size k.size, fun i hi hn => (k.block i (Nat.lt_of_lt_of_le hi h.size) (fun g => hn (hG i hi g))).trans (h.block i hi hn)⟩
theorem Off.mono {F G : Nat → Prop} {w w' : World} (h : Off F w w') (hG : ∀ i, F i → G i) : Off G w w' := ⟨h.os, h.tape, h.output, h.size, fun k hk hn => h.block k hk (fun f => hn (hG k f))⟩
theorem Off.then {F : Nat → Prop} {a b c : World} (h : Off F a b) (k : Below b.heap.size b c) : Off F a c := h.trans (G := fun _ => False) (.of_below k) (fun _ _ g => g.elim)
theorem Off.below {F : Nat → Prop} {w w' : World} {B : Nat} (h : Off F w w') (hB : ∀ k, F k → B ≤ k) (hs : B ≤ w.heap.size) : Below B w w' :=
  ⟨h.os, h.tape, h.output, h.size, fun k hk => h.block k (by omega) (fun f => by have := hB k f; omega)⟩
theorem Off.of_grown {F : Nat → Prop} {w w' : World} {row : Option Nat} (h : w.grownBy w' row) (hr : ∀ k, row = some k → F k) : Off F w w' :=
  ⟨h.os, h.tape, h.output, h.size, fun k hk hn => h.block k hk (fun e => hn (hr k e.symm))⟩
theorem Off.setCell {F : Nat → Prop} {u w : World} (h : Off F u w) {a : Addr} (ha : u.heap.size ≤ a.block ∨ F a.block) (v : Value) : Off F u (w.setCell a v) :=
  ⟨h.os, h.tape, h.output, by simp [World.setCell]; exact h.size, fun k hk hn => (Below.heap_setCell w a v k (by rcases ha with ha | ha; omega; exact fun e => hn (e ▸ ha))).trans (h.block k hk hn)⟩
theorem Off.alloc {F : Nat → Prop} {u w : World} (h : Off F u w) (o : Obj) : Off F u (w.alloc o) := h.then (alloc_below w o)
theorem Off.drew {F : Nat → Prop} {u w : World} (h : Off F u w) : Off F u w.drew := ⟨h.os, h.tape, h.output, h.size, h.block⟩
theorem Off.drewN {F : Nat → Prop} {u w : World} (h : Off F u w) (n : Nat) : Off F u (w.drewN n) := ⟨h.os, h.tape, h.output, h.size, h.block⟩
/-- The blocks of F are as they were. -/
structure Same (F : Nat → Prop) (w w' : World) : Prop where
  size : w.heap.size ≤ w'.heap.size
  block : ∀ k, F k → w'.heap[k]? = w.heap[k]?
theorem Same.refl (F : Nat → Prop) (w : World) : Same F w w := ⟨Nat.le_refl _, fun _ _ => rfl⟩
theorem Same.trans {F : Nat → Prop} {a b c : World} (h : Same F a b) (k : Same F b c) : Same F a c := ⟨Nat.le_trans h.size k.size, fun i hi => (k.block i hi).trans (h.block i hi)⟩
theorem Same.mono {F G : Nat → Prop} {a b : World} (h : Same F a b) (hG : ∀ i, G i → F i) : Same G a b := ⟨h.size, fun i hi => h.block i (hG i hi)⟩
theorem Same.cell {F : Nat → Prop} {a b : World} (h : Same F a b) {p : Addr} (hp : F p.block) : b.cell? p = a.cell? p := World.cell?_of_block (w := a) (h.block p.block hp)
theorem Off.same {F G : Nat → Prop} {w w' : World} (h : Off G w w') (lt : ∀ k, F k → k < w.heap.size) (hd : ∀ k, F k → ¬ G k) : Same F w w' := ⟨h.size, fun k hk => h.block k (lt k hk) (hd k hk)⟩
theorem same_of_below {F : Nat → Prop} {w w' : World} {B : Nat} (h : Below B w w') (lt : ∀ k, F k → k < B) : Same F w w' := ⟨h.size, fun k hk => h.block k (lt k hk)⟩
/-- What is now its own was its own, or is new. -/
def Grew (w : World) (F F' : Nat → Prop) : Prop := ∀ k, F' k → F k ∨ w.heap.size ≤ k
theorem Grew.refl (w : World) (F : Nat → Prop) : Grew w F F := fun _ h => .inl h
theorem Grew.trans {a b : World} {F G H : Nat → Prop} (h : Grew a F G) (k : Grew b G H) (hs : a.heap.size ≤ b.heap.size) : Grew a F H := fun i hi => by
  rcases k i hi with h1 | h1
  · exact h i h1
  · exact .inr (Nat.le_trans hs h1)
/-- What was apart stays apart from what grew. -/
theorem Grew.apart {w : World} {F F' G : Nat → Prop} (h : Grew w F F') (lt : ∀ k, G k → k < w.heap.size) (hd : ∀ k, G k → ¬ F k) : ∀ k, G k → ¬ F' k := fun k hk hf => by
  rcases h k hf with h1 | h1
  · exact hd k hk h1
  · have := lt k hk; omega
theorem Grew.base {w : World} {F F' : Nat → Prop} {B : Nat} (h : Grew w F F') (hB : ∀ k, F k → B ≤ k) (hs : B ≤ w.heap.size) : ∀ k, F' k → B ≤ k := fun k hk => by
  rcases h k hk with h1 | h1
  · exact hB k h1
  · omega
end Go.Proofs.YtgjmbokfenpefaaGreatDoor
/- The document's directory in memory. -/
namespace Go.Proofs.YtgjmbokfenpefaaGreatDoor
open Go.RowKit

/-- A signed head in memory: where its texts lie. -/
structure SgM where
  s : Sgn
  A : Option Addr
  ca : Nat
  B : Option Addr
  cb : Nat
def SgM.cells (m : SgM) : List Value := [.int .i64 m.s.head.epoch, .string m.s.head.root, .string m.s.head.prev, .int .i64 m.s.key, .slice m.A m.s.sig.length m.ca, .slice m.B m.s.path.length m.cb]
def sgCells (M : List SgM) : List Value := M.flatMap SgM.cells
theorem sgCells_snoc (M : List SgM) (m : SgM) : sgCells (M ++ [m]) = sgCells M ++ m.cells := by simp [sgCells]
theorem sgCells_get (M : List SgM) : ∀ (i : Nat) (m : SgM) (j : Nat), M[i]? = some m → j < 6 → (sgCells M)[i * 6 + j]? = m.cells[j]? := by
  induction M with
  | nil => intro i m j h; simp at h
  | cons y M ih =>
    intro i m j h hj
    have e : sgCells (y :: M) = y.cells ++ sgCells M := rfl
    have hl : y.cells.length = 6 := rfl
    cases i with
    | zero =>
      simp at h; subst h
      rw [e, List.getElem?_append_left (by rw [hl]; omega)]; simp
    | succ i =>
      rw [e, List.getElem?_append_right (by rw [hl]; omega), hl, show (i + 1) * 6 + j - 6 = i * 6 + j by omega]
      exact ih i m j (by simpa using h) hj
/-- The texts of a signed head lie in blocks of F. -/
structure SgIn (F : Nat → Prop) (w : World) (m : SgM) : Prop where
  sig : Strs w m.A m.s.sig
  path : Strs w m.B m.s.path
  fs : ∀ a, m.A = some a → 0 < m.s.sig.length → F a.block
  fp : ∀ a, m.B = some a → 0 < m.s.path.length → F a.block
  cp : m.s.sig.length ≤ m.ca
theorem Strs.same {F : Nat → Prop} {w w' : World} {A : Option Addr} {L : List ByteArray} (h : Strs w A L) (hf : ∀ a, A = some a → 0 < L.length → F a.block) (hs : Same F w w') : Strs w' A L := fun i p hp => by
  obtain ⟨a, ha, hl, hc⟩ := h i p hp
  have hF := hf a ha (by have := (List.getElem?_eq_some_iff.1 hp).1; omega)
  exact ⟨a, ha, Nat.lt_of_lt_of_le hl hs.size, (hs.cell (by rw [block_add]; exact hF)).trans hc⟩
theorem SgIn.same {F : Nat → Prop} {w w' : World} {m : SgM} (h : SgIn F w m) (hs : Same F w w') : SgIn F w' m := ⟨h.sig.same h.fs hs, h.path.same h.fp hs, h.fs, h.fp, h.cp⟩
theorem SgIn.mono {F G : Nat → Prop} {w : World} {m : SgM} (h : SgIn F w m) (hG : ∀ k, F k → G k) : SgIn G w m := ⟨h.sig, h.path, fun a e l => hG _ (h.fs a e l), fun a e l => hG _ (h.fp a e l), h.cp⟩

/-- A box in memory, its two blocks known. -/
structure BoxAt (w : World) (bb g : Nat) (seed : ByteArray) : Prop where
  lt : bb < w.heap.size
  ltg : g < w.heap.size
  sd : w.cell? ⟨bb, 0, none⟩ = some (.string seed)
  rows : ∃ rc, w.cell? ⟨bb, 1, none⟩ = some (.slice (some ⟨g, 0, none⟩) 15 rc) ∧ ∀ k, k < 15 → w.cell? ⟨g, k, none⟩ = some (.string ((rowsOf seed).getD k ⟨#[]⟩))
theorem BoxIs.at' {w : World} {bb : Nat} {seed : ByteArray} (h : BoxIs w bb seed) : ∃ g, BoxAt w bb g seed := by
  obtain ⟨g, rc, hg, h1, h2⟩ := h.rows
  exact ⟨g, h.lt, hg, h.sd, rc, h1, h2⟩
theorem BoxAt.is {w : World} {bb g : Nat} {seed : ByteArray} (h : BoxAt w bb g seed) : BoxIs w bb seed := by
  obtain ⟨rc, h1, h2⟩ := h.rows
  exact ⟨h.lt, h.sd, g, rc, h.ltg, h1, h2⟩
theorem BoxAt.same {F : Nat → Prop} {w w' : World} {bb g : Nat} {seed : ByteArray} (h : BoxAt w bb g seed) (hs : Same F w w') (h1 : F bb) (h2 : F g) : BoxAt w' bb g seed := by
  obtain ⟨rc, e1, e2⟩ := h.rows
  exact ⟨Nat.lt_of_lt_of_le h.lt hs.size, Nat.lt_of_lt_of_le h.ltg hs.size, (hs.cell (p := ⟨bb, 0, none⟩) h1).trans h.sd, rc, (hs.cell (p := ⟨bb, 1, none⟩) h1).trans e1, fun k hk => (hs.cell (p := ⟨g, k, none⟩) h2).trans (e2 k hk)⟩

def rdF (rb bb m1 m2 m3 : Nat) (secret : ByteArray) (v : Value) : Nat → Value := fun i =>
  if i = 0 then .pointer (some ⟨rb, 0, none⟩) else if i = 1 then .string secret else if i = 2 then .pointer (some ⟨bb, 0, none⟩) else if i = 3 then .map (some m1) else if i = 4 then .map (some m2) else if i = 5 then .map (some m3) else v
/-- The document's directory at block p, its parts at these blocks, all of F. -/
structure RDirM (F : Nat → Prop) (w : World) (p rb : Nat) (d : Dst) (bb g m1 m2 m3 : Nat) (v : Value) (M : List SgM) : Prop where
  own : Holds w p 7 (rdF rb bb m1 m2 m3 d.secret v) 40
  box : BoxAt w bb g (dirSeed d.secret)
  wait : MapIs kS w m1 d.wait
  vals : MapIs kS w m2 d.vals
  since : MapIs kI w m3 d.since
  row : Row w (p + 1) 6 v M.length (sgCells M)
  eps : M.map (·.s) = d.eps
  sgs : ∀ m ∈ M, SgIn (fun k => F k ∧ v.ownBlock ≠ some k ∧ k ≠ m1 ∧ k ≠ m2 ∧ k ≠ m3 ∧ k ≠ p) w m
  fp : F p
  fb : F bb
  fg : F g
  f1 : F m1
  f2 : F m2
  f3 : F m3
  fv : ∀ k, v.ownBlock = some k → F k
  n12 : m1 ≠ m2
  n13 : m1 ≠ m3
  n23 : m2 ≠ m3
  lb : bb < p
  lg : g < p
  out : ∀ k, (k = bb ∨ k = g ∨ v.ownBlock = some k) → k ≠ m1 ∧ k ≠ m2 ∧ k ≠ m3
  lt : ∀ k, F k → k < w.heap.size
theorem holds_map {K : Type} {k : MKind K} {w : World} {p n b : Nat} {f : Nat → Value} {t : TypeId} {L : List (ByteArray × K)} (h : Holds w p n f t) (m : MapIs k w b L) : p ≠ b := fun e => by
  obtain ⟨⟨D, ⟨es, clock, hb, _⟩, _⟩, _, _⟩ := m
  unfold Holds at h
  rw [e, hb] at h
  cases h
theorem RDirM.same {F : Nat → Prop} {w w' : World} {p rb : Nat} {d : Dst} {bb g m1 m2 m3 : Nat} {v : Value} {M : List SgM} (h : RDirM F w p rb d bb g m1 m2 m3 v M) (hs : Same F w w') : RDirM F w' p rb d bb g m1 m2 m3 v M where
  own := by have := h.own; unfold Holds at this ⊢; rw [hs.block p h.fp]; exact this
  box := h.box.same hs h.fb h.fg
  wait := h.wait.block (hs.block _ h.f1)
  vals := h.vals.block (hs.block _ h.f2)
  since := h.since.block (hs.block _ h.f3)
  row := h.row.kept (fun k hk => hs.block k (h.fv k hk)) hs.size
  eps := h.eps
  sgs m hm := (h.sgs m hm).same (hs.mono fun _ h => h.1)
  fp := h.fp
  fb := h.fb
  fg := h.fg
  f1 := h.f1
  f2 := h.f2
  f3 := h.f3
  fv := h.fv
  n12 := h.n12
  n13 := h.n13
  n23 := h.n23
  lb := h.lb
  lg := h.lg
  out := h.out
  lt k hk := Nat.lt_of_lt_of_le (h.lt k hk) hs.size
/-- A wider F serves as well. -/
theorem RDirM.wide {F G : Nat → Prop} {w : World} {p rb : Nat} {d : Dst} {bb g m1 m2 m3 : Nat} {v : Value} {M : List SgM} (h : RDirM F w p rb d bb g m1 m2 m3 v M) (hG : ∀ k, F k → G k) (lt : ∀ k, G k → k < w.heap.size) : RDirM G w p rb d bb g m1 m2 m3 v M where
  own := h.own
  box := h.box
  wait := h.wait
  vals := h.vals
  since := h.since
  row := h.row
  eps := h.eps
  sgs m hm := (h.sgs m hm).mono fun k hk => ⟨hG k hk.1, hk.2⟩
  fp := hG _ h.fp
  fb := hG _ h.fb
  fg := hG _ h.fg
  f1 := hG _ h.f1
  f2 := hG _ h.f2
  f3 := hG _ h.f3
  fv k hk := hG _ (h.fv k hk)
  n12 := h.n12
  n13 := h.n13
  n23 := h.n23
  lb := h.lb
  lg := h.lg
  out := h.out
  lt := lt
def RDir (F : Nat → Prop) (w : World) (p rb : Nat) (d : Dst) : Prop := ∃ bb g m1 m2 m3 v M, RDirM F w p rb d bb g m1 m2 m3 v M
theorem RDir.same {F : Nat → Prop} {w w' : World} {p rb : Nat} {d : Dst} (h : RDir F w p rb d) (hs : Same F w w') : RDir F w' p rb d := by
  obtain ⟨bb, g, m1, m2, m3, v, M, h⟩ := h
  exact ⟨bb, g, m1, m2, m3, v, M, h.same hs⟩
theorem RDir.lt {F : Nat → Prop} {w : World} {p rb : Nat} {d : Dst} (h : RDir F w p rb d) : ∀ k, F k → k < w.heap.size := by
  obtain ⟨bb, g, m1, m2, m3, v, M, h⟩ := h
  exact h.lt
theorem RDir.below {F : Nat → Prop} {w w' : World} {p rb : Nat} {d : Dst} (h : RDir F w p rb d) (hb : Below w.heap.size w w') : RDir F w' p rb d := h.same (same_of_below hb h.lt)
end Go.Proofs.YtgjmbokfenpefaaGreatDoor
/- Rows of heads, and of signed heads, of the call's own; one more put behind. -/
namespace Go.Proofs.YtgjmbokfenpefaaGreatDoor
open Go.RowKit

def Hd.cells (h : Hd) : List Value := [.int .i64 h.epoch, .string h.root, .string h.prev]
def hdCells (L : List Hd) : List Value := L.flatMap Hd.cells
theorem hdCells_length (L : List Hd) : (hdCells L).length = L.length * 3 := by
  induction L with
  | nil => rfl
  | cons m M ih => unfold hdCells at ih ⊢; rw [List.flatMap_cons, List.length_append, ih]; simp [Hd.cells]; omega
theorem hdCells_append (L M : List Hd) : hdCells (L ++ M) = hdCells L ++ hdCells M := by simp [hdCells]
theorem hdCells_get (L : List Hd) : ∀ (i : Nat) (h : Hd) (j : Nat), L[i]? = some h → j < 3 → (hdCells L)[i * 3 + j]? = h.cells[j]? := by
  induction L with
  | nil => intro i m j h; simp at h
  | cons y M ih =>
    intro i m j h hj
    have e : hdCells (y :: M) = y.cells ++ hdCells M := rfl
    have hl : y.cells.length = 3 := rfl
    cases i with
    | zero =>
      simp at h; subst h
      rw [e, List.getElem?_append_left (by rw [hl]; omega)]; simp
    | succ i =>
      rw [e, List.getElem?_append_right (by rw [hl]; omega), hl, show (i + 1) * 3 + j - 3 = i * 3 + j by omega]
      exact ih i m j (by simpa using h) hj
theorem Row.hds {w : World} {base : Nat} {v : Value} {L : List Hd} {n : Nat} (h : Row w base 3 v n (hdCells L)) : n = L.length ∧ ∃ A cap, v = .slice A n cap ∧ Hds w A L := by
  have hn : n = L.length := by have := h.1; rw [hdCells_length] at this; omega
  refine ⟨hn, ?_⟩
  obtain ⟨p, cap, rfl⟩ := h.any
  refine ⟨p, cap, rfl, fun i x hi => ?_⟩
  have hil : i < L.length := (List.getElem?_eq_some_iff.1 hi).1
  obtain ⟨g, cap', hv, _, hg, _, hc, _⟩ := h.shape (by omega)
  injection hv with hv _ _
  refine ⟨⟨g, 0, none⟩, hv, hg, ?_, ?_, ?_⟩
  · rw [add_none, Nat.zero_add]; exact hc _ _ (hdCells_get L i x 0 hi (by omega))
  · rw [add_add', add_none, Nat.zero_add]; exact hc _ _ (hdCells_get L i x 1 hi (by omega))
  · rw [add_add', add_none, Nat.zero_add]; exact hc _ _ (hdCells_get L i x 2 hi (by omega))
theorem infoHd : (Tryz.prog.info? 52).map (fun i => (i.zero, i.size, i.bytes)) = some (some (.agg #[.int .i64 0, .string ⟨#[]⟩, .string ⟨#[]⟩]), 3, 40) := by kernel_rfl
theorem infoSg : (Tryz.prog.info? 57).map (fun i => (i.zero, i.size, i.bytes)) = some (some (.agg #[.int .i64 0, .string ⟨#[]⟩, .string ⟨#[]⟩, .int .i64 0, .slice none 0 0, .slice none 0 0]), 6, 96) := by kernel_rfl
/-- append of one struct of so many one-cell fields, just built. -/
theorem wpList_append_cells {P : Program} {w : World} {ops : Array Oper} {rest : List Oper} {o : Oper} {a : Act} {Q : Exit → Act → World → Prop}
    (hg : o.guard = none) (s x : Operand) (t : TypeId) (hop : o.op = Op.call { callee := Callee.builtin Builtin.append, args := #[s, x], argTypes := #[t, t] })
    (e : TypeId) (h1 : P.underlying t = some (.slice e)) (z : Value) (size bytes : Nat) (hi : (P.info? e).map (fun i => (i.zero, i.size, i.bytes)) = some (some z, size, bytes)) (h6 : z.cells.size = size) (h7 : 0 < size) (hby : bytes ≤ 256)
    (base : Nat) (v : Value) (n : Nat) (xs : List Value) (hs : a.eval s = v) (hrow : Row w base size v n xs) (hbase : base ≤ w.heap.size) (hn : n ≤ 1000000)
    (ys : List Value) (hy : ys.length = size) (hone : ∀ u ∈ ys, u.oneCell' = true) (B : Nat) (hx : a.eval x = .slice (some ⟨B, 0, none⟩) 1 1) (e' : TypeId) (hB : w.heap[B]? = some (.cells ys.toArray e' (0, 0)))
    (hK : ∀ v' w', Hid (Row w' base size v' (n + 1) (xs ++ ys)) → Hid (w.grownBy w' v.ownBlock) → Hid (Moved w v v') → wpList P ops Q rest (a.put o.dst v') w') :
    wpList P ops Q (o :: rest) a w := by
  obtain ⟨i0, hi0, hz0, hz1, hz2⟩ := info_parts hi
  refine wpList_append_row2 hg s x t hop e i0 z size bytes h1 hi0 hz0 hz1 hz2 h6 h7 base v n xs hs hrow hbase ⟨B, 0, none⟩ 1 1 ys hx (by rw [hy, Nat.one_mul]) ?_ hone (by unfold maxLen; omega) ?_ hK
  · intro j u hj
    rw [add_none, Nat.zero_add, cell_of_row _ B j _ e' (0, 0) hB]
    simpa using hj
  · have := Nat.mul_le_mul (show n + 1 ≤ 1000001 by omega) hby
    omega
end Go.Proofs.YtgjmbokfenpefaaGreatDoor
/- append([]T{}, l...): the items of a list, once more, in memory of the call's own. -/
namespace Go.Proofs.YtgjmbokfenpefaaGreatDoor
open Go.RowKit

theorem Itms.cells {w : World} {A : Option Addr} {L : List It} (h : Itms w A L) (hn : 0 < L.length) : ∃ a, A = some a ∧ ∀ j u, (itCells L)[j]? = some u → w.cell? (a.add j) = some u := by
  obtain ⟨a, rfl, -⟩ := h.at_ hn
  refine ⟨a, rfl, fun j u hj => ?_⟩
  have hjl := (List.getElem?_eq_some_iff.1 hj).1
  rw [itCells_length] at hjl
  have hi : j / 2 < L.length := by omega
  obtain ⟨a', ha, _, h0, h1⟩ := h.at_ hi
  obtain rfl : a = a' := Option.some.inj ha
  have hx : L[j / 2]? = some (itAt L (j / 2)) := by rw [List.getElem?_eq_getElem hi, itAt_of hi]
  obtain ⟨e1, e2⟩ := itCells_get L (j / 2) _ hx
  rcases (show j = j / 2 * 2 ∨ j = j / 2 * 2 + 1 by omega) with e | e
  · rw [← e] at e1 h0
    rw [hj] at e1
    rw [h0, ← e1]
  · rw [← e] at e2
    rw [add_add', ← e] at h1
    rw [hj] at e2
    rw [h1, ← e2]
end Go.Proofs.YtgjmbokfenpefaaGreatDoor
/- append onto a row of acts (a number and two texts each): many, that lie somewhere; slices.Clone of acts. -/
namespace Go.Proofs.YtgjmbokfenpefaaGreatDoor
open Go.RowKit

theorem Hds.cells {w : World} {A : Option Addr} {L : List Hd} (h : Hds w A L) (hn : 0 < L.length) : ∃ a, A = some a ∧ ∀ j u, (hdCells L)[j]? = some u → w.cell? (a.add j) = some u := by
  obtain ⟨a, ha, _⟩ := h 0 _ (List.getElem?_eq_getElem hn)
  subst ha
  refine ⟨a, rfl, fun j u hj => ?_⟩
  have hjl : j < L.length * 3 := by
    have := (List.getElem?_eq_some_iff.1 hj).1
    rwa [hdCells_length] at this
  have hi : j / 3 < L.length := by omega
  obtain ⟨x, hx⟩ : ∃ x, L[j / 3]? = some x := ⟨_, List.getElem?_eq_getElem hi⟩
  obtain ⟨a', ha', _, c0, c1, c2⟩ := h (j / 3) x hx
  obtain rfl := Option.some.inj ha'
  have hg := hdCells_get L (j / 3) x (j % 3) hx (by omega)
  rw [show j / 3 * 3 + j % 3 = j by omega, hj] at hg
  rcases (show j % 3 = 0 ∨ j % 3 = 1 ∨ j % 3 = 2 by omega) with e | e | e
  · rw [e] at hg
    obtain rfl := Option.some.inj hg
    rw [show a.add j = a.add (j / 3 * 3) by congr 1; omega]; exact c0
  · rw [e] at hg
    obtain rfl := Option.some.inj hg
    rw [show a.add j = (a.add (j / 3 * 3)).add 1 by rw [add_add']; congr 1; omega]; exact c1
  · rw [e] at hg
    obtain rfl := Option.some.inj hg
    rw [show a.add j = (a.add (j / 3 * 3)).add 2 by rw [add_add']; congr 1; omega]; exact c2
theorem hdCells_one' (L : List Hd) : ∀ u ∈ hdCells L, u.oneCell' = true := by
  intro u hu
  unfold hdCells at hu
  simp only [List.mem_flatMap] at hu
  obtain ⟨x, _, hx⟩ := hu
  simp [Hd.cells] at hx
  rcases hx with rfl | rfl | rfl <;> rfl
theorem grown_refl (w : World) (g : Option Nat) : w.grownBy w g := ⟨rfl, rfl, rfl, Nat.le_refl _, fun _ _ _ => rfl⟩
theorem wpList_append_hds {P : Program} {ops : Array Oper} {rest : List Oper} {o : Oper} {a : Act} {w : World} {Q : Exit → Act → World → Prop} (hgd : o.guard = none) (s x : Operand) (T : TypeId)
    (ho : o.op = .call { callee := .builtin .append, args := #[s, x], argTypes := #[T, T] }) (e : TypeId) (ht : P.underlying T = some (.slice e)) (i : TypeInfo) (z : Value) (hi : P.info? e = some i) (hz : i.zero = some z) (hsz : i.size = 3) (hby : i.bytes = 40) (hzc : z.cells.size = 3)
    (base n : Nat) (M : List Hd) (v : Value) (hd : a.eval s = v) (hrow : Row w base 3 v n (hdCells M)) (hbase : base ≤ w.heap.size) (hn : n ≤ 1000000)
    (K : List Hd) (k : Nat) (hk : K.length = k) (A : Option Addr) (cap : Nat) (hs : a.eval x = .slice A k cap) (hm : Hds w A K) (hkl : k ≤ 1000000)
    (hK : ∀ v' w', Hid (Row w' base 3 v' (n + k) (hdCells (M ++ K))) → Hid (w.grownBy w' v.ownBlock) → wpList P ops Q rest (a.put o.dst v') w') : wpList P ops Q (o :: rest) a w := by
  by_cases h0 : k = 0
  · subst h0
    obtain rfl := List.eq_nil_of_length_eq_zero hk
    have hsrc : ∃ news, Src P i.size T (.slice A 0 cap) 0 news w := by
      cases A with
      | none => exact ⟨[], Src.ofNil w ht cap⟩
      | some x => exact ⟨[], Src.ofSlice w ht x 0 cap [] (by simp) (fun j u h => by simp at h) (fun u h => by cases h)⟩
    obtain ⟨news, hsrc⟩ := hsrc
    have hnl : news = [] := List.eq_nil_of_length_eq_zero (by simpa using hsrc.newsLen)
    subst hnl
    have hk1 : ∃ e', P.underlying T = some (.slice e') := ⟨e, ht⟩
    have hst : ∀ a : Addr, (storeCells a []).run P w = .ok () w := fun a => by simp [storeCells]
    have hrun : (Builtin.append_ #[T, T] o.type #[v, .slice A 0 cap]).run P w = .ok v w := by
      rcases hrow.2 with ⟨rfl, rfl⟩ | ⟨g, c0, rfl, _, _, hnc, _⟩
      · simp [Builtin.append_, run_underlying ht, sizeOf, typeInfo, hi, hsrc.len, hsrc.cells]
      · simp [Builtin.append_, run_underlying ht, sizeOf, typeInfo, hi, hsrc.len, hsrc.cells, hst, hnc]
    refine wpList_plain hgd fun K hK' => ?_
    unfold Oper.wp
    simp [execOp, ho, resolve, invoke, builtin, hd, hs, hrun, Result.andThen]
    exact hK' _ _ (hK _ _ (Lib.hid (by rw [List.append_nil]; exact hrow)) (Lib.hid (grown_refl _ _)))
  · obtain ⟨x, rfl, hc⟩ := hm.cells (by omega)
    refine wpList_append_row2 hgd s _ T ho e i z 3 40 ht hi hz hsz hby hzc (by decide) base _ n (hdCells M) hd hrow hbase x k cap (hdCells K) hs (by rw [hdCells_length, hk]) hc (hdCells_one' K) (by unfold maxLen; omega) (by omega) ?_
    intro v' w' hr hg _
    refine hK v' w' (Lib.hid ?_) hg
    rw [hdCells_append]
    exact hr.out
end Go.Proofs.YtgjmbokfenpefaaGreatDoor
/- The program's client in memory: New, Heads. -/
namespace Go.Proofs.YtgjmbokfenpefaaGreatDoor
open Go.RowKit

def pcF (pub : ByteArray) (v : Value) : Nat → Value := fun i => if i = 0 then .string pub else v
/-- The program's client at block p. -/
structure PClM (F : Nat → Prop) (w : World) (p : Nat) (c : Cl) (v : Value) : Prop where
  own : Holds w p 2 (pcF c.pub v) 184
  row : Row w (p + 1) 3 v c.heads.length (hdCells c.heads)
  fp : F p
  fv : ∀ k, v.ownBlock = some k → F k
  lt : ∀ k, F k → k < w.heap.size
def PCl (F : Nat → Prop) (w : World) (p : Nat) (c : Cl) : Prop := ∃ v, PClM F w p c v
theorem PClM.same {F : Nat → Prop} {w w' : World} {p : Nat} {c : Cl} {v : Value} (h : PClM F w p c v) (hs : Same F w w') : PClM F w' p c v where
  own := by have := h.own; unfold Holds at this ⊢; rw [hs.block p h.fp]; exact this
  row := h.row.kept (fun k hk => hs.block k (h.fv k hk)) hs.size
  fp := h.fp
  fv := h.fv
  lt k hk := Nat.lt_of_lt_of_le (h.lt k hk) hs.size
theorem PCl.same {F : Nat → Prop} {w w' : World} {p : Nat} {c : Cl} (h : PCl F w p c) (hs : Same F w w') : PCl F w' p c := by
  obtain ⟨v, h⟩ := h
  exact ⟨v, h.same hs⟩
theorem PCl.lt {F : Nat → Prop} {w : World} {p : Nat} {c : Cl} (h : PCl F w p c) : ∀ k, F k → k < w.heap.size := by
  obtain ⟨v, h⟩ := h
  exact h.lt
theorem PCl.below {F : Nat → Prop} {w w' : World} {p : Nat} {c : Cl} (h : PCl F w p c) (hb : Below w.heap.size w w') : PCl F w' p c := h.same (same_of_below hb h.lt)
theorem pNewClient_t (pub : ByteArray) (w : World) (h16 : pub.size = 16) :
    Calls Tryz.prog 55 #[.string pub] w fun e w' => ∃ (p : Nat) (F : Nat → Prop), e = .returned (.tuple #[.pointer (some ⟨p, 0, none⟩), .nilIface]) ∧ Below w.heap.size w w' ∧ PCl F w' p ⟨pub, []⟩ ∧ ∀ k, F k → w.heap.size ≤ k := by
  have HB := Lib.hid (alloc_below w (.cells #[.string pub, .slice none 0 0] 184))
  have HN := Lib.hid (show Holds (w.alloc (.cells #[.string pub, .slice none 0 0] 184)) w.heap.size 2 (pcF pub (.slice none 0 0)) 184 from Holds.new w 2 (pcF pub (.slice none 0 0)) 184)
  have h1 : ((pub.size : Int) != 16) = false := by simp; omega
  clear h16
  go_enter Tryz.func55, Tryz.ntmps55
  go_wp2
  refine bodyPost_ret (results_tmp2 rfl _ _ _) rfl ?_
  refine ⟨w.heap.size, fun k => k = w.heap.size, rfl, HB.out, ⟨.slice none 0 0, HN.out, Row.nil _ _ _, rfl, (fun k hk => by cases hk), fun k hk => ?_⟩, fun k hk => by rw [hk]; exact Nat.le_refl _⟩
  rw [hk]; exact HN.out.lt
theorem cloneHeads_any (L : List Hd) (A : Option Addr) (cap : Nat) (w : World) (hl : L.length ≤ 1000000) (hm : Hds w A L) :
    Calls Tryz.prog 75 #[.slice A L.length cap] w fun e w' => ∃ v, e = .returned v ∧ Below w.heap.size w w' ∧ Row w' w.heap.size 3 v L.length (hdCells L) := by
  have HM := Lib.hid hm
  clear hm
  cases A with
  | none =>
    obtain rfl : L = [] := by
      match L, HM with
      | [], _ => rfl
      | x :: r, HM =>
        obtain ⟨a, h, _⟩ := HM.out.at_ (show 0 < (x :: r).length by simp)
        cases h
    have hnil : ∀ u : World, (binOp .eql 129 (.slice none 0 cap) (.slice none 0 0)).run Tryz.prog u = .ok (.bool true) u := fun u => by kernel_rfl
    go_enter Tryz.func75, Tryz.ntmps75
    go_wp2
    go_ret
    exact ⟨_, rfl, Below.refl _ _, Row.nil _ _ _⟩
  | some x =>
    have hnil : ∀ u : World, (binOp .eql 129 (.slice (some x) L.length cap) (.slice none 0 0)).run Tryz.prog u = .ok (.bool false) u := fun u => by kernel_rfl
    obtain ⟨i0, hi0, hz0, hz1, hz2⟩ := info_parts infoHd
    have hb0 : Below w.heap.size w (w.alloc (.cells #[] 52)) := alloc_below w _
    go_enter Tryz.func75, Tryz.ntmps75
    go_wp2_with (at_builtin; refine wpList_append_hds rfl (.tmp 5) (.tmp 6) 129 rfl 52 Tryz.underlying129 i0 _ hi0 hz0 hz1 hz2 rfl w.heap.size 0 [] _ rfl ⟨rfl, .inr ⟨w.heap.size, 0, rfl, Nat.le_refl _, by simp, Nat.le_refl 0, (fun j u h => by cases h), fun j h => by omega⟩⟩ (by simp) (by omega) L L.length rfl (some x) cap rfl (HM.out.below hb0) hl ?_; intro v' w7 hr7 hg7)
    go_wp2
    go_ret
    refine ⟨_, rfl, hb0.grown hg7.out hb0.size (fun k e => by cases e; exact Nat.le_refl _), ?_⟩
    have h := hr7.out
    rw [Nat.zero_add, List.nil_append] at h
    exact h
end Go.Proofs.YtgjmbokfenpefaaGreatDoor
/- A row of any structs of one-cell fields that the library's sort has ordered. -/
namespace Go.Proofs.YtgjmbokfenpefaaGreatDoor
open Go.RowKit Go.Sort

section
variable {α : Type} [Inhabited α]
def cellsK (enc : α → List Value) (L : List α) : List Value := L.flatMap enc
omit [Inhabited α] in
theorem cellsK_append (enc : α → List Value) (L M : List α) : cellsK enc (L ++ M) = cellsK enc L ++ cellsK enc M := by simp [cellsK]
omit [Inhabited α] in
theorem cellsK_get {enc : α → List Value} {k : Nat} (hk : ∀ x, (enc x).length = k) (L : List α) : ∀ (i : Nat) (x : α) (j : Nat), L[i]? = some x → j < k → (cellsK enc L)[i * k + j]? = (enc x)[j]? := by
  induction L with
  | nil => intro i x j h; simp at h
  | cons y M ih =>
    intro i x j h hj
    have e : cellsK enc (y :: M) = enc y ++ cellsK enc M := rfl
    cases i with
    | zero =>
      simp at h; subst h
      rw [e, List.getElem?_append_left (by rw [hk]; omega)]; simp
    | succ i =>
      have h9 : (i + 1) * k = i * k + k := Nat.succ_mul i k
      rw [e, List.getElem?_append_right (by rw [hk]; omega), hk, show (i + 1) * k + j - k = i * k + j by omega]
      exact ih i x j (by simpa using h) hj
end
end Go.Proofs.YtgjmbokfenpefaaGreatDoor
/- The document's Set: the walk. -/
namespace Go.Proofs.YtgjmbokfenpefaaGreatDoor
open Go.RowKit

structure SetRel (ob : Nat) (w wr : World) (L : List It) (x : It) (k : Nat) (v : Value) : Prop where
  below : Below w.heap.size w wr
  lt : w.heap.size < ob
  box : Holds wr w.heap.size 2 (fun i => if i = 0 then .string x.1 else .string x.2) 59
  own : Holds wr ob 1 (fun _ => v) 155
  row : Row wr (ob + 1) 2 v (others (L.take k) x).length (itCells (others (L.take k) x))
/-- The world behind an append to what the variable holds, and the store of it. -/
theorem SetRel.alloc {ob : Nat} {w wr : World} {L : List It} {x : It} {k : Nat} {v : Value} (h : SetRel ob w wr L x k v) (X : Obj) : SetRel ob w (wr.alloc X) L x k v :=
  ⟨h.below.alloc h.below.size _, h.lt, h.box.alloc _, h.own.alloc _, h.row.alloc _⟩
theorem SetRel.after {ob : Nat} {w w2 w3 : World} {L : List It} {x : It} {k : Nat} {v : Value} {X : Obj} (h : SetRel ob w w2 L x k v) (hg : (w2.alloc X).grownBy w3 v.ownBlock) : Holds w3 ob 1 (fun _ => v) 155 := by
  have hown := h.own
  have hob := hown.lt
  unfold Holds at hown ⊢
  rw [hg.block ob (by simp; omega) (fun e => by have := (h.row.lt ob e.symm).1; omega), Below.heap_alloc _ _ _ hob]
  exact hown
theorem SetRel.put {ob : Nat} {w w2 w3 : World} {L : List It} {x y : It} {k : Nat} {v v' : Value} {X : Obj} {K : List It} (h : SetRel ob w w2 L x k v) (hrow : Row w3 (ob + 1) 2 v' K.length (itCells K)) (hg : (w2.alloc X).grownBy w3 v.ownBlock) (_hy : y = y) :
    Below w.heap.size w (w3.setCell ⟨ob, 0, none⟩ v') ∧ Holds (w3.setCell ⟨ob, 0, none⟩ v') w.heap.size 2 (fun i => if i = 0 then .string x.1 else .string x.2) 59 ∧ Holds (w3.setCell ⟨ob, 0, none⟩ v') ob 1 (fun _ => v') 155 ∧
      Row (w3.setCell ⟨ob, 0, none⟩ v') (ob + 1) 2 v' K.length (itCells K) := by
  have hlt := h.lt
  have hb2 : Below w.heap.size w (w2.alloc X) := h.below.alloc h.below.size X
  have hob := h.own.lt
  have keep : ∀ c, c < w2.heap.size → c < ob + 1 → w3.heap[c]? = w2.heap[c]? := fun c hc hc2 =>
    (hg.block c (by simp; omega) (fun e => by have := (h.row.lt c e.symm).1; omega)).trans (Below.heap_alloc _ _ _ hc)
  have hbox := h.box
  have hown := h.own
  refine ⟨(hb2.grown hg (Nat.le_trans h.below.size (by simp)) (fun c hc => by have := (h.row.lt c hc).1; omega)).setCell (p := ⟨ob, 0, none⟩) (Nat.le_of_lt hlt) _, ?_, ?_, hrow.setOther (hrow.fresh (Nat.lt_succ_self _)) _⟩
  · refine Holds.other ?_ (a := ⟨ob, 0, none⟩) (by show w.heap.size ≠ ob; omega) v'
    have := hbox.lt
    unfold Holds at hbox ⊢; rw [keep _ this (by omega)]; exact hbox
  · have h4 : Holds w3 ob 1 (fun _ => v) 155 := by unfold Holds at hown ⊢; rw [keep _ hob (by omega)]; exact hown
    refine (h4.set 0 v').congr fun i hi => ?_
    have : i = 0 := by omega
    subst this; rfl
end Go.Proofs.YtgjmbokfenpefaaGreatDoor
/- The document's forks: sorted. -/
namespace Go.Proofs.YtgjmbokfenpefaaGreatDoor
open Go.RowKit Go.Sort Go.Shelf

/-- A fork. -/
structure Fk where
  a : ByteArray
  b : ByteArray
  epoch : Int
instance : Inhabited Fk := ⟨⟨⟨#[]⟩, ⟨#[]⟩, 0⟩⟩
def encF (f : Fk) : List Value := [.string f.a, .string f.b, .int .i64 f.epoch]
theorem encF_len (f : Fk) : (encF f).length = 3 := rfl
/-- By A, then B, byte by byte. -/
def ltF (x y : Fk) : Prop := x.a.data.toList < y.a.data.toList ∨ (x.a.data.toList = y.a.data.toList ∧ x.b.data.toList < y.b.data.toList)
theorem ltF_irrefl (x : Fk) : ¬ ltF x x := by
  rintro (h | ⟨_, h⟩) <;> exact List.lt_irrefl _ h
theorem ltF_trans {x y z : Fk} (h : ltF x y) (k : ltF y z) : ltF x z := by
  rcases h with h | ⟨e, h⟩
  · rcases k with k | ⟨e', k⟩
    · exact .inl (List.lt_trans h k)
    · exact .inl (e' ▸ h)
  · rcases k with k | ⟨e', k⟩
    · exact .inl (e ▸ k)
    · exact .inr ⟨e.trans e', List.lt_trans h k⟩
/-- Two rising lists of the same forks are one list. -/
theorem forks_one : ∀ {L M : List Fk}, L.Pairwise ltF → M.Pairwise ltF → (∀ f, f ∈ L ↔ f ∈ M) → L = M
  | [], [], _, _, _ => rfl
  | [], y :: M, _, _, h => by have := (h y).2 (List.mem_cons_self ..); cases this
  | x :: L, [], _, _, h => by have := (h x).1 (List.mem_cons_self ..); cases this
  | x :: L, y :: M, hL, hM, h => by
    obtain ⟨hx, hL'⟩ := List.pairwise_cons.1 hL
    obtain ⟨hy, hM'⟩ := List.pairwise_cons.1 hM
    have e : x = y := by
      rcases List.mem_cons.1 ((h x).1 (List.mem_cons_self ..)) with e | h1
      · exact e
      · rcases List.mem_cons.1 ((h y).2 (List.mem_cons_self ..)) with e | h2
        · exact e.symm
        · exact absurd (ltF_trans (hy x h1) (hx y h2)) (ltF_irrefl y)
    subst e
    rw [forks_one hL' hM' fun f => ?_]
    constructor
    · intro hf
      rcases List.mem_cons.1 ((h f).1 (List.mem_cons_of_mem _ hf)) with e | h1
      · subst e; exact absurd (hx f hf) (ltF_irrefl f)
      · exact h1
    · intro hf
      rcases List.mem_cons.1 ((h f).2 (List.mem_cons_of_mem _ hf)) with e | h1
      · subst e; exact absurd (hy f hf) (ltF_irrefl f)
      · exact h1
end Go.Proofs.YtgjmbokfenpefaaGreatDoor
/- The document's RightHead, HeadMark. -/
namespace Go.Proofs.YtgjmbokfenpefaaGreatDoor
open Go.RowKit

theorem rightHead_facts {h : Hd} (e : rightHead h = true) : 0 < h.epoch ∧ h.root.size = 16 ∧ h.prev.size = 16 := by
  unfold rightHead at e
  simp at e
  exact ⟨e.1.1, e.1.2, e.2⟩
end Go.Proofs.YtgjmbokfenpefaaGreatDoor
/- The document's Next. -/
namespace Go.Proofs.YtgjmbokfenpefaaGreatDoor
open Go.RowKit

theorem infoHead : (Tryz.prog.info? 52).map (·.size) = some 3 := by kernel_rfl
/-- What stands in the next head's variable ahead of round k. -/
def nextUpto (L : List Hd) (root : ByteArray) (k : Nat) : Hd := if k = L.length ∧ 0 < L.length then afterHd (hdAt L (k - 1)) root else firstHd root
theorem nextUpto_last {L : List Hd} {root : ByteArray} {k : Nat} (h : k + 1 = L.length) : nextUpto L root (k + 1) = afterHd (hdAt L k) root := by
  unfold nextUpto; rw [if_pos (by omega)]; rfl
theorem last_of {L : List Hd} {k : Nat} (h : k + 1 = L.length) : L.getLast? = some (hdAt L k) := by
  rw [List.getLast?_eq_getElem?, ← h, Nat.add_sub_cancel, List.getElem?_eq_getElem (by omega), hdAt_of (by omega)]
theorem nextAns_bad {L : List Hd} {root : ByteArray} {k : Nat} (h : k + 1 = L.length) (hr : rightHead (hdAt L k) = false) : nextAns L root = (noHd, 1) := by
  unfold nextAns nextHd
  rw [last_of h]
  simp [hr]
theorem nextAns_upto {L : List Hd} {root : ByteArray} (hr : 0 < L.length → rightHead (hdAt L (L.length - 1)) = true) : nextAns L root = if rightHead (nextUpto L root L.length) = true then (nextUpto L root L.length, 0) else (noHd, 1) := by
  unfold nextAns nextHd
  rcases Nat.eq_zero_or_pos L.length with h | h
  · obtain rfl := List.eq_nil_of_length_eq_zero h
    rfl
  · obtain ⟨k, hk⟩ : ∃ k, k + 1 = L.length := ⟨L.length - 1, by omega⟩
    have h2 := hr h
    rw [← hk, Nat.add_sub_cancel] at h2
    rw [last_of hk, ← hk, nextUpto_last hk]
    simp [h2]
end Go.Proofs.YtgjmbokfenpefaaGreatDoor
/- Two heads, compared. -/
namespace Go.Proofs.YtgjmbokfenpefaaGreatDoor
open Go.RowKit

theorem hd_eq_iff (a b : Hd) : a = b ↔ a.epoch = b.epoch ∧ a.root = b.root ∧ a.prev = b.prev :=
  ⟨fun h => by rw [h]; exact ⟨rfl, rfl, rfl⟩, fun h => by cases a; cases b; simp_all⟩
theorem stood : Tryz.prog.stoodInHeld 52 = false := by kernel_rfl
theorem headFields : Tryz.prog.underlying 52 = some (.struct (Tryz.prog.fieldsOf 52)) := by kernel_rfl
theorem text_ne {a b : ByteArray} (h : ¬ a = b) : (a.toList == b.toList) = false := by
  rw [beq_eq_false_iff_ne]
  intro e
  rw [ByteArray.toList_eq, ByteArray.toList_eq] at e
  exact h (text_of e)
set_option maxHeartbeats 1000000 in
theorem run_neq_heads (a b : Hd) (w : World) :
    (binOp .neq 52 (.agg #[.int .i64 a.epoch, .string a.root, .string a.prev]) (.agg #[.int .i64 b.epoch, .string b.root, .string b.prev])).run Tryz.prog w = .ok (.bool (!decide (a = b))) w := by
  rw [run_neq_struct, run_equalIn_agg _ 9999 _ _ _ headFields stood]
  by_cases h1 : a.epoch = b.epoch
  · by_cases h2 : a.root = b.root
    · by_cases h3 : a.prev = b.prev
      · have e : decide (a = b) = true := by simp [hd_eq_iff, h1, h2, h3]
        rw [e, h1, h2, h3]
        go_simp
      · have e : decide (a = b) = false := by simp [hd_eq_iff, h3]
        have e3 := text_ne h3
        rw [e, h1, h2]
        go_simp
    · have e : decide (a = b) = false := by simp [hd_eq_iff, h2]
      have e3 := text_ne h2
      rw [e, h1]
      go_simp
  · have e : decide (a = b) = false := by simp [hd_eq_iff, h1]
    have e3 : (a.epoch == b.epoch) = false := by rw [beq_eq_false_iff_ne]; exact h1
    rw [e]
    go_simp
end Go.Proofs.YtgjmbokfenpefaaGreatDoor
/- The document's Whole and Parts. -/
namespace Go.Proofs.YtgjmbokfenpefaaGreatDoor
open Go.RowKit

/-- A head's variable that was made ahead of a call is as it was behind it. -/
theorem newFacts {w w2 : World} {t : TypeId} (hb : Below (w.alloc (.cells #[.int .i64 0, .string ⟨#[]⟩, .string ⟨#[]⟩] t)).drew.heap.size (w.alloc (.cells #[.int .i64 0, .string ⟨#[]⟩, .string ⟨#[]⟩] t)).drew w2) :
    w2.cell? ⟨w.heap.size, 0, none⟩ = some (.int .i64 0) ∧ w2.cell? ⟨w.heap.size, 1, none⟩ = some (.string ⟨#[]⟩) ∧ w2.cell? ⟨w.heap.size, 2, none⟩ = some (.string ⟨#[]⟩) ∧ w2.frozen? ⟨w.heap.size, 0, none⟩ = false ∧ w2.frozen? ⟨w.heap.size, 1, none⟩ = false ∧ w2.frozen? ⟨w.heap.size, 2, none⟩ = false := by
  have h := (Holds.new w 3 (hdF noHd) t).drew.below hb (by show w.heap.size < (w.alloc _).heap.size; simp)
  exact ⟨h.cell 0 (by omega), h.cell 1 (by omega), h.cell 2 (by omega), h.free 0, h.free 1, h.free 2⟩
theorem newHolds {w w2 : World} {t : TypeId} (hb : Below (w.alloc (.cells #[.int .i64 0, .string ⟨#[]⟩, .string ⟨#[]⟩] t)).drew.heap.size (w.alloc (.cells #[.int .i64 0, .string ⟨#[]⟩, .string ⟨#[]⟩] t)).drew w2) (Y : Hd) :
    Holds (((w2.setCell ⟨w.heap.size, 0, none⟩ (.int .i64 Y.epoch)).setCell ⟨w.heap.size, 1, none⟩ (.string Y.root)).setCell ⟨w.heap.size, 2, none⟩ (.string Y.prev)) w.heap.size 3 (hdF Y) t ∧
      Below w.heap.size w (((w2.setCell ⟨w.heap.size, 0, none⟩ (.int .i64 Y.epoch)).setCell ⟨w.heap.size, 1, none⟩ (.string Y.root)).setCell ⟨w.heap.size, 2, none⟩ (.string Y.prev)) := by
  have h := (Holds.new w 3 (hdF noHd) t).drew.below hb (by show w.heap.size < (w.alloc _).heap.size; simp)
  refine ⟨(((h.set 0 _).set 1 _).set 2 _).congr fun i hi => ?_, (((((Below.refl _ _).alloc (Nat.le_refl _) _).drew.trans (hb.mono (by simp))).setCell (Nat.le_refl _) _).setCell (Nat.le_refl _) _).setCell (Nat.le_refl _) _⟩
  rcases (show i = 0 ∨ i = 1 ∨ i = 2 by omega) with rfl | rfl | rfl <;> simp [upd, hdF]
end Go.Proofs.YtgjmbokfenpefaaGreatDoor
/- Regions that only read and call what makes memory. No program is imported. -/
namespace Go.Proofs.YtgjmbokfenpefaaGreatDoor
open Go.RowKit

/-- A region that only reads and calls what makes memory: one walk, in the text's order, over the worlds later than its own. -/
theorem wp_region_later {P : Program} {id : Nat} {Q : Exit → Act → World → Prop} {a : Act} {w : World} {l : List Oper} (hm : P.follows .mixedOrders = true) (hB : Region.lexB .any l.toArray = true)
    (h : wpQuiet P l.toArray (fun w' => ∃ z : Later w.heap.size w, w' = z.at') (fun a' => ∀ w', (∃ z : Later w.heap.size w, w' = z.at') → Q .normal a' w') l a) : (Code.region id l.toArray true).wp P Q a w :=
  wp_region_quiet (C := fun w' => ∃ z : Later w.heap.size w, w' = z.at') hm hB ⟨⟨w.drew, (Below.refl _ _).drew⟩, rfl⟩ (by simpa using h)

end Go.Proofs.YtgjmbokfenpefaaGreatDoor
/- The document's numbers of rounds: root. -/
namespace Go.Proofs.YtgjmbokfenpefaaGreatDoor
open Go.RowKit

def searchL (k p : Nat) : Nat → Nat → Nat → Nat
  | 0, low, _ => low
  | f + 1, low, high => if low + 1 < high then (if aboveL ((low + high) / 2) k p then searchL k p f low ((low + high) / 2) else searchL k p f ((low + high) / 2) high) else low
def rootL (p k : Nat) : Nat := searchL k p 40 0 1099511627776 % 4294967296
end Go.Proofs.YtgjmbokfenpefaaGreatDoor
/- The numbers of rounds, reckoned from roots of primes, are the tables'. -/
namespace Go.Proofs.YtgjmbokfenpefaaGreatDoor
open Go.RowKit

theorem k_all : (List.range 64).all (fun i => rootL ((pl 310).getD i 0) 3 == kTab.getD i 0) = true := by decide +kernel
theorem k_root (i : Nat) (h : i < 64) : rootL ((pl 310).getD i 0) 3 = kTab.getD i 0 := by
  have := List.all_eq_true.1 k_all i (List.mem_range.2 h); simpa using this
end Go.Proofs.YtgjmbokfenpefaaGreatDoor
/- The document's numbers of rounds: New. -/
namespace Go.Proofs.YtgjmbokfenpefaaGreatDoor
open Go.RowKit

def partR (i j : Nat) : Value := if j < 8 then (if j < i then .int .u32 (W32 (iv j)) else .int .u32 0) else if j - 8 < i then .int .u32 (W32 (kOf (j - 8))) else .int .u32 0
structure NewRel (N : Nat) (w wr : World) (v : Value) (i : Nat) : Prop where
  below : Below N w wr
  own : Holds wr N 72 (partR i) 97
  row : Row wr (N + 1) 1 v 64 (i64s (pl 310))

end Go.Proofs.YtgjmbokfenpefaaGreatDoor
/- The document's client in memory: NewClient, See. -/
namespace Go.Proofs.YtgjmbokfenpefaaGreatDoor
open Go.RowKit

def clF (rb : Nat) (pub : ByteArray) (v : Value) : Nat → Value := fun i => if i = 0 then .pointer (some ⟨rb, 0, none⟩) else if i = 1 then .string pub else v
/-- The document's client at block p. -/
structure RClM (F : Nat → Prop) (w : World) (p rb : Nat) (c : Cl) (v : Value) : Prop where
  own : Holds w p 3 (clF rb c.pub v) 132
  row : Row w (p + 1) 3 v c.heads.length (hdCells c.heads)
  fp : F p
  fv : ∀ k, v.ownBlock = some k → F k
  lt : ∀ k, F k → k < w.heap.size
def RCl (F : Nat → Prop) (w : World) (p rb : Nat) (c : Cl) : Prop := ∃ v, RClM F w p rb c v
theorem RClM.same {F : Nat → Prop} {w w' : World} {p rb : Nat} {c : Cl} {v : Value} (h : RClM F w p rb c v) (hs : Same F w w') : RClM F w' p rb c v where
  own := by have := h.own; unfold Holds at this ⊢; rw [hs.block p h.fp]; exact this
  row := h.row.kept (fun k hk => hs.block k (h.fv k hk)) hs.size
  fp := h.fp
  fv := h.fv
  lt k hk := Nat.lt_of_lt_of_le (h.lt k hk) hs.size
theorem RCl.same {F : Nat → Prop} {w w' : World} {p rb : Nat} {c : Cl} (h : RCl F w p rb c) (hs : Same F w w') : RCl F w' p rb c := by
  obtain ⟨v, h⟩ := h
  exact ⟨v, h.same hs⟩
theorem RCl.lt {F : Nat → Prop} {w : World} {p rb : Nat} {c : Cl} (h : RCl F w p rb c) : ∀ k, F k → k < w.heap.size := by
  obtain ⟨v, h⟩ := h
  exact h.lt
theorem RCl.below {F : Nat → Prop} {w w' : World} {p rb : Nat} {c : Cl} (h : RCl F w p rb c) (hb : Below w.heap.size w w') : RCl F w' p rb c := h.same (same_of_below hb h.lt)
theorem RCl.wide {F G : Nat → Prop} {w : World} {p rb : Nat} {c : Cl} (h : RCl F w p rb c) (hG : ∀ k, F k → G k) (lt : ∀ k, G k → k < w.heap.size) : RCl G w p rb c := by
  obtain ⟨v, h⟩ := h
  exact ⟨v, h.own, h.row, hG _ h.fp, fun k hk => hG _ (h.fv k hk), lt⟩

end Go.Proofs.YtgjmbokfenpefaaGreatDoor
