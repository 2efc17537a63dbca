/- Blocks of cells whose content is a function of the place. No program is imported. -/
import Derived.WalkKit
import Derived.Lib.Hide
import Derived.WalkLawsBesides
import Derived.Deep.QuietTactic
import Derived.Deep.WholeRow
namespace Go.Proofs.YthbfmdgnhipobaaDoor
open Go.RowKit

/-- The first n values of f. -/
def arr (n : Nat) (f : Nat → Value) : Array Value := ((List.range n).map f).toArray
def upd {α : Type} (f : Nat → α) (i : Nat) (v : α) : Nat → α := fun j => if j = i then v else f j
theorem arr_size (n : Nat) (f : Nat → Value) : (arr n f).size = n := by simp [arr]
theorem arr_get (n : Nat) (f : Nat → Value) (i : Nat) (h : i < n) : (arr n f)[i]? = some (f i) := by simp [arr, h]
theorem arr_set (n : Nat) (f : Nat → Value) (i : Nat) (v : Value) : (arr n f).setIfInBounds i v = arr n (upd f i v) := by
  apply Array.ext'
  unfold arr
  rw [Array.toList_setIfInBounds]
  apply List.ext_getElem
  · simp
  · intro j h1 h2
    rw [List.getElem_set]
    by_cases hij : i = j
    · simp [upd, hij]
    · rw [if_neg hij]
      have : ¬ j = i := fun e => hij e.symm
      simp [upd, this]
theorem arr_congr {n : Nat} {f g : Nat → Value} (h : ∀ i, i < n → f i = g i) : arr n f = arr n g := by
  unfold arr; congr 1
  apply List.map_congr_left
  intro i hi
  exact h i (by simpa using hi)

/-- Block b holds the first n values of f, of type t, none of them frozen. -/
def Holds (w : World) (b : Nat) (n : Nat) (f : Nat → Value) (t : TypeId) : Prop := w.heap[b]? = some (.cells (arr n f) t (0, 0))
theorem Holds.cell {w : World} {b n : Nat} {f : Nat → Value} {t : TypeId} (h : Holds w b n f t) (i : Nat) (hi : i < n) : w.cell? ⟨b, i, none⟩ = some (f i) := by
  unfold Holds at h; simp [World.cell?, h, arr_get n f i hi]
theorem Holds.free {w : World} {b n : Nat} {f : Nat → Value} {t : TypeId} (h : Holds w b n f t) (i : Nat) : w.frozen? ⟨b, i, none⟩ = false := by
  unfold Holds at h; simp [World.frozen?, h]
theorem Holds.lt {w : World} {b n : Nat} {f : Nat → Value} {t : TypeId} (h : Holds w b n f t) : b < w.heap.size := lt_of_block h
theorem Holds.set {w : World} {b n : Nat} {f : Nat → Value} {t : TypeId} (h : Holds w b n f t) (i : Nat) (v : Value) : Holds (w.setCell ⟨b, i, none⟩ v) b n (upd f i v) t := by
  have hlt := h.lt
  unfold Holds at h ⊢
  have h' : w.heap[b] = .cells (arr n f) t (0, 0) := by simpa [Array.getElem?_eq_getElem hlt] using h
  show (w.heap.modify b _)[b]? = _
  rw [Array.getElem?_eq_getElem (by simpa using hlt), Array.getElem_modify_self, h', ← arr_set]
  rfl
theorem Holds.other {w : World} {b n : Nat} {f : Nat → Value} {t : TypeId} (h : Holds w b n f t) {a : Addr} (ha : b ≠ a.block) (v : Value) : Holds (w.setCell a v) b n f t := by
  unfold Holds at h ⊢; rw [Below.heap_setCell _ _ _ _ ha]; exact h
theorem Holds.alloc {w : World} {b n : Nat} {f : Nat → Value} {t : TypeId} (h : Holds w b n f t) (o : Obj) : Holds (w.alloc o) b n f t := by
  have := h.lt
  unfold Holds at h ⊢; rw [Below.heap_alloc _ _ _ this]; exact h
theorem Holds.drew {w : World} {b n : Nat} {f : Nat → Value} {t : TypeId} (h : Holds w b n f t) : Holds w.drew b n f t := h
theorem Holds.below {w w' : World} {B b n : Nat} {f : Nat → Value} {t : TypeId} (h : Holds w b n f t) (hb : Below B w w') (hB : b < B) : Holds w' b n f t := by
  unfold Holds at h ⊢; rw [hb.block b hB]; exact h
theorem Holds.congr {w : World} {b n : Nat} {f g : Nat → Value} {t : TypeId} (h : Holds w b n f t) (e : ∀ i, i < n → f i = g i) : Holds w b n g t := by
  unfold Holds at h ⊢; rw [← arr_congr e]; exact h
theorem Holds.new (w : World) (n : Nat) (f : Nat → Value) (t : TypeId) : Holds (w.alloc (.cells (arr n f) t)) w.heap.size n f t := by
  unfold Holds
  show (w.heap.push _)[w.heap.size]? = _
  simp

theorem Holds.row {w : World} {b n : Nat} {f : Nat → Value} {t : TypeId} (h : Holds w b n f t) (g : Nat → Value) : Holds (w.setRow b (arr n g)) b n g t := by
  unfold Holds at h ⊢; exact setRow_heap w b _ _ t _ h
theorem Holds.rowOther {w : World} {b n : Nat} {f : Nat → Value} {t : TypeId} (h : Holds w b n f t) {c : Nat} (hc : b ≠ c) (cs : Array Value) : Holds (w.setRow c cs) b n f t := by
  unfold Holds at h ⊢; rw [setRow_other w c b cs hc]; exact h
theorem arr_one (n : Nat) (f : Nat → Value) (h : ∀ i, (f i).oneCell' = true) : (arr n f).all (·.oneCell') = true := by
  simp [arr, h]

/-- A whole array or struct stored into the block that was made for it just now. -/
theorem wpList_store_new {P : Program} {ops : Array Oper} {rest : List Oper} {o : Oper} {a : Act} {w : World} {Q : Exit → Act → World → Prop} (hgd : o.guard = none) (ty : TypeId) (x y : Operand) (ho : o.op = .store ty x y)
    (cells : Array Value) (hx : a.eval x = .pointer (some ⟨w.heap.size, 0, none⟩)) (hy : a.eval y = .agg cells)
    (t : TypeId) (old : Array Value) (hi : (P.info? ty).map (·.size) = some cells.size)
    (hold : old.size = cells.size) (h1 : cells.all (·.oneCell') = true)
    (h : wpList P ops Q rest (a.put o.dst undef) (w.alloc (.cells cells t))) : wpList P ops Q (o :: rest) a (w.alloc (.cells old t)) :=
  wpList_store_row hgd ty x y ho w.heap.size cells hx hy t old (heap_alloc_new _ _) hi hold h1 (by rw [World.setRow_alloc_new]; exact h)

/-- All but block b is as it was, but for new blocks and draws. -/
structure But (b : Nat) (w w' : World) : Prop where
  os : w'.os = w.os
  tape : w'.tape = w.tape
  output : w'.output = w.output
  size : w.heap.size ≤ w'.heap.size
  block : ∀ k, k < w.heap.size → k ≠ b → w'.heap[k]? = w.heap[k]?
theorem But.refl (b : Nat) (w : World) : But b w w := ⟨rfl, rfl, rfl, Nat.le_refl _, fun _ _ _ => rfl⟩
theorem But.trans {b : Nat} {u v w : World} (h : But b u v) (k : But b v w) : But b u w :=
  ⟨k.os.trans h.os, k.tape.trans h.tape, k.output.trans h.output, Nat.le_trans h.size k.size, fun i hi hb => (k.block i (Nat.lt_of_lt_of_le hi h.size) hb).trans (h.block i hi hb)⟩
theorem But.drew {b : Nat} {u w : World} (h : But b u w) : But b u w.drew := ⟨h.os, h.tape, h.output, h.size, h.block⟩
theorem But.drewN {b : Nat} {u w : World} (h : But b u w) (n : Nat) : But b u (w.drewN n) := ⟨h.os, h.tape, h.output, h.size, h.block⟩
theorem But.alloc {b : Nat} {u w : World} (h : But b u w) (o : Obj) : But b u (w.alloc o) :=
  h.trans ⟨rfl, rfl, rfl, by simp, fun k hk _ => Below.heap_alloc _ _ _ hk⟩
theorem But.set {b : Nat} {u w : World} (h : But b u w) (i : Nat) (v : Value) : But b u (w.setCell ⟨b, i, none⟩ v) :=
  h.trans ⟨rfl, rfl, rfl, by simp [World.setCell], fun k _ hb => Below.heap_setCell _ _ _ _ hb⟩
theorem But.row {b : Nat} {u w : World} (h : But b u w) (cs : Array Value) : But b u (w.setRow b cs) :=
  h.trans ⟨rfl, rfl, rfl, by simp, fun k _ hb => setRow_other w b k cs hb⟩
/-- A store into a block that was not there at the start. -/
theorem But.new {b : Nat} {u w : World} (h : But b u w) {a : Addr} (ha : u.heap.size ≤ a.block) (v : Value) : But b u (w.setCell a v) :=
  ⟨h.os, h.tape, h.output, by simp [World.setCell]; exact h.size, fun k hk hb => (Below.heap_setCell w a v k (by omega)).trans (h.block k hk hb)⟩
theorem But.below {b : Nat} {u v w : World} (h : But b u v) (k : Below v.heap.size v w) : But b u w :=
  ⟨k.os.trans h.os, k.tape.trans h.tape, k.output.trans h.output, Nat.le_trans h.size k.size, fun i hi hb => (k.block i (Nat.lt_of_lt_of_le hi h.size)).trans (h.block i hi hb)⟩
theorem But.holds {w w' : World} {c b n : Nat} {f : Nat → Value} {t : TypeId} (h : Holds w b n f t) (hb : But c w w') (hc : b ≠ c) : Holds w' b n f t := by
  have := h.lt
  unfold Holds at h ⊢; rw [hb.block b this hc]; exact h
/-- Where the block itself was new, nothing old has turned. -/
theorem But.toBelow {b B : Nat} {w w' : World} (h : But b w w') (hb : B ≤ b) (hB : B ≤ w.heap.size) : Below B w w' :=
  ⟨h.os, h.tape, h.output, h.size, fun k hk => h.block k (by omega) (by omega)⟩

/-- A part of an array variable of one-cell elements, its bounds as natural numbers. -/
theorem sliceAt_lh {P : Program} (t e n : Nat) (ht : P.underlying t = some (.array n e)) (hz : ∀ w, (Go.sizeOf e).run P w = .ok 1 w) (b o l h : Nat) (hl : l ≤ h) (hh : h ≤ n) (hn : l < n) (x y : Int) (hx : x = l) (hy : y = h) (w : World) :
    (Instr.sliceAt t (.pointer (some ⟨b, o, none⟩)) (some (.int .i64 x)) (some (.int .i64 y)) none).run P w = .ok (.slice (some ⟨b, o + l, none⟩) (h - l) (n - l)) w := by
  subst hx; subst hy
  have e1 : P.arrayLen t = n := by simp [Program.arrayLen, ht]
  have e2 : P.elem t = e := by simp [Program.elem, ht]
  rw [run_sliceAt_array_lh w t ⟨b, o, none⟩ (by rw [e1, e2]; exact ht) .i64 .i64 l h (by omega) (by omega) (by omega), e1, e2, hz]
  have : ¬ n = l := by omega
  simp [Result.andThen, slicedAt, Addr.add, this]
theorem sliceAt_l {P : Program} (t e n : Nat) (ht : P.underlying t = some (.array n e)) (hz : ∀ w, (Go.sizeOf e).run P w = .ok 1 w) (b o l : Nat) (hn : l < n) (k : IntKind) (x : Int) (hx : x = l) (w : World) :
    (Instr.sliceAt t (.pointer (some ⟨b, o, none⟩)) (some (.int k x)) none none).run P w = .ok (.slice (some ⟨b, o + l, none⟩) (n - l) (n - l)) w := by
  subst hx
  have e1 : P.arrayLen t = n := by simp [Program.arrayLen, ht]
  have e2 : P.elem t = e := by simp [Program.elem, ht]
  rw [run_sliceAt_array_l w t ⟨b, o, none⟩ (by rw [e1, e2]; exact ht) k l (by omega) (by omega), e1, e2, hz]
  have : ¬ n = l := by omega
  simp [Result.andThen, slicedAt, Addr.add, this]
end Go.Proofs.YthbfmdgnhipobaaDoor
