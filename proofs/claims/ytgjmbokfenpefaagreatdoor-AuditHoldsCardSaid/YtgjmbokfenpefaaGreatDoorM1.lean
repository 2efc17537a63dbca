/- Parts of the proof, one behind the other: Arr, Row, Copy, Text, Row2. -/
import Derived.WalkKit
import Derived.Lib.Hide
import Derived.WalkLawsBesides
import Derived.Deep.QuietTactic
import Derived.Deep.WholeRow
import Derived.ArgAppend
import Derived.Laws.AppendOwnNone
import Derived.Laws.CopyRow
import Derived.Deep.RegionLaw
import Derived.Laws.BytesString
import Derived.Laws.IdiomStrings
/- Blocks of cells whose content is a function of the place. No program is imported. -/
namespace Go.Proofs.YtgjmbokfenpefaaGreatDoor
open Go.RowKit

/-- The first n values of f. -/
def arr (n : Nat) (f : Nat → Value) : Array Value := ((List.range n).map f).toArray
def upd {α : Type} (f : Nat → α) (i : Nat) (v : α) : Nat → α := fun j => if j = i then v else f j
theorem arr_size (n : Nat) (f : Nat → Value) : (arr n f).size = n := by simp [arr]
theorem arr_get (n : Nat) (f : Nat → Value) (i : Nat) (h : i < n) : (arr n f)[i]? = some (f i) := by simp [arr, h]
theorem arr_set (n : Nat) (f : Nat → Value) (i : Nat) (v : Value) : (arr n f).setIfInBounds i v = arr n (upd f i v) := by
  apply Array.ext'
  unfold arr
  rw [Array.toList_setIfInBounds]
  apply List.ext_getElem
  · simp
  · intro j h1 h2
    rw [List.getElem_set]
    by_cases hij : i = j
    · simp [upd, hij]
    · rw [if_neg hij]
      have : ¬ j = i := fun e => hij e.symm
      simp [upd, this]
theorem arr_congr {n : Nat} {f g : Nat → Value} (h : ∀ i, i < n → f i = g i) : arr n f = arr n g := by
  unfold arr; congr 1
  apply List.map_congr_left
  intro i hi
  exact h i (by simpa using hi)

/-- Block b holds the first n values of f, of type t, none of them frozen. -/
def Holds (w : World) (b : Nat) (n : Nat) (f : Nat → Value) (t : TypeId) : Prop := w.heap[b]? = some (.cells (arr n f) t (0, 0))
theorem Holds.cell {w : World} {b n : Nat} {f : Nat → Value} {t : TypeId} (h : Holds w b n f t) (i : Nat) (hi : i < n) : w.cell? ⟨b, i, none⟩ = some (f i) := by
  unfold Holds at h; simp [World.cell?, h, arr_get n f i hi]
theorem Holds.free {w : World} {b n : Nat} {f : Nat → Value} {t : TypeId} (h : Holds w b n f t) (i : Nat) : w.frozen? ⟨b, i, none⟩ = false := by
  unfold Holds at h; simp [World.frozen?, h]
theorem Holds.lt {w : World} {b n : Nat} {f : Nat → Value} {t : TypeId} (h : Holds w b n f t) : b < w.heap.size := lt_of_block h
theorem Holds.set {w : World} {b n : Nat} {f : Nat → Value} {t : TypeId} (h : Holds w b n f t) (i : Nat) (v : Value) : Holds (w.setCell ⟨b, i, none⟩ v) b n (upd f i v) t := by
  have hlt := h.lt
  unfold Holds at h ⊢
  have h' : w.heap[b] = .cells (arr n f) t (0, 0) := by simpa [Array.getElem?_eq_getElem hlt] using h
  show (w.heap.modify b _)[b]? = _
  rw [Array.getElem?_eq_getElem (by simpa using hlt), Array.getElem_modify_self, h', ← arr_set]
  rfl
theorem Holds.other {w : World} {b n : Nat} {f : Nat → Value} {t : TypeId} (h : Holds w b n f t) {a : Addr} (ha : b ≠ a.block) (v : Value) : Holds (w.setCell a v) b n f t := by
  unfold Holds at h ⊢; rw [Below.heap_setCell _ _ _ _ ha]; exact h
theorem Holds.alloc {w : World} {b n : Nat} {f : Nat → Value} {t : TypeId} (h : Holds w b n f t) (o : Obj) : Holds (w.alloc o) b n f t := by
  have := h.lt
  unfold Holds at h ⊢; rw [Below.heap_alloc _ _ _ this]; exact h
theorem Holds.drew {w : World} {b n : Nat} {f : Nat → Value} {t : TypeId} (h : Holds w b n f t) : Holds w.drew b n f t := h
theorem Holds.below {w w' : World} {B b n : Nat} {f : Nat → Value} {t : TypeId} (h : Holds w b n f t) (hb : Below B w w') (hB : b < B) : Holds w' b n f t := by
  unfold Holds at h ⊢; rw [hb.block b hB]; exact h
theorem Holds.congr {w : World} {b n : Nat} {f g : Nat → Value} {t : TypeId} (h : Holds w b n f t) (e : ∀ i, i < n → f i = g i) : Holds w b n g t := by
  unfold Holds at h ⊢; rw [← arr_congr e]; exact h
theorem Holds.new (w : World) (n : Nat) (f : Nat → Value) (t : TypeId) : Holds (w.alloc (.cells (arr n f) t)) w.heap.size n f t := by
  unfold Holds
  show (w.heap.push _)[w.heap.size]? = _
  simp

theorem Holds.row {w : World} {b n : Nat} {f : Nat → Value} {t : TypeId} (h : Holds w b n f t) (g : Nat → Value) : Holds (w.setRow b (arr n g)) b n g t := by
  unfold Holds at h ⊢; exact setRow_heap w b _ _ t _ h
theorem arr_one (n : Nat) (f : Nat → Value) (h : ∀ i, (f i).oneCell' = true) : (arr n f).all (·.oneCell') = true := by
  simp [arr, h]

/-- A whole array or struct stored into the block that was made for it just now. -/
theorem wpList_store_new {P : Program} {ops : Array Oper} {rest : List Oper} {o : Oper} {a : Act} {w : World} {Q : Exit → Act → World → Prop} (hgd : o.guard = none) (ty : TypeId) (x y : Operand) (ho : o.op = .store ty x y)
    (cells : Array Value) (hx : a.eval x = .pointer (some ⟨w.heap.size, 0, none⟩)) (hy : a.eval y = .agg cells)
    (t : TypeId) (old : Array Value) (hi : (P.info? ty).map (·.size) = some cells.size)
    (hold : old.size = cells.size) (h1 : cells.all (·.oneCell') = true)
    (h : wpList P ops Q rest (a.put o.dst undef) (w.alloc (.cells cells t))) : wpList P ops Q (o :: rest) a (w.alloc (.cells old t)) :=
  wpList_store_row hgd ty x y ho w.heap.size cells hx hy t old (heap_alloc_new _ _) hi hold h1 (by rw [World.setRow_alloc_new]; exact h)

/-- All but block b is as it was, but for new blocks and draws. -/
structure But (b : Nat) (w w' : World) : Prop where
  os : w'.os = w.os
  tape : w'.tape = w.tape
  output : w'.output = w.output
  size : w.heap.size ≤ w'.heap.size
  block : ∀ k, k < w.heap.size → k ≠ b → w'.heap[k]? = w.heap[k]?
theorem But.refl (b : Nat) (w : World) : But b w w := ⟨rfl, rfl, rfl, Nat.le_refl _, fun _ _ _ => rfl⟩
theorem But.trans {b : Nat} {u v w : World} (h : But b u v) (k : But b v w) : But b u w :=
  ⟨k.os.trans h.os, k.tape.trans h.tape, k.output.trans h.output, Nat.le_trans h.size k.size, fun i hi hb => (k.block i (Nat.lt_of_lt_of_le hi h.size) hb).trans (h.block i hi hb)⟩
theorem But.drew {b : Nat} {u w : World} (h : But b u w) : But b u w.drew := ⟨h.os, h.tape, h.output, h.size, h.block⟩
theorem But.drewN {b : Nat} {u w : World} (h : But b u w) (n : Nat) : But b u (w.drewN n) := ⟨h.os, h.tape, h.output, h.size, h.block⟩
theorem But.alloc {b : Nat} {u w : World} (h : But b u w) (o : Obj) : But b u (w.alloc o) :=
  h.trans ⟨rfl, rfl, rfl, by simp, fun k hk _ => Below.heap_alloc _ _ _ hk⟩
theorem But.set {b : Nat} {u w : World} (h : But b u w) (i : Nat) (v : Value) : But b u (w.setCell ⟨b, i, none⟩ v) :=
  h.trans ⟨rfl, rfl, rfl, by simp [World.setCell], fun k _ hb => Below.heap_setCell _ _ _ _ hb⟩
theorem But.row {b : Nat} {u w : World} (h : But b u w) (cs : Array Value) : But b u (w.setRow b cs) :=
  h.trans ⟨rfl, rfl, rfl, by simp, fun k _ hb => setRow_other w b k cs hb⟩
/-- A store into a block that was not there at the start. -/
theorem But.new {b : Nat} {u w : World} (h : But b u w) {a : Addr} (ha : u.heap.size ≤ a.block) (v : Value) : But b u (w.setCell a v) :=
  ⟨h.os, h.tape, h.output, by simp [World.setCell]; exact h.size, fun k hk hb => (Below.heap_setCell w a v k (by omega)).trans (h.block k hk hb)⟩
theorem But.below {b : Nat} {u v w : World} (h : But b u v) (k : Below v.heap.size v w) : But b u w :=
  ⟨k.os.trans h.os, k.tape.trans h.tape, k.output.trans h.output, Nat.le_trans h.size k.size, fun i hi hb => (k.block i (Nat.lt_of_lt_of_le hi h.size)).trans (h.block i hi hb)⟩
/-- Where the block itself was new, nothing old has turned. -/
theorem But.toBelow {b B : Nat} {w w' : World} (h : But b w w') (hb : B ≤ b) (hB : B ≤ w.heap.size) : Below B w w' :=
  ⟨h.os, h.tape, h.output, h.size, fun k hk => h.block k (by omega) (by omega)⟩

/-- A part of an array variable of one-cell elements, its bounds as natural numbers. -/
theorem sliceAt_lh {P : Program} (t e n : Nat) (ht : P.underlying t = some (.array n e)) (hz : ∀ w, (Go.sizeOf e).run P w = .ok 1 w) (b o l h : Nat) (hl : l ≤ h) (hh : h ≤ n) (hn : l < n) (x y : Int) (hx : x = l) (hy : y = h) (w : World) :
    (Instr.sliceAt t (.pointer (some ⟨b, o, none⟩)) (some (.int .i64 x)) (some (.int .i64 y)) none).run P w = .ok (.slice (some ⟨b, o + l, none⟩) (h - l) (n - l)) w := by
  subst hx; subst hy
  have e1 : P.arrayLen t = n := by simp [Program.arrayLen, ht]
  have e2 : P.elem t = e := by simp [Program.elem, ht]
  rw [run_sliceAt_array_lh w t ⟨b, o, none⟩ (by rw [e1, e2]; exact ht) .i64 .i64 l h (by omega) (by omega) (by omega), e1, e2, hz]
  have : ¬ n = l := by omega
  simp [Result.andThen, slicedAt, Addr.add, this]
theorem sliceAt_l {P : Program} (t e n : Nat) (ht : P.underlying t = some (.array n e)) (hz : ∀ w, (Go.sizeOf e).run P w = .ok 1 w) (b o l : Nat) (hn : l < n) (k : IntKind) (x : Int) (hx : x = l) (w : World) :
    (Instr.sliceAt t (.pointer (some ⟨b, o, none⟩)) (some (.int k x)) none none).run P w = .ok (.slice (some ⟨b, o + l, none⟩) (n - l) (n - l)) w := by
  subst hx
  have e1 : P.arrayLen t = n := by simp [Program.arrayLen, ht]
  have e2 : P.elem t = e := by simp [Program.elem, ht]
  rw [run_sliceAt_array_l w t ⟨b, o, none⟩ (by rw [e1, e2]; exact ht) k l (by omega) (by omega), e1, e2, hz]
  have : ¬ n = l := by omega
  simp [Result.andThen, slicedAt, Addr.add, this]
end Go.Proofs.YtgjmbokfenpefaaGreatDoor
/- A slice of the call's own, known by its cells, whoever made it; and append onto it. No program is imported. -/
namespace Go.Proofs.YtgjmbokfenpefaaGreatDoor
open Go.RowKit

/-- The slice v of n elements, of size cells each, holds the cells xs at the head of a block from base on (or is nil and holds none); it may be written up to its capacity. -/
def Row (w : World) (base size : Nat) (v : Value) (n : Nat) (xs : List Value) : Prop :=
  xs.length = n * size ∧
  ((v = .slice none 0 0 ∧ n = 0) ∨
   ∃ g cap, v = .slice (some ⟨g, 0, none⟩) n cap ∧ base ≤ g ∧ g < w.heap.size ∧ n ≤ cap ∧
     (∀ j u, xs[j]? = some u → w.cell? ⟨g, j, none⟩ = some u) ∧ (∀ j, j < cap * size → (w.cell? ⟨g, j, none⟩).isSome = true ∧ w.frozen? ⟨g, j, none⟩ = false))

theorem Row.nil (w : World) (base size : Nat) : Row w base size (.slice none 0 0) 0 [] := ⟨by simp, .inl ⟨rfl, rfl⟩⟩
theorem Row.of_owns {w : World} {base : Nat} {e : TypeId} {size : Nat} {v : Value} {n : Nat} {xs : List Value} (h : w.ownsRow base e size v n xs) : Row w base size v n xs := by
  obtain ⟨h1, h2⟩ := h
  refine ⟨h1, ?_⟩
  rcases h2 with h2 | ⟨g, cap, cur, hv, hg, hh, hn, hm, hs, hx⟩
  · exact .inl h2
  · refine .inr ⟨g, cap, hv, hg, lt_of_block hh, hn, ?_, ?_⟩
    · intro j u hj
      have : (⟨g, j, none⟩ : Addr).block = g := rfl
      rw [cell_of_row w g j cur e (0, 0) hh]
      rw [← hx] at hj
      rw [List.getElem?_take] at hj
      split at hj
      · simpa using hj
      · cases hj
    · intro j hj
      rw [cell_of_row w g j cur e (0, 0) hh]
      refine ⟨?_, frozen_of_row w g j cur e hh⟩
      have : j < cur.size := by omega
      simp [this]
theorem Row.mono {w : World} {base base' size : Nat} {v : Value} {n : Nat} {xs : List Value} (h : Row w base size v n xs) (hb : base' ≤ base) : Row w base' size v n xs := by
  obtain ⟨h1, h2⟩ := h
  refine ⟨h1, ?_⟩
  rcases h2 with h2 | ⟨g, cap, hv, hg, r⟩
  · exact .inl h2
  · exact .inr ⟨g, cap, hv, Nat.le_trans hb hg, r⟩
/-- What holds the row's block as it was, holds the row. -/
theorem Row.kept {w w' : World} {base size : Nat} {v : Value} {n : Nat} {xs : List Value} (h : Row w base size v n xs) (hk : ∀ k, v.ownBlock = some k → w'.heap[k]? = w.heap[k]?) (hz : w.heap.size ≤ w'.heap.size) : Row w' base size v n xs := by
  obtain ⟨h1, h2⟩ := h
  refine ⟨h1, ?_⟩
  rcases h2 with h2 | ⟨g, cap, hv, hg, hl, hn, hc, hs⟩
  · exact .inl h2
  · have hb := hk g (by rw [hv]; rfl)
    refine .inr ⟨g, cap, hv, hg, by omega, hn, fun j u hj => ?_, fun j hj => ?_⟩
    · rw [World.cell?_of_block (w := w) (a := ⟨g, j, none⟩) hb]; exact hc j u hj
    · rw [World.cell?_of_block (w := w) (a := ⟨g, j, none⟩) hb, World.frozen?_of_block (w := w) (a := ⟨g, j, none⟩) hb]; exact hs j hj
theorem Row.lt {w : World} {base size : Nat} {v : Value} {n : Nat} {xs : List Value} (h : Row w base size v n xs) : ∀ k, v.ownBlock = some k → base ≤ k ∧ k < w.heap.size := by
  obtain ⟨h1, h2⟩ := h
  rcases h2 with ⟨h2, _⟩ | ⟨g, cap, hv, hg, hl, _⟩
  · rw [h2]; intro k hk; cases hk
  · rw [hv]; intro k hk; simp [Value.ownBlock] at hk; omega
theorem Row.drew {w : World} {base size : Nat} {v : Value} {n : Nat} {xs : List Value} (h : Row w base size v n xs) : Row w.drew base size v n xs := h.kept (fun _ _ => rfl) (Nat.le_refl _)
theorem Row.drewN {w : World} {base size : Nat} {v : Value} {n : Nat} {xs : List Value} (h : Row w base size v n xs) (m : Nat) : Row (w.drewN m) base size v n xs := h.kept (fun _ _ => rfl) (Nat.le_refl _)
theorem Row.alloc {w : World} {base size : Nat} {v : Value} {n : Nat} {xs : List Value} (h : Row w base size v n xs) (o : Obj) : Row (w.alloc o) base size v n xs :=
  h.kept (fun k hk => Below.heap_alloc _ _ _ (h.lt k hk).2) (by simp)
theorem Row.below {w w' : World} {base size B : Nat} {v : Value} {n : Nat} {xs : List Value} (h : Row w base size v n xs) (hb : Below B w w') (hB : ∀ k, v.ownBlock = some k → k < B) : Row w' base size v n xs :=
  h.kept (fun k hk => hb.block k (hB k hk)) hb.size
theorem Row.belowAll {w w' : World} {base size : Nat} {v : Value} {n : Nat} {xs : List Value} (h : Row w base size v n xs) (hb : Below w.heap.size w w') : Row w' base size v n xs :=
  h.below hb fun k hk => (h.lt k hk).2
theorem Row.but {w w' : World} {base size b : Nat} {v : Value} {n : Nat} {xs : List Value} (h : Row w base size v n xs) (hb : But b w w') (hB : v.ownBlock ≠ some b) : Row w' base size v n xs :=
  h.kept (fun k hk => hb.block k (h.lt k hk).2 (fun e => hB (by rw [hk, e]))) hb.size
theorem Row.setOther {w : World} {base size : Nat} {v : Value} {n : Nat} {xs : List Value} (h : Row w base size v n xs) {a : Addr} (ha : v.ownBlock ≠ some a.block) (u : Value) : Row (w.setCell a u) base size v n xs :=
  h.kept (fun k hk => Below.heap_setCell _ _ _ _ (fun e => ha (by rw [hk, e]))) (by simp [World.setCell])
/-- The shape of a row that holds something. -/
theorem Row.shape {w : World} {base size : Nat} {v : Value} {n : Nat} {xs : List Value} (h : Row w base size v n xs) (hn : 0 < n) : ∃ g cap, v = .slice (some ⟨g, 0, none⟩) n cap ∧ base ≤ g ∧ g < w.heap.size ∧ n ≤ cap ∧ (∀ j u, xs[j]? = some u → w.cell? ⟨g, j, none⟩ = some u) ∧ (∀ j, j < n * size → w.frozen? ⟨g, j, none⟩ = false) := by
  obtain ⟨h1, h2⟩ := h
  rcases h2 with ⟨_, h2⟩ | ⟨g, cap, hv, hg, hl, hc, hcell, hs⟩
  · omega
  · exact ⟨g, cap, hv, hg, hl, hc, hcell, fun j hj => (hs j (by have := Nat.mul_le_mul_right size hc; omega)).2⟩
/-- A slice in any case. -/
theorem Row.any {w : World} {base size : Nat} {v : Value} {n : Nat} {xs : List Value} (h : Row w base size v n xs) : ∃ p cap, v = .slice p n cap := by
  obtain ⟨_, h2⟩ := h
  rcases h2 with ⟨h2, rfl⟩ | ⟨g, cap, hv, _⟩
  · exact ⟨none, 0, h2⟩
  · exact ⟨_, cap, hv⟩

theorem setCells_block (b : Nat) : ∀ (vs : List Value) (o : Nat) (w : World) (k : Nat), k ≠ b → (w.setCells b o vs).heap[k]? = w.heap[k]?
  | [], _, _, _, _ => rfl
  | v :: r, o, w, k, h => by rw [World.setCells, setCells_block b r (o + 1) _ k h]; exact Below.heap_setCell _ _ _ _ h
theorem setCells_size (b : Nat) : ∀ (vs : List Value) (o : Nat) (w : World), (w.setCells b o vs).heap.size = w.heap.size
  | [], _, _ => rfl
  | v :: r, o, w => by rw [World.setCells, setCells_size b r (o + 1)]; simp [World.setCell]
theorem setCells_rest (b : Nat) : ∀ (vs : List Value) (o : Nat) (w : World), (w.setCells b o vs).os = w.os ∧ (w.setCells b o vs).tape = w.tape ∧ (w.setCells b o vs).output = w.output
  | [], _, _ => ⟨rfl, rfl, rfl⟩
  | v :: r, o, w => by rw [World.setCells]; exact setCells_rest b r (o + 1) _

/-- v' lies where v lay, or in a block that w has not. -/
def Moved (w : World) (v v' : Value) : Prop := v'.ownBlock = v.ownBlock ∨ ∀ b, v'.ownBlock = some b → w.heap.size ≤ b
/-- append onto a row: it is a row again, where it was or in a new block. -/
theorem wpList_append_row2 {P : Program} {w : World} {ops : Array Oper} {rest : List Oper} {o : Oper} {a : Act} {Q : Exit → Act → World → Prop}
    (hg : o.guard = none) (s x : Operand) (t : TypeId) (hop : o.op = Op.call { callee := Callee.builtin Builtin.append, args := #[s, x], argTypes := #[t, t] })
    (e : TypeId) (i : TypeInfo) (z : Value) (size bytes : Nat) (h1 : P.underlying t = some (.slice e)) (h2 : P.info? e = some i) (h3 : i.zero = some z) (h4 : i.size = size) (h5 : i.bytes = bytes) (h6 : z.cells.size = size) (h7 : 0 < size)
    (base : Nat) (v : Value) (n : Nat) (xs : List Value) (hs : a.eval s = v) (hrow : Row w base size v n xs) (hbase : base ≤ w.heap.size)
    (ad : Addr) (m c : Nat) (news : List Value) (hx : a.eval x = .slice (some ad) m c) (hn : news.length = m * size) (hc : ∀ j u, news[j]? = some u → w.cell? (ad.add j) = some u) (h1c : ∀ u ∈ news, u.oneCell' = true)
    (b1 : n + m ≤ maxLen) (b2 : (n + m) * bytes ≤ 140737488355328)
    (hK : ∀ v' w', Hid (Row w' base size v' (n + m) (xs ++ news)) → Hid (w.grownBy w' v.ownBlock) → Hid (Moved w v v') → wpList P ops Q rest (a.put o.dst v') w') :
    wpList P ops Q (o :: rest) a w := by
  obtain ⟨hl, hr⟩ := hrow
  rcases hr with ⟨rfl, rfl⟩ | ⟨g, cap, rfl, hgb, hgl, hnc, hcell, hspare⟩
  · obtain rfl : xs = [] := List.eq_nil_of_length_eq_zero (by simpa using hl)
    refine wpList_append_own w hg s x t hop w.heap.size e i z size bytes h1 h2 h3 h4 h5 h6 h7 _ 0 [] hs (World.ownsRow_nil _ _ _ _) ad m c news hx hn hc h1c (by simpa using b1) (by simpa using b2) (Nat.le_refl w.heap.size) ?_
    intro v' w' r1 r2 _
    exact hK v' w' (show Row _ _ _ _ _ _ from (Row.of_owns r1).mono hbase) r2 (show Moved _ _ _ from .inr fun b hb => ((Row.of_owns r1).lt b hb).1)
  · refine wpList_append_arg w hg s x t hop e i z size bytes h1 h2 h3 h4 h5 h6 h7 g 0 n cap xs hs hl (fun j u hj => by rw [Nat.zero_add]; exact hcell j u hj) ad m c news hx hn hc h1c ?_ b1 b2 ?_ ?_
    · intro hroom j hj
      rw [Nat.zero_add]
      refine hspare _ ?_
      have := Nat.mul_le_mul_right size hroom
      rw [Nat.add_mul] at this
      omega
    · intro hroom
      rw [Nat.zero_add]
      have hin : ∀ j, j < news.length → (w.cell? ⟨g, n * size + j, none⟩).isSome = true := fun j hj => (hspare _ (by
        have := Nat.mul_le_mul_right size hroom
        rw [Nat.add_mul] at this
        omega)).1
      refine hK _ _ ?_ ?_ (show Moved _ _ _ from .inl rfl)
      · refine ⟨by rw [List.length_append, hl, hn, Nat.add_mul], .inr ⟨g, cap, rfl, hgb, by rw [setCells_size]; exact hgl, hroom, ?_, ?_⟩⟩
        · intro j u hj
          by_cases hjn : j < xs.length
          · rw [List.getElem?_append_left hjn] at hj
            rw [World.cell?_setCells_out g _ _ _ _ (fun _ _ => Or.inl (by show j < n * size; omega))]
            exact hcell j u hj
          · rw [List.getElem?_append_right (by omega)] at hj
            have hjl := (List.getElem?_eq_some_iff.1 hj).1
            have := World.cell?_setCells_in g news (n * size) w hin (j - xs.length) hjl
            rw [show n * size + (j - xs.length) = j from by omega] at this
            rw [this]
            rw [List.getElem?_eq_getElem hjl] at hj
            exact hj
        · intro j hj
          rw [World.frozen?_setCells]
          refine ⟨?_, (hspare j hj).2⟩
          by_cases hjn : n * size ≤ j ∧ j < n * size + news.length
          · have := World.cell?_setCells_in g news (n * size) w hin (j - n * size) (by omega)
            rw [show n * size + (j - n * size) = j from by omega] at this
            rw [this]; rfl
          · rw [World.cell?_setCells_out g _ _ _ _ (fun _ _ => by show j < n * size ∨ n * size + news.length ≤ j; omega)]
            exact (hspare j hj).1
      · have hr := setCells_rest g news (n * size) w
        exact (show World.grownBy _ _ _ from ⟨hr.1, hr.2.1, hr.2.2, by rw [setCells_size]; exact Nat.le_refl _, fun k _ hk => setCells_block g _ _ _ k (fun e => hk (by rw [e]; rfl))⟩)
    · intro hgrow v' w' r1 r2
      refine hK v' w' (show Row _ _ _ _ _ _ from (Row.of_owns r1).mono hbase) ?_ (show Moved _ _ _ from .inr fun b hb => ((Row.of_owns r1).lt b hb).1)
      exact (show World.grownBy _ _ _ from ⟨r2.os, r2.tape, r2.output, r2.size, fun k hk _ => r2.block k hk (by simp)⟩)
/-- Two steps of what an append leaves, over what stood below. -/
theorem grown_below {B : Nat} {u w w' : World} {v : Value} {size n : Nat} {xs : List Value} {base : Nat} (h : Below B u w) (hr : Row w base size v n xs) (hg : w.grownBy w' v.ownBlock) (hB : B ≤ base) (hz : B ≤ w.heap.size) : Below B u w' :=
  h.grown hg hz fun k hk => Nat.le_trans hB (hr.lt k hk).1
end Go.Proofs.YtgjmbokfenpefaaGreatDoor
/- The built-in copy from a text, and clear, into a block that is known whole. No program is imported. -/
namespace Go.Proofs.YtgjmbokfenpefaaGreatDoor
open Go.RowKit

/-- Values laid over a function from a place on. -/
def over (f : Nat → Value) (o : Nat) (vs : List Value) : Nat → Value := fun i => if o ≤ i ∧ i < o + vs.length then vs.getD (i - o) undef else f i
theorem arr_over (n : Nat) (f : Nat → Value) (o : Nat) (vs : List Value) (h : o + vs.length ≤ n) : ((arr n f).toList.take o ++ vs ++ (arr n f).toList.drop (o + vs.length)).toArray = arr n (over f o vs) := by
  unfold arr
  congr 1
  apply List.ext_getElem
  · simp; omega
  · intro i h1 h2
    simp at h2
    simp only [List.getElem_map, List.getElem_range, over]
    by_cases a : i < o
    · rw [if_neg (by omega), List.getElem_append_left (by simp; omega), List.getElem_append_left (by simp; omega)]
      simp
    · by_cases b : i < o + vs.length
      · rw [if_pos ⟨by omega, b⟩, List.getElem_append_left (by simp; omega), List.getElem_append_right (by simp; omega)]
        simp only [List.length_take, List.length_map, List.length_range, show min o n = o from by omega]
        rw [List.getD_eq_getElem?_getD, List.getElem?_eq_getElem (by omega)]
        simp only [Option.getD_some]
      · rw [if_neg (by omega), List.getElem_append_right (by simp; omega)]
        simp only [List.getElem_drop, List.getElem_map, List.getElem_range]
        congr 1
        simp; omega
theorem run_store_over {P : Program} {w : World} {g n : Nat} {f : Nat → Value} {t : TypeId} (h : Holds w g n f t) (o : Nat) (vs : List Value) (hfit : o + vs.length ≤ n) (h1 : ∀ v ∈ vs, v.oneCell' = true) :
    (storeCells ⟨g, o, none⟩ vs 0).run P w = .ok () (w.setRow g (arr n (over f o vs))) := by
  have := run_storeCells_at P g o t vs 0 (arr n f) w h (by rw [arr_size]; omega) h1
  simp only [Nat.add_zero] at this
  rw [this, arr_over n f o vs hfit]
/-- A text's bytes as cells. -/
def bcells (l : List UInt8) : List Value := l.map fun b => Value.int .u8 b.toNat
theorem bcells_one (l : List UInt8) : ∀ v ∈ bcells l, v.oneCell' = true := by
  intro v hv; simp only [bcells, List.mem_map] at hv; obtain ⟨b, _, rfl⟩ := hv; rfl
theorem bcells_length (l : List UInt8) : (bcells l).length = l.length := by simp [bcells]
theorem size_len (s : ByteArray) : s.data.toList.length = s.size := by simp

theorem run_copy_text {P : Program} {w : World} {g n : Nat} {f : Nat → Value} {t : TypeId} (h : Holds w g n f t) (dT sT ty elem : TypeId) (o dLen dCap : Nat) (s : ByteArray)
    (hu : P.underlying dT = some (.slice elem)) (hs : (P.info? elem).map (·.size) = some 1) (hfit : o + min s.size dLen ≤ n) :
    (Builtin.copy_ #[dT, sT] ty #[.slice (some ⟨g, o, none⟩) dLen dCap, .string s]).run P w =
      .ok (goInt ((min s.size dLen : Nat) : Int)) (w.setRow g (arr n (over f o (bcells (s.data.toList.take (min s.size dLen)))))) := by
  have hlen : (bcells (s.data.toList.take (min s.size dLen))).length = min s.size dLen := by rw [bcells_length, List.length_take, size_len]; omega
  have hst := run_store_over (P := P) h o (bcells (s.data.toList.take (min s.size dLen))) (by omega) (bcells_one _)
  have hmin : Nat.min s.size dLen = min s.size dLen := rfl
  cases hq : P.info? elem with
  | none => simp [hq] at hs
  | some i =>
    simp [Builtin.copy_, run_underlying hu, Builtin.lenOf, Builtin.firstCells, sizeOf, typeInfo, hq, hmin]
    have e : List.map (fun b : UInt8 => Value.int IntKind.u8 (b.toNat : Int)) (s.data.toList.take (min s.size dLen)) = bcells (s.data.toList.take (min s.size dLen)) := rfl
    rw [← List.map_take] at *
    first | rw [e, hst] | (rw [hst])
    simp [Result.andThen]

theorem run_clear_over {P : Program} {w : World} {g n : Nat} {f : Nat → Value} {t : TypeId} (h : Holds w g n f t) (dT ty elem : TypeId) (z : Value) (o dLen dCap : Nat)
    (hu : P.underlying dT = some (.slice elem)) (hz : ∀ w, (zeroValue elem).run P w = .ok z w) (hc : z.cells = #[z]) (h1 : z.oneCell' = true) (hfit : o + dLen ≤ n) :
    (Builtin.clear_ #[dT] ty #[.slice (some ⟨g, o, none⟩) dLen dCap]).run P w = .ok (.tuple #[]) (w.setRow g (arr n (over f o (List.replicate dLen z)))) := by
  have hst := run_store_over (P := P) h o (List.replicate dLen z) (by simp; omega) (by intro v hv; rw [(List.mem_replicate.1 hv).2]; exact h1)
  have hz0 : (Builtin.zeroCells #[z] dLen).toList = List.replicate dLen z := by
    apply List.ext_getElem
    · simp [Builtin.zeroCells]
    · intro i h1 h2; simp [Builtin.zeroCells, Nat.mod_one]
  cases dLen with
  | zero =>
    have e : arr n (over f o (List.replicate 0 z)) = arr n f := arr_congr (fun i _ => by unfold over; rw [if_neg (by simp)])
    rw [e]
    have : w.setRow g (arr n f) = w := setRow_self w g (arr n f) t (0, 0) h
    rw [this]
    simp [Builtin.clear_, run_underlying hu]
  | succ m =>
    simp [Builtin.clear_, run_underlying hu, hz, hc, hz0, hst]

/-- The copy as one step of a region that draws its order. -/
theorem step_copy_text {P : Program} {ops : Array Oper} {o : Oper} {a : Act} {w : World} {K : Act → World → Prop} {Q : Exit → Act → World → Prop} {E : Prop} (hgd : o.guard = none) (d s : Operand) (dT sT : TypeId)
    (ho : o.op = .call { callee := .builtin .copy, args := #[d, s], argTypes := #[dT, sT] }) (elem : TypeId) (hu : P.underlying dT = some (.slice elem)) (hsz : (P.info? elem).map (·.size) = some 1)
    (g n : Nat) (f : Nat → Value) (t : TypeId) (h : Holds w g n f t) (off dLen dCap : Nat) (x : ByteArray) (hd : a.eval d = .slice (some ⟨g, off, none⟩) dLen dCap) (hs : a.eval s = .string x)
    (m : Nat) (hm : min x.size dLen = m) (hfit : off + m ≤ n) (f' : Nat → Value) (hf : ∀ i, i < n → over f off (bcells (x.data.toList.take m)) i = f' i)
    (hK : ∀ w', Hid (But g w w') → Hid (Holds w' g n f' t) → K (a.put o.dst (.int .i64 (m : Int))) w') :
    if Region.wanted o (yielded ops a.tmps) = true then Oper.wp P o a w K Q else E := by
  have hw : Region.wanted o (yielded ops a.tmps) = true := by simp [Region.wanted, hgd]
  rw [if_pos hw]
  have hrun : (Builtin.copy_ #[dT, sT] o.type #[.slice (some ⟨g, off, none⟩) dLen dCap, .string x]).run P w = .ok (.int .i64 (m : Int)) (w.setRow g (arr n (over f off (bcells (x.data.toList.take m))))) := by
    have := run_copy_text (P := P) h dT sT o.type elem off dLen dCap x hu hsz (by rw [hm]; exact hfit)
    rw [hm] at this
    exact this
  unfold Oper.wp
  simp [execOp, ho, resolve, invoke, builtin, hd, hs, hrun, Result.andThen]
  exact hK _ ((But.refl g w).row _) ((h.row _).congr hf)
theorem wpList_copy_text {P : Program} {ops : Array Oper} {rest : List Oper} {o : Oper} {a : Act} {w : World} {Q : Exit → Act → World → Prop} (hgd : o.guard = none) (d s : Operand) (dT sT : TypeId)
    (ho : o.op = .call { callee := .builtin .copy, args := #[d, s], argTypes := #[dT, sT] }) (elem : TypeId) (hu : P.underlying dT = some (.slice elem)) (hsz : (P.info? elem).map (·.size) = some 1)
    (g n : Nat) (f : Nat → Value) (t : TypeId) (h : Holds w g n f t) (off dLen dCap : Nat) (x : ByteArray) (hd : a.eval d = .slice (some ⟨g, off, none⟩) dLen dCap) (hs : a.eval s = .string x)
    (m : Nat) (hm : min x.size dLen = m) (hfit : off + m ≤ n) (f' : Nat → Value) (hf : ∀ i, i < n → over f off (bcells (x.data.toList.take m)) i = f' i)
    (hK : ∀ w', Hid (But g w w') → Hid (Holds w' g n f' t) → wpList P ops Q rest (a.put o.dst (.int .i64 (m : Int))) w') :
    wpList P ops Q (o :: rest) a w := by
  refine wpList_plain hgd fun K hKK => ?_
  have hrun : (Builtin.copy_ #[dT, sT] o.type #[.slice (some ⟨g, off, none⟩) dLen dCap, .string x]).run P w = .ok (.int .i64 (m : Int)) (w.setRow g (arr n (over f off (bcells (x.data.toList.take m))))) := by
    have := run_copy_text (P := P) h dT sT o.type elem off dLen dCap x hu hsz (by rw [hm]; exact hfit)
    rw [hm] at this
    exact this
  unfold Oper.wp
  simp [execOp, ho, resolve, invoke, builtin, hd, hs, hrun, Result.andThen]
  exact hKK _ _ (hK _ ((But.refl g w).row _) ((h.row _).congr hf))
end Go.Proofs.YtgjmbokfenpefaaGreatDoor
/- Texts out of blocks of bytes. No program is imported. -/
namespace Go.Proofs.YtgjmbokfenpefaaGreatDoor
open Go.RowKit

/-- A text of these bytes. -/
def txt (l : List UInt8) : ByteArray := ⟨l.toArray⟩
theorem txt_list (l : List UInt8) : (txt l).data.toList = l := rfl
theorem txt_size (l : List UInt8) : (txt l).size = l.length := by rw [← size_len, txt_list]
theorem txt_of (s : ByteArray) : txt s.data.toList = s := by obtain ⟨⟨l⟩⟩ := s; rfl
theorem fold_push (l : List UInt8) : ∀ (r : ByteArray), ((l.map fun b : UInt8 => (b.toNat : Int)).foldl (fun (r : ByteArray) n => r.push (UInt8.ofNat n.toNat)) r) = txt (r.data.toList ++ l) := by
  induction l with
  | nil => intro r; simp [txt_of]
  | cons b l ih =>
    intro r
    simp only [List.map_cons, List.foldl_cons]
    rw [ih]
    congr 1
    obtain ⟨⟨x⟩⟩ := r
    simp [ByteArray.push]
theorem run_conv_text {P : Program} {w : World} {g n : Nat} {f : Nat → Value} {t : TypeId} (h : Holds w g n f t) (src dst e : TypeId)
    (hs : P.underlying src = some (.slice e)) (he : P.underlying e = some (.int .u8)) (hd : P.underlying dst = some .string)
    (l : List UInt8) (o k cap : Nat) (hl : l.length = k) (hfit : o + k ≤ n) (hf : ∀ i, i < k → f (o + i) = .int .u8 ((l.getD i 0).toNat : Int)) :
    (convert src dst (.slice (some ⟨g, o, none⟩) k cap)).run P w = .ok (.string (txt l)) w := by
  rw [run_convert_bytes_string w src dst e _ _ _ hs he hd]
  have hm : (l.map fun b : UInt8 => (b.toNat : Int)).map (Value.int .u8) = bcells l := by simp [bcells]
  have hload := run_loadCells_list (P := P) w ⟨g, o, none⟩ (bcells l) (fun j v hv => by
    have hj : j < k := by
      have := (List.getElem?_eq_some_iff.1 hv).1; rw [bcells_length] at this; omega
    have hadd : (⟨g, o, none⟩ : Addr).add j = ⟨g, o + j, none⟩ := by unfold Addr.add; split <;> simp_all
    rw [hadd, h.cell (o + j) (by omega), hf j hj, ← hv]
    have hjl : j < l.length := by omega
    simp [bcells, List.getD_eq_getElem?_getD, hjl])
  rw [bcells_length, hl, ← hm] at hload
  have := run_bytesToString (P := P) w ⟨g, o, none⟩ k cap _ hload
  rw [this, fold_push]
  rfl
/-- A struct or array put together, its cells said. -/
theorem wpList_build_as {P : Program} {ops : Array Oper} {rest : List Oper} {o : Oper} {a : Act} {w : World} {Q : Exit → Act → World → Prop} (hg : o.guard = none) (t : TypeId) (parts : Array (Nat × Operand)) (ho : o.op = .build t parts)
    (cs : Array Value) (hf : P.built t (parts.map fun (i, x) => (i, a.eval x)).toList = some cs)
    (h : wpList P ops Q rest (a.put o.dst (.agg cs)) w) : wpList P ops Q (o :: rest) a w :=
  wpList_build hg t parts ho (by rw [hf]; rfl) (by rw [hf]; exact h)
theorem wpList_clear_row {P : Program} {ops : Array Oper} {rest : List Oper} {o : Oper} {a : Act} {w : World} {Q : Exit → Act → World → Prop} (hgd : o.guard = none) (d : Operand) (dT : TypeId)
    (ho : o.op = .call { callee := .builtin .clear, args := #[d], argTypes := #[dT] }) (elem : TypeId) (hu : P.underlying dT = some (.slice elem)) (z : Value) (hz : ∀ w, (zeroValue elem).run P w = .ok z w) (hc : z.cells = #[z]) (h1 : z.oneCell' = true)
    (g n : Nat) (f : Nat → Value) (t : TypeId) (h : Holds w g n f t) (off len cap : Nat) (hd : a.eval d = .slice (some ⟨g, off, none⟩) len cap)
    (hfit : off + len ≤ n) (f' : Nat → Value) (hf : ∀ i, i < n → over f off (List.replicate len z) i = f' i)
    (hK : ∀ w', Hid (But g w w') → Hid (Holds w' g n f' t) → wpList P ops Q rest (a.put o.dst (.tuple #[])) w') :
    wpList P ops Q (o :: rest) a w := by
  refine wpList_plain hgd fun K hKK => ?_
  have hrun := run_clear_over (P := P) h dT o.type elem z off len cap hu hz hc h1 hfit
  unfold Oper.wp
  simp [execOp, ho, resolve, invoke, builtin, hd, hrun, Result.andThen]
  exact hKK _ _ (hK _ ((But.refl g w).row _) ((h.row _).congr hf))
end Go.Proofs.YtgjmbokfenpefaaGreatDoor
/- Rows out of texts; parts of blocks loaded whole. No program is imported. -/
namespace Go.Proofs.YtgjmbokfenpefaaGreatDoor
open Go.RowKit

theorem grownBy.below {w w' : World} {row : Option Nat} (h : w.grownBy w' row) {B : Nat} (hB : B ≤ w.heap.size) (hr : ∀ k, row = some k → B ≤ k) : Below B w w' := (Below.refl B w).grown h hB hr
/-- append of one value of one cell, just built. -/
theorem wpList_append_one2 {P : Program} {w : World} {ops : Array Oper} {rest : List Oper} {o : Oper} {a : Act} {Q : Exit → Act → World → Prop}
    (hg : o.guard = none) (s x : Operand) (t : TypeId) (hop : o.op = Op.call { callee := Callee.builtin Builtin.append, args := #[s, x], argTypes := #[t, t] })
    (e : TypeId) (h1 : P.underlying t = some (.slice e)) (z : Value) (bytes : Nat) (hi : (P.info? e).map (fun i => (i.zero, i.size, i.bytes)) = some (some z, 1, bytes)) (h6 : z.cells.size = 1) (hby : bytes ≤ 64)
    (base : Nat) (v : Value) (n : Nat) (xs : List Value) (hs : a.eval s = v) (hrow : Row w base 1 v n xs) (hbase : base ≤ w.heap.size) (hn : n ≤ 2147483647)
    (u : Value) (hx : a.eval x = .slice (some ⟨w.heap.size, 0, none⟩) 1 1) (h1c : u.oneCell' = true) (e' : TypeId)
    (hK : ∀ v' w', Hid (Row w' base 1 v' (n + 1) (xs ++ [u])) → Hid (w.grownBy w' v.ownBlock) → Hid (Moved w v v') → wpList P ops Q rest (a.put o.dst v') w') :
    wpList P ops Q (o :: rest) a (w.alloc (.cells #[u] e')) := by
  obtain ⟨i0, hi0, hz0, hz1, hz2⟩ := info_parts hi
  refine wpList_append_row2 hg s x t hop e i0 z 1 bytes h1 hi0 hz0 hz1 hz2 h6 (by decide) base v n xs hs (hrow.alloc _) (by simp; omega) ⟨w.heap.size, 0, none⟩ 1 1 [u] hx rfl ?_ ?_ (by unfold maxLen; omega) ?_ ?_
  · intro j y hj
    match j, hj with
    | 0, hj =>
      simp at hj; subst hj
      have hadd : (⟨w.heap.size, 0, none⟩ : Addr).add 0 = ⟨w.heap.size, 0, none⟩ := by unfold Addr.add; split <;> simp_all
      rw [hadd, cell_of_row _ _ _ _ _ _ (heap_alloc_new w (.cells #[u] e'))]; rfl
  · intro y hy; simp at hy; subst hy; exact h1c
  · have := Nat.mul_le_mul (show n + 1 ≤ 2147483648 by omega) hby
    omega
  · intro v' w' hr' hg' hm'
    have hg2 := hg'.out
    exact hK v' w' hr' (show World.grownBy _ _ _ from ⟨hg2.os, hg2.tape, hg2.output, by have := hg2.size; simp at this; omega, fun k hk hne => (hg2.block k (by simp; omega) hne).trans (Below.heap_alloc _ _ _ hk)⟩) (show Moved _ _ _ from hm'.out.imp id fun h b hb => Nat.le_trans (by simp) (h b hb))
theorem Row.fresh {w : World} {base size : Nat} {v : Value} {n : Nat} {xs : List Value} (h : Row w base size v n xs) {b : Nat} (hb : b < base) : v.ownBlock ≠ some b := fun e => by
  have := (h.lt b e).1; omega
end Go.Proofs.YtgjmbokfenpefaaGreatDoor
