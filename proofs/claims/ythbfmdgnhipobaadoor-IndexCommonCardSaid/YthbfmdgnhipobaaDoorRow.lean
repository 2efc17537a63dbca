/- A slice of the call's own, known by its cells, whoever made it; and append onto it. No program is imported. -/
import Derived.Test.YthbfmdgnhipobaaDoorArr
import Derived.ArgAppend
import Derived.Laws.AppendOwnNone
namespace Go.Proofs.YthbfmdgnhipobaaDoor
open Go.RowKit

/-- The slice v of n elements, of size cells each, holds the cells xs at the head of a block from base on (or is nil and holds none); it may be written up to its capacity. -/
def Row (w : World) (base size : Nat) (v : Value) (n : Nat) (xs : List Value) : Prop :=
  xs.length = n * size ∧
  ((v = .slice none 0 0 ∧ n = 0) ∨
   ∃ g cap, v = .slice (some ⟨g, 0, none⟩) n cap ∧ base ≤ g ∧ g < w.heap.size ∧ n ≤ cap ∧
     (∀ j u, xs[j]? = some u → w.cell? ⟨g, j, none⟩ = some u) ∧ (∀ j, j < cap * size → (w.cell? ⟨g, j, none⟩).isSome = true ∧ w.frozen? ⟨g, j, none⟩ = false))

theorem Row.nil (w : World) (base size : Nat) : Row w base size (.slice none 0 0) 0 [] := ⟨by simp, .inl ⟨rfl, rfl⟩⟩
theorem Row.of_owns {w : World} {base : Nat} {e : TypeId} {size : Nat} {v : Value} {n : Nat} {xs : List Value} (h : w.ownsRow base e size v n xs) : Row w base size v n xs := by
  obtain ⟨h1, h2⟩ := h
  refine ⟨h1, ?_⟩
  rcases h2 with h2 | ⟨g, cap, cur, hv, hg, hh, hn, hm, hs, hx⟩
  · exact .inl h2
  · refine .inr ⟨g, cap, hv, hg, lt_of_block hh, hn, ?_, ?_⟩
    · intro j u hj
      have : (⟨g, j, none⟩ : Addr).block = g := rfl
      rw [cell_of_row w g j cur e (0, 0) hh]
      rw [← hx] at hj
      rw [List.getElem?_take] at hj
      split at hj
      · simpa using hj
      · cases hj
    · intro j hj
      rw [cell_of_row w g j cur e (0, 0) hh]
      refine ⟨?_, frozen_of_row w g j cur e hh⟩
      have : j < cur.size := by omega
      simp [this]
theorem Row.mono {w : World} {base base' size : Nat} {v : Value} {n : Nat} {xs : List Value} (h : Row w base size v n xs) (hb : base' ≤ base) : Row w base' size v n xs := by
  obtain ⟨h1, h2⟩ := h
  refine ⟨h1, ?_⟩
  rcases h2 with h2 | ⟨g, cap, hv, hg, r⟩
  · exact .inl h2
  · exact .inr ⟨g, cap, hv, Nat.le_trans hb hg, r⟩
/-- What holds the row's block as it was, holds the row. -/
theorem Row.kept {w w' : World} {base size : Nat} {v : Value} {n : Nat} {xs : List Value} (h : Row w base size v n xs) (hk : ∀ k, v.ownBlock = some k → w'.heap[k]? = w.heap[k]?) (hz : w.heap.size ≤ w'.heap.size) : Row w' base size v n xs := by
  obtain ⟨h1, h2⟩ := h
  refine ⟨h1, ?_⟩
  rcases h2 with h2 | ⟨g, cap, hv, hg, hl, hn, hc, hs⟩
  · exact .inl h2
  · have hb := hk g (by rw [hv]; rfl)
    refine .inr ⟨g, cap, hv, hg, by omega, hn, fun j u hj => ?_, fun j hj => ?_⟩
    · rw [World.cell?_of_block (w := w) (a := ⟨g, j, none⟩) hb]; exact hc j u hj
    · rw [World.cell?_of_block (w := w) (a := ⟨g, j, none⟩) hb, World.frozen?_of_block (w := w) (a := ⟨g, j, none⟩) hb]; exact hs j hj
theorem Row.lt {w : World} {base size : Nat} {v : Value} {n : Nat} {xs : List Value} (h : Row w base size v n xs) : ∀ k, v.ownBlock = some k → base ≤ k ∧ k < w.heap.size := by
  obtain ⟨h1, h2⟩ := h
  rcases h2 with ⟨h2, _⟩ | ⟨g, cap, hv, hg, hl, _⟩
  · rw [h2]; intro k hk; cases hk
  · rw [hv]; intro k hk; simp [Value.ownBlock] at hk; omega
theorem Row.drew {w : World} {base size : Nat} {v : Value} {n : Nat} {xs : List Value} (h : Row w base size v n xs) : Row w.drew base size v n xs := h.kept (fun _ _ => rfl) (Nat.le_refl _)
theorem Row.drewN {w : World} {base size : Nat} {v : Value} {n : Nat} {xs : List Value} (h : Row w base size v n xs) (m : Nat) : Row (w.drewN m) base size v n xs := h.kept (fun _ _ => rfl) (Nat.le_refl _)
theorem Row.alloc {w : World} {base size : Nat} {v : Value} {n : Nat} {xs : List Value} (h : Row w base size v n xs) (o : Obj) : Row (w.alloc o) base size v n xs :=
  h.kept (fun k hk => Below.heap_alloc _ _ _ (h.lt k hk).2) (by simp)
theorem Row.below {w w' : World} {base size B : Nat} {v : Value} {n : Nat} {xs : List Value} (h : Row w base size v n xs) (hb : Below B w w') (hB : ∀ k, v.ownBlock = some k → k < B) : Row w' base size v n xs :=
  h.kept (fun k hk => hb.block k (hB k hk)) hb.size
theorem Row.belowAll {w w' : World} {base size : Nat} {v : Value} {n : Nat} {xs : List Value} (h : Row w base size v n xs) (hb : Below w.heap.size w w') : Row w' base size v n xs :=
  h.below hb fun k hk => (h.lt k hk).2
theorem Row.but {w w' : World} {base size b : Nat} {v : Value} {n : Nat} {xs : List Value} (h : Row w base size v n xs) (hb : But b w w') (hB : v.ownBlock ≠ some b) : Row w' base size v n xs :=
  h.kept (fun k hk => hb.block k (h.lt k hk).2 (fun e => hB (by rw [hk, e]))) hb.size
theorem Row.setOther {w : World} {base size : Nat} {v : Value} {n : Nat} {xs : List Value} (h : Row w base size v n xs) {a : Addr} (ha : v.ownBlock ≠ some a.block) (u : Value) : Row (w.setCell a u) base size v n xs :=
  h.kept (fun k hk => Below.heap_setCell _ _ _ _ (fun e => ha (by rw [hk, e]))) (by simp [World.setCell])
/-- The shape of a row that holds something. -/
theorem Row.shape {w : World} {base size : Nat} {v : Value} {n : Nat} {xs : List Value} (h : Row w base size v n xs) (hn : 0 < n) : ∃ g cap, v = .slice (some ⟨g, 0, none⟩) n cap ∧ base ≤ g ∧ g < w.heap.size ∧ n ≤ cap ∧ (∀ j u, xs[j]? = some u → w.cell? ⟨g, j, none⟩ = some u) ∧ (∀ j, j < n * size → w.frozen? ⟨g, j, none⟩ = false) := by
  obtain ⟨h1, h2⟩ := h
  rcases h2 with ⟨_, h2⟩ | ⟨g, cap, hv, hg, hl, hc, hcell, hs⟩
  · omega
  · exact ⟨g, cap, hv, hg, hl, hc, hcell, fun j hj => (hs j (by have := Nat.mul_le_mul_right size hc; omega)).2⟩
/-- A slice in any case. -/
theorem Row.any {w : World} {base size : Nat} {v : Value} {n : Nat} {xs : List Value} (h : Row w base size v n xs) : ∃ p cap, v = .slice p n cap := by
  obtain ⟨_, h2⟩ := h
  rcases h2 with ⟨h2, rfl⟩ | ⟨g, cap, hv, _⟩
  · exact ⟨none, 0, h2⟩
  · exact ⟨_, cap, hv⟩

theorem setCells_block (b : Nat) : ∀ (vs : List Value) (o : Nat) (w : World) (k : Nat), k ≠ b → (w.setCells b o vs).heap[k]? = w.heap[k]?
  | [], _, _, _, _ => rfl
  | v :: r, o, w, k, h => by rw [World.setCells, setCells_block b r (o + 1) _ k h]; exact Below.heap_setCell _ _ _ _ h
theorem setCells_size (b : Nat) : ∀ (vs : List Value) (o : Nat) (w : World), (w.setCells b o vs).heap.size = w.heap.size
  | [], _, _ => rfl
  | v :: r, o, w => by rw [World.setCells, setCells_size b r (o + 1)]; simp [World.setCell]
theorem setCells_rest (b : Nat) : ∀ (vs : List Value) (o : Nat) (w : World), (w.setCells b o vs).os = w.os ∧ (w.setCells b o vs).tape = w.tape ∧ (w.setCells b o vs).output = w.output
  | [], _, _ => ⟨rfl, rfl, rfl⟩
  | v :: r, o, w => by rw [World.setCells]; exact setCells_rest b r (o + 1) _

/-- v' lies where v lay, or in a block that w has not. -/
def Moved (w : World) (v v' : Value) : Prop := v'.ownBlock = v.ownBlock ∨ ∀ b, v'.ownBlock = some b → w.heap.size ≤ b
/-- append onto a row: it is a row again, where it was or in a new block. -/
theorem wpList_append_row2 {P : Program} {w : World} {ops : Array Oper} {rest : List Oper} {o : Oper} {a : Act} {Q : Exit → Act → World → Prop}
    (hg : o.guard = none) (s x : Operand) (t : TypeId) (hop : o.op = Op.call { callee := Callee.builtin Builtin.append, args := #[s, x], argTypes := #[t, t] })
    (e : TypeId) (i : TypeInfo) (z : Value) (size bytes : Nat) (h1 : P.underlying t = some (.slice e)) (h2 : P.info? e = some i) (h3 : i.zero = some z) (h4 : i.size = size) (h5 : i.bytes = bytes) (h6 : z.cells.size = size) (h7 : 0 < size)
    (base : Nat) (v : Value) (n : Nat) (xs : List Value) (hs : a.eval s = v) (hrow : Row w base size v n xs) (hbase : base ≤ w.heap.size)
    (ad : Addr) (m c : Nat) (news : List Value) (hx : a.eval x = .slice (some ad) m c) (hn : news.length = m * size) (hc : ∀ j u, news[j]? = some u → w.cell? (ad.add j) = some u) (h1c : ∀ u ∈ news, u.oneCell' = true)
    (b1 : n + m ≤ maxLen) (b2 : (n + m) * bytes ≤ 140737488355328)
    (hK : ∀ v' w', Hid (Row w' base size v' (n + m) (xs ++ news)) → Hid (w.grownBy w' v.ownBlock) → Hid (Moved w v v') → wpList P ops Q rest (a.put o.dst v') w') :
    wpList P ops Q (o :: rest) a w := by
  obtain ⟨hl, hr⟩ := hrow
  rcases hr with ⟨rfl, rfl⟩ | ⟨g, cap, rfl, hgb, hgl, hnc, hcell, hspare⟩
  · obtain rfl : xs = [] := List.eq_nil_of_length_eq_zero (by simpa using hl)
    refine wpList_append_own w hg s x t hop w.heap.size e i z size bytes h1 h2 h3 h4 h5 h6 h7 _ 0 [] hs (World.ownsRow_nil _ _ _ _) ad m c news hx hn hc h1c (by simpa using b1) (by simpa using b2) (Nat.le_refl w.heap.size) ?_
    intro v' w' r1 r2 _
    exact hK v' w' (show Row _ _ _ _ _ _ from (Row.of_owns r1).mono hbase) r2 (show Moved _ _ _ from .inr fun b hb => ((Row.of_owns r1).lt b hb).1)
  · refine wpList_append_arg w hg s x t hop e i z size bytes h1 h2 h3 h4 h5 h6 h7 g 0 n cap xs hs hl (fun j u hj => by rw [Nat.zero_add]; exact hcell j u hj) ad m c news hx hn hc h1c ?_ b1 b2 ?_ ?_
    · intro hroom j hj
      rw [Nat.zero_add]
      refine hspare _ ?_
      have := Nat.mul_le_mul_right size hroom
      rw [Nat.add_mul] at this
      omega
    · intro hroom
      rw [Nat.zero_add]
      have hin : ∀ j, j < news.length → (w.cell? ⟨g, n * size + j, none⟩).isSome = true := fun j hj => (hspare _ (by
        have := Nat.mul_le_mul_right size hroom
        rw [Nat.add_mul] at this
        omega)).1
      refine hK _ _ ?_ ?_ (show Moved _ _ _ from .inl rfl)
      · refine ⟨by rw [List.length_append, hl, hn, Nat.add_mul], .inr ⟨g, cap, rfl, hgb, by rw [setCells_size]; exact hgl, hroom, ?_, ?_⟩⟩
        · intro j u hj
          by_cases hjn : j < xs.length
          · rw [List.getElem?_append_left hjn] at hj
            rw [World.cell?_setCells_out g _ _ _ _ (fun _ _ => Or.inl (by show j < n * size; omega))]
            exact hcell j u hj
          · rw [List.getElem?_append_right (by omega)] at hj
            have hjl := (List.getElem?_eq_some_iff.1 hj).1
            have := World.cell?_setCells_in g news (n * size) w hin (j - xs.length) hjl
            rw [show n * size + (j - xs.length) = j from by omega] at this
            rw [this]
            rw [List.getElem?_eq_getElem hjl] at hj
            exact hj
        · intro j hj
          rw [World.frozen?_setCells]
          refine ⟨?_, (hspare j hj).2⟩
          by_cases hjn : n * size ≤ j ∧ j < n * size + news.length
          · have := World.cell?_setCells_in g news (n * size) w hin (j - n * size) (by omega)
            rw [show n * size + (j - n * size) = j from by omega] at this
            rw [this]; rfl
          · rw [World.cell?_setCells_out g _ _ _ _ (fun _ _ => by show j < n * size ∨ n * size + news.length ≤ j; omega)]
            exact (hspare j hj).1
      · have hr := setCells_rest g news (n * size) w
        exact (show World.grownBy _ _ _ from ⟨hr.1, hr.2.1, hr.2.2, by rw [setCells_size]; exact Nat.le_refl _, fun k _ hk => setCells_block g _ _ _ k (fun e => hk (by rw [e]; rfl))⟩)
    · intro hgrow v' w' r1 r2
      refine hK v' w' (show Row _ _ _ _ _ _ from (Row.of_owns r1).mono hbase) ?_ (show Moved _ _ _ from .inr fun b hb => ((Row.of_owns r1).lt b hb).1)
      exact (show World.grownBy _ _ _ from ⟨r2.os, r2.tape, r2.output, r2.size, fun k hk _ => r2.block k hk (by simp)⟩)
theorem wpList_append_row {P : Program} {w : World} {ops : Array Oper} {rest : List Oper} {o : Oper} {a : Act} {Q : Exit → Act → World → Prop}
    (hg : o.guard = none) (s x : Operand) (t : TypeId) (hop : o.op = Op.call { callee := Callee.builtin Builtin.append, args := #[s, x], argTypes := #[t, t] })
    (e : TypeId) (i : TypeInfo) (z : Value) (size bytes : Nat) (h1 : P.underlying t = some (.slice e)) (h2 : P.info? e = some i) (h3 : i.zero = some z) (h4 : i.size = size) (h5 : i.bytes = bytes) (h6 : z.cells.size = size) (h7 : 0 < size)
    (base : Nat) (v : Value) (n : Nat) (xs : List Value) (hs : a.eval s = v) (hrow : Row w base size v n xs) (hbase : base ≤ w.heap.size)
    (ad : Addr) (m c : Nat) (news : List Value) (hx : a.eval x = .slice (some ad) m c) (hn : news.length = m * size) (hc : ∀ j u, news[j]? = some u → w.cell? (ad.add j) = some u) (h1c : ∀ u ∈ news, u.oneCell' = true)
    (b1 : n + m ≤ maxLen) (b2 : (n + m) * bytes ≤ 140737488355328)
    (hK : ∀ v' w', Hid (Row w' base size v' (n + m) (xs ++ news)) → Hid (w.grownBy w' v.ownBlock) → wpList P ops Q rest (a.put o.dst v') w') :
    wpList P ops Q (o :: rest) a w :=
  wpList_append_row2 hg s x t hop e i z size bytes h1 h2 h3 h4 h5 h6 h7 base v n xs hs hrow hbase ad m c news hx hn hc h1c b1 b2 fun v' w' h1 h2 _ => hK v' w' h1 h2
/-- Two steps of what an append leaves, over what stood below. -/
theorem grown_below {B : Nat} {u w w' : World} {v : Value} {size n : Nat} {xs : List Value} {base : Nat} (h : Below B u w) (hr : Row w base size v n xs) (hg : w.grownBy w' v.ownBlock) (hB : B ≤ base) (hz : B ≤ w.heap.size) : Below B u w' :=
  h.grown hg hz fun k hk => Nat.le_trans hB (hr.lt k hk).1
end Go.Proofs.YthbfmdgnhipobaaDoor
