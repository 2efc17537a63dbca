/- Rows out of texts; parts of blocks loaded whole. No program is imported. -/
import Derived.Test.YthbfmdgnhipobaaDoorRow
import Derived.Test.YthbfmdgnhipobaaDoorText
import Derived.Laws.IdiomStrings
namespace Go.Proofs.YthbfmdgnhipobaaDoor
open Go.RowKit

theorem grownBy.below {w w' : World} {row : Option Nat} (h : w.grownBy w' row) {B : Nat} (hB : B ≤ w.heap.size) (hr : ∀ k, row = some k → B ≤ k) : Below B w w' := (Below.refl B w).grown h hB hr
theorem grownBy.holds {w w' : World} {row : Option Nat} {b n : Nat} {f : Nat → Value} {t : TypeId} (h : w.grownBy w' row) (hh : Holds w b n f t) (hr : row ≠ some b) : Holds w' b n f t := by
  have hl := hh.lt
  unfold Holds at hh ⊢
  rw [h.block b hl (fun e => hr e.symm)]; exact hh
theorem bytesRow_get (s : ByteArray) (cap j : Nat) (hc : s.size ≤ cap) (hj : j < cap) : ((bytesRow s cap)[j]?).isSome = true := by
  have : (bytesRow s cap).size = cap := by
    unfold bytesRow
    rw [Array.size_append, Array.size_map, Array.size_replicate]
    have e : s.data.size = s.size := rfl
    omega
  simp [this, hj]
theorem bytesRow_byte (s : ByteArray) (cap j : Nat) (u : Value) (h : (bcells s.data.toList)[j]? = some u) : (bytesRow s cap)[j]? = some u := by
  have hj : j < (bcells s.data.toList).length := (List.getElem?_eq_some_iff.1 h).1
  rw [bcells_length] at hj
  have hj2 : j < s.data.size := by simpa using hj
  rw [bytesRow_at s cap j hj2]
  rw [← h]
  simp only [bcells, List.getElem?_map, Array.getElem?_toList, Array.getElem?_eq_getElem hj2, Option.map_some]
theorem Row.of_bytes (w : World) (s : ByteArray) (cap : Nat) (e : TypeId) (hc : s.size ≤ cap) :
    Row (w.drew.alloc (.cells (bytesRow s cap) e ((bytesRow s cap).size, (bytesRow s cap).size + 1))) w.heap.size 1 (.slice (some ⟨w.heap.size, 0, none⟩) s.size cap) s.size (bcells s.data.toList) := by
  have hh : (w.drew.alloc (.cells (bytesRow s cap) e ((bytesRow s cap).size, (bytesRow s cap).size + 1))).heap[w.heap.size]? = some (.cells (bytesRow s cap) e ((bytesRow s cap).size, (bytesRow s cap).size + 1)) := by
    show (w.heap.push _)[w.heap.size]? = _
    simp
  refine ⟨by rw [bcells_length, size_len, Nat.mul_one], .inr ⟨w.heap.size, cap, rfl, Nat.le_refl _, by simp, hc, ?_, ?_⟩⟩
  · intro j u hj
    rw [cell_of_row _ _ _ _ _ _ hh]
    exact bytesRow_byte s cap j u hj
  · intro j hj
    rw [cell_of_row _ _ _ _ _ _ hh]
    have hjc : j < cap := by omega
    refine ⟨bytesRow_get s cap j hc hjc, ?_⟩
    have hsz : (bytesRow s cap).size = cap := by
      unfold bytesRow
      rw [Array.size_append, Array.size_map, Array.size_replicate]
      have e : s.data.size = s.size := rfl
      omega
    unfold World.frozen?
    rw [hh]
    simp only [hsz]
    rw [decide_eq_false (by omega)]; rfl
/-- '[]byte(s)'. -/
theorem wpList_bytes_row {P : Program} {ops : Array Oper} {rest : List Oper} {o : Oper} {a : Act} {w : World} {Q : Exit → Act → World → Prop} (hgd : o.guard = none) (src dst : TypeId) (x : Operand) (ho : o.op = .convert src dst x)
    (e : TypeId) (s : ByteArray) (hx : a.eval x = .string s) (hs : P.underlying src = some .string) (hd : P.underlying dst = some (.slice e)) (he : P.underlying e = some (.int .u8))
    (hK : ∀ v w', Hid (Row w' w.heap.size 1 v s.size (bcells s.data.toList)) → Hid (Below w.heap.size w w') → wpList P ops Q rest (a.put o.dst v) w') : wpList P ops Q (o :: rest) a w := by
  refine wpList_plain hgd fun K hKK => ?_
  have hrun := run_bytes_of_string (P := P) w src dst e s hs hd he
  unfold Oper.wp execOp
  simp only [ho, hx, Sem.run_bind, hrun, Result.andThen]
  refine hKK _ _ (hK _ _ (show Row _ _ _ _ _ _ from Row.of_bytes w s _ e ?_) (show Below _ _ _ from ((Below.refl _ _).drew).alloc (Nat.le_refl _) _))
  exact grownCap_ge _ _ _ _
/-- A part of a block, loaded whole. -/
theorem run_loadVar_part {P : Program} {w : World} {b n : Nat} {f : Nat → Value} {t : TypeId} (h : Holds w b n f t) (ty : TypeId) (o k : Nat) (d : TypeDesc) (hfit : o + k ≤ n)
    (hu : P.underlying ty = some d) (hd : (match d with | .struct _ | .array _ _ => true | _ => false) = true) (hi : (P.info? ty).map (·.size) = some k) :
    (loadVar ty ⟨b, o, none⟩).run P w = .ok (.agg (arr k fun i => f (o + i))) w := by
  have hl : (loadCells ⟨b, o, none⟩ (arr k fun i => f (o + i)).toList.length).run P w = .ok (arr k fun i => f (o + i)).toList.toArray w :=
    run_loadCells_list (P := P) w ⟨b, o, none⟩ (arr k fun i => f (o + i)).toList (fun j v hv => by
      have hadd : (⟨b, o, none⟩ : Addr).add j = ⟨b, o + j, none⟩ := by unfold Addr.add; split <;> simp_all
      have hj : j < k := by
        have := (List.getElem?_eq_some_iff.1 hv).1; rw [Array.length_toList, arr_size] at this; exact this
      rw [hadd, h.cell (o + j) (by omega)]
      have := arr_get k (fun i => f (o + i)) j hj
      simp at hv this
      rw [this] at hv
      exact hv)
  cases hq : P.info? ty with
  | none => simp [hq] at hi
  | some i =>
    have hs : i.size = k := by simpa [hq] using hi
    have hagg : (isAgg ty).run P w = .ok true w := by
      unfold isAgg
      rw [Sem.run_bind, run_underlying hu w]
      cases d <;> simp_all
    simp only [Array.length_toList, Array.toArray_toList, arr_size] at hl
    simp [loadVar, Sem.run_bind, hagg, sizeOf, typeInfo, hq, hs, hl]
theorem wpList_load_part {P : Program} {ops : Array Oper} {rest : List Oper} {o : Oper} {a : Act} {w : World} {Q : Exit → Act → World → Prop} (hgd : o.guard = none) (ty : TypeId) (x : Operand) (ho : o.op = .load ty x)
    (b n : Nat) (f : Nat → Value) (t : TypeId) (off k : Nat) (hx : a.eval x = .pointer (some ⟨b, off, none⟩)) (hh : Holds w b n f t) (d : TypeDesc) (hfit : off + k ≤ n)
    (hu : P.underlying ty = some d) (hd : (match d with | .struct _ | .array _ _ => true | _ => false) = true) (hi : (P.info? ty).map (·.size) = some k)
    (h : wpList P ops Q rest (a.put o.dst (.agg (arr k fun i => f (off + i)))) w) : wpList P ops Q (o :: rest) a w := by
  refine wpList_plain hgd fun K hK => ?_
  unfold Oper.wp execOp
  simp only [ho, hx, Instr.loadAt, Instr.sureAddr, Sem.run_bind, Sem.run_pure, Result.andThen_ok, run_loadVar_part hh ty off k d hfit hu hd hi]
  exact hK _ _ h
/-- append of one value of one cell, just built. -/
theorem wpList_append_one2 {P : Program} {w : World} {ops : Array Oper} {rest : List Oper} {o : Oper} {a : Act} {Q : Exit → Act → World → Prop}
    (hg : o.guard = none) (s x : Operand) (t : TypeId) (hop : o.op = Op.call { callee := Callee.builtin Builtin.append, args := #[s, x], argTypes := #[t, t] })
    (e : TypeId) (h1 : P.underlying t = some (.slice e)) (z : Value) (bytes : Nat) (hi : (P.info? e).map (fun i => (i.zero, i.size, i.bytes)) = some (some z, 1, bytes)) (h6 : z.cells.size = 1) (hby : bytes ≤ 64)
    (base : Nat) (v : Value) (n : Nat) (xs : List Value) (hs : a.eval s = v) (hrow : Row w base 1 v n xs) (hbase : base ≤ w.heap.size) (hn : n ≤ 2147483647)
    (u : Value) (hx : a.eval x = .slice (some ⟨w.heap.size, 0, none⟩) 1 1) (h1c : u.oneCell' = true) (e' : TypeId)
    (hK : ∀ v' w', Hid (Row w' base 1 v' (n + 1) (xs ++ [u])) → Hid (w.grownBy w' v.ownBlock) → Hid (Moved w v v') → wpList P ops Q rest (a.put o.dst v') w') :
    wpList P ops Q (o :: rest) a (w.alloc (.cells #[u] e')) := by
  obtain ⟨i0, hi0, hz0, hz1, hz2⟩ := info_parts hi
  refine wpList_append_row2 hg s x t hop e i0 z 1 bytes h1 hi0 hz0 hz1 hz2 h6 (by decide) base v n xs hs (hrow.alloc _) (by simp; omega) ⟨w.heap.size, 0, none⟩ 1 1 [u] hx rfl ?_ ?_ (by unfold maxLen; omega) ?_ ?_
  · intro j y hj
    match j, hj with
    | 0, hj =>
      simp at hj; subst hj
      have hadd : (⟨w.heap.size, 0, none⟩ : Addr).add 0 = ⟨w.heap.size, 0, none⟩ := by unfold Addr.add; split <;> simp_all
      rw [hadd, cell_of_row _ _ _ _ _ _ (heap_alloc_new w (.cells #[u] e'))]; rfl
  · intro y hy; simp at hy; subst hy; exact h1c
  · have := Nat.mul_le_mul (show n + 1 ≤ 2147483648 by omega) hby
    omega
  · intro v' w' hr' hg' hm'
    have hg2 := hg'.out
    exact hK v' w' hr' (show World.grownBy _ _ _ from ⟨hg2.os, hg2.tape, hg2.output, by have := hg2.size; simp at this; omega, fun k hk hne => (hg2.block k (by simp; omega) hne).trans (Below.heap_alloc _ _ _ hk)⟩) (show Moved _ _ _ from hm'.out.imp id fun h b hb => Nat.le_trans (by simp) (h b hb))
theorem wpList_append_one {P : Program} {w : World} {ops : Array Oper} {rest : List Oper} {o : Oper} {a : Act} {Q : Exit → Act → World → Prop}
    (hg : o.guard = none) (s x : Operand) (t : TypeId) (hop : o.op = Op.call { callee := Callee.builtin Builtin.append, args := #[s, x], argTypes := #[t, t] })
    (e : TypeId) (h1 : P.underlying t = some (.slice e)) (z : Value) (bytes : Nat) (hi : (P.info? e).map (fun i => (i.zero, i.size, i.bytes)) = some (some z, 1, bytes)) (h6 : z.cells.size = 1) (hby : bytes ≤ 64)
    (base : Nat) (v : Value) (n : Nat) (xs : List Value) (hs : a.eval s = v) (hrow : Row w base 1 v n xs) (hbase : base ≤ w.heap.size) (hn : n ≤ 2147483647)
    (u : Value) (hx : a.eval x = .slice (some ⟨w.heap.size, 0, none⟩) 1 1) (h1c : u.oneCell' = true) (e' : TypeId)
    (hK : ∀ v' w', Hid (Row w' base 1 v' (n + 1) (xs ++ [u])) → Hid (w.grownBy w' v.ownBlock) → wpList P ops Q rest (a.put o.dst v') w') :
    wpList P ops Q (o :: rest) a (w.alloc (.cells #[u] e')) :=
  wpList_append_one2 hg s x t hop e h1 z bytes hi h6 hby base v n xs hs hrow hbase hn u hx h1c e' fun v' w' h1 h2 _ => hK v' w' h1 h2
theorem Row.fresh {w : World} {base size : Nat} {v : Value} {n : Nat} {xs : List Value} (h : Row w base size v n xs) {b : Nat} (hb : b < base) : v.ownBlock ≠ some b := fun e => by
  have := (h.lt b e).1; omega
/-- A part of a slice of one-cell elements, its bounds as natural numbers. -/
theorem slice_lh {P : Program} (t e : Nat) (ht : P.underlying t = some (.slice e)) (hz : ∀ w, (Go.sizeOf e).run P w = .ok 1 w) (b o len cap l h : Nat) (hl : l ≤ h) (hh : h ≤ cap) (hn : l < cap) (x y : Int) (hx : x = l) (hy : y = h) (w : World) :
    (Instr.sliceAt t (.slice (some ⟨b, o, none⟩) len cap) (some (.int .i64 x)) (some (.int .i64 y)) none).run P w = .ok (.slice (some ⟨b, o + l, none⟩) (h - l) (cap - l)) w := by
  subst hx; subst hy
  have e2 : P.elem t = e := by simp [Program.elem, ht]
  rw [run_sliceAt_slice w t _ _ _ _ (by rw [e2]; exact ht), run_slice_lh w t (some ⟨b, o, none⟩) len cap (by rw [e2]; exact ht) .i64 .i64 l h (by omega) (by omega) (by omega), e2, hz]
  have : ¬ cap = l := by omega
  simp [Result.andThen, sliced, Addr.add, this]
theorem slice_l {P : Program} (t e : Nat) (ht : P.underlying t = some (.slice e)) (hz : ∀ w, (Go.sizeOf e).run P w = .ok 1 w) (b o len cap l : Nat) (hl : l ≤ len) (x : Int) (hx : x = l) :
    ∃ a : Addr, (l < cap → a = ⟨b, o + l, none⟩) ∧ ∀ w, (Instr.sliceAt t (.slice (some ⟨b, o, none⟩) len cap) (some (.int .i64 x)) none none).run P w = .ok (.slice (some a) (len - l) (cap - l)) w := by
  subst hx
  have e2 : P.elem t = e := by simp [Program.elem, ht]
  refine ⟨if cap = l then ⟨b, o, none⟩ else ⟨b, o + l, none⟩, fun h => by rw [if_neg (by omega)], fun w => ?_⟩
  rw [run_sliceAt_slice w t _ _ _ _ (by rw [e2]; exact ht), run_slice_l w t (some ⟨b, o, none⟩) len cap (by rw [e2]; exact ht) .i64 l (by omega) (by omega), e2, hz]
  by_cases h : cap = l
  · simp [Result.andThen, sliced, h]
  · simp [Result.andThen, sliced, Addr.add, h]
end Go.Proofs.YthbfmdgnhipobaaDoor
