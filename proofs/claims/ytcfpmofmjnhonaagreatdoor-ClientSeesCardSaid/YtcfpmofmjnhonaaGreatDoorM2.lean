/- Parts of the proof, one behind the other: Row2, MapK, MapK2. -/
import Derived.Test.YtcfpmofmjnhonaaGreatDoorM1
import Derived.Laws.IdiomStrings
import Derived.Test.YtcfpmofmjnhonaaGreatDoorProg
import Derived.StringKeys
import Derived.Maps.Own
import Derived.Maps.Views
import Derived.Maps.OwnSet
import Derived.Maps.OwnOps
import Derived.Maps.RangeWalk
import Derived.Sort.KeysCollected
/- Rows out of texts; parts of blocks loaded whole. No program is imported. -/
namespace Go.Proofs.YtcfpmofmjnhonaaGreatDoor
open Go.RowKit

theorem grownBy.below {w w' : World} {row : Option Nat} (h : w.grownBy w' row) {B : Nat} (hB : B ≤ w.heap.size) (hr : ∀ k, row = some k → B ≤ k) : Below B w w' := (Below.refl B w).grown h hB hr
theorem grownBy.holds {w w' : World} {row : Option Nat} {b n : Nat} {f : Nat → Value} {t : TypeId} (h : w.grownBy w' row) (hh : Holds w b n f t) (hr : row ≠ some b) : Holds w' b n f t := by
  have hl := hh.lt
  unfold Holds at hh ⊢
  rw [h.block b hl (fun e => hr e.symm)]; exact hh
theorem bytesRow_get (s : ByteArray) (cap j : Nat) (hc : s.size ≤ cap) (hj : j < cap) : ((bytesRow s cap)[j]?).isSome = true := by
  have : (bytesRow s cap).size = cap := by
    unfold bytesRow
    rw [Array.size_append, Array.size_map, Array.size_replicate]
    have e : s.data.size = s.size := rfl
    omega
  simp [this, hj]
theorem bytesRow_byte (s : ByteArray) (cap j : Nat) (u : Value) (h : (bcells s.data.toList)[j]? = some u) : (bytesRow s cap)[j]? = some u := by
  have hj : j < (bcells s.data.toList).length := (List.getElem?_eq_some_iff.1 h).1
  rw [bcells_length] at hj
  have hj2 : j < s.data.size := by simpa using hj
  rw [bytesRow_at s cap j hj2]
  rw [← h]
  simp only [bcells, List.getElem?_map, Array.getElem?_toList, Array.getElem?_eq_getElem hj2, Option.map_some]
theorem Row.of_bytes (w : World) (s : ByteArray) (cap : Nat) (e : TypeId) (hc : s.size ≤ cap) :
    Row (w.drew.alloc (.cells (bytesRow s cap) e ((bytesRow s cap).size, (bytesRow s cap).size + 1))) w.heap.size 1 (.slice (some ⟨w.heap.size, 0, none⟩) s.size cap) s.size (bcells s.data.toList) := by
  have hh : (w.drew.alloc (.cells (bytesRow s cap) e ((bytesRow s cap).size, (bytesRow s cap).size + 1))).heap[w.heap.size]? = some (.cells (bytesRow s cap) e ((bytesRow s cap).size, (bytesRow s cap).size + 1)) := by
    show (w.heap.push _)[w.heap.size]? = _
    simp
  refine ⟨by rw [bcells_length, size_len, Nat.mul_one], .inr ⟨w.heap.size, cap, rfl, Nat.le_refl _, by simp, hc, ?_, ?_⟩⟩
  · intro j u hj
    rw [cell_of_row _ _ _ _ _ _ hh]
    exact bytesRow_byte s cap j u hj
  · intro j hj
    rw [cell_of_row _ _ _ _ _ _ hh]
    have hjc : j < cap := by omega
    refine ⟨bytesRow_get s cap j hc hjc, ?_⟩
    have hsz : (bytesRow s cap).size = cap := by
      unfold bytesRow
      rw [Array.size_append, Array.size_map, Array.size_replicate]
      have e : s.data.size = s.size := rfl
      omega
    unfold World.frozen?
    rw [hh]
    simp only [hsz]
    rw [decide_eq_false (by omega)]; rfl
/-- '[]byte(s)'. -/
theorem wpList_bytes_row {P : Program} {ops : Array Oper} {rest : List Oper} {o : Oper} {a : Act} {w : World} {Q : Exit → Act → World → Prop} (hgd : o.guard = none) (src dst : TypeId) (x : Operand) (ho : o.op = .convert src dst x)
    (e : TypeId) (s : ByteArray) (hx : a.eval x = .string s) (hs : P.underlying src = some .string) (hd : P.underlying dst = some (.slice e)) (he : P.underlying e = some (.int .u8))
    (hK : ∀ v w', Hid (Row w' w.heap.size 1 v s.size (bcells s.data.toList)) → Hid (Below w.heap.size w w') → wpList P ops Q rest (a.put o.dst v) w') : wpList P ops Q (o :: rest) a w := by
  refine wpList_plain hgd fun K hKK => ?_
  have hrun := run_bytes_of_string (P := P) w src dst e s hs hd he
  unfold Oper.wp execOp
  simp only [ho, hx, Sem.run_bind, hrun, Result.andThen]
  refine hKK _ _ (hK _ _ (show Row _ _ _ _ _ _ from Row.of_bytes w s _ e ?_) (show Below _ _ _ from ((Below.refl _ _).drew).alloc (Nat.le_refl _) _))
  exact grownCap_ge _ _ _ _
/-- A part of a block, loaded whole. -/
theorem run_loadVar_part {P : Program} {w : World} {b n : Nat} {f : Nat → Value} {t : TypeId} (h : Holds w b n f t) (ty : TypeId) (o k : Nat) (d : TypeDesc) (hfit : o + k ≤ n)
    (hu : P.underlying ty = some d) (hd : (match d with | .struct _ | .array _ _ => true | _ => false) = true) (hi : (P.info? ty).map (·.size) = some k) :
    (loadVar ty ⟨b, o, none⟩).run P w = .ok (.agg (arr k fun i => f (o + i))) w := by
  have hl : (loadCells ⟨b, o, none⟩ (arr k fun i => f (o + i)).toList.length).run P w = .ok (arr k fun i => f (o + i)).toList.toArray w :=
    run_loadCells_list (P := P) w ⟨b, o, none⟩ (arr k fun i => f (o + i)).toList (fun j v hv => by
      have hadd : (⟨b, o, none⟩ : Addr).add j = ⟨b, o + j, none⟩ := by unfold Addr.add; split <;> simp_all
      have hj : j < k := by
        have := (List.getElem?_eq_some_iff.1 hv).1; rw [Array.length_toList, arr_size] at this; exact this
      rw [hadd, h.cell (o + j) (by omega)]
      have := arr_get k (fun i => f (o + i)) j hj
      simp at hv this
      rw [this] at hv
      exact hv)
  cases hq : P.info? ty with
  | none => simp [hq] at hi
  | some i =>
    have hs : i.size = k := by simpa [hq] using hi
    have hagg : (isAgg ty).run P w = .ok true w := by
      unfold isAgg
      rw [Sem.run_bind, run_underlying hu w]
      cases d <;> simp_all
    simp only [Array.length_toList, Array.toArray_toList, arr_size] at hl
    simp [loadVar, Sem.run_bind, hagg, sizeOf, typeInfo, hq, hs, hl]
theorem wpList_load_part {P : Program} {ops : Array Oper} {rest : List Oper} {o : Oper} {a : Act} {w : World} {Q : Exit → Act → World → Prop} (hgd : o.guard = none) (ty : TypeId) (x : Operand) (ho : o.op = .load ty x)
    (b n : Nat) (f : Nat → Value) (t : TypeId) (off k : Nat) (hx : a.eval x = .pointer (some ⟨b, off, none⟩)) (hh : Holds w b n f t) (d : TypeDesc) (hfit : off + k ≤ n)
    (hu : P.underlying ty = some d) (hd : (match d with | .struct _ | .array _ _ => true | _ => false) = true) (hi : (P.info? ty).map (·.size) = some k)
    (h : wpList P ops Q rest (a.put o.dst (.agg (arr k fun i => f (off + i)))) w) : wpList P ops Q (o :: rest) a w := by
  refine wpList_plain hgd fun K hK => ?_
  unfold Oper.wp execOp
  simp only [ho, hx, Instr.loadAt, Instr.sureAddr, Sem.run_bind, Sem.run_pure, Result.andThen_ok, run_loadVar_part hh ty off k d hfit hu hd hi]
  exact hK _ _ h
/-- append of one value of one cell, just built. -/
theorem wpList_append_one2 {P : Program} {w : World} {ops : Array Oper} {rest : List Oper} {o : Oper} {a : Act} {Q : Exit → Act → World → Prop}
    (hg : o.guard = none) (s x : Operand) (t : TypeId) (hop : o.op = Op.call { callee := Callee.builtin Builtin.append, args := #[s, x], argTypes := #[t, t] })
    (e : TypeId) (h1 : P.underlying t = some (.slice e)) (z : Value) (bytes : Nat) (hi : (P.info? e).map (fun i => (i.zero, i.size, i.bytes)) = some (some z, 1, bytes)) (h6 : z.cells.size = 1) (hby : bytes ≤ 64)
    (base : Nat) (v : Value) (n : Nat) (xs : List Value) (hs : a.eval s = v) (hrow : Row w base 1 v n xs) (hbase : base ≤ w.heap.size) (hn : n ≤ 2147483647)
    (u : Value) (hx : a.eval x = .slice (some ⟨w.heap.size, 0, none⟩) 1 1) (h1c : u.oneCell' = true) (e' : TypeId)
    (hK : ∀ v' w', Hid (Row w' base 1 v' (n + 1) (xs ++ [u])) → Hid (w.grownBy w' v.ownBlock) → Hid (Moved w v v') → wpList P ops Q rest (a.put o.dst v') w') :
    wpList P ops Q (o :: rest) a (w.alloc (.cells #[u] e')) := by
  obtain ⟨i0, hi0, hz0, hz1, hz2⟩ := info_parts hi
  refine wpList_append_row2 hg s x t hop e i0 z 1 bytes h1 hi0 hz0 hz1 hz2 h6 (by decide) base v n xs hs (hrow.alloc _) (by simp; omega) ⟨w.heap.size, 0, none⟩ 1 1 [u] hx rfl ?_ ?_ (by unfold maxLen; omega) ?_ ?_
  · intro j y hj
    match j, hj with
    | 0, hj =>
      simp at hj; subst hj
      have hadd : (⟨w.heap.size, 0, none⟩ : Addr).add 0 = ⟨w.heap.size, 0, none⟩ := by unfold Addr.add; split <;> simp_all
      rw [hadd, cell_of_row _ _ _ _ _ _ (heap_alloc_new w (.cells #[u] e'))]; rfl
  · intro y hy; simp at hy; subst hy; exact h1c
  · have := Nat.mul_le_mul (show n + 1 ≤ 2147483648 by omega) hby
    omega
  · intro v' w' hr' hg' hm'
    have hg2 := hg'.out
    exact hK v' w' hr' (show World.grownBy _ _ _ from ⟨hg2.os, hg2.tape, hg2.output, by have := hg2.size; simp at this; omega, fun k hk hne => (hg2.block k (by simp; omega) hne).trans (Below.heap_alloc _ _ _ hk)⟩) (show Moved _ _ _ from hm'.out.imp id fun h b hb => Nat.le_trans (by simp) (h b hb))
theorem wpList_append_one {P : Program} {w : World} {ops : Array Oper} {rest : List Oper} {o : Oper} {a : Act} {Q : Exit → Act → World → Prop}
    (hg : o.guard = none) (s x : Operand) (t : TypeId) (hop : o.op = Op.call { callee := Callee.builtin Builtin.append, args := #[s, x], argTypes := #[t, t] })
    (e : TypeId) (h1 : P.underlying t = some (.slice e)) (z : Value) (bytes : Nat) (hi : (P.info? e).map (fun i => (i.zero, i.size, i.bytes)) = some (some z, 1, bytes)) (h6 : z.cells.size = 1) (hby : bytes ≤ 64)
    (base : Nat) (v : Value) (n : Nat) (xs : List Value) (hs : a.eval s = v) (hrow : Row w base 1 v n xs) (hbase : base ≤ w.heap.size) (hn : n ≤ 2147483647)
    (u : Value) (hx : a.eval x = .slice (some ⟨w.heap.size, 0, none⟩) 1 1) (h1c : u.oneCell' = true) (e' : TypeId)
    (hK : ∀ v' w', Hid (Row w' base 1 v' (n + 1) (xs ++ [u])) → Hid (w.grownBy w' v.ownBlock) → wpList P ops Q rest (a.put o.dst v') w') :
    wpList P ops Q (o :: rest) a (w.alloc (.cells #[u] e')) :=
  wpList_append_one2 hg s x t hop e h1 z bytes hi h6 hby base v n xs hs hrow hbase hn u hx h1c e' fun v' w' h1 h2 _ => hK v' w' h1 h2
theorem Row.fresh {w : World} {base size : Nat} {v : Value} {n : Nat} {xs : List Value} (h : Row w base size v n xs) {b : Nat} (hb : b < base) : v.ownBlock ≠ some b := fun e => by
  have := (h.lt b e).1; omega
/-- A part of a slice of one-cell elements, its bounds as natural numbers. -/
theorem slice_lh {P : Program} (t e : Nat) (ht : P.underlying t = some (.slice e)) (hz : ∀ w, (Go.sizeOf e).run P w = .ok 1 w) (b o len cap l h : Nat) (hl : l ≤ h) (hh : h ≤ cap) (hn : l < cap) (x y : Int) (hx : x = l) (hy : y = h) (w : World) :
    (Instr.sliceAt t (.slice (some ⟨b, o, none⟩) len cap) (some (.int .i64 x)) (some (.int .i64 y)) none).run P w = .ok (.slice (some ⟨b, o + l, none⟩) (h - l) (cap - l)) w := by
  subst hx; subst hy
  have e2 : P.elem t = e := by simp [Program.elem, ht]
  rw [run_sliceAt_slice w t _ _ _ _ (by rw [e2]; exact ht), run_slice_lh w t (some ⟨b, o, none⟩) len cap (by rw [e2]; exact ht) .i64 .i64 l h (by omega) (by omega) (by omega), e2, hz]
  have : ¬ cap = l := by omega
  simp [Result.andThen, sliced, Addr.add, this]
theorem slice_l {P : Program} (t e : Nat) (ht : P.underlying t = some (.slice e)) (hz : ∀ w, (Go.sizeOf e).run P w = .ok 1 w) (b o len cap l : Nat) (hl : l ≤ len) (x : Int) (hx : x = l) :
    ∃ a : Addr, (l < cap → a = ⟨b, o + l, none⟩) ∧ ∀ w, (Instr.sliceAt t (.slice (some ⟨b, o, none⟩) len cap) (some (.int .i64 x)) none none).run P w = .ok (.slice (some a) (len - l) (cap - l)) w := by
  subst hx
  have e2 : P.elem t = e := by simp [Program.elem, ht]
  refine ⟨if cap = l then ⟨b, o, none⟩ else ⟨b, o + l, none⟩, fun h => by rw [if_neg (by omega)], fun w => ?_⟩
  rw [run_sliceAt_slice w t _ _ _ _ (by rw [e2]; exact ht), run_slice_l w t (some ⟨b, o, none⟩) len cap (by rw [e2]; exact ht) .i64 l (by omega) (by omega), e2, hz]
  by_cases h : cap = l
  · simp [Result.andThen, sliced, h]
  · simp [Result.andThen, sliced, Addr.add, h]
end Go.Proofs.YtcfpmofmjnhonaaGreatDoor
/- Maps from texts, as lists of pairs: looked up, put into, counted, ranged over. -/
namespace Go.Proofs.YtcfpmofmjnhonaaGreatDoor
open Go.RowKit Go.Maps

def mkey (s : ByteArray) : Lit := .string s.data.toList
theorem mkey_inj {s t : ByteArray} (h : mkey s = mkey t) : s = t := by
  unfold mkey at h
  injection h with h
  obtain ⟨⟨a⟩⟩ := s
  obtain ⟨⟨b⟩⟩ := t
  simpa using h
theorem mkey_key (s : ByteArray) : WideAt.IsKeyLit (mkey s) := trivial
theorem mkey_same (s t : ByteArray) : (mkey s).sameKey (mkey t) = decide (s = t) := by
  by_cases h : s = t
  · subst h; rw [decide_eq_true rfl]; simp [mkey, Lit.sameKey]
  · rw [decide_eq_false h]; exact sameKey_ne (fun e => h (mkey_inj e))

/-- How elements of one kind lie in a map. -/
structure MKind (α : Type) where
  M : TypeId
  E : TypeId
  wd : α → Value
  lt : α → Lit
  zero : α
  good : α → Prop
  und : Tryz.prog.underlying M = some (.map 9 E)
  R : Value → Option (DataW Unit × List MemPlace)
  put : ∀ x, good x → R (wd x) = some (.lit (lt x), [])
  inv : ∀ v y, R v = some y → ∃ x, v = wd x ∧ y = (.lit (lt x), []) ∧ good x
  inj : ∀ x y, lt x = lt y → x = y
  zer : ∀ w : World, (zeroValue E).run Tryz.prog w = .ok (wd zero) w
  zgood : good zero

section
variable {α : Type}
def look (L : List (ByteArray × α)) (s : ByteArray) : Option α := (L.find? fun p => decide (p.1 = s)).map (·.2)
def ups (L : List (ByteArray × α)) (s : ByteArray) (x : α) : List (ByteArray × α) := if (look L s).isSome then L.map (fun p => if p.1 = s then (s, x) else p) else L ++ [(s, x)]
def keysL (L : List (ByteArray × α)) : List ByteArray := L.map (·.1)
theorem look_nil (s : ByteArray) : look ([] : List (ByteArray × α)) s = none := rfl
theorem look_cons (p : ByteArray × α) (L : List (ByteArray × α)) (s : ByteArray) : look (p :: L) s = if p.1 = s then some p.2 else look L s := by
  unfold look
  by_cases h : p.1 = s
  · simp [h]
  · simp [h]
theorem look_append (L M : List (ByteArray × α)) (s : ByteArray) : look (L ++ M) s = (look L s).or (look M s) := by
  induction L with
  | nil => simp [look_nil]
  | cons p L ih => rw [List.cons_append, look_cons, look_cons, ih]; split <;> simp
theorem look_none {L : List (ByteArray × α)} {s : ByteArray} : look L s = none ↔ s ∉ keysL L := by
  induction L with
  | nil => simp [look_nil, keysL]
  | cons p L ih =>
    rw [look_cons]
    unfold keysL at ih ⊢
    by_cases h : p.1 = s
    · simp [h]
    · rw [if_neg h, ih]; simp [Ne.symm h]
theorem look_isSome {L : List (ByteArray × α)} {s : ByteArray} : (look L s).isSome = true ↔ s ∈ keysL L := by
  have := @look_none α L s
  cases e : look L s with
  | none => simp [this.1 e]
  | some x => simp only [Option.isSome_some, true_iff]; exact Classical.byContradiction fun h => by rw [this.2 h] at e; cases e
theorem look_mem {L : List (ByteArray × α)} {s : ByteArray} {x : α} (h : look L s = some x) : (s, x) ∈ L := by
  induction L with
  | nil => simp [look_nil] at h
  | cons p L ih =>
    rw [look_cons] at h
    by_cases e : p.1 = s
    · rw [if_pos e] at h; cases h; subst e; simp
    · rw [if_neg e] at h; exact List.mem_cons_of_mem _ (ih h)
theorem look_of_mem {L : List (ByteArray × α)} (hn : (keysL L).Nodup) {s : ByteArray} {x : α} (h : (s, x) ∈ L) : look L s = some x := by
  induction L with
  | nil => cases h
  | cons p L ih =>
    unfold keysL at hn ih
    rw [List.map_cons, List.nodup_cons] at hn
    rw [look_cons]
    rcases List.mem_cons.1 h with e | h
    · subst e; simp
    · rw [if_neg (fun e => hn.1 (by rw [e]; exact List.mem_map.2 ⟨_, h, rfl⟩))]; exact ih hn.2 h
theorem look_map_same (L : List (ByteArray × α)) (s : ByteArray) (x : α) (h : (look L s).isSome = true) : look (L.map fun p => if p.1 = s then (s, x) else p) s = some x := by
  induction L with
  | nil => simp [look_nil] at h
  | cons p L ih =>
    rw [List.map_cons, look_cons]
    by_cases e : p.1 = s
    · simp [e]
    · rw [look_cons, if_neg e] at h
      rw [if_neg (by rw [if_neg e]; exact e)]
      exact ih h
theorem look_map_other (L : List (ByteArray × α)) (s t : ByteArray) (x : α) (h : t ≠ s) : look (L.map fun p => if p.1 = s then (s, x) else p) t = look L t := by
  induction L with
  | nil => rfl
  | cons p L ih =>
    rw [List.map_cons, look_cons, look_cons, ih]
    by_cases e : p.1 = s
    · rw [if_pos e, if_neg (fun e' => h e'.symm), if_neg (fun e' => h (e'.symm.trans e))]
    · rw [if_neg e]
theorem look_ups_same (L : List (ByteArray × α)) (s : ByteArray) (x : α) : look (ups L s x) s = some x := by
  unfold ups
  split
  · rename_i h; exact look_map_same L s x h
  · rename_i h
    rw [look_append, show look L s = none from by simpa using h]
    simp [look_cons]
theorem look_ups_other (L : List (ByteArray × α)) (s t : ByteArray) (x : α) (h : t ≠ s) : look (ups L s x) t = look L t := by
  unfold ups
  split
  · exact look_map_other L s t x h
  · rw [look_append, look_cons, if_neg (fun e => h e.symm), look_nil]; simp
theorem ups_keys (L : List (ByteArray × α)) (s : ByteArray) (x : α) : keysL (ups L s x) = if (look L s).isSome then keysL L else keysL L ++ [s] := by
  unfold ups keysL
  split
  · rw [List.map_map]
    apply List.map_congr_left
    intro p _
    show (if p.1 = s then (s, x) else p).1 = p.1
    split
    · rename_i e; exact e.symm
    · rfl
  · simp
theorem ups_nodup {L : List (ByteArray × α)} (hn : (keysL L).Nodup) (s : ByteArray) (x : α) : (keysL (ups L s x)).Nodup := by
  rw [ups_keys]
  split
  · exact hn
  · rename_i h
    rw [List.nodup_append]
    refine ⟨hn, by simp, fun a ha b hb e => ?_⟩
    rw [List.mem_singleton] at hb
    subst hb; subst e
    exact h (look_isSome.2 ha)
theorem ups_length (L : List (ByteArray × α)) (s : ByteArray) (x : α) : (ups L s x).length = if (look L s).isSome then L.length else L.length + 1 := by
  unfold ups
  split <;> simp
theorem ups_short {L : List (ByteArray × α)} {n : Nat} (h : ∀ p ∈ L, p.1.size ≤ n) {s : ByteArray} (hs : s.size ≤ n) (x : α) : ∀ p ∈ ups L s x, p.1.size ≤ n := by
  intro p hp
  unfold ups at hp
  split at hp
  · obtain ⟨q, hq, rfl⟩ := List.mem_map.1 hp
    split
    · exact hs
    · exact h q hq
  · rcases List.mem_append.1 hp with hp | hp
    · exact h p hp
    · rw [List.mem_singleton] at hp; subst hp; exact hs

/-- What a map reads as says of each text what a list says. -/
structure Reads (K : MKind α) (D : DataW Unit) (L : List (ByteArray × α)) : Prop where
  size : Maps.size D = L.length
  has : ∀ s, Maps.has D (mkey s) = (look L s).isSome
  at' : ∀ s x, look L s = some x → ∀ z, D.atKey (mkey s) z = .lit (K.lt x)
theorem Reads.atZero {K : MKind α} {D : DataW Unit} {L : List (ByteArray × α)} (h : Reads K D L) (s : ByteArray) : D.atKey (mkey s) (.lit (K.lt K.zero)) = .lit (K.lt ((look L s).getD K.zero)) := by
  cases e : look L s with
  | none => rw [atKey_of_not_has (by rw [h.has, e]; rfl)]; rfl
  | some x => rw [h.at' s x e]; rfl
theorem Reads.ups {K : MKind α} {D : DataW Unit} {L : List (ByteArray × α)} (h : Reads K D L) (hD : Tidy D) (s : ByteArray) (x : α) : Reads K (D.put (mkey s) (.lit (K.lt x))) (ups L s x) := by
  refine ⟨?_, fun t => ?_, fun t y hy z => ?_⟩
  · rw [size_put hD, ups_length, h.has, h.size]
  · by_cases e : t = s
    · subst e; rw [has_put_same hD.isMap (mkey_key _), look_ups_same]; rfl
    · rw [has_put_other (fun e' => e (mkey_inj e')), look_ups_other _ _ _ _ e, h.has]
  · by_cases e : t = s
    · subst e; rw [look_ups_same] at hy; cases hy; exact atKey_put_same hD.isMap (mkey_key _) _ _
    · rw [look_ups_other _ _ _ _ e] at hy; rw [atKey_put_other (fun e' => e (mkey_inj e'))]; exact h.at' t y hy z

/-- Block b is a map that says of each text what L says. -/
structure MapIs (K : MKind α) (w : World) (b : Nat) (L : List (ByteArray × α)) : Prop where
  own : ∃ D : DataW Unit, w.ownsMap Tryz.prog 9 K.R b L.length D ∧ Reads K D L
  keys : (keysL L).Nodup
  short : ∀ p ∈ L, p.1.size ≤ 1000000
theorem lawS : Keyed Tryz.prog 9 := string_keyed Tryz.underlying9
theorem keyS {s : ByteArray} (hs : s.size ≤ 1000000) : keyOf Tryz.prog 9 (.string s) = some (mkey s) := WideMaps.keyOf_string_mk Tryz.underlying9 (s := s) (by unfold maxLen; omega)
theorem MapIs.made (K : MKind α) (w : World) : MapIs K (w.alloc (.map #[] 0)) w.heap.size [] :=
  ⟨⟨.map [], World.ownsMap_made w _ _ _, ⟨rfl, fun s => rfl, fun s x h => by simp [look_nil] at h⟩⟩, List.nodup_nil, fun p h => by cases h⟩
theorem MapIs.lt {K : MKind α} {w : World} {b : Nat} {L : List (ByteArray × α)} (h : MapIs K w b L) : b < w.heap.size := by
  obtain ⟨⟨_, h, _⟩, _, _⟩ := h
  exact h.lt
theorem MapIs.block {K : MKind α} {w w' : World} {b : Nat} {L : List (ByteArray × α)} (h : MapIs K w b L) (e : w'.heap[b]? = w.heap[b]?) : MapIs K w' b L := by
  obtain ⟨⟨D, ⟨es, clock, hb, F, hs, hD⟩, h2⟩, h3, h4⟩ := h
  exact ⟨⟨D, ⟨es, clock, e.trans hb, F, hs, hD⟩, h2⟩, h3, h4⟩
theorem MapIs.lookOk {K : MKind α} {w : World} {b : Nat} {L : List (ByteArray × α)} (h : MapIs K w b L) {s : ByteArray} (hs : s.size ≤ 1000000) :
    (Instr.lookup K.M (.map (some b)) (.string s) true).run Tryz.prog w = .ok (.tuple #[K.wd ((look L s).getD K.zero), .bool (look L s).isSome]) w := by
  obtain ⟨⟨D, hown, hr⟩, _, _⟩ := h
  obtain ⟨v, ps, hrun, hv⟩ := hown.look_ok lawS K.und (K.zer w) (K.put _ K.zgood) (keyS hs)
  obtain ⟨x, rfl, hx, _⟩ := K.inv _ _ hv
  rw [hr.atZero] at hx
  obtain rfl : (look L s).getD K.zero = x := K.inj _ _ (DataW.lit.inj (congrArg Prod.fst hx))
  rw [hrun, hr.has]
theorem MapIs.look1 {K : MKind α} {w : World} {b : Nat} {L : List (ByteArray × α)} (h : MapIs K w b L) {s : ByteArray} (hs : s.size ≤ 1000000) :
    (Instr.lookup K.M (.map (some b)) (.string s) false).run Tryz.prog w = .ok (K.wd ((look L s).getD K.zero)) w := by
  obtain ⟨⟨D, hown, hr⟩, _, _⟩ := h
  obtain ⟨v, ps, hrun, hv⟩ := hown.lookup lawS K.und (K.zer w) (K.put _ K.zgood) (keyS hs)
  obtain ⟨x, rfl, hx, _⟩ := K.inv _ _ hv
  rw [hr.atZero] at hx
  obtain rfl : (look L s).getD K.zero = x := K.inj _ _ (DataW.lit.inj (congrArg Prod.fst hx))
  rw [hrun]
theorem MapIs.len {K : MKind α} {w : World} {b : Nat} {L : List (ByteArray × α)} (h : MapIs K w b L) (ty : TypeId) : (Builtin.len_ #[K.M] ty #[.map (some b)]).run Tryz.prog w = .ok (.int .i64 L.length) w := by
  obtain ⟨⟨D, hown, hr⟩, _, _⟩ := h
  rw [hown.len K.und, hr.size]
theorem owns_tight {R : Value → Option (DataW Unit × List MemPlace)} {w : World} {b n : Nat} {D : DataW Unit} (h : w.ownsMap Tryz.prog 9 R b n D) : w.ownsMap Tryz.prog 9 R b (Maps.size D) D := by
  obtain ⟨es, clock, hb, F, hs, hD⟩ := h
  refine ⟨es, clock, hb, F, ?_, hD⟩
  rw [hD, size_eq, length_sorted]; simp
/-- 'm[s] = x', the operation by itself. -/
theorem MapIs.put {K : MKind α} {w : World} {b : Nat} {L : List (ByteArray × α)} (h : MapIs K w b L) (hL : L.length ≤ 1000000) {s : ByteArray} (hs : s.size ≤ 1000000) {y : α} (hy : K.good y) :
    ∃ w', (Instr.mapUpdate K.M (.map (some b)) (.string s) (K.wd y)).run Tryz.prog w = .ok () w' ∧ MapIs K w' b (ups L s y) ∧ w.grownBy w' (some b) := by
  obtain ⟨⟨D, hown, hr⟩, hk, hsh⟩ := h
  obtain ⟨w', hrun, h1, h2⟩ := hown.update lawS K.und (by unfold maxLen; omega) (keyS hs) (K.put y hy)
  have hr' := hr.ups (hown.tidy lawS) s y
  exact ⟨w', hrun, ⟨⟨_, by have := owns_tight h1; rwa [hr'.size] at this, hr'⟩, ups_nodup hk s y, ups_short hsh hs y⟩, h2⟩
/-- 'm[s] = x'. -/
theorem wpList_mapPut {ops : Array Oper} {rest : List Oper} {o : Oper} {a : Act} {w : World} {Q : Exit → Act → World → Prop} (K : MKind α) (hg : o.guard = none) (m x v : Operand) (hop : o.op = Op.mapUpdate K.M m x v)
    (b : Nat) (L : List (ByteArray × α)) (hm : a.eval m = .map (some b)) (h : MapIs K w b L) (hL : L.length ≤ 1000000) (s : ByteArray) (hs : s.size ≤ 1000000) (hx : a.eval x = .string s) (y : α) (hy : K.good y) (hv : a.eval v = K.wd y)
    (hK : ∀ w', Hid (MapIs K w' b (ups L s y)) → Hid (w.grownBy w' (some b)) → wpList Tryz.prog ops Q rest (a.put o.dst undef) w') : wpList Tryz.prog ops Q (o :: rest) a w := by
  obtain ⟨⟨D, hown, hr⟩, hk, hsh⟩ := h
  refine wpList_mapUpdate_own w hg m x v K.M hop 9 K.E lawS K.und _ b _ D hm hown (by unfold maxLen; omega) _ _ (mkey s) hx hv (keyS hs) _ _ (K.put y hy) ?_
  intro w' h1 h2
  have hr' := hr.ups (hown.tidy lawS) s y
  exact hK w' (Lib.hid ⟨⟨_, by have := owns_tight h1; rwa [hr'.size] at this, hr'⟩, ups_nodup hk s y, ups_short hsh hs y⟩) (Lib.hid h2)

/-- 'for s, x := range m' under way: those of S have come. -/
structure Rng (K : MKind α) (w : World) (b r : Nat) (L : List (ByteArray × α)) (S : List ByteArray) (cnt : Nat) : Prop where
  own : ∃ (D : DataW Unit) (left : Lit → Bool), w.ranges Tryz.prog 9 K.R b r L.length D left cnt ∧ Reads K D L ∧ ∀ s, left (mkey s) = true ↔ (look L s).isSome = true ∧ s ∉ S
  keys : (keysL L).Nodup
  short : ∀ p ∈ L, p.1.size ≤ 1000000
  came : S.Nodup ∧ ∀ s ∈ S, (look L s).isSome = true
  room : S.length + cnt ≤ L.length
theorem Rng.left_eq {K : MKind α} {w : World} {b r : Nat} {L : List (ByteArray × α)} {S : List ByteArray} {cnt : Nat} (h : Rng K w b r L S cnt) : w.rangeLeft b r = cnt := by
  obtain ⟨⟨D, left, hr, _⟩, _⟩ := h
  exact hr.left_eq
theorem Rng.ne {K : MKind α} {w : World} {b r : Nat} {L : List (ByteArray × α)} {S : List ByteArray} {cnt : Nat} (h : Rng K w b r L S cnt) : r ≠ b := by
  obtain ⟨⟨D, left, hr, _⟩, _⟩ := h
  exact hr.ne
theorem Rng.lt {K : MKind α} {w : World} {b r : Nat} {L : List (ByteArray × α)} {S : List ByteArray} {cnt : Nat} (h : Rng K w b r L S cnt) : r < w.heap.size := by
  obtain ⟨⟨D, left, hr, _⟩, _⟩ := h
  exact hr.lt
theorem Rng.map {K : MKind α} {w : World} {b r : Nat} {L : List (ByteArray × α)} {S : List ByteArray} {cnt : Nat} (h : Rng K w b r L S cnt) : MapIs K w b L := by
  obtain ⟨⟨D, left, hr, hR, _⟩, hk, hs, _⟩ := h
  exact ⟨⟨D, hr.owns, hR⟩, hk, hs⟩
theorem Rng.block {K : MKind α} {w w' : World} {b r : Nat} {L : List (ByteArray × α)} {S : List ByteArray} {cnt : Nat} (h : Rng K w b r L S cnt) (e : w'.heap[b]? = w.heap[b]?) (e' : w'.heap[r]? = w.heap[r]?) : Rng K w' b r L S cnt := by
  obtain ⟨⟨D, left, ⟨es, clock, since, seen, c0, hb, F, hs, hD, hr, r1⟩, hR⟩, hk, hsh, hc, hm⟩ := h
  exact ⟨⟨D, left, ⟨es, clock, since, seen, c0, e.trans hb, F, hs, hD, e'.trans hr, r1⟩, hR⟩, hk, hsh, hc, hm⟩
/-- 'range m'. -/
theorem wpList_mapRange {ops : Array Oper} {rest : List Oper} {o : Oper} {a : Act} {w : World} {Q : Exit → Act → World → Prop} (K : MKind α) (hg : o.guard = none) (m : Operand) (hop : o.op = Op.range K.M m)
    (b : Nat) (L : List (ByteArray × α)) (hm : a.eval m = .map (some b)) (h : MapIs K w b L)
    (hK : ∀ w', Hid (Rng K w' b w.heap.size L [] L.length) → Hid (w.grownBy w' none) → Hid (w'.heap.size = w.heap.size + 1) → wpList Tryz.prog ops Q rest (a.put o.dst (.pointer (some ⟨w.heap.size, 0, none⟩))) w') : wpList Tryz.prog ops Q (o :: rest) a w := by
  obtain ⟨⟨D, hown, hr⟩, hk, hsh⟩ := h
  refine wpList_range_own w hg m K.M hop 9 K.E lawS K.und _ b _ D hm hown ?_
  intro w' h1 h2 h3
  rw [hr.size] at h1
  exact hK w' (Lib.hid ⟨⟨D, _, h1, hr, fun s => by rw [hr.has]; simp⟩, hk, hsh, ⟨List.nodup_nil, fun s h => by cases h⟩, by simp⟩) (Lib.hid h2) (Lib.hid h3)
/-- The next one: none is left, or one comes that has not come. -/
theorem wpList_mapNext {ops : Array Oper} {rest : List Oper} {o : Oper} {a : Act} {w : World} {Q : Exit → Act → World → Prop} (K : MKind α) (hg : o.guard = none) (it : Operand) (hop : o.op = Op.next it false)
    (b r : Nat) (L : List (ByteArray × α)) (S : List ByteArray) (cnt : Nat) (hit : a.eval it = .pointer (some ⟨r, 0, none⟩)) (h : Rng K w b r L S cnt)
    (hDone : S.Perm (keysL L) → wpList Tryz.prog ops Q rest (a.put o.dst (.tuple #[.bool false])) w)
    (hMore : ∀ (s : ByteArray) (x : α) (w' : World) (cnt' : Nat), look L s = some x → s ∉ S → K.good x → Hid (Rng K w' b r L (S ++ [s]) cnt') → Hid (cnt' < cnt) → Hid (w.grownBy w' (some r)) → Hid (w'.heap.size = w.heap.size) →
      (Instr.entry (.pointer (some ⟨r, 0, none⟩))).run Tryz.prog w' = .ok (.tuple #[.string s, K.wd x]) w' → wpList Tryz.prog ops Q rest (a.put o.dst (.tuple #[.bool true, .string s, K.wd x])) w') : wpList Tryz.prog ops Q (o :: rest) a w := by
  obtain ⟨⟨D, left, hrg, hR, hleft⟩, hk, hsh, ⟨hnd, hin⟩, hroom⟩ := h
  refine wpList_next_ranges w hg it hop 9 lawS K.R Value.string K.wd (fun key kl hkey => by obtain ⟨x, hx, _⟩ := Maps.keyOf_str Tryz.underlying9 hkey; exact ⟨_, hx⟩)
    (fun v y hv => by obtain ⟨x, hx, _⟩ := K.inv v y hv; exact ⟨x, hx⟩) b r _ D left cnt hit hrg ?_ ?_
  · intro _ h0
    refine hDone ((List.perm_ext_iff_of_nodup hnd hk).2 fun s => ⟨fun hs => look_isSome.1 (hin s hs), fun hs => ?_⟩)
    refine Classical.byContradiction fun hn => ?_
    have := (hleft s).2 ⟨look_isSome.2 hs, hn⟩
    rw [h0] at this
    cases this
  · intro s x kl y w' cnt' hkey hlk hv hat hrg' hlt hg2 hs2 hen
    obtain ⟨l, hl, rfl, hsz⟩ := Maps.keyOf_str Tryz.underlying9 hkey
    obtain rfl : s = ⟨l.toArray⟩ := by simpa [encStr] using hl
    have ek : (.string l : Lit) = mkey ⟨l.toArray⟩ := by simp [mkey]
    rw [ek] at hlk hat
    obtain ⟨h1, hns⟩ := (hleft _).1 hlk
    obtain ⟨x0, hx0⟩ := Option.isSome_iff_exists.1 h1
    obtain ⟨x', e1, e2, hgd⟩ := K.inv _ _ hv
    have h4 := hR.at' _ x0 hx0 (.lit (K.lt K.zero))
    rw [hat, e2] at h4
    have h5 : x' = x0 := K.inj _ _ (DataW.lit.inj h4)
    subst h5
    rw [e1] at hen ⊢
    refine hMore _ x' w' cnt' hx0 hns hgd (Lib.hid ⟨⟨D, _, hrg', hR, fun t => ?_⟩, hk, hsh, ⟨?_, ?_⟩, by rw [List.length_append, List.length_singleton]; omega⟩) (Lib.hid hlt) (Lib.hid hg2) (Lib.hid hs2) hen
    · rw [ek, mkey_same, Bool.and_eq_true, hleft]
      simp [and_assoc]
    · rw [List.nodup_append]
      exact ⟨hnd, by simp, fun a ha b hb e => by rw [List.mem_singleton] at hb; subst hb; subst e; exact hns ha⟩
    · intro t ht
      rcases List.mem_append.1 ht with ht | ht
      · exact hin t ht
      · rw [List.mem_singleton] at ht; subst ht; rw [hx0]; rfl
end
end Go.Proofs.YtcfpmofmjnhonaaGreatDoor
/- Maps from texts to texts, to numbers, to bools. -/
namespace Go.Proofs.YtcfpmofmjnhonaaGreatDoor
open Go.RowKit Go.Maps

set_option maxRecDepth 100000 in
theorem elemS_inv {v : Value} {z : DataW Unit × List MemPlace} (h : plainElem Tryz.prog 9 v = some z) : ∃ s : ByteArray, v = .string s ∧ z = (.lit (mkey s), []) ∧ s.size ≤ maxLen := by
  unfold plainElem at h
  rw [Tryz.underlying9] at h
  cases v with
  | string s =>
    simp only at h
    split at h
    · rename_i hs
      exact ⟨s, rfl, (Option.some.inj h).symm, hs⟩
    · cases h
  | _ => simp at h
set_option maxRecDepth 100000 in
theorem elemB_inv {v : Value} {z : DataW Unit × List MemPlace} (h : plainElem Tryz.prog 4 v = some z) : ∃ x, v = .bool x ∧ z = (.lit (.bool x), []) ∧ True := by
  unfold plainElem at h
  rw [Tryz.underlying4] at h
  cases v <;> simp at h
  subst h
  exact ⟨_, rfl, rfl, trivial⟩
/-- Texts as elements: those that can be. -/
noncomputable def kS : MKind ByteArray where
  M := 39
  E := 9
  wd := .string
  lt := mkey
  zero := ⟨#[]⟩
  good s := s.size ≤ maxLen
  und := Tryz.underlying39
  R := plainElem Tryz.prog 9
  put _ hx := plainElem_string Tryz.underlying9 hx
  inv _ _ h := elemS_inv h
  inj _ _ h := mkey_inj h
  zer w := Tryz.zeroValue9 w
  zgood := Nat.zero_le _
/-- Numbers as elements. -/
noncomputable def kI : MKind Int where
  M := 40
  E := 3
  wd := .int .i64
  lt := .int .i64
  zero := 0
  good x := (Lit.int .i64 x).wf = true
  und := Tryz.underlying40
  R := plainElem Tryz.prog 3
  put _ hx := plainElem_int Tryz.underlying3 hx
  inv v y h := by
    obtain ⟨a, rfl, rfl, hw⟩ := plainElem_int_inv Tryz.underlying3 h
    exact ⟨a, rfl, rfl, hw⟩
  inj _ _ h := by injection h
  zer w := Tryz.zeroValue3 w
  zgood := by decide
/-- Bools as elements. -/
noncomputable def kB : MKind Bool where
  M := 141
  E := 4
  wd := .bool
  lt := .bool
  zero := false
  good _ := True
  und := Tryz.underlying141
  R := plainElem Tryz.prog 4
  put x _ := plainElem_bool Tryz.underlying4 x
  inv _ _ h := elemB_inv h
  inj _ _ h := by injection h
  zer w := Tryz.zeroValue4 w
  zgood := trivial

section
variable {α : Type}
/-- Lists that say the same of each text. -/
def SameSay (L M : List (ByteArray × α)) : Prop := ∀ s, look L s = look M s
theorem SameSay.keys {L M : List (ByteArray × α)} (h : SameSay L M) (hL : (keysL L).Nodup) (hM : (keysL M).Nodup) : (keysL L).Perm (keysL M) :=
  (List.perm_ext_iff_of_nodup hL hM).2 fun s => by rw [← look_isSome, ← look_isSome, h s]
theorem SameSay.perm {L M : List (ByteArray × α)} (h : SameSay L M) (hL : (keysL L).Nodup) (hM : (keysL M).Nodup) : L.Perm M := by
  have nd : ∀ {L : List (ByteArray × α)}, (keysL L).Nodup → L.Nodup := fun {L} h => by
    unfold keysL at h
    exact List.Pairwise.of_map _ (fun a b hab e => hab (by rw [e])) h
  refine (List.perm_ext_iff_of_nodup (nd hL) (nd hM)).2 fun p => ?_
  obtain ⟨s, x⟩ := p
  exact ⟨fun hp => look_mem (by rw [← h]; exact look_of_mem hL hp), fun hp => look_mem (by rw [h]; exact look_of_mem hM hp)⟩
theorem SameSay.map {K : MKind α} {w : World} {b : Nat} {L M : List (ByteArray × α)} (h : SameSay L M) (hM : (keysL M).Nodup) (m : MapIs K w b L) : MapIs K w b M := by
  have hp := h.perm m.keys hM
  obtain ⟨⟨D, hown, hr⟩, hk, hs⟩ := m
  refine ⟨⟨D, by rw [← hp.length_eq]; exact hown, ⟨by rw [hr.size, hp.length_eq], fun s => by rw [hr.has, h s], fun s x hx => hr.at' s x (by rw [h s]; exact hx)⟩⟩, hM, fun p hq => hs p (hp.mem_iff.2 hq)⟩
/-- All of a list put in, one behind the other. -/
def upsAll (L P : List (ByteArray × α)) : List (ByteArray × α) := P.foldl (fun A p => ups A p.1 p.2) L
theorem upsAll_nodup {L : List (ByteArray × α)} (h : (keysL L).Nodup) : ∀ P : List (ByteArray × α), (keysL (upsAll L P)).Nodup := fun P => by
  induction P generalizing L with
  | nil => exact h
  | cons p P ih => exact ih (ups_nodup h p.1 p.2)
theorem upsAll_snoc (L P : List (ByteArray × α)) (p : ByteArray × α) : upsAll L (P ++ [p]) = ups (upsAll L P) p.1 p.2 := by simp [upsAll, List.foldl_append]
theorem upsAll_look (L P : List (ByteArray × α)) (hP : (keysL P).Nodup) (s : ByteArray) : look (upsAll L P) s = (look P s).or (look L s) := by
  induction P generalizing L with
  | nil => simp [upsAll, look_nil]
  | cons p P ih =>
    have h2 := List.nodup_cons.1 (show (p.1 :: keysL P).Nodup from hP)
    rw [show upsAll L (p :: P) = upsAll (ups L p.1 p.2) P from rfl, ih _ h2.2, look_cons]
    by_cases e : p.1 = s
    · subst e
      rw [look_none.2 h2.1, look_ups_same]; simp
    · rw [if_neg e, look_ups_other _ _ _ _ (fun e' => e e'.symm)]
/-- In whichever order they are put in, each once. -/
theorem upsAll_same {L P Q : List (ByteArray × α)} (hP : (keysL P).Nodup) (hQ : (keysL Q).Nodup) (h : SameSay P Q) : SameSay (upsAll L P) (upsAll L Q) := fun s => by
  rw [upsAll_look _ _ hP, upsAll_look _ _ hQ, h s]
end
end Go.Proofs.YtcfpmofmjnhonaaGreatDoor
