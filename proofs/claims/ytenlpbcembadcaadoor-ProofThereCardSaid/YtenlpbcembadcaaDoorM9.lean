/- Parts of the proof, one behind the other: Part, Step, CopyOf, Halves, Clone, PHalves, Sorted, Gg, RSet. -/
import Derived.Test.YtenlpbcembadcaaDoorM5
import Derived.Tactics
import Derived.Orders
import Derived.WalkKit
import Derived.Deep.AppendSrc
import Derived.Deep.RegionHeld3
import Derived.Deep.RegionLaw
import Derived.Deep.DeepCutAuto
import Derived.Test.YtenlpbcembadcaaDoorM8
import Derived.Shelf.SlSortFuncK.WholeK
import Derived.Ground.GgsProg
import Derived.Shelf.GgSortFunc.Tiny
import Derived.Test.YtenlpbcembadcaaDoorProg
/- Parts of a list of items: l[:r], l[r:]. -/
namespace Go.Proofs.YtenlpbcembadcaaDoor
open Go.RowKit

def partAt (A : Option Addr) (cap r : Nat) : Option Addr := if cap = r then A else A.map (·.add (r * 2))
theorem items_to {P : Program} (t e : Nat) (ht : P.underlying t = some (.slice e)) (hz : ∀ w, (Go.sizeOf e).run P w = .ok 2 w) (A : Option Addr) (n cap r : Nat) (hr : r ≤ cap) (w : World) :
    (Instr.sliceAt t (.slice A n cap) none (some (.int .i64 (r : Int))) none).run P w = .ok (.slice A r cap) w := by
  have e2 : P.elem t = e := by simp [Program.elem, ht]
  rw [run_sliceAt_slice w t _ _ _ _ (by rw [e2]; exact ht), run_slice_h w t A n cap (by rw [e2]; exact ht) .i64 r (by omega) (by omega), e2, hz]
  cases A <;> simp [Result.andThen, sliced, Addr.add]
theorem items_from {P : Program} (t e : Nat) (ht : P.underlying t = some (.slice e)) (hz : ∀ w, (Go.sizeOf e).run P w = .ok 2 w) (A : Option Addr) (n cap r : Nat) (hr : r ≤ n) (w : World) :
    (Instr.sliceAt t (.slice A n cap) (some (.int .i64 (r : Int))) none none).run P w = .ok (.slice (partAt A cap r) (n - r) (cap - r)) w := by
  have e2 : P.elem t = e := by simp [Program.elem, ht]
  rw [run_sliceAt_slice w t _ _ _ _ (by rw [e2]; exact ht), run_slice_l w t A n cap (by rw [e2]; exact ht) .i64 r (by omega) (by omega), e2, hz]
  simp [Result.andThen, sliced, partAt]
theorem Itms.take {w : World} {A : Option Addr} {L : List It} (h : Itms w A L) (r : Nat) : Itms w A (L.take r) := fun i x hx => by
  rw [List.getElem?_take] at hx
  split at hx
  · exact h i x hx
  · cases hx
theorem Itms.drop {w : World} {A : Option Addr} {L : List It} (h : Itms w A L) {cap r : Nat} (hc : L.length ≤ cap) : Itms w (partAt A cap r) (L.drop r) := fun i x hx => by
  rw [List.getElem?_drop] at hx
  obtain ⟨a, rfl, hl, c0, c1⟩ := h _ x hx
  have hlt := (List.getElem?_eq_some_iff.1 hx).1
  unfold partAt
  rw [if_neg (by omega)]
  have e : (a.add (r * 2)).add (i * 2) = a.add ((r + i) * 2) := by rw [add_add', show r * 2 + i * 2 = (r + i) * 2 by omega]
  exact ⟨a.add (r * 2), rfl, by rw [block_add]; exact hl, by rw [e]; exact c0, by rw [e]; exact c1⟩
theorem itemSize : ∀ w, (Go.sizeOf 24).run Tryd.prog w = .ok 2 w := Tryd.sizeOf24
theorem it_to (A : Option Addr) (n cap r : Nat) (hr : r ≤ cap) (w : World) : (Instr.sliceAt 47 (.slice A n cap) none (some (.int .i64 (r : Int))) none).run Tryd.prog w = .ok (.slice A r cap) w :=
  items_to 47 24 Tryd.underlying47 itemSize A n cap r hr w
theorem it_from (A : Option Addr) (n cap r : Nat) (hr : r ≤ n) (w : World) : (Instr.sliceAt 47 (.slice A n cap) (some (.int .i64 (r : Int))) none none).run Tryd.prog w = .ok (.slice (partAt A cap r) (n - r) (cap - r)) w :=
  items_from 47 24 Tryd.underlying47 itemSize A n cap r hr w
end Go.Proofs.YtenlpbcembadcaaDoor
/- A law of the walk over a list of operations, at one step of a region that draws its order. No program is imported. -/
namespace Go.Proofs.YtenlpbcembadcaaDoor
open Go.RowKit

/-- What holds behind the one operation, and nothing at any other way out. -/
def Then1 (K : Act → World → Prop) : Exit → Act → World → Prop
  | .normal, a, w => K a w
  | _, _, _ => False
theorem then1 {P : Program} {ops : Array Oper} {K : Act → World → Prop} {a : Act} {w : World} (h : K a w) : wpList P ops (Then1 K) [] a w := h
theorem wp_of_list {P : Program} {ops : Array Oper} {o : Oper} {a : Act} {w : World} {K : Act → World → Prop} {Q : Exit → Act → World → Prop} (hgd : o.guard = none) (h : wpList P ops (Then1 K) [o] a w) : o.wp P a w K Q := by
  have hw : Region.wanted o (yielded ops a.tmps) = true := by simp [Region.wanted, hgd]
  unfold wpList at h
  rw [if_pos hw] at h
  rcases h with h | ⟨_, _, _, h⟩
  · unfold Oper.wp at *
    generalize (execOp a.eval o).run P w = r at *
    cases r with
    | ok n w' =>
      cases n <;> simp only [Oper.upon] at h ⊢
      all_goals first
        | exact h
        | exact h.elim
        | exact Calls.mono h (fun e w'' hh => by cases e <;> first | exact hh | exact hh.elim | (obtain ⟨_, _, hh⟩ := hh; exact hh.elim))
        | exact Rows.mono h (fun _ _ he => he)
    | halt x w' => cases x <;> simp only [Oper.upon] at h ⊢ <;> first | exact h | exact h.elim | (obtain ⟨_, _, h⟩ := h; exact h.elim)
  · exact h.elim
theorem step_of_list {P : Program} {ops : Array Oper} {o : Oper} {a : Act} {w : World} {K : Act → World → Prop} {Q : Exit → Act → World → Prop} {E : Prop} (hgd : o.guard = none) (h : wpList P ops (Then1 K) [o] a w) :
    if Region.wanted o (yielded ops a.tmps) = true then Oper.wp P o a w K Q else E := by
  have hw : Region.wanted o (yielded ops a.tmps) = true := by simp [Region.wanted, hgd]
  rw [if_pos hw]
  exact wp_of_list hgd h
end Go.Proofs.YtenlpbcembadcaaDoor
/- append([]T{}, l...): the items of a list, once more, in memory of the call's own. -/
namespace Go.Proofs.YtenlpbcembadcaaDoor
open Go.RowKit

theorem Itms.cells {w : World} {A : Option Addr} {L : List It} (h : Itms w A L) (hn : 0 < L.length) : ∃ a, A = some a ∧ ∀ j u, (itCells L)[j]? = some u → w.cell? (a.add j) = some u := by
  obtain ⟨a, rfl, -⟩ := h.at_ hn
  refine ⟨a, rfl, fun j u hj => ?_⟩
  have hjl := (List.getElem?_eq_some_iff.1 hj).1
  rw [itCells_length] at hjl
  have hi : j / 2 < L.length := by omega
  obtain ⟨a', ha, _, h0, h1⟩ := h.at_ hi
  obtain rfl : a = a' := Option.some.inj ha
  have hx : L[j / 2]? = some (itAt L (j / 2)) := by rw [List.getElem?_eq_getElem hi, itAt_of hi]
  obtain ⟨e1, e2⟩ := itCells_get L (j / 2) _ hx
  rcases (show j = j / 2 * 2 ∨ j = j / 2 * 2 + 1 by omega) with e | e
  · rw [← e] at e1 h0
    rw [hj] at e1
    rw [h0, ← e1]
  · rw [← e] at e2
    rw [add_add', ← e] at h1
    rw [hj] at e2
    rw [h1, ← e2]
theorem itCells_one' (L : List It) : ∀ u ∈ itCells L, u.oneCell' = true := by
  intro u hu
  unfold itCells at hu
  simp only [List.mem_flatMap] at hu
  obtain ⟨x, _, hx⟩ := hu
  simp at hx
  rcases hx with rfl | rfl <;> rfl
theorem wpList_append_copyc {P : Program} {ops : Array Oper} {rest : List Oper} {o : Oper} {a : Act} {w : World} {Q : Exit → Act → World → Prop} (hgd : o.guard = none) (d s : Operand) (T : TypeId)
    (ho : o.op = .call { callee := .builtin .append, args := #[d, s], argTypes := #[T, T] }) (e : TypeId) (ht : P.underlying T = some (.slice e)) (i : TypeInfo) (z : Value) (hi : P.info? e = some i) (hz : i.zero = some z) (hsz : i.size = 2) (hby : i.bytes = 32) (hzc : z.cells.size = 2)
    (L : List It) (A : Option Addr) (cap : Nat) (b0 : Addr) (hd : a.eval d = .slice (some b0) 0 0) (hs : a.eval s = .slice A L.length cap) (hm : Itms w A L) (hl : L.length ≤ 1000000)
    (hK : ∀ A' cap' w', Hid (Below w.heap.size w w') → Hid (Itms w' A' L) → Hid (L.length ≤ cap') → wpList P ops Q rest (a.put o.dst (.slice A' L.length cap')) w') : wpList P ops Q (o :: rest) a w := by
  by_cases h0 : L.length = 0
  · obtain rfl := List.eq_nil_of_length_eq_zero h0
    have hsrc : ∃ news, Src P i.size T (.slice A 0 cap) 0 news w := by
      cases A with
      | none => exact ⟨[], Src.ofNil w ht cap⟩
      | some x => exact ⟨[], Src.ofSlice w ht x 0 cap [] (by simp) (fun j u h => by simp at h) (fun u h => by cases h)⟩
    obtain ⟨news, hsrc⟩ := hsrc
    have hnl : news = [] := List.eq_nil_of_length_eq_zero (by simpa using hsrc.newsLen)
    subst hnl
    have hk1 : ∃ e', P.underlying T = some (.slice e') := ⟨e, ht⟩
    have hrun : (Builtin.append_ #[T, T] o.type #[.slice (some b0) 0 0, .slice A 0 cap]).run P w = .ok (.slice (some b0) 0 0) w := by
      have hst : (storeCells (b0.add 0) []).run P w = .ok () w := by simp [storeCells]
      simp [Builtin.append_, run_underlying ht, sizeOf, typeInfo, hi, hsrc.len, hsrc.cells, hst]
    refine wpList_plain hgd fun K hK' => ?_
    unfold Oper.wp
    simp [execOp, ho, resolve, invoke, builtin, hd, hs, hrun, Result.andThen]
    exact hK' _ _ (hK _ _ _ (Lib.hid (Below.refl _ _)) (Lib.hid (Itms.nil _ _)) (Lib.hid (Nat.le_refl 0)))
  · obtain ⟨x, rfl, hc⟩ := hm.cells (by omega)
    refine wpList_append_grows w hgd d s T ho e i z 2 32 ht hi hz hsz hby hzc (by omega) (some b0) 0 0 [] hd (fun h => by cases h) (by simp) (fun _ _ j u h => by simp at h) x L.length cap (itCells L) hs (itCells_length L) hc (itCells_one' L) (by omega) (by unfold maxLen; omega) (by omega) ?_
    intro v' w' hown hg
    have hrow : Row w' w.heap.size 2 v' L.length (itCells L) := by simpa using Row.of_owns hown
    obtain ⟨_, A', cap', rfl, hit⟩ := hrow.itms
    have hcap : L.length ≤ cap' := by
      obtain ⟨g, c', hv, _, _, hle, _⟩ := hrow.shape (by omega)
      injection hv with _ _ e3
      omega
    exact hK A' cap' w' (Lib.hid (grownBy.below hg (Nat.le_refl _) (fun k h => by cases h))) (Lib.hid hit) (Lib.hid hcap)
theorem wpList_append_copyr {P : Program} {ops : Array Oper} {rest : List Oper} {o : Oper} {a : Act} {w : World} {Q : Exit → Act → World → Prop} (hgd : o.guard = none) (d s : Operand) (T : TypeId)
    (ho : o.op = .call { callee := .builtin .append, args := #[d, s], argTypes := #[T, T] }) (e : TypeId) (ht : P.underlying T = some (.slice e)) (i : TypeInfo) (z : Value) (hi : P.info? e = some i) (hz : i.zero = some z) (hsz : i.size = 2) (hby : i.bytes = 32) (hzc : z.cells.size = 2)
    (L : List It) (A : Option Addr) (cap : Nat) (g : Nat) (hg : g < w.heap.size) (base : Nat) (hbg : base ≤ g) (hd : a.eval d = .slice (some ⟨g, 0, none⟩) 0 0) (hs : a.eval s = .slice A L.length cap) (hm : Itms w A L) (hl : L.length ≤ 1000000)
    (hK : ∀ A' cap' w', Hid (Below w.heap.size w w') → Hid (Row w' base 2 (.slice A' L.length cap') L.length (itCells L)) → wpList P ops Q rest (a.put o.dst (.slice A' L.length cap')) w') : wpList P ops Q (o :: rest) a w := by
  by_cases h0 : L.length = 0
  · obtain rfl := List.eq_nil_of_length_eq_zero h0
    have hsrc : ∃ news, Src P i.size T (.slice A 0 cap) 0 news w := by
      cases A with
      | none => exact ⟨[], Src.ofNil w ht cap⟩
      | some x => exact ⟨[], Src.ofSlice w ht x 0 cap [] (by simp) (fun j u h => by simp at h) (fun u h => by cases h)⟩
    obtain ⟨news, hsrc⟩ := hsrc
    have hnl : news = [] := List.eq_nil_of_length_eq_zero (by simpa using hsrc.newsLen)
    subst hnl
    have hk1 : ∃ e', P.underlying T = some (.slice e') := ⟨e, ht⟩
    have hrun : (Builtin.append_ #[T, T] o.type #[.slice (some ⟨g, 0, none⟩) 0 0, .slice A 0 cap]).run P w = .ok (.slice (some ⟨g, 0, none⟩) 0 0) w := by
      have hst : (storeCells ((Addr.mk g 0 none).add 0) []).run P w = .ok () w := by simp [storeCells]
      simp [Builtin.append_, run_underlying ht, sizeOf, typeInfo, hi, hsrc.len, hsrc.cells, hst]
    refine wpList_plain hgd fun K hK' => ?_
    unfold Oper.wp
    simp [execOp, ho, resolve, invoke, builtin, hd, hs, hrun, Result.andThen]
    exact hK' _ _ (hK _ _ _ (Lib.hid (Below.refl _ _)) (Lib.hid ⟨rfl, .inr ⟨g, 0, rfl, hbg, hg, Nat.le_refl 0, fun j u h => (by cases h), fun j h => by omega⟩⟩))
  · obtain ⟨x, rfl, hc⟩ := hm.cells (by omega)
    refine wpList_append_grows w hgd d s T ho e i z 2 32 ht hi hz hsz hby hzc (by omega) (some ⟨g, 0, none⟩) 0 0 [] hd (fun h => by cases h) (by simp) (fun _ _ j u h => by simp at h) x L.length cap (itCells L) hs (itCells_length L) hc (itCells_one' L) (by omega) (by unfold maxLen; omega) (by omega) ?_
    intro v' w' hown hg'
    have hrow : Row w' w.heap.size 2 v' L.length (itCells L) := by simpa using Row.of_owns hown
    obtain ⟨A', cap', rfl⟩ := hrow.any
    exact hK A' cap' w' (Lib.hid (grownBy.below hg' (Nat.le_refl _) (fun k h => by cases h))) (Lib.hid (hrow.mono (by omega)))
theorem wpList_append_copy {P : Program} {ops : Array Oper} {rest : List Oper} {o : Oper} {a : Act} {w : World} {Q : Exit → Act → World → Prop} (hgd : o.guard = none) (d s : Operand) (T : TypeId)
    (ho : o.op = .call { callee := .builtin .append, args := #[d, s], argTypes := #[T, T] }) (e : TypeId) (ht : P.underlying T = some (.slice e)) (i : TypeInfo) (z : Value) (hi : P.info? e = some i) (hz : i.zero = some z) (hsz : i.size = 2) (hby : i.bytes = 32) (hzc : z.cells.size = 2)
    (L : List It) (A : Option Addr) (cap : Nat) (b0 : Addr) (hd : a.eval d = .slice (some b0) 0 0) (hs : a.eval s = .slice A L.length cap) (hm : Itms w A L) (hl : L.length ≤ 1000000)
    (hK : ∀ A' cap' w', Hid (Below w.heap.size w w') → Hid (Itms w' A' L) → wpList P ops Q rest (a.put o.dst (.slice A' L.length cap')) w') : wpList P ops Q (o :: rest) a w :=
  wpList_append_copyc hgd d s T ho e ht i z hi hz hsz hby hzc L A cap b0 hd hs hm hl fun A' c' w' h1 h2 _ => hK A' c' w' h1 h2
end Go.Proofs.YtenlpbcembadcaaDoor
/- The document's Halves. -/
namespace Go.Proofs.YtenlpbcembadcaaDoor
open Go.RowKit

theorem infoItem : (Tryd.prog.info? 24).map (fun i => (i.zero, i.size, i.bytes)) = some (some (.agg #[.string ⟨#[]⟩, .string ⟨#[]⟩]), 2, 32) := by kernel_rfl
/-- append of one item, just built. -/
theorem wpList_append_item {P : Program} {w : World} {ops : Array Oper} {rest : List Oper} {o : Oper} {a : Act} {Q : Exit → Act → World → Prop}
    (hg : o.guard = none) (s x : Operand) (t : TypeId) (hop : o.op = Op.call { callee := Callee.builtin Builtin.append, args := #[s, x], argTypes := #[t, t] })
    (e : TypeId) (h1 : P.underlying t = some (.slice e)) (z : Value) (bytes : Nat) (hi : (P.info? e).map (fun i => (i.zero, i.size, i.bytes)) = some (some z, 2, bytes)) (h6 : z.cells.size = 2) (hby : bytes ≤ 64)
    (base : Nat) (v : Value) (L : List It) (hs : a.eval s = v) (hrow : Row w base 2 v L.length (itCells L)) (hbase : base ≤ w.heap.size) (hn : L.length ≤ 2147483647)
    (y : It) (B : Nat) (hx : a.eval x = .slice (some ⟨B, 0, none⟩) 1 1) (e' : TypeId) (hB : w.heap[B]? = some (.cells #[.string y.1, .string y.2] e' (0, 0)))
    (hK : ∀ v' w', Hid (Row w' base 2 v' (L ++ [y]).length (itCells (L ++ [y]))) → Hid (w.grownBy w' v.ownBlock) → Hid (Moved w v v') → wpList P ops Q rest (a.put o.dst v') w') :
    wpList P ops Q (o :: rest) a w := by
  obtain ⟨i0, hi0, hz0, hz1, hz2⟩ := info_parts hi
  refine wpList_append_row2 hg s x t hop e i0 z 2 bytes h1 hi0 hz0 hz1 hz2 h6 (by decide) base v L.length (itCells L) hs hrow hbase ⟨B, 0, none⟩ 1 1 (itCells [y]) hx rfl ?_ ?_ (by unfold maxLen; omega) ?_ ?_
  · intro j u hj
    rw [add_none, Nat.zero_add, cell_of_row _ B j _ e' (0, 0) hB]
    simpa [itCells] using hj
  · intro u hu; simp [itCells] at hu; rcases hu with rfl | rfl <;> rfl
  · have := Nat.mul_le_mul (show L.length + 1 ≤ 2147483648 by omega) hby
    omega
  · intro v' w' hr' hg' hm'
    refine hK v' w' ?_ hg' hm'
    have := hr'.out
    rw [← itCells_append] at this
    rw [List.length_append]
    exact Lib.hid this

/-- A block that the row does not lie in, behind an append behind a new block. -/
theorem grown_holds {w w3 : World} {X : Obj} {v : Value} {b n : Nat} {f : Nat → Value} {t : TypeId} (h : Holds w b n f t) (hg : ((w.alloc X).drew).grownBy w3 v.ownBlock) (hv : v.ownBlock ≠ some b) : Holds w3 b n f t := by
  have h1 := (h.alloc X).drew
  have := h1.lt
  unfold Holds at h1 ⊢
  rw [hg.block b this (fun e => hv e.symm)]; exact h1
theorem half_take (L : List It) (d k j : Nat) (x : It) (h : L[k]? = some x) : half (L.take (k + 1)) d j = half (L.take k) d j ++ (if bitI x d = j then [x] else []) := by
  rw [List.take_add_one, h]
  unfold half
  rw [List.filter_append]
  congr 1
  by_cases e : bitI x d = j <;> simp [e]
theorem row_past {w w3 : World} {X : Obj} {v u : Value} {base size n : Nat} {xs : List Value} (h : Row w base size u n xs) (hg : ((w.alloc X).drew).grownBy w3 v.ownBlock) (ha : ∀ b, v.ownBlock = some b → u.ownBlock ≠ some b) : Row w3 base size u n xs := by
  have h1 : Row ((w.alloc X).drew) base size u n xs := (h.alloc X).drew
  refine h1.kept (fun k hk => hg.block k (h1.lt k hk).2 (fun e => ha k e.symm hk)) hg.size
theorem moved_apart {w : World} {X : Obj} {v v' u : Value} {base size n : Nat} {xs : List Value} (h : Row w base size u n xs) (hm : Moved ((w.alloc X).drew) v v') (ha : ∀ b, v.ownBlock = some b → u.ownBlock ≠ some b) : ∀ b, v'.ownBlock = some b → u.ownBlock ≠ some b := by
  intro b hb hu
  rcases hm with e | hm
  · exact ha b (e.symm.trans hb) hu
  · have h1 := hm b hb
    have h2 := (h.lt b hu).2
    have : w.heap.size < ((w.alloc X).drew).heap.size := by show w.heap.size < (w.alloc X).heap.size; simp
    omega
end Go.Proofs.YtenlpbcembadcaaDoor
/- slices.Clone of items. -/
namespace Go.Proofs.YtenlpbcembadcaaDoor
open Go.RowKit

theorem cloneItems_any (L : List It) (A : Option Addr) (cap : Nat) (w : World) (hl : L.length ≤ 1000000) (hm : Itms w A L) :
    Calls Tryd.prog 79 #[.slice A L.length cap] w fun e w' => ∃ A' c', e = .returned (.slice A' L.length c') ∧ Below w.heap.size w w' ∧ Row w' w.heap.size 2 (.slice A' L.length c') L.length (itCells L) := by
  have HM := Lib.hid hm
  clear hm
  cases A with
  | none =>
    obtain rfl : L = [] := by
      match L, HM with
      | [], _ => rfl
      | x :: r, HM =>
        obtain ⟨a, h, _⟩ := HM.out.at_ (show 0 < (x :: r).length by simp)
        cases h
    have hnil : ∀ u : World, (binOp .eql 47 (.slice none 0 cap) (.slice none 0 0)).run Tryd.prog u = .ok (.bool true) u := fun u => by kernel_rfl
    go_enter Tryd.func79, Tryd.ntmps79
    go_wp2
    go_ret
    exact ⟨none, 0, rfl, Below.refl _ _, Row.nil _ _ _⟩
  | some x =>
    have hnil : ∀ u : World, (binOp .eql 47 (.slice (some x) L.length cap) (.slice none 0 0)).run Tryd.prog u = .ok (.bool false) u := fun u => by kernel_rfl
    go_enter Tryd.func79, Tryd.ntmps79
    obtain ⟨i0, hi0, hz0, hz1, hz2⟩ := info_parts infoItem
    have hb0 : Below w.heap.size w (w.alloc (.cells #[] 24)) := alloc_below w _
    go_wp2_with (at_builtin; refine wpList_append_copyr rfl (.tmp 5) (.tmp 6) 47 rfl 24 Tryd.underlying47 i0 _ hi0 hz0 hz1 hz2 rfl L (some x) cap w.heap.size (by simp) w.heap.size (Nat.le_refl _) rfl rfl (HM.out.below hb0) hl ?_; intro A2 cap2 w7 hb7 hi7)
    go_wp2
    go_ret
    exact ⟨A2, cap2, rfl, hb0.trans (hb7.out.mono hb0.size), hi7.out⟩
theorem clonePart_any (L : List It) (n : Nat) (A : Option Addr) (cap : Nat) (w : World) (hn : L.length = n) (hl : n ≤ 1000000) (hm : Itms w A L) :
    Calls Tryd.prog 79 #[.slice A n cap] w fun e w' => ∃ A' c', e = .returned (.slice A' n c') ∧ Below w.heap.size w w' ∧ Row w' w.heap.size 2 (.slice A' n c') n (itCells L) := by
  subst hn
  exact cloneItems_any L A cap w hl hm
end Go.Proofs.YtenlpbcembadcaaDoor
/- The program's Halves: the library's search, and two copies. -/
namespace Go.Proofs.YtenlpbcembadcaaDoor
open Go.RowKit

set_option maxRecDepth 100000 in
theorem tHalf1_any (L : List It) (A : Option Addr) (cap k d pb db : Nat) (w : World) (hk : k < L.length) (_hl : L.length ≤ 1000000) (hm : Itms w A L) (h16 : ∀ x ∈ L, x.1.size = 16) (hd : d < 128)
    (hp : w.cell? ⟨pb, 0, none⟩ = some (.slice A L.length cap)) (hi : w.cell? ⟨db, 0, none⟩ = some (.int .i64 (d : Int))) :
    Calls Tryd.prog 78 #[.int .i64 (k : Int), .pointer (some ⟨pb, 0, none⟩), .pointer (some ⟨db, 0, none⟩)] w fun e w' => e = .returned (.bool (decide (bitI (itAt L k) d = 1))) ∧ Below w.heap.size w w' := by
  obtain ⟨a, rfl, _, c0, _⟩ := hm.at_ hk
  have hx := h16 _ (itAt_mem hk)
  have hb2 := bitOf_lt (itAt L k).1.data.toList d
  have hkl : (k : Int) < (L.length : Int) := by omega
  have he : bitI (itAt L k) d = bitOf (itAt L k).1.data.toList d := rfl
  rw [he]
  clear he
  generalize itAt L k = x at c0 hx hb2
  obtain ⟨b, hb⟩ : ∃ b, bitOf x.1.data.toList d = b := ⟨_, rfl⟩
  rw [hb] at hb2 ⊢
  have HC := Lib.hid (show ∀ u, Calls Tryd.prog 52 #[.string x.1, .int .i64 (d : Int)] u fun e w' => e = .returned (.int .i64 (b : Int)) ∧ w' = u from fun u => by have := tBit_any x.1 d u hx hd; rwa [hb] at this)
  clear hm h16 hx hb
  go_enter Tryd.func78, Tryd.ntmps78
  go_wp2_with fail
  rcases (show b = 0 ∨ b = 1 by omega) with rfl | rfl
  all_goals
    clear hb2
    go_quiet ((go_at_call 52; exact Calls.quiet_of_same (HC.out _)))
    go_wp2
    go_ret
    exact ⟨rfl, below_drew (Below.refl _ _) _⟩
set_option maxRecDepth 100000 in
theorem tSearch_any (L : List It) (A : Option Addr) (cap d pb db : Nat) (w : World) (hl : L.length ≤ 1000000) (hm : Itms w A L) (hs : L.Pairwise ltI) (hap : Apart L d) (hd : d < 128)
    (hp : w.cell? ⟨pb, 0, none⟩ = some (.slice A L.length cap)) (hi : w.cell? ⟨db, 0, none⟩ = some (.int .i64 (d : Int))) :
    Calls Tryd.prog 77 #[.int .i64 (L.length : Int), .func (.func 78) #[] #[.pointer (some ⟨pb, 0, none⟩), .pointer (some ⟨db, 0, none⟩)]] w fun e w' => Below w.heap.size w w' ∧ ∃ r : Nat, r ≤ L.length ∧ e = .returned (.int .i64 (r : Int)) ∧ half L d 0 = L.take r ∧ half L d 1 = L.drop r := by
  have HM := Lib.hid hm
  have HS := Lib.hid hs
  have HAP := Lib.hid hap
  have HP := Lib.hid hp
  have HI := Lib.hid hi
  clear hm hs hap hp hi
  go_enter Tryd.func77, Tryd.ntmps77
  go_wp2
  go_loopw [5, 6] (fun i j wr => ∃ p q : Nat, p ≤ q ∧ q ≤ L.length ∧ i = .int .i64 (p : Int) ∧ j = .int .i64 (q : Int) ∧ (∀ m, m < p → m < L.length → bitI (itAt L m) d ≠ 1) ∧ (∀ m, q ≤ m → m < L.length → bitI (itAt L m) d = 1) ∧ Below w.heap.size w wr) (fun i j _ => (intOf j).toNat - (intOf i).toNat)
  case atStart => exact ⟨0, L.length, by omega, by omega, rfl, rfl, fun m hm => by omega, fun m h1 h2 => by omega, Below.refl _ _⟩
  case round =>
    obtain ⟨p, q, hpq, hq, rfl, rfl, h0, h1, hb⟩ := hrel
    have H0 := Lib.hid h0
    have H1 := Lib.hid h1
    have HB := Lib.hid hb
    clear h0 h1 hb
    by_cases hlt : p < q
    · obtain ⟨h, hh⟩ : ∃ h, (p + q) / 2 = h := ⟨_, rfl⟩
      have hph : p ≤ h := by omega
      have hhq : h < q := by omega
      have HV := Lib.hid (show ((p : Int) + (q : Int)) / 2 = (h : Int) by omega)
      clear hh
      go_wp2_with fail
      rw [HV.out]
      refine (tHalf1_any L A cap h d pb db _ (by omega) hl (HM.out.below HB.out) HAP.out.1 hd ((HB.out.cell (block_lt_of_cell HP.out)).trans HP.out) ((HB.out.cell (block_lt_of_cell HI.out)).trans HI.out)).mono ?_
      rintro e w1 ⟨rfl, hb1⟩
      have HB1 := Lib.hid (HB.out.trans (hb1.mono HB.out.size))
      clear hb1 HV
      by_cases hbit : bitI (itAt L h) d = 1
      · rw [decide_eq_true hbit]
        have HH := Lib.hid (show ∀ m, h ≤ m → m < L.length → bitI (itAt L m) d = 1 from fun m h1 h2 => bit_mono HS.out HAP.out hd h1 h2 hbit)
        clear hbit
        go_wp2
        go_roundw
        case rel => exact ⟨p, h, hph, by omega, rfl, rfl, H0.out, HH.out, HB1.out⟩
        case measure => simp [intOf]; omega
      · rw [decide_eq_false hbit]
        have HH := Lib.hid (show ∀ m, m < h + 1 → m < L.length → bitI (itAt L m) d ≠ 1 from fun m h1 h2 h3 => hbit (bit_mono HS.out HAP.out hd (show m ≤ h by omega) (by omega) h3))
        clear hbit
        go_wp2
        go_roundw
        case rel => exact ⟨h + 1, q, by omega, hq, by go_num, rfl, HH.out, H1.out, HB1.out⟩
        case measure => simp [intOf]; omega
    · have hpq' : p = q := by omega
      subst hpq'
      have HC := Lib.hid (half_cut H0.out H1.out)
      clear hlt
      go_wp2
      go_ret
      exact ⟨HB.out, p, hq, rfl, HC.out⟩
set_option maxRecDepth 100000 in
theorem tHalves_row (L : List It) (A : Option Addr) (cap d : Nat) (w : World) (hl : L.length ≤ 1000000) (hcap : L.length ≤ cap) (hm : Itms w A L) (hs : L.Pairwise ltI) (hap : Apart L d) (hd : d < 128) :
    Calls Tryd.prog 51 #[.slice A L.length cap, .int .i64 (d : Int)] w fun e w' => ∃ A0 c0 A1 c1, e = .returned (.tuple #[.slice A0 (half L d 0).length c0, .slice A1 (half L d 1).length c1]) ∧ Below w.heap.size w w' ∧ Row w' w.heap.size 2 (.slice A0 (half L d 0).length c0) (half L d 0).length (itCells (half L d 0)) ∧ Row w' w.heap.size 2 (.slice A1 (half L d 1).length c1) (half L d 1).length (itCells (half L d 1)) := by
  have HM := Lib.hid hm
  have HS := Lib.hid hs
  have HAP := Lib.hid hap
  clear hm hs hap
  go_enter Tryd.func51, Tryd.ntmps51
  go_wp2_with fail
  have hb0 : Below w.heap.size w ((w.alloc (.cells #[.slice A L.length cap] 47)).alloc (.cells #[.int .i64 (d : Int)] 3)) := (alloc_below w _).alloc (by simp) _
  have hp0 : ((w.alloc (.cells #[.slice A L.length cap] 47)).alloc (.cells #[.int .i64 (d : Int)] 3)).cell? ⟨w.heap.size, 0, none⟩ = some (.slice A L.length cap) :=
    ((alloc_below (w.alloc (.cells #[.slice A L.length cap] 47)) (.cells #[.int .i64 (d : Int)] 3)).cell (p := ⟨w.heap.size, 0, none⟩) (by show w.heap.size < _; simp)).trans (cell_of_row _ w.heap.size 0 _ 47 (0, 0) (heap_alloc_new _ _))
  have hi0 : ((w.alloc (.cells #[.slice A L.length cap] 47)).alloc (.cells #[.int .i64 (d : Int)] 3)).cell? ⟨w.heap.size + 1, 0, none⟩ = some (.int .i64 (d : Int)) := by
    have e : w.heap.size + 1 = (w.alloc (.cells #[.slice A L.length cap] 47)).heap.size := by simp
    rw [e]
    exact cell_of_row _ _ 0 _ 3 (0, 0) (heap_alloc_new _ _)
  have HB0 := Lib.hid hb0
  have HP0 := Lib.hid hp0
  have HI0 := Lib.hid hi0
  clear hb0 hp0 hi0
  generalize (w.alloc (.cells #[.slice A L.length cap] 47)).alloc (.cells #[.int .i64 (d : Int)] 3) = w0 at HB0 HP0 HI0
  refine (tSearch_any L A cap d w.heap.size (w.heap.size + 1) _ hl (HM.out.below HB0.out) HS.out HAP.out hd HP0.out HI0.out).mono ?_
  rintro e w1 ⟨hb1, r, hr, rfl, h0, h1⟩
  have HB1 := Lib.hid (HB0.out.trans (hb1.mono HB0.out.size))
  have hp1 : w1.cell? ⟨w.heap.size, 0, none⟩ = some (.slice A L.length cap) := (hb1.cell (block_lt_of_cell HP0.out)).trans HP0.out
  have hN1 : w.heap.size < w1.heap.size := block_lt_of_cell hp1
  have hto := it_to A L.length cap r (by omega)
  have hfrom := it_from A L.length cap r hr
  have hdr := (HM.out.below HB1.out).drop (r := r) hcap
  have htk := (HM.out.below HB1.out).take r
  have hdl : (L.drop r).length = L.length - r := List.length_drop
  have htl : (L.take r).length = r := by rw [List.length_take]; omega
  generalize partAt A cap r = B at hfrom hdr
  obtain ⟨s, hse⟩ : ∃ s, L.length - r = s := ⟨_, rfl⟩
  obtain ⟨c2, hc2⟩ : ∃ c2, cap - r = c2 := ⟨_, rfl⟩
  have hsl : s ≤ 1000000 := by omega
  rw [hse, hc2] at hfrom
  rw [hse] at hdl
  have H0 := Lib.hid h0
  have H1 := Lib.hid h1
  have HTL := Lib.hid htl
  have HDL := Lib.hid hdl
  have HTO := Lib.hid hto
  have HFROM := Lib.hid hfrom
  have HTK := Lib.hid htk
  have HDR := Lib.hid hdr
  have HS0 := Lib.hid (show w1.cell? ⟨w.heap.size, 0, none⟩ = some (.slice A L.length cap) ∧ Below w1.heap.size w1 w1.drew from ⟨hp1, (Below.refl _ _).drew⟩)
  have HKEEP := Lib.hid (show ∀ u v : World, (u.cell? ⟨w.heap.size, 0, none⟩ = some (.slice A L.length cap) ∧ Below w1.heap.size w1 u) → Below u.heap.size u v → (v.cell? ⟨w.heap.size, 0, none⟩ = some (.slice A L.length cap) ∧ Below w1.heap.size w1 v) from
    fun u v ⟨h0, hb⟩ hv => ⟨(hv.cell (Nat.lt_of_lt_of_le hN1 hb.size)).trans h0, hb.trans (hv.mono hb.size)⟩)
  have HC0 := Lib.hid (show ∀ u : World, (u.cell? ⟨w.heap.size, 0, none⟩ = some (.slice A L.length cap) ∧ Below w1.heap.size w1 u) → Calls Tryd.prog 79 #[.slice A r cap] u fun e w' => ∃ A' c', e = .returned (.slice A' r c') ∧ Below u.heap.size u w' ∧ Row w' u.heap.size 2 (.slice A' r c') r (itCells (L.take r)) from
    fun u hu => clonePart_any (L.take r) r A cap u HTL.out (by omega) (HTK.out.below hu.2))
  have HC1 := Lib.hid (show ∀ u : World, (u.cell? ⟨w.heap.size, 0, none⟩ = some (.slice A L.length cap) ∧ Below w1.heap.size w1 u) → Calls Tryd.prog 79 #[.slice B s c2] u fun e w' => ∃ A' c', e = .returned (.slice A' s c') ∧ Below u.heap.size u w' ∧ Row w' u.heap.size 2 (.slice A' s c') s (itCells (L.drop r)) from
    fun u hu => clonePart_any (L.drop r) s B c2 u HDL.out hsl (HDR.out.below hu.2))
  clear hb1 h0 h1 hto hfrom htk hdr hdl htl hse hc2 hcap
  have hto := HTO.out
  have hfrom := HFROM.out
  go_wp2_with fail
  go_region_held3 (fun w' => w'.cell? ⟨w.heap.size, 0, none⟩ = some (.slice A L.length cap) ∧ Below w1.heap.size w1 w')
    (first | exact HS0.out | (refine HKEEP.out _ _ ?_ (by assumption); first | exact HS0.out | assumption | exact ⟨by assumption, by assumption⟩))
    (first | (go_at_call 79; refine (HC0.out _ (by first | exact HS0.out | assumption)).mono ?_; rintro e w8 ⟨A3, c3, rfl, hb8, hi8⟩) | (go_at_call 79; refine (HC1.out _ (by first | exact HS0.out | assumption)).mono ?_; rintro e w9 ⟨A4, c4, rfl, hb9, hi9⟩))
  rename_i hheld
  have HB2 := Lib.hid (HB1.out.trans (hheld.2.mono HB1.out.size))
  have HI8 := Lib.hid ((hi8.belowAll hb9).mono HB1.out.size)
  have HI9 := Lib.hid (hi9.mono (Nat.le_trans HB1.out.size hb8.size))
  clear hheld hb8 hb9 hi8 hi9 hto hfrom
  go_wp2
  refine bodyPost_ret (results_tmp2 rfl _ _ _) rfl ?_
  refine ⟨A3, c3, A4, c4, ?_, HB2.out, ?_, ?_⟩
  · rw [H0.out, H1.out, HTL.out, HDL.out]; rfl
  · rw [H0.out, HTL.out]; exact HI8.out
  · rw [H1.out, HDL.out]; exact HI9.out
theorem Row.cap {w : World} {base size n c : Nat} {p : Option Addr} {xs : List Value} (h : Row w base size (.slice p n c) n xs) : n ≤ c := by
  obtain ⟨_, hr⟩ := h
  rcases hr with ⟨hr, rfl⟩ | ⟨g, cap', hv, _, _, hle, _⟩
  · exact Nat.zero_le _
  · injection hv with _ _ e3
    omega
theorem Row.items {w : World} {base n c : Nat} {p : Option Addr} {L : List It} (h : Row w base 2 (.slice p n c) n (itCells L)) : Itms w p L := by
  obtain ⟨_, A', c', hv, hit⟩ := h.itms
  injection hv with e1 _ _
  subst e1
  exact hit
theorem tHalves_any (L : List It) (A : Option Addr) (cap d : Nat) (w : World) (hl : L.length ≤ 1000000) (hcap : L.length ≤ cap) (hm : Itms w A L) (hs : L.Pairwise ltI) (hap : Apart L d) (hd : d < 128) :
    Calls Tryd.prog 51 #[.slice A L.length cap, .int .i64 (d : Int)] w fun e w' => ∃ A0 c0 A1 c1, e = .returned (.tuple #[.slice A0 (half L d 0).length c0, .slice A1 (half L d 1).length c1]) ∧ Below w.heap.size w w' ∧ Itms w' A0 (half L d 0) ∧ Itms w' A1 (half L d 1) ∧ (half L d 0).length ≤ c0 ∧ (half L d 1).length ≤ c1 :=
  (tHalves_row L A cap d w hl hcap hm hs hap hd).mono fun _ _ ⟨A0, c0, A1, c1, he, hb, h0, h1⟩ => ⟨A0, c0, A1, c1, he, hb, h0.items, h1.items, h0.cap, h1.cap⟩
end Go.Proofs.YtenlpbcembadcaaDoor
/- A row of items that the library's sort has ordered. -/
namespace Go.Proofs.YtenlpbcembadcaaDoor
open Go.RowKit Go.Sort

def encI (x : It) : List Value := [.string x.1, .string x.2]
theorem itCells_at (L : List It) (j : Nat) (h : j < L.length * 2) : (itCells L)[j]? = some ((encI L.toArray[j / 2]!)[j % 2]!) := by
  have hi : j / 2 < L.length := by omega
  obtain ⟨e0, e1⟩ := itCells_get L (j / 2) L[j / 2] (List.getElem?_eq_getElem hi)
  have eL : L.toArray[j / 2]! = L[j / 2] := by simp [hi]
  rw [eL]
  rcases Nat.mod_two_eq_zero_or_one j with hm | hm
  · have ej : j / 2 * 2 = j := by omega
    rw [ej] at e0
    rw [e0, hm]; rfl
  · have ej : j / 2 * 2 + 1 = j := by omega
    rw [ej] at e1
    rw [e1, hm]; rfl
theorem row_holdsK {w : World} {base g cap : Nat} {L : List It} (h : Row w base 2 (.slice (some ⟨g, 0, none⟩) L.length cap) L.length (itCells L)) (hn : 0 < L.length) : HoldsK encI 2 w g 0 L.toArray := by
  obtain ⟨g', cap', hv, _, _, hcap, hcell, hfree⟩ := h.shape hn
  injection hv with e1 e2 e3
  injection e1 with e1
  injection e1 with e1
  subst e1
  intro j hj
  rw [size_flatK] at hj
  have hj' : j < L.length * 2 := by simpa using hj
  refine ⟨?_, ?_⟩
  · rw [Nat.zero_add, hcell j _ (itCells_at L j hj'), get_flatK _ _ _ _ hj]; rfl
  · rw [Nat.zero_add]; exact hfree j hj'
theorem grow_block (w : World) (os : Array Obj) (k : Nat) (h : k < w.heap.size) : (grow w os).heap[k]? = w.heap[k]? := by
  unfold grow
  simp [Array.getElem?_append_left h]
/-- What the sort leaves is a row again, where it was; nothing else that was there has turned. -/
theorem row_sorted {w : World} {base g cap q : Nat} {os : Array Obj} {L M : List It} (h : Row w base 2 (.slice (some ⟨g, 0, none⟩) L.length cap) L.length (itCells L)) (hn : 0 < L.length) (hM : M.length = L.length) :
    Row (grow (putRowK encI 2 (Sort.ahead w q) g 0 M.toArray) os) base 2 (.slice (some ⟨g, 0, none⟩) M.length cap) M.length (itCells M) ∧ w.grownBy (grow (putRowK encI 2 (Sort.ahead w q) g 0 M.toArray) os) (some g) := by
  have hH := row_holdsK h hn
  have hHa : HoldsK encI 2 (Sort.ahead w q) g 0 L.toArray := hH
  obtain ⟨hl, hr⟩ := h
  rcases hr with ⟨hr, _⟩ | ⟨g', cap', hv, hgb, hgl, hcap, hcell, hspare⟩
  · cases hr
  · injection hv with e1 e2 e3
    injection e1 with e1
    injection e1 with e1
    subst e1 e3
    have hsz : (putRowK encI 2 (Sort.ahead w q) g 0 M.toArray).heap.size = w.heap.size := by rw [size_putRowK]; rfl
    have hput : ∀ j, (grow (putRowK encI 2 (Sort.ahead w q) g 0 M.toArray) os).cell? ⟨g, j, none⟩ = (putRowK encI 2 (Sort.ahead w q) g 0 M.toArray).cell? ⟨g, j, none⟩ := fun j => cell?_grow _ _ _ (by rw [hsz]; exact hgl)
    have hfr : ∀ j, (grow (putRowK encI 2 (Sort.ahead w q) g 0 M.toArray) os).frozen? ⟨g, j, none⟩ = w.frozen? ⟨g, j, none⟩ := fun j => by
      rw [World.frozen?_of_block (w := putRowK encI 2 (Sort.ahead w q) g 0 M.toArray) (a := ⟨g, j, none⟩) (grow_block _ _ _ (by rw [hsz]; exact hgl))]
      exact frozen?_putRow id (Sort.ahead w q) g 0 _ _
    refine ⟨⟨itCells_length M, .inr ⟨g, cap, rfl, hgb, ?_, by omega, ?_, ?_⟩⟩, rfl, rfl, rfl, ?_, ?_⟩
    · unfold grow; simp only [Array.size_append]; rw [hsz]; omega
    · intro j u hj
      have hjl : j < M.length * 2 := by have := (List.getElem?_eq_some_iff.1 hj).1; rwa [itCells_length] at this
      rw [itCells_at M j hjl] at hj
      rw [hput]
      have := cell?_putRow id (Sort.ahead w q) g 0 (flatK encI 2 L.toArray) (flatK encI 2 M.toArray) hHa (by simp [hM]) j (by simpa using hjl)
      rw [Nat.zero_add] at this
      unfold putRowK
      rw [this, get_flatK _ _ _ _ (by simpa using hjl)]
      exact hj
    · intro j hj
      rw [hput, hfr]
      refine ⟨?_, (hspare j hj).2⟩
      by_cases hjl : j < M.length * 2
      · have := cell?_putRow id (Sort.ahead w q) g 0 (flatK encI 2 L.toArray) (flatK encI 2 M.toArray) hHa (by simp [hM]) j (by simpa using hjl)
        rw [Nat.zero_add] at this
        unfold putRowK
        rw [this]; rfl
      · unfold putRowK
        rw [cell?_putRow_other id _ g 0 _ ⟨g, j, none⟩ (.inr (.inr (by simp; omega)))]
        exact (hspare j hj).1
    · show w.heap.size ≤ (grow _ os).heap.size
      unfold grow; simp only [Array.size_append]; rw [hsz]; omega
    · intro k hk hne
      rw [grow_block _ _ _ (by rw [hsz]; exact hk)]
      show (w.heap.modify g _)[k]? = _
      rw [Array.getElem?_modify, if_neg (fun e => hne (by rw [e]))]
theorem swo_ltIB : SWO ltIB where
  irrefl _ := swo_ltStr.irrefl _
  trans _ _ _ h1 h2 := swo_ltStr.trans _ _ _ h1 h2
  ntrans _ _ _ h1 h2 := swo_ltStr.ntrans _ _ _ h1 h2
/-- What is sorted, and holds no index twice, rises. -/
theorem rises_of_sorted {M : List It} (h : SortedIn ltIB 0 M.length M.toArray) (hd : M.Pairwise (fun x y => x.1 ≠ y.1)) : M.Pairwise ltI := by
  rw [List.pairwise_iff_getElem] at hd ⊢
  intro i j hi hj hij
  have h1 := h i j (Nat.zero_le _) hij hj
  have e1 : M.toArray[j]! = M[j] := by simp [hj]
  have e2 : M.toArray[i]! = M[i] := by simp [hi]
  rw [e1, e2] at h1
  unfold ltIB ltStr at h1
  have h2 : ¬ M[j].1.data.toList < M[i].1.data.toList := by simpa using h1
  exact ltI_total h2 (fun e => hd i j hi hj hij e.symm)
end Go.Proofs.YtenlpbcembadcaaDoor
/- The document's Set. -/
namespace Go.Proofs.YtenlpbcembadcaaDoor
open Go.RowKit Go.Sort Go.Shelf

noncomputable def svT : TypeInfo := (Tryd.prog.info? 47).get (by kernel_rfl)
noncomputable def svE : TypeInfo := (Tryd.prog.info? 24).get (by kernel_rfl)
theorem svK (n : Nat) (h2 : 2 ≤ n) : Lib.swapperK n svE 25 = 9 := by
  have a : svE.hasPointers = true := by kernel_rfl
  have b : svE.bytes = 32 := by kernel_rfl
  have c : (n == 0) = false := by rw [beq_eq_false_iff_ne]; omega
  have d : (n == 1) = false := by rw [beq_eq_false_iff_ne]; omega
  simp [Lib.swapperK, a, b, c, d]
end Go.Proofs.YtenlpbcembadcaaDoor
