/- Parts of the proof, one behind the other: Digits, Right, Step, Halves, Node, Prove, Index, Index2, As. -/
import Derived.Test.YtedmgfompaoeoaaDoorM7
import Derived.Test.YtedmgfompaoeoaaDoorM4
import Derived.BigQuiet
import Derived.IntWalk
import Derived.Test.YtedmgfompaoeoaaDoorM2
import Derived.Sort.Walk0
import Derived.Tactics
import Derived.Orders
import Derived.WalkKit
import Derived.Deep.RegionHeld3
import Derived.Deep.RegionLaw
import Derived.Deep.DeepCutAuto
import Derived.Laws.ResultCell
import Derived.Test.YtedmgfompaoeoaaDoorProg
import Derived.LaidEql
import Derived.Stop.Asserts
import Derived.RowKitTokens
import Derived.Test.YtedmgfompaoeoaaDoorM1
/- The document's digits. -/
namespace Go.Proofs.YtedmgfompaoeoaaDoor
open Go.RowKit

/-- append of values of one cell, just built. -/
theorem wpList_append_new {P : Program} {w : World} {ops : Array Oper} {rest : List Oper} {o : Oper} {a : Act} {Q : Exit → Act → World → Prop}
    (hg : o.guard = none) (s x : Operand) (t : TypeId) (hop : o.op = Op.call { callee := Callee.builtin Builtin.append, args := #[s, x], argTypes := #[t, t] })
    (e : TypeId) (h1 : P.underlying t = some (.slice e)) (z : Value) (bytes : Nat) (hi : (P.info? e).map (fun i => (i.zero, i.size, i.bytes)) = some (some z, 1, bytes)) (h6 : z.cells.size = 1) (hby : bytes ≤ 64)
    (base : Nat) (v : Value) (n : Nat) (xs : List Value) (hs : a.eval s = v) (hrow : Row w base 1 v n xs) (hbase : base ≤ w.heap.size) (hn : n ≤ 1000000)
    (us : List Value) (m : Nat) (hm : us.length = m) (hm2 : m ≤ 1000000) (hx : a.eval x = .slice (some ⟨w.heap.size, 0, none⟩) m m) (h1c : ∀ u ∈ us, u.oneCell' = true) (e' : TypeId)
    (hK : ∀ v' w', Hid (Row w' base 1 v' (n + m) (xs ++ us)) → Hid (w.grownBy w' v.ownBlock) → Hid (Moved w v v') → wpList P ops Q rest (a.put o.dst v') w') :
    wpList P ops Q (o :: rest) a (w.alloc (.cells us.toArray e')) := by
  obtain ⟨i0, hi0, hz0, hz1, hz2⟩ := info_parts hi
  refine wpList_append_row2 hg s x t hop e i0 z 1 bytes h1 hi0 hz0 hz1 hz2 h6 (by decide) base v n xs hs (hrow.alloc _) (by simp; omega) ⟨w.heap.size, 0, none⟩ m m us hx (by omega) ?_ h1c (by unfold maxLen; omega) ?_ ?_
  · intro j y hj
    rw [add_none, Nat.zero_add, cell_of_row _ _ _ _ _ _ (heap_alloc_new w (.cells us.toArray e'))]
    simpa using hj
  · have := Nat.mul_le_mul (show n + m ≤ 2000000 by omega) hby
    omega
  · intro v' w' hr' hg' hm'
    have hg2 := hg'.out
    exact hK v' w' hr' (show World.grownBy _ _ _ from ⟨hg2.os, hg2.tape, hg2.output, by have := hg2.size; simp at this; omega, fun k hk hne => (hg2.block k (by simp; omega) hne).trans (Below.heap_alloc _ _ _ hk)⟩) (show Moved _ _ _ from hm'.out.imp id fun h b hb => Nat.le_trans (by simp) (h b hb))

def digsOf (l : List UInt8) : List Nat := l.flatMap fun b => [b.toNat / 16, b.toNat % 16]
def lackOf (l : List UInt8) : Nat := (l.map fun b => 30 - b.toNat / 16 - b.toNat % 16).sum
def digitsOf (l : List UInt8) : List Nat := digsOf l ++ [lackOf l / 256, lackOf l / 16 % 16, lackOf l % 16]
theorem digsOf_take (l : List UInt8) (k : Nat) (c : UInt8) (h : l[k]? = some c) : digsOf (l.take (k + 1)) = digsOf (l.take k) ++ [c.toNat / 16, c.toNat % 16] := by
  unfold digsOf
  rw [List.take_add_one, h]
  simp
theorem lackOf_take (l : List UInt8) (k : Nat) (c : UInt8) (h : l[k]? = some c) : lackOf (l.take (k + 1)) = lackOf (l.take k) + (30 - c.toNat / 16 - c.toNat % 16) := by
  unfold lackOf
  rw [List.take_add_one, h]
  simp
theorem digsOf_length (l : List UInt8) : (digsOf l).length = 2 * l.length := by
  unfold digsOf
  induction l with
  | nil => rfl
  | cons b l ih => simp only [List.flatMap_cons, List.length_append, List.length_cons, ih]; simp; omega
theorem lackOf_le (l : List UInt8) : lackOf l ≤ 30 * l.length := by
  unfold lackOf
  induction l with
  | nil => simp
  | cons b l ih => simp only [List.map_cons, List.sum_cons, List.length_cons]; omega
theorem digitsOf_length {l : List UInt8} (h : l.length = 16) : (digitsOf l).length = 35 := by
  unfold digitsOf; rw [List.length_append, digsOf_length]; simp; omega
theorem digitsOf_lt {l : List UInt8} (h : l.length = 16) (d : Nat) (hd : d ∈ digitsOf l) : d < 16 := by
  unfold digitsOf digsOf at hd
  have := lackOf_le l
  simp only [List.mem_append, List.mem_flatMap, List.mem_cons, List.not_mem_nil, or_false] at hd
  rcases hd with ⟨b, _, hb⟩ | hd
  · have := b.toNat_lt; omega
  · omega
theorem i64s_append (l m : List Nat) : i64s (l ++ m) = i64s l ++ i64s m := by unfold i64s; simp

theorem below_drewP {B : Nat} {u w : World} (h : Below B u w) (n : Nat) : Below B u (w.drewN n) := ⟨h.os, h.tape, h.output, h.size, h.block⟩
set_option maxRecDepth 100000 in
theorem refDigits_any (s : ByteArray) (w : World) (h16 : s.size = 16) :
    Calls Tryd.prog 46 #[.string s] w fun e w' => ∃ v, e = .returned v ∧ Below w.heap.size w w' ∧ Row w' w.heap.size 1 v 35 (i64s (digitsOf s.data.toList)) := by
  have H16 := Lib.hid h16
  have hs1 : s.size ≤ 16 := by omega
  have hs2 : 16 ≤ s.size := by omega
  clear h16
  have HLEN := Lib.hid (show s.data.toList.length = s.size from size_len s)
  go_enter Tryd.func46, Tryd.ntmps46
  go_wp2
  go_loopw [3, 4, 10] (fun v lk i wr => ∃ (k q : Nat), k ≤ 16 ∧ i = .int .i64 (k : Int) ∧ lk = .int .i64 (q : Int) ∧ q ≤ 30 * k ∧ Hid (q = lackOf (s.data.toList.take k) ∧ Below w.heap.size w wr ∧ Row wr w.heap.size 1 v (2 * k) (i64s (digsOf (s.data.toList.take k))))) (fun _ _ i _ => 16 - (intOf i).toNat)
  case atStart => exact ⟨0, 0, by omega, rfl, rfl, by omega, Lib.hid ⟨rfl, Below.refl _ _, Row.nil _ _ _⟩⟩
  case round =>
    obtain ⟨k, q, hk, rfl, rfl, hq, HU⟩ := hrel
    by_cases hlt : k < 16
    · obtain ⟨c, hc⟩ : ∃ c, s.data.toList[k]? = some c := ⟨_, List.getElem?_eq_getElem (by have := HLEN.out; omega)⟩
      have hsk : k < s.size := by omega
      obtain ⟨B, hB⟩ : ∃ B : Nat, c.toNat = B := ⟨_, rfl⟩
      have hB2 : B < 256 := by rw [← hB]; exact c.toNat_lt
      have hbk : s[k].toNat = B := by
        rw [← hB]; congr 1
        rw [List.getElem?_eq_getElem (by have := HLEN.out; omega)] at hc
        exact Option.some.inj hc
      have hw : wrap64 ((s[k].toNat : Nat) : Int) = (B : Int) := by rw [hbk]; simp [wrap64]; omega
      have HC := Lib.hid hc
      have HB := Lib.hid hB
      clear hc hB hbk
      go_wp2
      go_quiet (fail)
      have HW1 := Lib.hid (show Below w.heap.size w (wr.drewN nq) ∧ Row (wr.drewN nq) w.heap.size 1 u3 (2 * k) (i64s (digsOf (s.data.toList.take k))) from ⟨below_drewP HU.out.2.1 nq, HU.out.2.2.drewN nq⟩)
      generalize wr.drewN nq = w1 at HW1 ⊢
      obtain ⟨a1, ha1⟩ : ∃ a1 : Nat, B / 16 = a1 := ⟨_, rfl⟩
      obtain ⟨a2, ha2⟩ : ∃ a2 : Nat, B % 16 = a2 := ⟨_, rfl⟩
      have E1 : (B : Int) / 16 = (a1 : Int) := by omega
      have E2 : (B : Int) % 16 = (a2 : Int) := by omega
      rw [E1, E2]
      have b1 : a1 ≤ 15 := by omega
      have b2 : a2 ≤ 15 := by omega
      have HA1 := Lib.hid ha1
      have HA2 := Lib.hid ha2
      clear E1 E2 ha1 ha2 hw
      go_wp2_with (at_builtin; refine wpList_append_new rfl (.tmp 23) (.tmp 26) 54 rfl 3 Tryd.underlying54 (.int .i64 0) 8 infoI64 rfl (by decide) w.heap.size _ (2 * k) _ rfl HW1.out.2 HW1.out.1.size (by omega) [.int .i64 (a1 : Int), .int .i64 (a2 : Int)] 2 rfl (by decide) rfl (by simp; exact ⟨rfl, rfl⟩) 3 ?_; intro v3 w3 hr3 hg3 hm3)
      go_roundw
      case rel =>
        have hw := HW1.out.1
        refine ⟨k + 1, q + (30 - a1 - a2), by omega, by go_num, by congr 1; omega, by omega, Lib.hid ⟨?_, ?_, ?_⟩⟩
        · rw [lackOf_take _ k c HC.out, ← HU.out.1, HB.out, HA1.out, HA2.out]
        · exact HW1.out.1.grown hg3.out HW1.out.1.size (fun j hj => (HW1.out.2.lt j hj).1)
        · rw [digsOf_take _ k c HC.out, i64s_append, HB.out, HA1.out, HA2.out]
          exact hr3.out
      case measure => simp [intOf]; omega
    · obtain rfl : k = 16 := by omega
      have HTK := Lib.hid (show s.data.toList.take 16 = s.data.toList from List.take_of_length_le (by have := HLEN.out; omega))
      have hq2 : q ≤ 480 := by omega
      clear hlt hq hk
      go_wp2_with (at_builtin; refine wpList_append_new rfl (.tmp 35) (.tmp 43) 54 rfl 3 Tryd.underlying54 (.int .i64 0) 8 infoI64 rfl (by decide) w.heap.size _ (2 * 16) _ rfl HU.out.2.2 HU.out.2.1.size (by omega) [.int .i64 ((q : Int) / 256), .int .i64 ((q : Int) / 16 % 16), .int .i64 ((q : Int) % 16)] 3 rfl (by decide) rfl (by simp; exact ⟨rfl, rfl, rfl⟩) 3 ?_; intro v3 w3 hr3 hg3 hm3)
      go_ret
      refine ⟨_, rfl, HU.out.2.1.grown hg3.out HU.out.2.1.size (fun j hj => (HU.out.2.2.lt j hj).1), ?_⟩
      have h1 := hr3.out
      rw [HTK.out] at h1
      have hq1 := HU.out.1
      rw [HTK.out] at hq1
      unfold digitsOf
      rw [i64s_append, ← hq1]
      exact h1
end Go.Proofs.YtedmgfompaoeoaaDoor
/- The document's RightItems. -/
namespace Go.Proofs.YtedmgfompaoeoaaDoor
open Go.RowKit

theorem below_drew {B : Nat} {u w : World} (h : Below B u w) (n : Nat) : Below B u (w.drewN n) := ⟨h.os, h.tape, h.output, h.size, h.block⟩
theorem isMark_t (s : ByteArray) (w : World) (h : s.size = 16) : Calls Tryd.prog 20 #[.string s] w fun e w' => e = .returned (.bool true) ∧ w' = w :=
  (isMark_any s w).mono fun _ _ ⟨he, hw⟩ => ⟨by rw [he, decide_eq_true h], hw⟩
theorem isMark_f (s : ByteArray) (w : World) (h : ¬ s.size = 16) : Calls Tryd.prog 20 #[.string s] w fun e w' => e = .returned (.bool false) ∧ w' = w :=
  (isMark_any s w).mono fun _ _ ⟨he, hw⟩ => ⟨by rw [he, decide_eq_false h], hw⟩
theorem le_cases {x y : It} {j : Nat} (m1 : x.1.size = 16) (m2 : x.2.size = 16) :
    (Op.bytesLess x.1.toList y.1.toList = false ∧ (x.1.toList == y.1.toList) = false ∧ (decide (x.1.size = 16) && decide (x.2.size = 16) && (decide (j + 1 = 0) || decide (y.1.data.toList < x.1.data.toList))) = true) ∨
    (Op.bytesLess x.1.toList y.1.toList = false ∧ (x.1.toList == y.1.toList) = true ∧ (decide (x.1.size = 16) && decide (x.2.size = 16) && (decide (j + 1 = 0) || decide (y.1.data.toList < x.1.data.toList))) = false) ∨
    (Op.bytesLess x.1.toList y.1.toList = true ∧ (decide (x.1.size = 16) && decide (x.2.size = 16) && (decide (j + 1 = 0) || decide (y.1.data.toList < x.1.data.toList))) = false) := by
  rw [decide_eq_true m1, decide_eq_true m2, decide_eq_false (show ¬ j + 1 = 0 by omega), bytesLess_eq, ByteArray.toList_eq, ByteArray.toList_eq]
  by_cases h1 : x.1.data.toList < y.1.data.toList
  · refine .inr (.inr ⟨by simp [h1], ?_⟩)
    rw [decide_eq_false (fun h => List.lt_irrefl _ (List.lt_trans h1 h))]; rfl
  · by_cases h2 : y.1.data.toList < x.1.data.toList
    · refine .inl ⟨by simp [h1], ?_, by rw [decide_eq_true h2]; rfl⟩
      rw [beq_eq_false_iff_ne]
      intro e
      rw [e] at h2
      exact List.lt_irrefl _ h2
    · refine .inr (.inl ⟨by simp [h1], ?_, by rw [decide_eq_false h2]; rfl⟩)
      rw [beq_iff_eq]
      exact List.le_antisymm (List.not_lt.1 h2) (List.not_lt.1 h1)
end Go.Proofs.YtedmgfompaoeoaaDoor
/- A law of the walk over a list of operations, at one step of a region that draws its order. No program is imported. -/
namespace Go.Proofs.YtedmgfompaoeoaaDoor
open Go.RowKit

/-- What holds behind the one operation, and nothing at any other way out. -/
def Then1 (K : Act → World → Prop) : Exit → Act → World → Prop
  | .normal, a, w => K a w
  | _, _, _ => False
theorem then1 {P : Program} {ops : Array Oper} {K : Act → World → Prop} {a : Act} {w : World} (h : K a w) : wpList P ops (Then1 K) [] a w := h
theorem wp_of_list {P : Program} {ops : Array Oper} {o : Oper} {a : Act} {w : World} {K : Act → World → Prop} {Q : Exit → Act → World → Prop} (hgd : o.guard = none) (h : wpList P ops (Then1 K) [o] a w) : o.wp P a w K Q := by
  have hw : Region.wanted o (yielded ops a.tmps) = true := by simp [Region.wanted, hgd]
  unfold wpList at h
  rw [if_pos hw] at h
  rcases h with h | ⟨_, _, _, h⟩
  · unfold Oper.wp at *
    generalize (execOp a.eval o).run P w = r at *
    cases r with
    | ok n w' =>
      cases n <;> simp only [Oper.upon] at h ⊢
      all_goals first
        | exact h
        | exact h.elim
        | exact Calls.mono h (fun e w'' hh => by cases e <;> first | exact hh | exact hh.elim | (obtain ⟨_, _, hh⟩ := hh; exact hh.elim))
        | exact Rows.mono h (fun _ _ he => he)
    | halt x w' => cases x <;> simp only [Oper.upon] at h ⊢ <;> first | exact h | exact h.elim | (obtain ⟨_, _, h⟩ := h; exact h.elim)
  · exact h.elim
theorem step_of_list {P : Program} {ops : Array Oper} {o : Oper} {a : Act} {w : World} {K : Act → World → Prop} {Q : Exit → Act → World → Prop} {E : Prop} (hgd : o.guard = none) (h : wpList P ops (Then1 K) [o] a w) :
    if Region.wanted o (yielded ops a.tmps) = true then Oper.wp P o a w K Q else E := by
  have hw : Region.wanted o (yielded ops a.tmps) = true := by simp [Region.wanted, hgd]
  rw [if_pos hw]
  exact wp_of_list hgd h
end Go.Proofs.YtedmgfompaoeoaaDoor
/- The document's Halves. -/
namespace Go.Proofs.YtedmgfompaoeoaaDoor
open Go.RowKit

/-- append of one item, just built. -/
theorem wpList_append_item {P : Program} {w : World} {ops : Array Oper} {rest : List Oper} {o : Oper} {a : Act} {Q : Exit → Act → World → Prop}
    (hg : o.guard = none) (s x : Operand) (t : TypeId) (hop : o.op = Op.call { callee := Callee.builtin Builtin.append, args := #[s, x], argTypes := #[t, t] })
    (e : TypeId) (h1 : P.underlying t = some (.slice e)) (z : Value) (bytes : Nat) (hi : (P.info? e).map (fun i => (i.zero, i.size, i.bytes)) = some (some z, 2, bytes)) (h6 : z.cells.size = 2) (hby : bytes ≤ 64)
    (base : Nat) (v : Value) (L : List It) (hs : a.eval s = v) (hrow : Row w base 2 v L.length (itCells L)) (hbase : base ≤ w.heap.size) (hn : L.length ≤ 2147483647)
    (y : It) (B : Nat) (hx : a.eval x = .slice (some ⟨B, 0, none⟩) 1 1) (e' : TypeId) (hB : w.heap[B]? = some (.cells #[.string y.1, .string y.2] e' (0, 0)))
    (hK : ∀ v' w', Hid (Row w' base 2 v' (L ++ [y]).length (itCells (L ++ [y]))) → Hid (w.grownBy w' v.ownBlock) → Hid (Moved w v v') → wpList P ops Q rest (a.put o.dst v') w') :
    wpList P ops Q (o :: rest) a w := by
  obtain ⟨i0, hi0, hz0, hz1, hz2⟩ := info_parts hi
  refine wpList_append_row2 hg s x t hop e i0 z 2 bytes h1 hi0 hz0 hz1 hz2 h6 (by decide) base v L.length (itCells L) hs hrow hbase ⟨B, 0, none⟩ 1 1 (itCells [y]) hx rfl ?_ ?_ (by unfold maxLen; omega) ?_ ?_
  · intro j u hj
    rw [add_none, Nat.zero_add, cell_of_row _ B j _ e' (0, 0) hB]
    simpa [itCells] using hj
  · intro u hu; simp [itCells] at hu; rcases hu with rfl | rfl <;> rfl
  · have := Nat.mul_le_mul (show L.length + 1 ≤ 2147483648 by omega) hby
    omega
  · intro v' w' hr' hg' hm'
    refine hK v' w' ?_ hg' hm'
    have := hr'.out
    rw [← itCells_append] at this
    rw [List.length_append]
    exact Lib.hid this

/-- A block that the row does not lie in, behind an append behind a new block. -/
theorem grown_holds {w w3 : World} {X : Obj} {v : Value} {b n : Nat} {f : Nat → Value} {t : TypeId} (h : Holds w b n f t) (hg : ((w.alloc X).drew).grownBy w3 v.ownBlock) (hv : v.ownBlock ≠ some b) : Holds w3 b n f t := by
  have h1 := (h.alloc X).drew
  have := h1.lt
  unfold Holds at h1 ⊢
  rw [hg.block b this (fun e => hv e.symm)]; exact h1
theorem half_take (L : List It) (d k j : Nat) (x : It) (h : L[k]? = some x) : half (L.take (k + 1)) d j = half (L.take k) d j ++ (if bitI x d = j then [x] else []) := by
  rw [List.take_add_one, h]
  unfold half
  rw [List.filter_append]
  congr 1
  by_cases e : bitI x d = j <;> simp [e]
theorem row_past {w w3 : World} {X : Obj} {v u : Value} {base size n : Nat} {xs : List Value} (h : Row w base size u n xs) (hg : ((w.alloc X).drew).grownBy w3 v.ownBlock) (ha : ∀ b, v.ownBlock = some b → u.ownBlock ≠ some b) : Row w3 base size u n xs := by
  have h1 : Row ((w.alloc X).drew) base size u n xs := (h.alloc X).drew
  refine h1.kept (fun k hk => hg.block k (h1.lt k hk).2 (fun e => ha k e.symm hk)) hg.size
theorem moved_apart {w : World} {X : Obj} {v v' u : Value} {base size n : Nat} {xs : List Value} (h : Row w base size u n xs) (hm : Moved ((w.alloc X).drew) v v') (ha : ∀ b, v.ownBlock = some b → u.ownBlock ≠ some b) : ∀ b, v'.ownBlock = some b → u.ownBlock ≠ some b := by
  intro b hb hu
  rcases hm with e | hm
  · exact ha b (e.symm.trans hb) hu
  · have h1 := hm b hb
    have h2 := (h.lt b hu).2
    have : w.heap.size < ((w.alloc X).drew).heap.size := by show w.heap.size < (w.alloc X).heap.size; simp
    omega
end Go.Proofs.YtedmgfompaoeoaaDoor
/- The document's NODE and Root. -/
namespace Go.Proofs.YtedmgfompaoeoaaDoor
open Go.RowKit

theorem nodeOf_nil (f : Nat) (L : List It) (d : Nat) (h : L.length = 0) : nodeOf f L d = emptyM d := by
  obtain rfl := List.eq_nil_of_length_eq_zero h
  cases f <;> simp [nodeOf]
theorem nodeOf_one (f : Nat) (L : List It) (d : Nat) (h : L.length = 1) : nodeOf f L d = leafM (itAt L 0) d := by
  match L, h with
  | [x], _ => cases f <;> simp [nodeOf, itAt]
theorem nodeOf_two (f : Nat) (L : List It) (d : Nat) (h : 2 ≤ L.length) : nodeOf (f + 1) L d = joinM (nodeOf f (half L d 0) (d + 1)) (nodeOf f (half L d 1) (d + 1)) := by
  rw [nodeOf, if_neg (by omega), if_neg (by omega)]
theorem nodeOf_size : ∀ (f : Nat) (L : List It) (d : Nat), (nodeOf f L d).size = 16 := by
  intro f L d
  rcases (show L.length = 0 ∨ L.length = 1 ∨ 2 ≤ L.length by omega) with h | h | h
  · rw [nodeOf_nil f L d h]; unfold emptyM; exact markOf_len _ _
  · rw [nodeOf_one f L d h]; unfold leafM; exact markOf_len _ _
  · cases f with
    | zero =>
      match L, h with
      | x :: _, _ => exact markOf_len _ _
    | succ f => rw [nodeOf_two f L d h]; exact markOf_len _ _
/-- The root of what is right. -/
def rootOf (L : List It) : ByteArray := nodeOf 128 L 0
def rootAns (L : List It) : ByteArray × Int := if rightItems L = true then (rootOf L, 0) else (⟨#[]⟩, 1)
theorem right_cm {L : List It} (h : rightItems L = true) : ∀ x ∈ L, x.2.size ≤ 1000000 := fun x hx => by have := (right_sizes h x hx).2; omega
end Go.Proofs.YtedmgfompaoeoaaDoor
/- The document's Prove. -/
namespace Go.Proofs.YtedmgfompaoeoaaDoor
open Go.RowKit

def proveFrom : Nat → List It → ByteArray → Nat → List ByteArray × It
  | 0, L, _, _ => ([], itAt L 0)
  | f + 1, L, ix, d => if L.length < 2 then ([], itAt L 0) else
      (nodeOf f (half L d (1 - bitOf ix.data.toList d)) (d + 1) :: (proveFrom f (half L d (bitOf ix.data.toList d)) ix (d + 1)).1, (proveFrom f (half L d (bitOf ix.data.toList d)) ix (d + 1)).2)
def noIt : It := (⟨#[]⟩, ⟨#[]⟩)
def proveAns (L : List It) (ix : ByteArray) : List ByteArray × It × Int := if rightItems L = true ∧ ix.size = 16 then ((proveFrom 128 L ix 0).1, (proveFrom 128 L ix 0).2, 0) else ([], noIt, 1)
theorem proveFrom_few (f : Nat) (L : List It) (ix : ByteArray) (d : Nat) (h : L.length < 2) : proveFrom f L ix d = ([], itAt L 0) := by
  cases f with
  | zero => rfl
  | succ f => rw [proveFrom, if_pos h]
theorem results_row_tmp {P : Program} {fn : Func} {p u : Tmp} {ty : TypeId} (h : fn.results = #[.cell p ty, .tmp u]) (tmps : Array Value) (w : World) (g : Nat) (t : TypeId) (cs : Array Value) (fr : Nat × Nat) (d : TypeDesc)
    (hp : tmps.getD p undef = .pointer (some ⟨g, 0, none⟩)) (hg : w.heap[g]? = some (.cells cs t fr))
    (hu : P.underlying ty = some d) (hd : (match d with | .struct _ | .array _ _ => true | _ => false) = true) (hi : (P.info? ty).map (·.size) = some cs.size) :
    (results fn tmps).run P w = .ok (.tuple #[.agg cs, tmps.getD u undef]) w := by
  rw [results_cell_tmp h, hp]
  simp [asAddr, run_loadVar_row w g t ty cs fr d hg hu hd hi, Result.andThen]
def pCells (v : Value) (x : It) : Nat → Value := fun i => if i = 0 then v else if i = 1 then .string x.1 else .string x.2
theorem infoStr : (Tryd.prog.info? 9).map (fun i => (i.zero, i.size, i.bytes)) = some (some (.string ⟨#[]⟩), 1, 16) := by kernel_rfl
theorem undrew {w w' : World} (h : Below w.drew.heap.size w.drew w') : Below w.heap.size w w' := ⟨h.os, h.tape, h.output, h.size, h.block⟩
end Go.Proofs.YtedmgfompaoeoaaDoor
/- The program's names and indexes: isLetter, isDigit, isMark, bit, Name, Bit. -/
namespace Go.Proofs.YtedmgfompaoeoaaDoor
open Go.RowKit

theorem and_one (X : Nat) (h : X < 256) : bits BinOp.and IntKind.i64 (wrap64 (X : Int)) 1 = ((X % 2 : Nat) : Int) := by
  have hall : ∀ x : Fin 256, bits BinOp.and IntKind.i64 (wrap64 ((x.val : Nat) : Int)) 1 = ((x.val % 2 : Nat) : Int) := by decide +kernel
  exact hall ⟨X, h⟩
def letterB (c : Nat) : Bool := decide (97 ≤ c ∧ c ≤ 122)
def digitB (c : Nat) : Bool := decide (48 ≤ c ∧ c ≤ 57)
end Go.Proofs.YtedmgfompaoeoaaDoor
/- The program's Name, Bit and Common. -/
namespace Go.Proofs.YtedmgfompaoeoaaDoor
open Go.RowKit

theorem goodAt_is (l : List UInt8) (i : Nat) : goodAt l i = (letterB (l.getD i 0).toNat || (decide (i ≠ 0) && digitB (l.getD i 0).toNat)) := rfl
/-- The program's error of this number, or none. -/
def errOf (n : Int) : Value := if n = 0 then .nilIface else .iface 30 (.int .i64 n)
end Go.Proofs.YtedmgfompaoeoaaDoor
/- errors.As at a nil error, and at an api.Errno whose target is a *api.Errno (after the kit's worked example). -/
namespace Go.Proofs.YtedmgfompaoeoaaDoor
open Go.RowKit Go.Extern.Stop Go.Stop Go.Extern

/-- A type's handle. -/
noncomputable def hand0 : Nat := Tryd.prog.globals.size
noncomputable abbrev hand (t : Nat) : Value := .pointer (some ⟨hand0, t, none⟩)
theorem tValueOf (t : Addr) (w : World) : (ReflectliteValue.unpack (.iface 113 (.pointer (some t)))).run Tryd.prog w
    = .ok (.agg #[hand 113, .pointer (some ⟨w.heap.size, 0, none⟩), .int .u64 150]) (w.alloc (.cells #[.pointer (some t)] 113)) := by kernel_rfl
theorem tType (a : Addr) (w : World) : (ReflectliteValue.methodAny (ReflectliteValue.valueError "reflectlite.Value.Type" 0) (fun t _ _ _ => ReflectliteType.toType t) #[.agg #[hand 113, .pointer (some a), .int .u64 150]]).run Tryd.prog w
    = .ok (.iface 138 (.agg #[hand 113])) w := by kernel_rfl

theorem tKind (m k : Nat) (w : World) : (Go.method (m + 9) 138 (.agg #[hand k]) "Kind").run Tryd.prog w = .ok (91, hand k) w := by kernel_rfl
theorem tMethodElem (m : Nat) (h : Value) (w : World) : (Go.method (m + 9) 138 (.agg #[h]) "Elem").run Tryd.prog w = .ok (104, .agg #[h]) w := by kernel_rfl
theorem tMethodImplements (m : Nat) (h : Value) (w : World) : (Go.method (m + 9) 138 (.agg #[h]) "Implements").run Tryd.prog w = .ok (105, .agg #[h]) w := by kernel_rfl
theorem tMethodAssignable (m : Nat) (h : Value) (w : World) : (Go.method (m + 9) 138 (.agg #[h]) "AssignableTo").run Tryd.prog w = .ok (102, .agg #[h]) w := by kernel_rfl
theorem tKindPtr (w : World) : ((ReflectliteType.abiMethod fun t => (fun a : Nat => Value.int IntKind.u8 (a : Int)) <$> Rtype.kind t) #[hand 113]).run Tryd.prog w = .ok (.int .u8 22) w := by kernel_rfl
theorem tKindInt (w : World) : ((ReflectliteType.abiMethod fun t => (fun a : Nat => Value.int IntKind.u8 (a : Int)) <$> Rtype.kind t) #[hand 30]).run Tryd.prog w = .ok (.int .u8 2) w := by kernel_rfl
theorem rlm (z : Sem Value) (f : TypeId → Addr → Nat → Nat → Sem Value) (v : Value) :
    ReflectliteValue.method z f #[v] = (do match ← ReflectliteValue.parts v with | none => z | some (t, a, fl) => f t a fl (fl % 32)) := rfl
theorem tParts (a : Addr) (w : World) : (ReflectliteValue.parts (.agg #[hand 113, .pointer (some a), .int .u64 150])).run Tryd.prog w = .ok (some (113, a, 150)) w := by kernel_rfl
theorem tIsNil (a p : Addr) (W : World) (ha : W.cell? a = some (.pointer (some p))) :
    (ReflectliteValue.method (ReflectliteValue.valueError "reflectlite.Value.IsNil" 0) ReflectliteValue.isNil #[.agg #[hand 113, .pointer (some a), .int .u64 150]]).run Tryd.prog W = .ok (.bool false) W := by
  rw [rlm]
  simp only [Sem.run_bind, tParts, Result.andThen]
  simp [ReflectliteValue.isNil, loadVar, isAgg, underlying, Tryd.underlying113, ha, Result.andThen]
theorem tElem (w : World) : (ReflectliteType.method ReflectliteType.elem #[.agg #[hand 113]]).run Tryd.prog w = .ok (.iface 138 (.agg #[hand 30])) w := by kernel_rfl
theorem tImplements (w : World) : (ReflectliteType.relation "Implements" ReflectliteType.implements_ #[.agg #[hand 30], .iface 138 (.agg #[hand 35])]).run Tryd.prog w = .ok (.bool true) w := by kernel_rfl
theorem tTypeOf (v : Value) (w : World) : (ReflectliteType.typeOf #[.iface 30 v]).run Tryd.prog w = .ok (.iface 138 (.agg #[hand 30])) w := by kernel_rfl
theorem tAssignable (w : World) : (ReflectliteType.relation "AssignableTo" ReflectliteType.assignableTo #[.agg #[hand 30], .iface 138 (.agg #[hand 30])]).run Tryd.prog w = .ok (.bool true) w := by kernel_rfl
theorem tValueOfE (n : Int) (w : World) : (ReflectliteValue.unpack (.iface 30 (.int .i64 n))).run Tryd.prog w
    = .ok (.agg #[hand 30, .pointer (some ⟨w.heap.size, 0, none⟩), .int .u64 130]) (w.alloc (.cells #[.int .i64 n] 30)) := by kernel_rfl
theorem tElemOf (w : World) : (Rtype.elem? 113).run Tryd.prog w = .ok (some 30) w := by kernel_rfl
theorem tMk (p : Addr) (w : World) : (ReflectliteValue.mk 30 p ReflectliteValue.flagAddr).run Tryd.prog w = .ok (.agg #[hand 30, .pointer (some p), .int .u64 386]) w := by kernel_rfl
theorem tElemV (a p : Addr) (W : World) (ha : W.cell? a = some (.pointer (some p))) :
    (ReflectliteValue.method (ReflectliteValue.valueError "reflectlite.Value.Elem" 0) ReflectliteValue.elem #[.agg #[hand 113, .pointer (some a), .int .u64 150]]).run Tryd.prog W
      = .ok (.agg #[hand 30, .pointer (some p), .int .u64 386]) W := by
  rw [rlm]
  simp only [Sem.run_bind, tParts, Result.andThen]
  simp [ReflectliteValue.elem, loadVar, isAgg, underlying, Tryd.underlying113, ha, Result.andThen, tElemOf, tMk]

theorem rls (v x : Value) : ReflectliteValue.set #[v, x] = (do
    let (some (dst, a, fl), some (src, b, _)) := (← ReflectliteValue.parts v, ← ReflectliteValue.parts x)
      | unsupported (.noEntry "extern/(internal/reflectlite.Value).Set.zeroValue")
    if fl / ReflectliteValue.flagAddr % 2 == 0 then unsupported (.noEntry "extern/(internal/reflectlite.Value).Set.unaddressable")
    let val ← loadVar src b
    if ← Rtype.directlyAssignable dst src then storeVar dst a val
    else if ← Rtype.implements dst src then
      if (← Rtype.kind src) == 20 then
        match val with
        | .nilIface => unsupported (.noEntry "extern/reflectlite: a nil value of one interface type handed on as a value of another")
        | _ => storeVar dst a val
      else storeVar dst a (.iface src val)
    else panicString ("reflectlite.Set: value of type " ++ (← Rtype.spelt src) ++ " is not assignable to type " ++ (← Rtype.spelt dst))
    pure (.tuple #[])) := rfl
theorem tPartsA (a : Addr) (w : World) : (ReflectliteValue.parts (.agg #[hand 30, .pointer (some a), .int .u64 386])).run Tryd.prog w = .ok (some (30, a, 386)) w := by kernel_rfl
theorem tPartsB (a : Addr) (w : World) : (ReflectliteValue.parts (.agg #[hand 30, .pointer (some a), .int .u64 130])).run Tryd.prog w = .ok (some (30, a, 130)) w := by kernel_rfl
theorem tDirect (w : World) : (Rtype.directlyAssignable 30 30).run Tryd.prog w = .ok true w := by kernel_rfl
theorem tSize (w : World) : (sizeOf 30).run Tryd.prog w = .ok 1 w := by kernel_rfl
theorem tSet (ta b : Addr) (n : Int) (old : Value) (W : World) (hb : W.cell? b = some (.int .i64 n)) (ht : W.cell? ta = some old) (hf : W.frozen? ta = false) :
    (ReflectliteValue.set #[.agg #[hand 30, .pointer (some ta), .int .u64 386], .agg #[hand 30, .pointer (some b), .int .u64 130]]).run Tryd.prog W
      = .ok (.tuple #[]) (W.setCell ta (.int .i64 n)) := by
  rw [rls]
  simp only [Sem.run_bind, tPartsA, tPartsB, Result.andThen]
  simp [ReflectliteValue.flagAddr, loadVar, isAgg, underlying, Tryd.underlying30, hb, Result.andThen, tDirect, storeVar, Value.cells, storeCells, Addr.add]
  rw [run_store Tryd.prog W ta _ _ (by rfl)]
  simp [ht, hf]

set_option maxRecDepth 100000 in
set_option maxHeartbeats 4000000 in
theorem as_hit (n : Int) (t : Addr) (old : Value) (w : World) (hg : w.cell? ⟨0, 0, none⟩ = some (.iface 138 (.agg #[hand 35]))) (ht0 : w.cell? t = some old) (hf0 : w.frozen? t = false) :
    Calls Tryd.prog 58 #[.iface 30 (.int .i64 n), .iface 113 (.pointer (some t))] w fun ev w' => ev = .returned (.bool true) ∧ ∃ o1 o2 o3 o4, w' = ((((w.alloc o1).alloc o2).alloc o3).alloc o4).setCell t (.int .i64 n) := by
  have h42 := @run_callFunc_extern Tryd.prog 66 _ (fun args => ReflectliteValue.unpack (args.getD 0 (.tuple #[]))) Tryd.func66 (by kernel_rfl) (by kernel_rfl) (by kernel_rfl) (by kernel_rfl)
  have h43 := @run_callFunc_extern Tryd.prog 67 _ (ReflectliteValue.methodAny (ReflectliteValue.valueError "reflectlite.Value.Type" 0) (fun t _ _ _ => ReflectliteType.toType t)) Tryd.func67 (by kernel_rfl) (by kernel_rfl) (by kernel_rfl) (by kernel_rfl)
  have h44 := @run_callFunc_extern Tryd.prog 68 _ (ReflectliteValue.method (ReflectliteValue.valueError "reflectlite.Value.IsNil" 0) ReflectliteValue.isNil) Tryd.func68 (by kernel_rfl) (by kernel_rfl) (by kernel_rfl) (by kernel_rfl)
  have hKi := @run_callFunc_extern Tryd.prog 91 _ (ReflectliteType.abiMethod fun t => do pure (.int .u8 (← Rtype.kind t))) Tryd.func91 (by kernel_rfl) (by kernel_rfl) (by kernel_rfl) (by kernel_rfl)
  have hEl := @run_callFunc_extern Tryd.prog 104 _ (ReflectliteType.method ReflectliteType.elem) Tryd.func104 (by kernel_rfl) (by kernel_rfl) (by kernel_rfl) (by kernel_rfl)
  have hIm := @run_callFunc_extern Tryd.prog 105 _ (ReflectliteType.relation "Implements" ReflectliteType.implements_) Tryd.func105 (by kernel_rfl) (by kernel_rfl) (by kernel_rfl) (by kernel_rfl)
  have hTo := @run_callFunc_extern Tryd.prog 72 _ ReflectliteType.typeOf Tryd.func72 (by kernel_rfl) (by kernel_rfl) (by kernel_rfl) (by kernel_rfl)
  have hAs := @run_callFunc_extern Tryd.prog 102 _ (ReflectliteType.relation "AssignableTo" ReflectliteType.assignableTo) Tryd.func102 (by kernel_rfl) (by kernel_rfl) (by kernel_rfl) (by kernel_rfl)
  have hVE := @run_callFunc_extern Tryd.prog 73 _ (ReflectliteValue.method (ReflectliteValue.valueError "reflectlite.Value.Elem" 0) ReflectliteValue.elem) Tryd.func73 (by kernel_rfl) (by kernel_rfl) (by kernel_rfl) (by kernel_rfl)
  have hSe := @run_callFunc_extern Tryd.prog 74 _ ReflectliteValue.set Tryd.func74 (by kernel_rfl) (by kernel_rfl) (by kernel_rfl) (by kernel_rfl)
  have f1 := tValueOf
  have f2 := tType
  have f3 := tKind
  have f4 := tMethodElem
  have f5 := tMethodImplements
  have f6 := tMethodAssignable
  have f7 := tKindPtr
  have f8 := tKindInt
  have f9 := tElem
  have f10 := tImplements
  have f11 := tTypeOf
  have f12 := tAssignable
  have f13 := tValueOfE
  have hN : ∀ W : World, W.cell? ⟨w.heap.size, 0, none⟩ = some (.pointer (some t)) → (ReflectliteValue.method (ReflectliteValue.valueError "reflectlite.Value.IsNil" 0) ReflectliteValue.isNil #[.agg #[hand 113, .pointer (some ⟨w.heap.size, 0, none⟩), .int .u64 150]]).run Tryd.prog W = .ok (.bool false) W := fun W h => tIsNil _ t W h
  have hE : ∀ o2 o3, (ReflectliteValue.method (ReflectliteValue.valueError "reflectlite.Value.Elem" 0) ReflectliteValue.elem #[.agg #[hand 113, .pointer (some ⟨w.heap.size, 0, none⟩), .int .u64 150]]).run Tryd.prog (((w.alloc (.cells #[.pointer (some t)] 113)).alloc o2).alloc o3) = .ok (.agg #[hand 30, .pointer (some t), .int .u64 386]) (((w.alloc (.cells #[.pointer (some t)] 113)).alloc o2).alloc o3) := fun o2 o3 => tElemV ⟨w.heap.size, 0, none⟩ t _ (by
    rw [World.cell?_alloc_lt _ _ ⟨w.heap.size, 0, none⟩ (by simp <;> omega), World.cell?_alloc_lt _ _ ⟨w.heap.size, 0, none⟩ (by simp)]; simp)
  have hgl : (0 : Nat) < w.heap.size := block_lt_of_cell hg
  have htl : t.block < w.heap.size := block_lt_of_cell ht0
  have hg2 : ∀ o1 o2, ((w.alloc o1).alloc o2).cell? ⟨0, 0, none⟩ = some (.iface 138 (.agg #[hand 35])) := fun o1 o2 => by
    rw [World.cell?_alloc_lt _ _ ⟨0, 0, none⟩ (by simp <;> omega), World.cell?_alloc_lt _ _ ⟨0, 0, none⟩ hgl]; exact hg
  have hS : ∀ o1 o2 o3, (ReflectliteValue.set #[.agg #[hand 30, .pointer (some t), .int .u64 386], .agg #[hand 30, .pointer (some ⟨w.heap.size + 1 + 1 + 1, 0, none⟩), .int .u64 130]]).run Tryd.prog ((((w.alloc o1).alloc o2).alloc o3).alloc (.cells #[.int .i64 n] 30))
      = .ok (.tuple #[]) (((((w.alloc o1).alloc o2).alloc o3).alloc (.cells #[.int .i64 n] 30)).setCell t (.int .i64 n)) := fun o1 o2 o3 => tSet t ⟨w.heap.size + 1 + 1 + 1, 0, none⟩ n old _
    (by rw [World.cell?_alloc_at _ _ _ _ (by simp)]; rfl)
    (by rw [World.cell?_alloc_lt _ _ t (by simp <;> omega), World.cell?_alloc_lt _ _ t (by simp <;> omega), World.cell?_alloc_lt _ _ t (by simp <;> omega), World.cell?_alloc_lt _ _ t htl]; exact ht0)
    (by rw [World.frozen?_alloc_old _ _ t (by simp <;> omega), World.frozen?_alloc_old _ _ t (by simp <;> omega), World.frozen?_alloc_old _ _ t (by simp <;> omega), World.frozen?_alloc_old _ _ t (Nat.ne_of_lt htl)]; exact hf0)
  go_enter Tryd.func58, Tryd.ntmps58
  go_wp2
  refine wp_loop_rounds 1 ?_
  rw [rounds_succ]
  go_wp2
  go_ret
  exact ⟨rfl, _, _, _, _, rfl⟩

theorem as_nil (t : Value) (w : World) : Calls Tryd.prog 58 #[.nilIface, t] w fun e w' => e = .returned (.bool false) ∧ w' = w := by
  go_enter Tryd.func58, Tryd.ntmps58
  go_wp2
  go_ret
  exact ⟨rfl, rfl⟩
end Go.Proofs.YtedmgfompaoeoaaDoor
