/- Parts of the proof, one behind the other: Right, Step, Halves, Node. -/
import Derived.Test.YtcfpmofmjnhonaaGreatDoorM5
import Derived.Test.YtcfpmofmjnhonaaGreatDoorM3
import Derived.IntWalk
import Derived.Sort.Walk0
import Derived.BigQuiet
import Derived.Tactics
import Derived.Orders
import Derived.WalkKit
import Derived.Deep.RegionHeld3
import Derived.Deep.RegionLaw
import Derived.Deep.DeepCutAuto
import Derived.Test.YtcfpmofmjnhonaaGreatDoorM8
/- The document's RightItems. -/
namespace Go.Proofs.YtcfpmofmjnhonaaGreatDoor
open Go.RowKit

theorem below_drew {B : Nat} {u w : World} (h : Below B u w) (n : Nat) : Below B u (w.drewN n) := ⟨h.os, h.tape, h.output, h.size, h.block⟩
theorem isMark_t (s : ByteArray) (w : World) (h : s.size = 16) : Calls Tryz.prog 51 #[.string s] w fun e w' => e = .returned (.bool true) ∧ w' = w :=
  (isMark_any s w).mono fun _ _ ⟨he, hw⟩ => ⟨by rw [he, decide_eq_true h], hw⟩
theorem isMark_f (s : ByteArray) (w : World) (h : ¬ s.size = 16) : Calls Tryz.prog 51 #[.string s] w fun e w' => e = .returned (.bool false) ∧ w' = w :=
  (isMark_any s w).mono fun _ _ ⟨he, hw⟩ => ⟨by rw [he, decide_eq_false h], hw⟩
theorem le_cases {x y : It} {j : Nat} (m1 : x.1.size = 16) (m2 : x.2.size = 16) :
    (Op.bytesLess x.1.toList y.1.toList = false ∧ (x.1.toList == y.1.toList) = false ∧ (decide (x.1.size = 16) && decide (x.2.size = 16) && (decide (j + 1 = 0) || decide (y.1.data.toList < x.1.data.toList))) = true) ∨
    (Op.bytesLess x.1.toList y.1.toList = false ∧ (x.1.toList == y.1.toList) = true ∧ (decide (x.1.size = 16) && decide (x.2.size = 16) && (decide (j + 1 = 0) || decide (y.1.data.toList < x.1.data.toList))) = false) ∨
    (Op.bytesLess x.1.toList y.1.toList = true ∧ (decide (x.1.size = 16) && decide (x.2.size = 16) && (decide (j + 1 = 0) || decide (y.1.data.toList < x.1.data.toList))) = false) := by
  rw [decide_eq_true m1, decide_eq_true m2, decide_eq_false (show ¬ j + 1 = 0 by omega), bytesLess_eq, ByteArray.toList_eq, ByteArray.toList_eq]
  by_cases h1 : x.1.data.toList < y.1.data.toList
  · refine .inr (.inr ⟨by simp [h1], ?_⟩)
    rw [decide_eq_false (fun h => List.lt_irrefl _ (List.lt_trans h1 h))]; rfl
  · by_cases h2 : y.1.data.toList < x.1.data.toList
    · refine .inl ⟨by simp [h1], ?_, by rw [decide_eq_true h2]; rfl⟩
      rw [beq_eq_false_iff_ne]
      intro e
      rw [e] at h2
      exact List.lt_irrefl _ h2
    · refine .inr (.inl ⟨by simp [h1], ?_, by rw [decide_eq_false h2]; rfl⟩)
      rw [beq_iff_eq]
      exact List.le_antisymm (List.not_lt.1 h2) (List.not_lt.1 h1)
set_option maxRecDepth 100000 in
theorem refRight_any (L : List It) (A : Option Addr) (cap : Nat) (w : World) (hm : Itms w A L) (hl : L.length ≤ 1000000) :
    Calls Tryz.prog 106 #[.slice A L.length cap] w fun e w' => e = .returned (.bool (rightItems L)) ∧ Below w.heap.size w w' := by
  have HM := Lib.hid hm
  clear hm
  go_enter Tryz.func106, Tryz.ntmps106
  go_wp2
  go_loopw [7] (fun i wr => ∃ k : Nat, k ≤ L.length ∧ i = .int .i64 (k : Int) ∧ goodItems L k = true ∧ Below w.heap.size w wr) (fun i _ => L.length - (intOf i).toNat)
  case atStart => exact ⟨0, by omega, rfl, rfl, Below.refl _ _⟩
  case round =>
    obtain ⟨k, hk, rfl, hg, hb⟩ := hrel
    have HG := Lib.hid hg
    have HB := Lib.hid hb
    clear hg hb
    by_cases hlt : k < L.length
    · obtain ⟨a, rfl, hal, c0, c1⟩ := HM.out.at_ hlt
      have hal' : a.block < w.heap.size := hal
      have d0 : wr.cell? (a.add (k * 2)) = some (.string (itAt L k).1) := (HB.out.cell (by rw [block_add]; exact hal)).trans c0
      have d1 : wr.cell? ((a.add (k * 2)).add 1) = some (.string (itAt L k).2) := (HB.out.cell (by rw [block_add, block_add]; exact hal)).trans c1
      have d2 : wr.cell? ⟨(a.add (k * 2)).block, (a.add (k * 2)).off + 1, none⟩ = some (.string (itAt L k).2) := d1
      clear c0 c1 hal d1
      generalize hxk : itAt L k = x at d0 d2
      have HXK := Lib.hid hxk
      clear hxk
      go_wp2
      have hb1 : Below w.heap.size w (wr.alloc (.cells #[.string x.1, .string x.2] 61)) := HB.out.alloc HB.out.size _
      have hN1 : wr.heap.size < (wr.alloc (.cells #[.string x.1, .string x.2] 61)).heap.size := by simp
      have e0 : (wr.alloc (.cells #[.string x.1, .string x.2] 61)).cell? ⟨wr.heap.size, 0, none⟩ = some (.string x.1) := cell_of_row _ wr.heap.size 0 _ 61 (0, 0) (heap_alloc_new _ _)
      have e1 : (wr.alloc (.cells #[.string x.1, .string x.2] 61)).cell? ⟨wr.heap.size, 1, none⟩ = some (.string x.2) := cell_of_row _ wr.heap.size 1 _ 61 (0, 0) (heap_alloc_new _ _)
      have HB1 := Lib.hid hb1
      clear hb1 d0 d2
      generalize hw1 : wr.alloc (.cells #[.string x.1, .string x.2] 61) = w1 at HB1 e0 e1 hN1
      clear hw1
      by_cases m1 : x.1.size = 16
      · by_cases m2 : x.2.size = 16
        · cases k with
          | zero =>
            have HG1 := Lib.hid (show goodItems L (0 + 1) = true by rw [goodItems_next, HG.out, Bool.true_and]; unfold goodItem; rw [HXK.out]; simp [m1, m2])
            have M1 := Lib.hid m1
            have M2 := Lib.hid m2
            clear m1 m2
            go_quiet ((first | (go_at_call 51; exact Calls.quiet_of_same (isMark_t _ _ M1.out)) | (go_at_call 51; exact Calls.quiet_of_same (isMark_t _ _ M2.out))))
            go_wp2
            go_roundw
            case rel => exact ⟨0 + 1, by omega, by go_num, HG1.out, below_drew HB1.out _⟩
            case measure => simp [intOf]; omega
          | succ j =>
            obtain ⟨a', ha', _, f0, _⟩ := HM.out.at_ (show j < L.length by omega)
            cases ha'
            have g0 : w1.cell? (a.add (j * 2)) = some (.string (itAt L j).1) := (HB1.out.cell (by rw [block_add]; exact hal')).trans f0
            generalize hyk : itAt L j = y at g0
            have HYK := Lib.hid hyk
            clear hyk f0
            have hlq : (((j + 1 : Nat) : Int)) = (j : Int) + 1 := by omega
            have s1 : IntKind.i64.wrap (((j + 1 : Nat) : Int) - 1) = (j : Int) := by rw [hlq, show (j : Int) + 1 - 1 = (j : Int) by omega]; exact IntWalk.i64_in _ (by omega)
            have s2 : (0 : Int) < ((j + 1 : Nat) : Int) := by omega
            have s3 : (j : Int) < (L.length : Int) := by omega
            have hcase : (Op.bytesLess x.1.toList y.1.toList = false ∧ (x.1.toList == y.1.toList) = false ∧ goodItem L (j + 1) = true) ∨ (Op.bytesLess x.1.toList y.1.toList = false ∧ (x.1.toList == y.1.toList) = true ∧ goodItem L (j + 1) = false) ∨ (Op.bytesLess x.1.toList y.1.toList = true ∧ goodItem L (j + 1) = false) := by
              unfold goodItem
              rw [HXK.out, show j + 1 - 1 = j from rfl, HYK.out]
              exact le_cases m1 m2
            have M1 := Lib.hid m1
            have M2 := Lib.hid m2
            clear m1 m2 hlq
            rcases hcase with ⟨b1, b2, hgi⟩ | ⟨b1, b2, hgi⟩ | ⟨b1, hgi⟩
            · have HG1 := Lib.hid (show goodItems L (j + 1 + 1) = true by rw [goodItems_next, HG.out, Bool.true_and, hgi])
              clear hgi
              go_quiet ((first | (go_at_call 51; exact Calls.quiet_of_same (isMark_t _ _ M1.out)) | (go_at_call 51; exact Calls.quiet_of_same (isMark_t _ _ M2.out))))
              go_wp2
              go_roundw
              case rel => exact ⟨j + 1 + 1, by omega, by go_num, HG1.out, below_drew HB1.out _⟩
              case measure => simp [intOf]; omega
            all_goals
              have HF := Lib.hid (show rightItems L = false by unfold rightItems; rw [goodItems_false hgi hlt]; rfl)
              clear hgi
              go_quiet ((first | (go_at_call 51; exact Calls.quiet_of_same (isMark_t _ _ M1.out)) | (go_at_call 51; exact Calls.quiet_of_same (isMark_t _ _ M2.out))))
              go_wp2
              go_ret
              exact ⟨by rw [HF.out]; rfl, below_drew HB1.out _⟩
        · have HF := Lib.hid (show rightItems L = false by unfold rightItems; rw [goodItems_false (k := k) (by unfold goodItem; rw [HXK.out, decide_eq_false m2]; simp) hlt]; rfl)
          have M1 := Lib.hid m1
          have M2 := Lib.hid m2
          clear m1 m2
          go_quiet ((first | (go_at_call 51; exact Calls.quiet_of_same (isMark_t _ _ M1.out)) | (go_at_call 51; exact Calls.quiet_of_same (isMark_f _ _ M2.out))))
          go_wp2
          go_ret
          exact ⟨by rw [HF.out]; rfl, below_drew HB1.out _⟩
      · have HF := Lib.hid (show rightItems L = false by unfold rightItems; rw [goodItems_false (k := k) (by unfold goodItem; rw [HXK.out, decide_eq_false m1]; simp) hlt]; rfl)
        have M1 := Lib.hid m1
        clear m1
        go_quiet ((go_at_call 51; exact Calls.quiet_of_same (isMark_f _ _ M1.out)))
        go_wp2
        go_ret
        exact ⟨by rw [HF.out]; rfl, below_drew HB1.out _⟩
    · have hkn : k = L.length := by omega
      have HF := Lib.hid (show rightItems L = decide ((L.length : Int) ≤ 60) by
        unfold rightItems
        rw [← hkn, HG.out, Bool.true_and, Bool.eq_iff_iff]; simp; omega)
      clear hkn
      go_wp2
      go_ret
      refine ⟨?_, HB.out⟩
      rw [HF.out]
      rfl
end Go.Proofs.YtcfpmofmjnhonaaGreatDoor
/- A law of the walk over a list of operations, at one step of a region that draws its order. No program is imported. -/
namespace Go.Proofs.YtcfpmofmjnhonaaGreatDoor
open Go.RowKit

/-- What holds behind the one operation, and nothing at any other way out. -/
def Then1 (K : Act → World → Prop) : Exit → Act → World → Prop
  | .normal, a, w => K a w
  | _, _, _ => False
theorem then1 {P : Program} {ops : Array Oper} {K : Act → World → Prop} {a : Act} {w : World} (h : K a w) : wpList P ops (Then1 K) [] a w := h
theorem wp_of_list {P : Program} {ops : Array Oper} {o : Oper} {a : Act} {w : World} {K : Act → World → Prop} {Q : Exit → Act → World → Prop} (hgd : o.guard = none) (h : wpList P ops (Then1 K) [o] a w) : o.wp P a w K Q := by
  have hw : Region.wanted o (yielded ops a.tmps) = true := by simp [Region.wanted, hgd]
  unfold wpList at h
  rw [if_pos hw] at h
  rcases h with h | ⟨_, _, _, h⟩
  · unfold Oper.wp at *
    generalize (execOp a.eval o).run P w = r at *
    cases r with
    | ok n w' =>
      cases n <;> simp only [Oper.upon] at h ⊢
      all_goals first
        | exact h
        | exact h.elim
        | exact Calls.mono h (fun e w'' hh => by cases e <;> first | exact hh | exact hh.elim | (obtain ⟨_, _, hh⟩ := hh; exact hh.elim))
        | exact Rows.mono h (fun _ _ he => he)
    | halt x w' => cases x <;> simp only [Oper.upon] at h ⊢ <;> first | exact h | exact h.elim | (obtain ⟨_, _, h⟩ := h; exact h.elim)
  · exact h.elim
theorem step_of_list {P : Program} {ops : Array Oper} {o : Oper} {a : Act} {w : World} {K : Act → World → Prop} {Q : Exit → Act → World → Prop} {E : Prop} (hgd : o.guard = none) (h : wpList P ops (Then1 K) [o] a w) :
    if Region.wanted o (yielded ops a.tmps) = true then Oper.wp P o a w K Q else E := by
  have hw : Region.wanted o (yielded ops a.tmps) = true := by simp [Region.wanted, hgd]
  rw [if_pos hw]
  exact wp_of_list hgd h
end Go.Proofs.YtcfpmofmjnhonaaGreatDoor
/- The document's Halves. -/
namespace Go.Proofs.YtcfpmofmjnhonaaGreatDoor
open Go.RowKit

theorem infoItem : (Tryz.prog.info? 61).map (fun i => (i.zero, i.size, i.bytes)) = some (some (.agg #[.string ⟨#[]⟩, .string ⟨#[]⟩]), 2, 32) := by kernel_rfl
/-- append of one item, just built. -/
theorem wpList_append_item {P : Program} {w : World} {ops : Array Oper} {rest : List Oper} {o : Oper} {a : Act} {Q : Exit → Act → World → Prop}
    (hg : o.guard = none) (s x : Operand) (t : TypeId) (hop : o.op = Op.call { callee := Callee.builtin Builtin.append, args := #[s, x], argTypes := #[t, t] })
    (e : TypeId) (h1 : P.underlying t = some (.slice e)) (z : Value) (bytes : Nat) (hi : (P.info? e).map (fun i => (i.zero, i.size, i.bytes)) = some (some z, 2, bytes)) (h6 : z.cells.size = 2) (hby : bytes ≤ 64)
    (base : Nat) (v : Value) (L : List It) (hs : a.eval s = v) (hrow : Row w base 2 v L.length (itCells L)) (hbase : base ≤ w.heap.size) (hn : L.length ≤ 2147483647)
    (y : It) (B : Nat) (hx : a.eval x = .slice (some ⟨B, 0, none⟩) 1 1) (e' : TypeId) (hB : w.heap[B]? = some (.cells #[.string y.1, .string y.2] e' (0, 0)))
    (hK : ∀ v' w', Hid (Row w' base 2 v' (L ++ [y]).length (itCells (L ++ [y]))) → Hid (w.grownBy w' v.ownBlock) → Hid (Moved w v v') → wpList P ops Q rest (a.put o.dst v') w') :
    wpList P ops Q (o :: rest) a w := by
  obtain ⟨i0, hi0, hz0, hz1, hz2⟩ := info_parts hi
  refine wpList_append_row2 hg s x t hop e i0 z 2 bytes h1 hi0 hz0 hz1 hz2 h6 (by decide) base v L.length (itCells L) hs hrow hbase ⟨B, 0, none⟩ 1 1 (itCells [y]) hx rfl ?_ ?_ (by unfold maxLen; omega) ?_ ?_
  · intro j u hj
    rw [add_none, Nat.zero_add, cell_of_row _ B j _ e' (0, 0) hB]
    simpa [itCells] using hj
  · intro u hu; simp [itCells] at hu; rcases hu with rfl | rfl <;> rfl
  · have := Nat.mul_le_mul (show L.length + 1 ≤ 2147483648 by omega) hby
    omega
  · intro v' w' hr' hg' hm'
    refine hK v' w' ?_ hg' hm'
    have := hr'.out
    rw [← itCells_append] at this
    rw [List.length_append]
    exact Lib.hid this

/-- A block that the row does not lie in, behind an append behind a new block. -/
theorem grown_holds {w w3 : World} {X : Obj} {v : Value} {b n : Nat} {f : Nat → Value} {t : TypeId} (h : Holds w b n f t) (hg : ((w.alloc X).drew).grownBy w3 v.ownBlock) (hv : v.ownBlock ≠ some b) : Holds w3 b n f t := by
  have h1 := (h.alloc X).drew
  have := h1.lt
  unfold Holds at h1 ⊢
  rw [hg.block b this (fun e => hv e.symm)]; exact h1
structure HalfRel (N : Nat) (w wr : World) (L : List It) (d k : Nat) (v0 v1 : Value) : Prop where
  below : Below N w wr
  own : Holds wr N 2 (fun i => if i = 0 then v0 else v1) 286
  row0 : Row wr (N + 1) 2 v0 (half (L.take k) d 0).length (itCells (half (L.take k) d 0))
  row1 : Row wr (N + 1) 2 v1 (half (L.take k) d 1).length (itCells (half (L.take k) d 1))
  apart : ∀ b, v0.ownBlock = some b → v1.ownBlock ≠ some b
theorem half_take (L : List It) (d k j : Nat) (x : It) (h : L[k]? = some x) : half (L.take (k + 1)) d j = half (L.take k) d j ++ (if bitI x d = j then [x] else []) := by
  rw [List.take_add_one, h]
  unfold half
  rw [List.filter_append]
  congr 1
  by_cases e : bitI x d = j <;> simp [e]
theorem row_past {w w3 : World} {X : Obj} {v u : Value} {base size n : Nat} {xs : List Value} (h : Row w base size u n xs) (hg : ((w.alloc X).drew).grownBy w3 v.ownBlock) (ha : ∀ b, v.ownBlock = some b → u.ownBlock ≠ some b) : Row w3 base size u n xs := by
  have h1 : Row ((w.alloc X).drew) base size u n xs := (h.alloc X).drew
  refine h1.kept (fun k hk => hg.block k (h1.lt k hk).2 (fun e => ha k e.symm hk)) hg.size
theorem moved_apart {w : World} {X : Obj} {v v' u : Value} {base size n : Nat} {xs : List Value} (h : Row w base size u n xs) (hm : Moved ((w.alloc X).drew) v v') (ha : ∀ b, v.ownBlock = some b → u.ownBlock ≠ some b) : ∀ b, v'.ownBlock = some b → u.ownBlock ≠ some b := by
  intro b hb hu
  rcases hm with e | hm
  · exact ha b (e.symm.trans hb) hu
  · have h1 := hm b hb
    have h2 := (h.lt b hu).2
    have : w.heap.size < ((w.alloc X).drew).heap.size := by show w.heap.size < (w.alloc X).heap.size; simp
    omega
theorem half_step {w w2 w3 : World} {X : Obj} {L : List It} {d k : Nat} {v0 v1 v' : Value} {x : It} (HB1 : Below w.heap.size w w2) (HO1 : Holds w2 w.heap.size 2 (fun i => if i = 0 then v0 else v1) 286)
    (hr0 : Row w2 (w.heap.size + 1) 2 v0 (half (L.take k) d 0).length (itCells (half (L.take k) d 0))) (hr1 : Row w2 (w.heap.size + 1) 2 v1 (half (L.take k) d 1).length (itCells (half (L.take k) d 1))) (ha : ∀ b, v0.ownBlock = some b → v1.ownBlock ≠ some b)
    (hLk : L[k]? = some x) (hN : w.heap.size < w2.heap.size) :
    (bitI x d = 0 → Row w3 (w.heap.size + 1) 2 v' (half (L.take k) d 0 ++ [x]).length (itCells (half (L.take k) d 0 ++ [x])) → ((w2.alloc X).drew).grownBy w3 v0.ownBlock → Moved ((w2.alloc X).drew) v0 v' → HalfRel w.heap.size w (w3.setCell ⟨w.heap.size, 0, none⟩ v') L d (k + 1) v' v1) ∧
    (bitI x d = 1 → Row w3 (w.heap.size + 1) 2 v' (half (L.take k) d 1 ++ [x]).length (itCells (half (L.take k) d 1 ++ [x])) → ((w2.alloc X).drew).grownBy w3 v1.ownBlock → Moved ((w2.alloc X).drew) v1 v' → HalfRel w.heap.size w (w3.setCell ⟨w.heap.size, 1, none⟩ v') L d (k + 1) v0 v') := by
  have hb2 : Below w.heap.size w ((w2.alloc X).drew) := (HB1.alloc (Nat.le_of_lt hN) X).drew
  have hz : w.heap.size ≤ ((w2.alloc X).drew).heap.size := by show w.heap.size ≤ (w2.alloc X).heap.size; simp; omega
  constructor
  · intro hbit hrow hg hm
    have e0 : half (L.take (k + 1)) d 0 = half (L.take k) d 0 ++ [x] := by rw [half_take L d k 0 x hLk, if_pos hbit]
    have e1 : half (L.take (k + 1)) d 1 = half (L.take k) d 1 := by rw [half_take L d k 1 x hLk, if_neg (by omega), List.append_nil]
    refine ⟨(hb2.grown hg hz (fun b hb => by have := (hr0.lt b hb).1; omega)).setCell (p := ⟨w.heap.size, 0, none⟩) (Nat.le_refl _) _, ?_, ?_, ?_, moved_apart hr1 hm ha⟩
    · refine ((grown_holds HO1 hg (hr0.fresh (Nat.lt_succ_self _))).set 0 v').congr fun i hi => ?_
      unfold upd; by_cases h : i = 0 <;> simp [h]
    · rw [e0]; exact hrow.setOther (hrow.fresh (Nat.lt_succ_self _)) _
    · rw [e1]; exact (row_past hr1 hg ha).setOther (hr1.fresh (Nat.lt_succ_self _)) _
  · intro hbit hrow hg hm
    have e0 : half (L.take (k + 1)) d 0 = half (L.take k) d 0 := by rw [half_take L d k 0 x hLk, if_neg (by omega), List.append_nil]
    have e1 : half (L.take (k + 1)) d 1 = half (L.take k) d 1 ++ [x] := by rw [half_take L d k 1 x hLk, if_pos hbit]
    have ha' : ∀ b, v1.ownBlock = some b → v0.ownBlock ≠ some b := fun b h1 h0 => ha b h0 h1
    refine ⟨(hb2.grown hg hz (fun b hb => by have := (hr1.lt b hb).1; omega)).setCell (p := ⟨w.heap.size, 1, none⟩) (Nat.le_refl _) _, ?_, ?_, ?_, fun b h0 h1 => moved_apart hr0 hm ha' b h1 h0⟩
    · refine ((grown_holds HO1 hg (hr1.fresh (Nat.lt_succ_self _))).set 1 v').congr fun i hi => ?_
      unfold upd; by_cases h : i = 0
      · subst h; simp
      · have : i = 1 := by omega
        subst this; simp
    · rw [e0]; exact (row_past hr0 hg ha').setOther (hr0.fresh (Nat.lt_succ_self _)) _
    · rw [e1]; exact hrow.setOther (hrow.fresh (Nat.lt_succ_self _)) _
set_option maxRecDepth 100000 in
theorem refHalves_any (L : List It) (A : Option Addr) (cap d : Nat) (w : World) (hm : Itms w A L) (hl : L.length ≤ 1000000) (h16 : ∀ x ∈ L, x.1.size = 16) (hd : d < 128) :
    Calls Tryz.prog 123 #[.slice A L.length cap, .int .i64 (d : Int)] w fun e w' => ∃ v0 v1, e = .returned (.tuple #[v0, v1]) ∧ Below w.heap.size w w' ∧
      Row w' w.heap.size 2 v0 (half L d 0).length (itCells (half L d 0)) ∧ Row w' w.heap.size 2 v1 (half L d 1).length (itCells (half L d 1)) := by
  have HM := Lib.hid hm
  have H16 := Lib.hid h16
  clear hm h16
  go_enter Tryz.func123, Tryz.ntmps123
  go_wp2
  go_loopw [12] (fun i wr => ∃ (k : Nat) (v0 v1 : Value), k ≤ L.length ∧ i = .int .i64 (k : Int) ∧ HalfRel w.heap.size w wr L d k v0 v1) (fun i _ => L.length - (intOf i).toNat)
  case atStart =>
    refine ⟨0, .slice none 0 0, .slice none 0 0, by omega, rfl, alloc_below _ _, ?_, Row.nil _ _ _, Row.nil _ _ _, fun b hb => by cases hb⟩
    refine (Holds.new w 2 (fun _ => .slice none 0 0) 286).congr fun i _ => ?_
    split <;> rfl
  case round =>
    obtain ⟨k, v0, v1, hk, rfl, hr⟩ := hrel
    have HR := Lib.hid hr
    clear hr
    by_cases hlt : k < L.length
    · obtain ⟨a, rfl, hal, c0, c1⟩ := HM.out.at_ hlt
      have d0 : wr.cell? (a.add (k * 2)) = some (.string (itAt L k).1) := (HR.out.below.cell (by rw [block_add]; exact hal)).trans c0
      have d2 : wr.cell? ⟨(a.add (k * 2)).block, (a.add (k * 2)).off + 1, none⟩ = some (.string (itAt L k).2) := (HR.out.below.cell (by show (a.add (k * 2)).block < _; rw [block_add]; exact hal)).trans c1
      have hLk : L[k]? = some (itAt L k) := by rw [itAt_of hlt, List.getElem?_eq_getElem hlt]
      have h16 : (itAt L k).1.size = 16 := H16.out _ (List.mem_of_getElem? hLk)
      clear c0 c1 hal
      generalize itAt L k = x at d0 d2 hLk h16
      have HLK := Lib.hid hLk
      have H16x := Lib.hid h16
      clear hLk h16
      have hN : w.heap.size < wr.heap.size := HR.out.own.lt
      go_wp2_with fail
      have hb1 : Below w.heap.size w (wr.alloc (.cells #[.string x.1, .string x.2] 61)) := HR.out.below.alloc (Nat.le_of_lt hN) _
      have hN1 : wr.heap.size < (wr.alloc (.cells #[.string x.1, .string x.2] 61)).heap.size := by simp
      have hx1 := heap_alloc_new wr (.cells #[.string x.1, .string x.2] 61)
      have ho1 := HR.out.own.alloc (.cells #[.string x.1, .string x.2] 61)
      have hr0 := HR.out.row0.alloc (.cells #[.string x.1, .string x.2] 61)
      have hr1 := HR.out.row1.alloc (.cells #[.string x.1, .string x.2] 61)
      have HB1 := Lib.hid hb1
      have HX1 := Lib.hid hx1
      have HO1 := Lib.hid ho1
      have HR0 := Lib.hid hr0
      have HR1 := Lib.hid hr1
      clear hb1 hx1 ho1 hr0 hr1 d0 d2
      generalize hw1 : wr.alloc (.cells #[.string x.1, .string x.2] 61) = w1 at HB1 HX1 HO1 HR0 HR1 hN1
      clear hw1
      refine (at_any x.1 d _ H16x.out hd).mono ?_
      rintro e w2 ⟨rfl, rfl⟩
      have hb2 : bitOf x.1.data.toList d = 0 ∨ bitOf x.1.data.toList d = 1 := by have := bitOf_lt x.1.data.toList d; omega
      rcases hb2 with hbit | hbit
      · rw [hbit]
        have HBIT := Lib.hid hbit
        clear hbit
        have q0 : w2.cell? ⟨w.heap.size, 0, none⟩ = some v0 := HO1.out.cell 0 (by omega)
        have q1 : w2.cell? ⟨w.heap.size, 1, none⟩ = some v1 := HO1.out.cell 1 (by omega)
        have x0 : w2.cell? ⟨wr.heap.size, 0, none⟩ = some (.string x.1) := cell_of_row _ wr.heap.size 0 _ 61 (0, 0) HX1.out
        have x1 : w2.cell? ⟨wr.heap.size, 1, none⟩ = some (.string x.2) := cell_of_row _ wr.heap.size 1 _ 61 (0, 0) HX1.out
        have r0 : (w2.alloc (.cells #[.string x.1, .string x.2] 61)).cell? ⟨w.heap.size, 0, none⟩ = some v0 := (HO1.out.alloc _).cell 0 (by omega)
        go_wp2_with fail
        go_region_law (first | (refine step_of_list rfl ?_; refine wpList_append_item rfl (.tmp 23) (.tmp 25) 132 rfl 61 Tryz.underlying132 _ 32 infoItem rfl (by decide) (w.heap.size + 1) v0 (half (L.take k) d 0) rfl (HR0.out.alloc _).drew (by simp; omega) (by have := half_le (L.take k) d 0; have := List.length_take_le k L; omega) x w2.heap.size rfl 61 (heap_alloc_new _ _) ?_; intro v' w3 hrow3 hgrow3 hmove3; obtain ⟨p', cap', rfl⟩ := hrow3.out.any; have s0 := grown_holds HO1.out hgrow3.out (HR0.out.fresh (Nat.lt_succ_self _)); have t0 := s0.cell 0 (by omega); have t1 := s0.free 0; have S0 := Lib.hid s0; clear s0; refine then1 ?_))
        all_goals
          go_wp2
          go_roundw
          case rel =>
            have h := (half_step (v' := .slice p' (half (L.take k) d 0 ++ [x]).length cap') HB1.out HO1.out HR0.out HR1.out HR.out.apart HLK.out (Nat.lt_trans hN hN1)).1 HBIT.out hrow3.out hgrow3.out hmove3.out
            rw [show (half (L.take k) d 0 ++ [x]).length = (half (L.take k) d 0).length + 1 by simp] at h
            exact ⟨k + 1, _, _, by omega, by go_num, h⟩
          case measure => simp [intOf]; omega
      · rw [hbit]
        have HBIT := Lib.hid hbit
        clear hbit
        have q0 : w2.cell? ⟨w.heap.size, 0, none⟩ = some v0 := HO1.out.cell 0 (by omega)
        have q1 : w2.cell? ⟨w.heap.size, 1, none⟩ = some v1 := HO1.out.cell 1 (by omega)
        have x0 : w2.cell? ⟨wr.heap.size, 0, none⟩ = some (.string x.1) := cell_of_row _ wr.heap.size 0 _ 61 (0, 0) HX1.out
        have x1 : w2.cell? ⟨wr.heap.size, 1, none⟩ = some (.string x.2) := cell_of_row _ wr.heap.size 1 _ 61 (0, 0) HX1.out
        have r0 : (w2.alloc (.cells #[.string x.1, .string x.2] 61)).cell? ⟨w.heap.size, 1, none⟩ = some v1 := (HO1.out.alloc _).cell 1 (by omega)
        go_wp2_with fail
        go_region_law (first | (refine step_of_list rfl ?_; refine wpList_append_item rfl (.tmp 23) (.tmp 25) 132 rfl 61 Tryz.underlying132 _ 32 infoItem rfl (by decide) (w.heap.size + 1) v1 (half (L.take k) d 1) rfl (HR1.out.alloc _).drew (by simp; omega) (by have := half_le (L.take k) d 1; have := List.length_take_le k L; omega) x w2.heap.size rfl 61 (heap_alloc_new _ _) ?_; intro v' w3 hrow3 hgrow3 hmove3; obtain ⟨p', cap', rfl⟩ := hrow3.out.any; have s0 := grown_holds HO1.out hgrow3.out (HR1.out.fresh (Nat.lt_succ_self _)); have t0 := s0.cell 1 (by omega); have t1 := s0.free 1; have S0 := Lib.hid s0; clear s0; refine then1 ?_))
        all_goals
          go_wp2
          go_roundw
          case rel =>
            have h := (half_step (v' := .slice p' (half (L.take k) d 1 ++ [x]).length cap') HB1.out HO1.out HR0.out HR1.out HR.out.apart HLK.out (Nat.lt_trans hN hN1)).2 HBIT.out hrow3.out hgrow3.out hmove3.out
            rw [show (half (L.take k) d 1 ++ [x]).length = (half (L.take k) d 1).length + 1 by simp] at h
            exact ⟨k + 1, _, _, by omega, by go_num, h⟩
          case measure => simp [intOf]; omega
    · have hkn : k = L.length := by omega
      have E0 := Lib.hid (show half (L.take k) d 0 = half L d 0 by rw [hkn, List.take_length])
      have E1 := Lib.hid (show half (L.take k) d 1 = half L d 1 by rw [hkn, List.take_length])
      clear hkn
      have q0 : wr.cell? ⟨w.heap.size, 0, none⟩ = some v0 := HR.out.own.cell 0 (by omega)
      have q1 : wr.cell? ⟨w.heap.size, 1, none⟩ = some v1 := HR.out.own.cell 1 (by omega)
      go_wp2
      go_quiet (fail)
      go_wp2
      refine bodyPost_ret (results_tmp2 rfl _ _ _) rfl ?_
      refine ⟨_, _, rfl, below_drew HR.out.below _, ?_, ?_⟩
      · rw [← E0.out]; exact (HR.out.row0.mono (Nat.le_succ _)).drewN _
      · rw [← E1.out]; exact (HR.out.row1.mono (Nat.le_succ _)).drewN _
end Go.Proofs.YtcfpmofmjnhonaaGreatDoor
/- The document's NODE and Root. -/
namespace Go.Proofs.YtcfpmofmjnhonaaGreatDoor
open Go.RowKit

theorem nodeOf_nil (f : Nat) (L : List It) (d : Nat) (h : L.length = 0) : nodeOf f L d = emptyM d := by
  obtain rfl := List.eq_nil_of_length_eq_zero h
  cases f <;> simp [nodeOf]
theorem nodeOf_one (f : Nat) (L : List It) (d : Nat) (h : L.length = 1) : nodeOf f L d = leafM (itAt L 0) d := by
  match L, h with
  | [x], _ => cases f <;> simp [nodeOf, itAt]
theorem nodeOf_two (f : Nat) (L : List It) (d : Nat) (h : 2 ≤ L.length) : nodeOf (f + 1) L d = joinM (nodeOf f (half L d 0) (d + 1)) (nodeOf f (half L d 1) (d + 1)) := by
  rw [nodeOf, if_neg (by omega), if_neg (by omega)]
theorem nodeOf_size : ∀ (f : Nat) (L : List It) (d : Nat), (nodeOf f L d).size = 16 := by
  intro f L d
  rcases (show L.length = 0 ∨ L.length = 1 ∨ 2 ≤ L.length by omega) with h | h | h
  · rw [nodeOf_nil f L d h]; unfold emptyM; exact markOf_len _ _
  · rw [nodeOf_one f L d h]; unfold leafM; exact markOf_len _ _
  · cases f with
    | zero =>
      match L, h with
      | x :: _, _ => exact markOf_len _ _
    | succ f => rw [nodeOf_two f L d h]; exact markOf_len _ _
set_option maxRecDepth 100000 in
theorem refNode_few (b f d : Nat) (L : List It) (A : Option Addr) (cap : Nat) (w : World) (h2 : L.length < 2) (hap : Apart L d) (hcm : ∀ x ∈ L, x.2.size ≤ 1000000) (hr : Holds w b 72 refCells 121) (hm : Itms w A L) :
    Calls Tryz.prog 107 #[.pointer (some ⟨b, 0, none⟩), .slice A L.length cap, .int .i64 (d : Int)] w fun e w' => e = .returned (.string (nodeOf f L d)) ∧ Below w.heap.size w w' := by
  have HR := Lib.hid hr
  have HM := Lib.hid hm
  have HAP := Lib.hid hap
  have HCM := Lib.hid hcm
  clear hr hm hap hcm
  rcases (show L.length = 0 ∨ L.length = 1 by omega) with h | h
  · have HT := Lib.hid (nodeOf_nil f L d h)
    have h0 : ((L.length : Int) == 0) = true := by rw [beq_iff_eq]; omega
    clear h h2
    go_enter Tryz.func107, Tryz.ntmps107
    go_wp2_with fail
    refine (refEmpty_any b d _ HR.out).mono ?_
    rintro e w1 ⟨rfl, hb1⟩
    have HB1 := Lib.hid hb1
    clear hb1 h0
    go_wp2
    go_ret
    exact ⟨by rw [HT.out]; rfl, HB1.out⟩
  · have HT := Lib.hid (nodeOf_one f L d h)
    have h0 : ((L.length : Int) == 0) = false := by rw [beq_eq_false_iff_ne]; omega
    have h1 : ((L.length : Int) == 1) = true := by rw [beq_iff_eq]; omega
    have hlt : (0 : Int) < (L.length : Int) := by omega
    obtain ⟨a, rfl, hal, c0, c1⟩ := HM.out.at_ (show 0 < L.length by omega)
    have hx : itAt L 0 ∈ L := by rw [itAt_of (show 0 < L.length by omega)]; exact List.getElem_mem _
    have hx1 := HAP.out.1 _ hx
    have hx2 := HCM.out _ hx
    rw [Nat.zero_mul, add_zero'] at c0 c1
    have d2 : w.cell? ⟨a.block, a.off + 1, none⟩ = some (.string (itAt L 0).2) := c1
    generalize itAt L 0 = x at c0 d2 hx1 hx2 HT
    have HX1 := Lib.hid hx1
    have HX2 := Lib.hid hx2
    clear c1 hx1 hx2 hx h h2
    go_enter Tryz.func107, Tryz.ntmps107
    go_wp2_with fail
    refine (refLeaf_any b x d _ HR.out (by have := HX1.out; omega) HX2.out).mono ?_
    rintro e w1 ⟨rfl, hb1⟩
    have HB1 := Lib.hid hb1
    clear hb1 h0 h1
    go_wp2
    go_ret
    exact ⟨by rw [HT.out]; rfl, HB1.out⟩
set_option maxRecDepth 100000 in
theorem refNode_any (b : Nat) : ∀ (f d : Nat) (L : List It) (A : Option Addr) (cap : Nat) (w : World), d + f = 128 → Apart L d → L.length ≤ 1000000 → (∀ x ∈ L, x.2.size ≤ 1000000) → Holds w b 72 refCells 121 → Itms w A L →
    Calls Tryz.prog 107 #[.pointer (some ⟨b, 0, none⟩), .slice A L.length cap, .int .i64 (d : Int)] w fun e w' => e = .returned (.string (nodeOf f L d)) ∧ Below w.heap.size w w' := by
  intro f
  induction f with
  | zero =>
    intro d L A cap w hdf hap hl hcm hr hm
    refine refNode_few b 0 d L A cap w ?_ hap hcm hr hm
    rcases Nat.lt_or_ge L.length 2 with h | h
    · exact h
    · have := hap.lt h; omega
  | succ f ih =>
    intro d L A cap w hdf hap hl hcm hr hm
    rcases Nat.lt_or_ge L.length 2 with h | h
    · exact refNode_few b (f + 1) d L A cap w h hap hcm hr hm
    · have IH := Lib.hid ih
      have HR := Lib.hid hr
      have HM := Lib.hid hm
      have HAP := Lib.hid hap
      have HCM := Lib.hid hcm
      have HDF := Lib.hid hdf
      clear ih hr hm hap hcm hdf
      have hd : d < 128 := HAP.out.lt h
      have HT := Lib.hid (nodeOf_two f L d h)
      have ED := Lib.hid (show ((d : Int) + 1) = ((d + 1 : Nat) : Int) by omega)
      have h0 : ((L.length : Int) == 0) = false := by rw [beq_eq_false_iff_ne]; omega
      have h1 : ((L.length : Int) == 1) = false := by rw [beq_eq_false_iff_ne]; omega
      go_enter Tryz.func107, Tryz.ntmps107
      go_wp2_with fail
      refine (refHalves_any L A cap d _ HM.out hl HAP.out.1 hd).mono ?_
      rintro e w1 ⟨v0, v1, rfl, hb1, hr0, hr1⟩
      have HB1 := Lib.hid hb1
      obtain ⟨-, A0, c0, rfl, hi0⟩ := hr0.itms
      obtain ⟨-, A1, c1, rfl, hi1⟩ := hr1.itms
      have HI0 := Lib.hid hi0
      have HI1 := Lib.hid hi1
      clear hb1 hr0 hr1 hi0 hi1 h0 h1
      go_wp2_with fail
      rw [ED.out]
      refine (IH.out (d + 1) (half L d 0) A0 c0 _ (by have := HDF.out; omega) (HAP.out.half 0) (Nat.le_trans (half_le _ _ _) hl) (fun x hx => HCM.out x (List.mem_filter.1 hx).1) (HR.out.below HB1.out HR.out.lt) HI0.out).mono ?_
      rintro e w2 ⟨rfl, hb2⟩
      have HI1' := Lib.hid (HI1.out.below hb2)
      have HB2 := Lib.hid (HB1.out.trans (hb2.mono HB1.out.size))
      have hs1 := nodeOf_size f (half L d 0) (d + 1)
      generalize nodeOf f (half L d 0) (d + 1) = n0 at hs1 HT
      have HS1 := Lib.hid hs1
      clear hb2 hs1
      go_wp2_with fail
      rw [ED.out]
      refine (IH.out (d + 1) (half L d 1) A1 c1 _ (by have := HDF.out; omega) (HAP.out.half 1) (Nat.le_trans (half_le _ _ _) hl) (fun x hx => HCM.out x (List.mem_filter.1 hx).1) (HR.out.below HB2.out HR.out.lt) HI1'.out).mono ?_
      rintro e w3 ⟨rfl, hb3⟩
      have HB3 := Lib.hid (HB2.out.trans (hb3.mono HB2.out.size))
      have hs2 := nodeOf_size f (half L d 1) (d + 1)
      generalize nodeOf f (half L d 1) (d + 1) = n1 at hs2 HT
      have HS2 := Lib.hid hs2
      clear hb3 hs2
      go_wp2_with fail
      refine (refJoin_any b n0 n1 _ (HR.out.below HB3.out HR.out.lt) (by have := HS1.out; omega) (by have := HS2.out; omega)).mono ?_
      rintro e w4 ⟨rfl, hb4⟩
      have HB4 := Lib.hid (HB3.out.trans (hb4.mono HB3.out.size))
      clear hb4
      go_wp2
      go_ret
      exact ⟨by rw [HT.out]; rfl, HB4.out⟩

/-- The root of what is right. -/
def rootOf (L : List It) : ByteArray := nodeOf 128 L 0
def rootAns (L : List It) : ByteArray × Int := if rightItems L = true then (rootOf L, 0) else (⟨#[]⟩, 1)
theorem right_cm {L : List It} (h : rightItems L = true) : ∀ x ∈ L, x.2.size ≤ 1000000 := fun x hx => by have := (right_sizes h x hx).2; omega
set_option maxRecDepth 100000 in
theorem refRoot_is (b : Nat) (L : List It) (A : Option Addr) (cap : Nat) (x : ByteArray) (n : Int) (w : World) (hl : L.length ≤ 1000000) (hr : Holds w b 72 refCells 121) (hm : Itms w A L) (h : rootAns L = (x, n)) :
    Calls Tryz.prog 62 #[.pointer (some ⟨b, 0, none⟩), .slice A L.length cap] w fun e w' => e = .returned (.tuple #[.string x, .int .i64 n]) ∧ Below w.heap.size w w' := by
  have HR := Lib.hid hr
  have HM := Lib.hid hm
  clear hr hm
  unfold rootAns at h
  by_cases hk : rightItems L = true
  · rw [if_pos hk] at h
    cases h
    have HAP := Lib.hid (right_apart hk)
    have HCM := Lib.hid (right_cm hk)
    have HK := Lib.hid hk
    clear hk
    go_enter Tryz.func62, Tryz.ntmps62
    go_wp2_with fail
    refine (refRight_any L A cap _ HM.out hl).mono ?_
    rintro e w1 ⟨rfl, hb1⟩
    rw [HK.out]
    have HB1 := Lib.hid hb1
    have HM1 := Lib.hid (HM.out.below hb1)
    clear hb1
    go_wp2_with fail
    refine (refNode_any b 128 0 L A cap _ rfl HAP.out hl HCM.out (HR.out.below HB1.out HR.out.lt) HM1.out).mono ?_
    rintro e w2 ⟨rfl, hb2⟩
    have HB2 := Lib.hid (HB1.out.trans (hb2.mono HB1.out.size))
    clear hb2
    go_wp2
    refine bodyPost_ret (results_tmp2 rfl _ _ _) rfl ?_
    exact ⟨rfl, HB2.out⟩
  · rw [if_neg hk] at h
    cases h
    have HK := Lib.hid (show rightItems L = false by simpa using hk)
    clear hk
    go_enter Tryz.func62, Tryz.ntmps62
    go_wp2_with fail
    refine (refRight_any L A cap _ HM.out hl).mono ?_
    rintro e w1 ⟨rfl, hb1⟩
    rw [HK.out]
    have HB1 := Lib.hid hb1
    clear hb1
    go_wp2
    refine bodyPost_ret (results_tmp2 rfl _ _ _) rfl ?_
    exact ⟨rfl, HB1.out⟩
end Go.Proofs.YtcfpmofmjnhonaaGreatDoor
