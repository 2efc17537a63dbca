/- Parts of the proof, one behind the other: Right, LawItems, SetM, Sorted, Gg, Step. -/
import Derived.Test.YtpoibacokdjplaaGreatDoorM4
import Derived.Test.YtpoibacokdjplaaGreatDoorM2
import Derived.IntWalk
import Derived.Sort.Walk0
import Derived.BigQuiet
import Derived.Sort.LotA
import Derived.Lib.SortBridge
import Derived.Shelf.SlSortFuncK.WholeK
import Derived.Ground.GgsProg
import Derived.Shelf.GgSortFunc.Tiny
import Derived.Test.YtpoibacokdjplaaGreatDoorProg
import Derived.Tactics
import Derived.Orders
import Derived.WalkKit
/- The document's RightItems. -/
namespace Go.Proofs.YtpoibacokdjplaaGreatDoor
open Go.RowKit

theorem below_drew {B : Nat} {u w : World} (h : Below B u w) (n : Nat) : Below B u (w.drewN n) := ⟨h.os, h.tape, h.output, h.size, h.block⟩
theorem isMark_t (s : ByteArray) (w : World) (h : s.size = 16) : Calls Tryz.prog 29 #[.string s] w fun e w' => e = .returned (.bool true) ∧ w' = w :=
  (isMark_any s w).mono fun _ _ ⟨he, hw⟩ => ⟨by rw [he, decide_eq_true h], hw⟩
theorem isMark_f (s : ByteArray) (w : World) (h : ¬ s.size = 16) : Calls Tryz.prog 29 #[.string s] w fun e w' => e = .returned (.bool false) ∧ w' = w :=
  (isMark_any s w).mono fun _ _ ⟨he, hw⟩ => ⟨by rw [he, decide_eq_false h], hw⟩
theorem le_cases {x y : It} {j : Nat} (m1 : x.1.size = 16) (m2 : x.2.size = 16) :
    (Op.bytesLess x.1.toList y.1.toList = false ∧ (x.1.toList == y.1.toList) = false ∧ (decide (x.1.size = 16) && decide (x.2.size = 16) && (decide (j + 1 = 0) || decide (y.1.data.toList < x.1.data.toList))) = true) ∨
    (Op.bytesLess x.1.toList y.1.toList = false ∧ (x.1.toList == y.1.toList) = true ∧ (decide (x.1.size = 16) && decide (x.2.size = 16) && (decide (j + 1 = 0) || decide (y.1.data.toList < x.1.data.toList))) = false) ∨
    (Op.bytesLess x.1.toList y.1.toList = true ∧ (decide (x.1.size = 16) && decide (x.2.size = 16) && (decide (j + 1 = 0) || decide (y.1.data.toList < x.1.data.toList))) = false) := by
  rw [decide_eq_true m1, decide_eq_true m2, decide_eq_false (show ¬ j + 1 = 0 by omega), bytesLess_eq, ByteArray.toList_eq, ByteArray.toList_eq]
  by_cases h1 : x.1.data.toList < y.1.data.toList
  · refine .inr (.inr ⟨by simp [h1], ?_⟩)
    rw [decide_eq_false (fun h => List.lt_irrefl _ (List.lt_trans h1 h))]; rfl
  · by_cases h2 : y.1.data.toList < x.1.data.toList
    · refine .inl ⟨by simp [h1], ?_, by rw [decide_eq_true h2]; rfl⟩
      rw [beq_eq_false_iff_ne]
      intro e
      rw [e] at h2
      exact List.lt_irrefl _ h2
    · refine .inr (.inl ⟨by simp [h1], ?_, by rw [decide_eq_false h2]; rfl⟩)
      rw [beq_iff_eq]
      exact List.le_antisymm (List.not_lt.1 h2) (List.not_lt.1 h1)
set_option maxRecDepth 100000 in
theorem refRight_any (L : List It) (A : Option Addr) (cap : Nat) (w : World) (hm : Itms w A L) (hl : L.length ≤ 1000000) :
    Calls Tryz.prog 8 #[.slice A L.length cap] w fun e w' => e = .returned (.bool (rightItems L)) ∧ Below w.heap.size w w' := by
  have HM := Lib.hid hm
  clear hm
  go_enter Tryz.func8, Tryz.ntmps8
  go_wp2
  go_loopw [7] (fun i wr => ∃ k : Nat, k ≤ L.length ∧ i = .int .i64 (k : Int) ∧ goodItems L k = true ∧ Below w.heap.size w wr) (fun i _ => L.length - (intOf i).toNat)
  case atStart => exact ⟨0, by omega, rfl, rfl, Below.refl _ _⟩
  case round =>
    obtain ⟨k, hk, rfl, hg, hb⟩ := hrel
    have HG := Lib.hid hg
    have HB := Lib.hid hb
    clear hg hb
    by_cases hlt : k < L.length
    · obtain ⟨a, rfl, hal, c0, c1⟩ := HM.out.at_ hlt
      have hal' : a.block < w.heap.size := hal
      have d0 : wr.cell? (a.add (k * 2)) = some (.string (itAt L k).1) := (HB.out.cell (by rw [block_add]; exact hal)).trans c0
      have d1 : wr.cell? ((a.add (k * 2)).add 1) = some (.string (itAt L k).2) := (HB.out.cell (by rw [block_add, block_add]; exact hal)).trans c1
      have d2 : wr.cell? ⟨(a.add (k * 2)).block, (a.add (k * 2)).off + 1, none⟩ = some (.string (itAt L k).2) := d1
      clear c0 c1 hal d1
      generalize hxk : itAt L k = x at d0 d2
      have HXK := Lib.hid hxk
      clear hxk
      go_wp2
      have hb1 : Below w.heap.size w (wr.alloc (.cells #[.string x.1, .string x.2] 24)) := HB.out.alloc HB.out.size _
      have hN1 : wr.heap.size < (wr.alloc (.cells #[.string x.1, .string x.2] 24)).heap.size := by simp
      have e0 : (wr.alloc (.cells #[.string x.1, .string x.2] 24)).cell? ⟨wr.heap.size, 0, none⟩ = some (.string x.1) := cell_of_row _ wr.heap.size 0 _ 24 (0, 0) (heap_alloc_new _ _)
      have e1 : (wr.alloc (.cells #[.string x.1, .string x.2] 24)).cell? ⟨wr.heap.size, 1, none⟩ = some (.string x.2) := cell_of_row _ wr.heap.size 1 _ 24 (0, 0) (heap_alloc_new _ _)
      have HB1 := Lib.hid hb1
      clear hb1 d0 d2
      generalize hw1 : wr.alloc (.cells #[.string x.1, .string x.2] 24) = w1 at HB1 e0 e1 hN1
      clear hw1
      by_cases m1 : x.1.size = 16
      · by_cases m2 : x.2.size = 16
        · cases k with
          | zero =>
            have HG1 := Lib.hid (show goodItems L (0 + 1) = true by rw [goodItems_next, HG.out, Bool.true_and]; unfold goodItem; rw [HXK.out]; simp [m1, m2])
            have M1 := Lib.hid m1
            have M2 := Lib.hid m2
            clear m1 m2
            go_quiet ((first | (go_at_call 29; exact Calls.quiet_of_same (isMark_t _ _ M1.out)) | (go_at_call 29; exact Calls.quiet_of_same (isMark_t _ _ M2.out))))
            go_wp2
            go_roundw
            case rel => exact ⟨0 + 1, by omega, by go_num, HG1.out, below_drew HB1.out _⟩
            case measure => simp [intOf]; omega
          | succ j =>
            obtain ⟨a', ha', _, f0, _⟩ := HM.out.at_ (show j < L.length by omega)
            cases ha'
            have g0 : w1.cell? (a.add (j * 2)) = some (.string (itAt L j).1) := (HB1.out.cell (by rw [block_add]; exact hal')).trans f0
            generalize hyk : itAt L j = y at g0
            have HYK := Lib.hid hyk
            clear hyk f0
            have hlq : (((j + 1 : Nat) : Int)) = (j : Int) + 1 := by omega
            have s1 : IntKind.i64.wrap (((j + 1 : Nat) : Int) - 1) = (j : Int) := by rw [hlq, show (j : Int) + 1 - 1 = (j : Int) by omega]; exact IntWalk.i64_in _ (by omega)
            have s2 : (0 : Int) < ((j + 1 : Nat) : Int) := by omega
            have s3 : (j : Int) < (L.length : Int) := by omega
            have hcase : (Op.bytesLess x.1.toList y.1.toList = false ∧ (x.1.toList == y.1.toList) = false ∧ goodItem L (j + 1) = true) ∨ (Op.bytesLess x.1.toList y.1.toList = false ∧ (x.1.toList == y.1.toList) = true ∧ goodItem L (j + 1) = false) ∨ (Op.bytesLess x.1.toList y.1.toList = true ∧ goodItem L (j + 1) = false) := by
              unfold goodItem
              rw [HXK.out, show j + 1 - 1 = j from rfl, HYK.out]
              exact le_cases m1 m2
            have M1 := Lib.hid m1
            have M2 := Lib.hid m2
            clear m1 m2 hlq
            rcases hcase with ⟨b1, b2, hgi⟩ | ⟨b1, b2, hgi⟩ | ⟨b1, hgi⟩
            · have HG1 := Lib.hid (show goodItems L (j + 1 + 1) = true by rw [goodItems_next, HG.out, Bool.true_and, hgi])
              clear hgi
              go_quiet ((first | (go_at_call 29; exact Calls.quiet_of_same (isMark_t _ _ M1.out)) | (go_at_call 29; exact Calls.quiet_of_same (isMark_t _ _ M2.out))))
              go_wp2
              go_roundw
              case rel => exact ⟨j + 1 + 1, by omega, by go_num, HG1.out, below_drew HB1.out _⟩
              case measure => simp [intOf]; omega
            all_goals
              have HF := Lib.hid (show rightItems L = false by unfold rightItems; rw [goodItems_false hgi hlt]; rfl)
              clear hgi
              go_quiet ((first | (go_at_call 29; exact Calls.quiet_of_same (isMark_t _ _ M1.out)) | (go_at_call 29; exact Calls.quiet_of_same (isMark_t _ _ M2.out))))
              go_wp2
              go_ret
              exact ⟨by rw [HF.out]; rfl, below_drew HB1.out _⟩
        · have HF := Lib.hid (show rightItems L = false by unfold rightItems; rw [goodItems_false (k := k) (by unfold goodItem; rw [HXK.out, decide_eq_false m2]; simp) hlt]; rfl)
          have M1 := Lib.hid m1
          have M2 := Lib.hid m2
          clear m1 m2
          go_quiet ((first | (go_at_call 29; exact Calls.quiet_of_same (isMark_t _ _ M1.out)) | (go_at_call 29; exact Calls.quiet_of_same (isMark_f _ _ M2.out))))
          go_wp2
          go_ret
          exact ⟨by rw [HF.out]; rfl, below_drew HB1.out _⟩
      · have HF := Lib.hid (show rightItems L = false by unfold rightItems; rw [goodItems_false (k := k) (by unfold goodItem; rw [HXK.out, decide_eq_false m1]; simp) hlt]; rfl)
        have M1 := Lib.hid m1
        clear m1
        go_quiet ((go_at_call 29; exact Calls.quiet_of_same (isMark_f _ _ M1.out)))
        go_wp2
        go_ret
        exact ⟨by rw [HF.out]; rfl, below_drew HB1.out _⟩
    · have hkn : k = L.length := by omega
      have HF := Lib.hid (show rightItems L = decide ((L.length : Int) ≤ 60) by
        unfold rightItems
        rw [← hkn, HG.out, Bool.true_and, Bool.eq_iff_iff]; simp; omega)
      clear hkn
      go_wp2
      go_ret
      refine ⟨?_, HB.out⟩
      rw [HF.out]
      rfl
end Go.Proofs.YtpoibacokdjplaaGreatDoor
/- The law's own helpers over items and texts: items, sameItems, sameTexts, sameProof. -/
namespace Go.Proofs.YtpoibacokdjplaaGreatDoor
open Go.RowKit

theorem long_t (s : ByteArray) (w : World) (h : 60 < s.size) : Calls Tryz.prog 5 #[.string s] w fun e w' => e = .returned (.bool true) ∧ w' = w :=
  (long_any s w).mono fun _ _ ⟨he, hw⟩ => ⟨by rw [he, decide_eq_true h], hw⟩
theorem long_f (s : ByteArray) (w : World) (h : ¬ 60 < s.size) : Calls Tryz.prog 5 #[.string s] w fun e w' => e = .returned (.bool false) ∧ w' = w :=
  (long_any s w).mono fun _ _ ⟨he, hw⟩ => ⟨by rw [he, decide_eq_false h], hw⟩
set_option maxRecDepth 100000 in
theorem items_any (L : List It) (A : Option Addr) (cap : Nat) (w : World) (hm : Itms w A L) :
    Calls Tryz.prog 4 #[.slice A L.length cap] w fun e w' => ∃ b, e = .returned (.bool b) ∧ w' = w ∧ (b = true → L.length ≤ 65 ∧ ∀ i, i < L.length → (itAt L i).1.size ≤ 60 ∧ (itAt L i).2.size ≤ 60) := by
  have HM := Lib.hid hm
  clear hm
  by_cases hl : 65 < L.length
  · go_enter Tryz.func4, Tryz.ntmps4
    go_wp2
    go_ret
    exact ⟨false, rfl, rfl, fun h => by cases h⟩
  · go_enter Tryz.func4, Tryz.ntmps4
    go_wp2
    go_loopw [3] (fun i wr => ∃ k : Nat, k ≤ L.length ∧ i = .int .i64 (k : Int) ∧ wr = w ∧ ∀ i, i < k → (itAt L i).1.size ≤ 60 ∧ (itAt L i).2.size ≤ 60) (fun i _ => L.length - (intOf i).toNat)
    case atStart => exact ⟨0, by omega, rfl, rfl, fun i h => by omega⟩
    case round =>
      obtain ⟨k, hk, rfl, rfl, hall⟩ := hrel
      have HALL := Lib.hid hall
      clear hall
      by_cases hlt : k < L.length
      · obtain ⟨a, rfl, hal, c0, c1⟩ := HM.out.at_ hlt
        have d2 : wr.cell? ⟨(a.add (k * 2)).block, (a.add (k * 2)).off + 1, none⟩ = some (.string (itAt L k).2) := c1
        generalize hx : itAt L k = x at c0 c1 d2
        have HX := Lib.hid hx
        clear hx
        by_cases m1 : 60 < x.1.size
        · have M1 := Lib.hid m1
          clear m1
          go_wp2_with fail
          refine (long_t _ _ M1.out).mono ?_
          rintro e w1 ⟨rfl, rfl⟩
          go_wp2
          go_ret
          exact ⟨false, rfl, rfl, fun h => by cases h⟩
        · have M1 := Lib.hid m1
          by_cases m2 : 60 < x.2.size
          · have M2 := Lib.hid m2
            clear m1 m2
            go_wp2_with fail
            refine (long_f _ _ M1.out).mono ?_
            rintro e w1 ⟨rfl, rfl⟩
            go_wp2_with fail
            refine (long_t _ _ M2.out).mono ?_
            rintro e w1 ⟨rfl, rfl⟩
            go_wp2
            go_ret
            exact ⟨false, rfl, rfl, fun h => by cases h⟩
          · have M2 := Lib.hid m2
            clear m1 m2
            go_wp2_with fail
            refine (long_f _ _ M1.out).mono ?_
            rintro e w1 ⟨rfl, rfl⟩
            go_wp2_with fail
            refine (long_f _ _ M2.out).mono ?_
            rintro e w1 ⟨rfl, rfl⟩
            go_wp2
            go_roundw
            case rel =>
              refine ⟨k + 1, by omega, by go_num, ?_, ?_⟩
              · first | rfl | trivial
              · intro i hi
                by_cases e : i = k
                · subst e; rw [HX.out]; have := M1.out; have := M2.out; omega
                · exact HALL.out i (by omega)
            case measure => simp [intOf]; omega
      · go_wp2
        go_ret
        exact ⟨true, rfl, rfl, fun _ => ⟨by omega, fun i hi => HALL.out i (by omega)⟩⟩
set_option maxRecDepth 100000 in
theorem sameTexts_same (L : List ByteArray) (A B : Option Addr) (cap cap' : Nat) (w : World) (hl : L.length ≤ 1000000) (ha : Strs w A L) (hb : Strs w B L) :
    Calls Tryz.prog 47 #[.slice A L.length cap, .slice B L.length cap'] w fun e w' => e = .returned (.bool true) ∧ ∃ q, w' = w.drewN q := by
  have HA := Lib.hid ha
  have HB := Lib.hid hb
  clear ha hb
  go_enter Tryz.func47, Tryz.ntmps47
  go_wp2
  go_loopw [5] (fun i wr => ∃ k q : Nat, k ≤ L.length ∧ i = .int .i64 (k : Int) ∧ wr = w.drewN q) (fun i _ => L.length - (intOf i).toNat)
  case atStart => exact ⟨0, 0, by omega, rfl, rfl⟩
  case round =>
    obtain ⟨k, q, hk, rfl, rfl⟩ := hrel
    by_cases hlt : k < L.length
    · obtain ⟨p, hp⟩ : ∃ p, L[k]? = some p := ⟨_, List.getElem?_eq_getElem hlt⟩
      obtain ⟨a, rfl, _, c0⟩ := HA.out k p hp
      obtain ⟨b, rfl, _, c1⟩ := HB.out k p hp
      have hpp : (p.toList == p.toList) = true := by simp
      clear hp
      go_wp2
      go_quiet (fail)
      go_wp2
      go_roundw
      case rel => exact ⟨k + 1, _, by omega, by go_num, rfl⟩
      case measure => simp [intOf]; omega
    · go_wp2
      go_ret
      exact ⟨rfl, q, rfl⟩
set_option maxRecDepth 100000 in
theorem sameItems_same (L : List It) (A B : Option Addr) (cap cap' : Nat) (w : World) (hl : L.length ≤ 1000000) (ha : Itms w A L) (hb : Itms w B L) :
    Calls Tryz.prog 20 #[.slice A L.length cap, .slice B L.length cap'] w fun e w' => e = .returned (.bool true) ∧ ∃ q, w' = w.drewN q := by
  have HA := Lib.hid ha
  have HB := Lib.hid hb
  clear ha hb
  go_enter Tryz.func20, Tryz.ntmps20
  go_wp2
  go_loopw [5] (fun i wr => ∃ k q : Nat, k ≤ L.length ∧ i = .int .i64 (k : Int) ∧ wr = w.drewN q) (fun i _ => L.length - (intOf i).toNat)
  case atStart => exact ⟨0, 0, by omega, rfl, rfl⟩
  case round =>
    obtain ⟨k, q, hk, rfl, rfl⟩ := hrel
    by_cases hlt : k < L.length
    · obtain ⟨a, rfl, _, c0, c1⟩ := HA.out.at_ hlt
      obtain ⟨b, rfl, _, f0, f1⟩ := HB.out.at_ hlt
      have c2 : w.cell? ⟨(a.add (k * 2)).block, (a.add (k * 2)).off + 1, none⟩ = some (.string (itAt L k).2) := c1
      have f2 : w.cell? ⟨(b.add (k * 2)).block, (b.add (k * 2)).off + 1, none⟩ = some (.string (itAt L k).2) := f1
      generalize itAt L k = x at c0 c2 f0 f2
      clear c1 f1
      go_wp2
      go_quiet (fail)
      go_wp2
      go_roundw
      case rel => exact ⟨k + 1, _, by omega, by go_num, rfl⟩
      case measure => simp [intOf]; omega
    · go_wp2
      go_ret
      exact ⟨rfl, q, rfl⟩
set_option maxRecDepth 100000 in
theorem sameProof_same (L : List ByteArray) (x : It) (A B : Option Addr) (cap cap' : Nat) (w : World) (hl : L.length ≤ 1000000) (ha : Strs w A L) (hb : Strs w B L) :
    Calls Tryz.prog 25 #[.agg #[.slice A L.length cap, .string x.1, .string x.2], .agg #[.slice B L.length cap', .string x.1, .string x.2]] w fun e w' => e = .returned (.bool true) ∧ Below w.heap.size w w' := by
  have HA := Lib.hid ha
  have HB := Lib.hid hb
  clear ha hb
  go_enter Tryz.func25, Tryz.ntmps25
  go_wp2_with fail
  have hbw : Below w.heap.size w ((w.alloc (.cells #[.slice A L.length cap, .string x.1, .string x.2] 49)).alloc (.cells #[.slice B L.length cap', .string x.1, .string x.2] 49)) := (alloc_below w _).alloc (by simp) _
  refine (sameTexts_same L A B cap cap' _ hl (HA.out.below hbw) (HB.out.below hbw)).mono ?_
  rintro e w1 ⟨rfl, q, rfl⟩
  have HBW := Lib.hid (below_drew hbw q)
  clear hbw
  go_wp2
  go_ret
  exact ⟨rfl, HBW.out⟩
end Go.Proofs.YtpoibacokdjplaaGreatDoor
/- One item more: plain lists. -/
namespace Go.Proofs.YtpoibacokdjplaaGreatDoor

abbrev ltI (x y : It) : Prop := x.1.data.toList < y.1.data.toList
def ltIB (x y : It) : Bool := Sort.ltStr x.1.data.toList y.1.data.toList
def insIt (x : It) : List It → List It
  | [] => [x]
  | y :: r => if ltI y x then y :: insIt x r else x :: y :: r
def others (L : List It) (x : It) : List It := L.filter fun y => decide (y.1 ≠ x.1)
def setOf (L : List It) (x : It) : List It × Int :=
  if rightItems L = true ∧ rightItems [x] = true then (if (others L x).length = L.length ∧ 60 ≤ L.length then ([], 12) else (insIt x (others L x), 0)) else ([], 1)
theorem ltI_trans {x y z : It} (h1 : ltI x y) (h2 : ltI y z) : ltI x z := List.lt_trans h1 h2
theorem ltI_asymm {x y : It} (h1 : ltI x y) (h2 : ltI y x) : False := List.lt_irrefl _ (List.lt_trans h1 h2)
theorem ltI_total {x y : It} (h : ¬ ltI x y) (hne : x.1 ≠ y.1) : ltI y x := by
  have h1 : y.1.data.toList ≤ x.1.data.toList := List.not_lt.1 h
  by_cases h2 : ltI y x
  · exact h2
  · have h3 : x.1.data.toList ≤ y.1.data.toList := List.not_lt.1 h2
    exact absurd (text_of (List.le_antisymm h3 h1)) hne
theorem insIt_perm (x : It) : ∀ L : List It, (insIt x L).Perm (x :: L)
  | [] => List.Perm.refl _
  | y :: r => by
    unfold insIt
    split
    · exact ((insIt_perm x r).cons y).trans (List.Perm.swap x y r)
    · exact List.Perm.refl _
theorem insIt_sorted (x : It) : ∀ L : List It, L.Pairwise ltI → (∀ y ∈ L, y.1 ≠ x.1) → (insIt x L).Pairwise ltI
  | [], _, _ => by unfold insIt; simp
  | y :: r, hs, hn => by
    obtain ⟨h1, h2⟩ := List.pairwise_cons.1 hs
    unfold insIt
    split
    · rename_i h
      refine List.pairwise_cons.2 ⟨fun z hz => ?_, insIt_sorted x r h2 (fun z hz => hn z (by simp [hz]))⟩
      have hz' := (insIt_perm x r).mem_iff.1 hz
      rcases List.mem_cons.1 hz' with rfl | hz'
      · exact h
      · exact h1 z hz'
    · rename_i h
      have hxy : ltI x y := ltI_total h (hn y (by simp))
      refine List.pairwise_cons.2 ⟨fun z hz => ?_, hs⟩
      rcases List.mem_cons.1 hz with rfl | hz
      · exact hxy
      · exact ltI_trans hxy (h1 z hz)
/-- There is one order in which they rise. -/
theorem sorted_one {L M : List It} (p : L.Perm M) (hL : L.Pairwise ltI) (hM : M.Pairwise ltI) : L = M :=
  List.Perm.eq_of_pairwise (fun _ _ _ _ h1 h2 => (ltI_asymm h1 h2).elim) hL hM p
theorem others_sorted {L : List It} (h : L.Pairwise ltI) (x : It) : (others L x).Pairwise ltI := h.filter _
theorem others_ne (L : List It) (x : It) : ∀ y ∈ others L x, y.1 ≠ x.1 := fun y hy => by
  have := (List.mem_filter.1 hy).2
  exact of_decide_eq_true this
/-- Whoever is put behind the others and sorted stands where it is put in. -/
theorem set_sorted {L M : List It} {x : It} (h : L.Pairwise ltI) (p : M.Perm (others L x ++ [x])) (hM : M.Pairwise ltI) : M = insIt x (others L x) :=
  sorted_one (p.trans ((List.perm_append_singleton x (others L x)).trans (insIt_perm x _).symm)) hM (insIt_sorted x _ (others_sorted h x) (others_ne L x))
end Go.Proofs.YtpoibacokdjplaaGreatDoor
/- A row of items that the library's sort has ordered. -/
namespace Go.Proofs.YtpoibacokdjplaaGreatDoor
open Go.RowKit Go.Sort

def encI (x : It) : List Value := [.string x.1, .string x.2]
theorem itCells_at (L : List It) (j : Nat) (h : j < L.length * 2) : (itCells L)[j]? = some ((encI L.toArray[j / 2]!)[j % 2]!) := by
  have hi : j / 2 < L.length := by omega
  obtain ⟨e0, e1⟩ := itCells_get L (j / 2) L[j / 2] (List.getElem?_eq_getElem hi)
  have eL : L.toArray[j / 2]! = L[j / 2] := by simp [hi]
  rw [eL]
  rcases Nat.mod_two_eq_zero_or_one j with hm | hm
  · have ej : j / 2 * 2 = j := by omega
    rw [ej] at e0
    rw [e0, hm]; rfl
  · have ej : j / 2 * 2 + 1 = j := by omega
    rw [ej] at e1
    rw [e1, hm]; rfl
theorem row_holdsK {w : World} {base g cap : Nat} {L : List It} (h : Row w base 2 (.slice (some ⟨g, 0, none⟩) L.length cap) L.length (itCells L)) (hn : 0 < L.length) : HoldsK encI 2 w g 0 L.toArray := by
  obtain ⟨g', cap', hv, _, _, hcap, hcell, hfree⟩ := h.shape hn
  injection hv with e1 e2 e3
  injection e1 with e1
  injection e1 with e1
  subst e1
  intro j hj
  rw [size_flatK] at hj
  have hj' : j < L.length * 2 := by simpa using hj
  refine ⟨?_, ?_⟩
  · rw [Nat.zero_add, hcell j _ (itCells_at L j hj'), get_flatK _ _ _ _ hj]; rfl
  · rw [Nat.zero_add]; exact hfree j hj'
theorem grow_block (w : World) (os : Array Obj) (k : Nat) (h : k < w.heap.size) : (grow w os).heap[k]? = w.heap[k]? := by
  unfold grow
  simp [Array.getElem?_append_left h]
/-- What the sort leaves is a row again, where it was; nothing else that was there has turned. -/
theorem row_sorted {w : World} {base g cap q : Nat} {os : Array Obj} {L M : List It} (h : Row w base 2 (.slice (some ⟨g, 0, none⟩) L.length cap) L.length (itCells L)) (hn : 0 < L.length) (hM : M.length = L.length) :
    Row (grow (putRowK encI 2 (Sort.ahead w q) g 0 M.toArray) os) base 2 (.slice (some ⟨g, 0, none⟩) M.length cap) M.length (itCells M) ∧ w.grownBy (grow (putRowK encI 2 (Sort.ahead w q) g 0 M.toArray) os) (some g) := by
  have hH := row_holdsK h hn
  have hHa : HoldsK encI 2 (Sort.ahead w q) g 0 L.toArray := hH
  obtain ⟨hl, hr⟩ := h
  rcases hr with ⟨hr, _⟩ | ⟨g', cap', hv, hgb, hgl, hcap, hcell, hspare⟩
  · cases hr
  · injection hv with e1 e2 e3
    injection e1 with e1
    injection e1 with e1
    subst e1 e3
    have hsz : (putRowK encI 2 (Sort.ahead w q) g 0 M.toArray).heap.size = w.heap.size := by rw [size_putRowK]; rfl
    have hput : ∀ j, (grow (putRowK encI 2 (Sort.ahead w q) g 0 M.toArray) os).cell? ⟨g, j, none⟩ = (putRowK encI 2 (Sort.ahead w q) g 0 M.toArray).cell? ⟨g, j, none⟩ := fun j => cell?_grow _ _ _ (by rw [hsz]; exact hgl)
    have hfr : ∀ j, (grow (putRowK encI 2 (Sort.ahead w q) g 0 M.toArray) os).frozen? ⟨g, j, none⟩ = w.frozen? ⟨g, j, none⟩ := fun j => by
      rw [World.frozen?_of_block (w := putRowK encI 2 (Sort.ahead w q) g 0 M.toArray) (a := ⟨g, j, none⟩) (grow_block _ _ _ (by rw [hsz]; exact hgl))]
      exact frozen?_putRow id (Sort.ahead w q) g 0 _ _
    refine ⟨⟨itCells_length M, .inr ⟨g, cap, rfl, hgb, ?_, by omega, ?_, ?_⟩⟩, rfl, rfl, rfl, ?_, ?_⟩
    · unfold grow; simp only [Array.size_append]; rw [hsz]; omega
    · intro j u hj
      have hjl : j < M.length * 2 := by have := (List.getElem?_eq_some_iff.1 hj).1; rwa [itCells_length] at this
      rw [itCells_at M j hjl] at hj
      rw [hput]
      have := cell?_putRow id (Sort.ahead w q) g 0 (flatK encI 2 L.toArray) (flatK encI 2 M.toArray) hHa (by simp [hM]) j (by simpa using hjl)
      rw [Nat.zero_add] at this
      unfold putRowK
      rw [this, get_flatK _ _ _ _ (by simpa using hjl)]
      exact hj
    · intro j hj
      rw [hput, hfr]
      refine ⟨?_, (hspare j hj).2⟩
      by_cases hjl : j < M.length * 2
      · have := cell?_putRow id (Sort.ahead w q) g 0 (flatK encI 2 L.toArray) (flatK encI 2 M.toArray) hHa (by simp [hM]) j (by simpa using hjl)
        rw [Nat.zero_add] at this
        unfold putRowK
        rw [this]; rfl
      · unfold putRowK
        rw [cell?_putRow_other id _ g 0 _ ⟨g, j, none⟩ (.inr (.inr (by simp; omega)))]
        exact (hspare j hj).1
    · show w.heap.size ≤ (grow _ os).heap.size
      unfold grow; simp only [Array.size_append]; rw [hsz]; omega
    · intro k hk hne
      rw [grow_block _ _ _ (by rw [hsz]; exact hk)]
      show (w.heap.modify g _)[k]? = _
      rw [Array.getElem?_modify, if_neg (fun e => hne (by rw [e]))]
theorem swo_ltIB : SWO ltIB where
  irrefl _ := swo_ltStr.irrefl _
  trans _ _ _ h1 h2 := swo_ltStr.trans _ _ _ h1 h2
  ntrans _ _ _ h1 h2 := swo_ltStr.ntrans _ _ _ h1 h2
/-- What is sorted, and holds no index twice, rises. -/
theorem rises_of_sorted {M : List It} (h : SortedIn ltIB 0 M.length M.toArray) (hd : M.Pairwise (fun x y => x.1 ≠ y.1)) : M.Pairwise ltI := by
  rw [List.pairwise_iff_getElem] at hd ⊢
  intro i j hi hj hij
  have h1 := h i j (Nat.zero_le _) hij hj
  have e1 : M.toArray[j]! = M[j] := by simp [hj]
  have e2 : M.toArray[i]! = M[i] := by simp [hi]
  rw [e1, e2] at h1
  unfold ltIB ltStr at h1
  have h2 : ¬ M[j].1.data.toList < M[i].1.data.toList := by simpa using h1
  exact ltI_total h2 (fun e => hd i j hi hj hij e.symm)
end Go.Proofs.YtpoibacokdjplaaGreatDoor
/- What the library's sort.Slice needs of this program: laid by name, no walk. -/
namespace Go.Proofs
open Go.Shelf
set_option maxRecDepth 100000
def Tryz.laysGg6_ren : Go.Shelf.Ren := ⟨fun | 6 => 42 | 10 => 56 | 11 => 57 | 12 => 58 | 13 => 59 | 14 => 60 | 24 => 78 | 25 => 79 | 26 => 80 | 27 => 81 | 28 => 82 | 29 => 83 | 30 => 84 | 31 => 85 | 32 => 86 | 33 => 87 | 34 => 94 | 35 => 95 | 36 => 96 | 37 => 97 | 38 => 98 | 39 => 102 | n => n, fun | 20 => 20 | 26 => 75 | 35 => 105 | 0 => 0 | 37 => 107 | 3 => 3 | 41 => 99 | 44 => 113 | 49 => 56 | 51 => 64 | 4 => 4 | 54 => 128 | 53 => 127 | 58 => 76 | 5 => 5 | 9 => 9 | 60 => 143 | 64 => 147 | 66 => 158 | 67 => 159 | 17 => 17 | 32 => 102 | 33 => 103 | 82 => 173 | 12 => 12 | 75 => 167 | 76 => 138 | 77 => 168 | 78 => 169 | 79 => 170 | 80 => 171 | n => n, fun | n => n⟩
theorem Tryz.laysGg6 : Go.Proofs.LaysGg.n6 Tryz.prog Tryz.laysGg6_ren := {
  mixed := by kernel_rfl
  f6 := Tryz.func42.trans (congrArg some (by kernel_rfl))
  f10 := Tryz.func56.trans (congrArg some (by kernel_rfl))
  f11 := Tryz.func57.trans (congrArg some (by kernel_rfl))
  f12 := Tryz.func58.trans (congrArg some (by kernel_rfl))
  f13 := Tryz.func59.trans (congrArg some (by kernel_rfl))
  f14 := Tryz.func60.trans (congrArg some (by kernel_rfl))
  f24 := Tryz.func78.trans (congrArg some (by kernel_rfl))
  f25 := Tryz.func79.trans (congrArg some (by kernel_rfl))
  f26 := Tryz.func80.trans (congrArg some (by kernel_rfl))
  f27 := Tryz.func81.trans (congrArg some (by kernel_rfl))
  f28 := Tryz.func82.trans (congrArg some (by kernel_rfl))
  f29 := Tryz.func83.trans (congrArg some (by kernel_rfl))
  f30 := Tryz.func84.trans (congrArg some (by kernel_rfl))
  f31 := Tryz.func85.trans (congrArg some (by kernel_rfl))
  f32 := Tryz.func86.trans (congrArg some (by kernel_rfl))
  f33 := Tryz.func87.trans (congrArg some (by kernel_rfl))
  f34 := Tryz.func94.trans (congrArg some (by kernel_rfl))
  f35 := Tryz.func95.trans (congrArg some (by kernel_rfl))
  f36 := Tryz.func96.trans (congrArg some (by kernel_rfl))
  f37 := Tryz.func97.trans (congrArg some (by kernel_rfl))
  f38 := Tryz.func98.trans (congrArg some (by kernel_rfl))
  f39 := Tryz.func102.trans (congrArg some (by kernel_rfl))
  t0 := Tryz.underlying0
  a0 := Tryz.isAgg0
  z0 := Tryz.sizeOf0
  v0 := Tryz.zeroValue0
  i0 := by kernel_rfl
  t3 := Tryz.underlying3
  a3 := Tryz.isAgg3
  z3 := Tryz.sizeOf3
  v3 := Tryz.zeroValue3
  i3 := by kernel_rfl
  t4 := Tryz.underlying4
  a4 := Tryz.isAgg4
  z4 := Tryz.sizeOf4
  v4 := Tryz.zeroValue4
  i4 := by kernel_rfl
  t5 := Tryz.underlying5
  a5 := Tryz.isAgg5
  z5 := Tryz.sizeOf5
  v5 := Tryz.zeroValue5
  i5 := by kernel_rfl
  t9 := Tryz.underlying9
  a9 := Tryz.isAgg9
  z9 := Tryz.sizeOf9
  v9 := Tryz.zeroValue9
  i9 := by kernel_rfl
  t12 := Tryz.underlying12
  a12 := Tryz.isAgg12
  z12 := Tryz.sizeOf12
  v12 := Tryz.zeroValue12
  i12 := by kernel_rfl
  t17 := Tryz.underlying17
  a17 := Tryz.isAgg17
  z17 := Tryz.sizeOf17
  v17 := Tryz.zeroValue17
  i17 := by kernel_rfl
  t20 := Tryz.underlying20
  a20 := Tryz.isAgg20
  z20 := Tryz.sizeOf20
  v20 := Tryz.zeroValue20
  i20 := by kernel_rfl
  t26 := Tryz.underlying75
  a26 := Tryz.isAgg75
  z26 := Tryz.sizeOf75
  v26 := Tryz.zeroValue75
  i26 := by kernel_rfl
  t32 := Tryz.underlying102
  a32 := Tryz.isAgg102
  z32 := Tryz.sizeOf102
  v32 := Tryz.zeroValue102
  i32 := by kernel_rfl
  t33 := Tryz.underlying103
  a33 := Tryz.isAgg103
  z33 := Tryz.sizeOf103
  v33 := Tryz.zeroValue103
  i33 := by kernel_rfl
  t35 := Tryz.underlying105
  a35 := Tryz.isAgg105
  z35 := Tryz.sizeOf105
  v35 := Tryz.zeroValue105
  i35 := by kernel_rfl
  t37 := Tryz.underlying107
  a37 := Tryz.isAgg107
  z37 := Tryz.sizeOf107
  v37 := Tryz.zeroValue107
  i37 := by kernel_rfl
  t41 := Tryz.underlying99
  a41 := Tryz.isAgg99
  z41 := Tryz.sizeOf99
  v41 := Tryz.zeroValue99
  i41 := by kernel_rfl
  t44 := Tryz.underlying113
  a44 := Tryz.isAgg113
  z44 := Tryz.sizeOf113
  v44 := Tryz.zeroValue113
  i44 := by kernel_rfl
  t49 := Tryz.underlying56
  a49 := Tryz.isAgg56
  z49 := Tryz.sizeOf56
  v49 := Tryz.zeroValue56
  i49 := by kernel_rfl
  t51 := Tryz.underlying64
  a51 := Tryz.isAgg64
  z51 := Tryz.sizeOf64
  v51 := Tryz.zeroValue64
  i51 := by kernel_rfl
  t53 := Tryz.underlying127
  a53 := Tryz.isAgg127
  z53 := Tryz.sizeOf127
  v53 := Tryz.zeroValue127
  i53 := by kernel_rfl
  t54 := Tryz.underlying128
  a54 := Tryz.isAgg128
  z54 := Tryz.sizeOf128
  v54 := Tryz.zeroValue128
  i54 := by kernel_rfl
  t58 := Tryz.underlying76
  a58 := Tryz.isAgg76
  z58 := Tryz.sizeOf76
  v58 := Tryz.zeroValue76
  i58 := by kernel_rfl
  t60 := Tryz.underlying143
  a60 := Tryz.isAgg143
  z60 := Tryz.sizeOf143
  v60 := Tryz.zeroValue143
  i60 := by kernel_rfl
  t64 := Tryz.underlying147
  a64 := Tryz.isAgg147
  z64 := Tryz.sizeOf147
  v64 := Tryz.zeroValue147
  i64 := by kernel_rfl
  t66 := Tryz.underlying158
  a66 := Tryz.isAgg158
  z66 := Tryz.sizeOf158
  v66 := Tryz.zeroValue158
  i66 := by kernel_rfl
  t67 := Tryz.underlying159
  a67 := Tryz.isAgg159
  z67 := Tryz.sizeOf159
  v67 := Tryz.zeroValue159
  i67 := by kernel_rfl
  t75 := Tryz.underlying167
  a75 := Tryz.isAgg167
  z75 := Tryz.sizeOf167
  v75 := Tryz.zeroValue167
  i75 := by kernel_rfl
  t76 := Tryz.underlying138
  a76 := Tryz.isAgg138
  z76 := Tryz.sizeOf138
  v76 := Tryz.zeroValue138
  i76 := by kernel_rfl
  t77 := Tryz.underlying168
  a77 := Tryz.isAgg168
  z77 := Tryz.sizeOf168
  v77 := Tryz.zeroValue168
  i77 := by kernel_rfl
  t78 := Tryz.underlying169
  a78 := Tryz.isAgg169
  z78 := Tryz.sizeOf169
  v78 := Tryz.zeroValue169
  i78 := by kernel_rfl
  t79 := Tryz.underlying170
  a79 := Tryz.isAgg170
  z79 := Tryz.sizeOf170
  v79 := Tryz.zeroValue170
  i79 := by kernel_rfl
  t80 := Tryz.underlying171
  a80 := Tryz.isAgg171
  z80 := Tryz.sizeOf171
  v80 := Tryz.zeroValue171
  i80 := by kernel_rfl
  t82 := Tryz.underlying173
  a82 := Tryz.isAgg173
  z82 := Tryz.sizeOf173
  v82 := Tryz.zeroValue173
  i82 := by kernel_rfl }
end Go.Proofs
/- A law of the walk over a list of operations, at one step of a region that draws its order. No program is imported. -/
namespace Go.Proofs.YtpoibacokdjplaaGreatDoor
open Go.RowKit

/-- What holds behind the one operation, and nothing at any other way out. -/
def Then1 (K : Act → World → Prop) : Exit → Act → World → Prop
  | .normal, a, w => K a w
  | _, _, _ => False
theorem then1 {P : Program} {ops : Array Oper} {K : Act → World → Prop} {a : Act} {w : World} (h : K a w) : wpList P ops (Then1 K) [] a w := h
theorem wp_of_list {P : Program} {ops : Array Oper} {o : Oper} {a : Act} {w : World} {K : Act → World → Prop} {Q : Exit → Act → World → Prop} (hgd : o.guard = none) (h : wpList P ops (Then1 K) [o] a w) : o.wp P a w K Q := by
  have hw : Region.wanted o (yielded ops a.tmps) = true := by simp [Region.wanted, hgd]
  unfold wpList at h
  rw [if_pos hw] at h
  rcases h with h | ⟨_, _, _, h⟩
  · unfold Oper.wp at *
    generalize (execOp a.eval o).run P w = r at *
    cases r with
    | ok n w' =>
      cases n <;> simp only [Oper.upon] at h ⊢
      all_goals first
        | exact h
        | exact h.elim
        | exact Calls.mono h (fun e w'' hh => by cases e <;> first | exact hh | exact hh.elim | (obtain ⟨_, _, hh⟩ := hh; exact hh.elim))
        | exact Rows.mono h (fun _ _ he => he)
    | halt x w' => cases x <;> simp only [Oper.upon] at h ⊢ <;> first | exact h | exact h.elim | (obtain ⟨_, _, h⟩ := h; exact h.elim)
  · exact h.elim
theorem step_of_list {P : Program} {ops : Array Oper} {o : Oper} {a : Act} {w : World} {K : Act → World → Prop} {Q : Exit → Act → World → Prop} {E : Prop} (hgd : o.guard = none) (h : wpList P ops (Then1 K) [o] a w) :
    if Region.wanted o (yielded ops a.tmps) = true then Oper.wp P o a w K Q else E := by
  have hw : Region.wanted o (yielded ops a.tmps) = true := by simp [Region.wanted, hgd]
  rw [if_pos hw]
  exact wp_of_list hgd h
end Go.Proofs.YtpoibacokdjplaaGreatDoor
