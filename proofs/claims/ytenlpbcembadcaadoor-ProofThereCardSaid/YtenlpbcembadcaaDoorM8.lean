/- Parts of the proof, one behind the other: PTrie, SetM, Cut, PSeek. -/
import Derived.Test.YtenlpbcembadcaaDoorM5
import Derived.Test.YtenlpbcembadcaaDoorM7
import Derived.Test.YtenlpbcembadcaaDoorM4
import Derived.Sort.LotA
import Derived.Lib.SortBridge
import Derived.Shelf.Small.Strs
/- The program's trie: isMark, bit, Right, Empty, Leaf, Join. -/
namespace Go.Proofs.YtenlpbcembadcaaDoor
open Go.RowKit

theorem tMark_any (s : ByteArray) (w : World) : Calls Tryd.prog 50 #[.string s] w fun e w' => e = .returned (.bool (decide (s.size = 16))) ∧ w' = w := by
  by_cases h : s.size = 16
  · go_enter Tryd.func50, Tryd.ntmps50
    go_wp2
    go_ret
    exact ⟨by simp [h], rfl⟩
  · go_enter Tryd.func50, Tryd.ntmps50
    go_wp2
    go_ret
    refine ⟨?_, rfl⟩
    simp [h]; omega
theorem tBit_any (ix : ByteArray) (d : Nat) (w : World) (h16 : ix.size = 16) (hd : d < 128) :
    Calls Tryd.prog 52 #[.string ix, .int .i64 (d : Int)] w fun e w' => e = .returned (.int .i64 ((bitOf ix.data.toList d : Nat) : Int)) ∧ w' = w := by
  have HB := Lib.hid (show bitAns ix (d : Int) = (((bitOf ix.data.toList d : Nat) : Int), 0) by
    unfold bitAns
    rw [if_pos h16, if_pos (by omega), Int.toNat_natCast])
  clear h16 hd
  go_enter Tryd.func52, Tryd.ntmps52
  go_wp2_with fail
  refine (ixBit_is ix d _ 0 _ HB.out).mono ?_
  rintro e w1 ⟨rfl, rfl⟩
  go_wp2
  go_ret
  exact ⟨rfl, rfl⟩
theorem tEmpty_any (d : Int) (w : World) (hk : HasK w) : Calls Tryd.prog 57 #[.int .i64 d] w fun e w' => e = .returned (.string (emptyM d)) ∧ Below w.heap.size w w' := by
  have HK := Lib.hid hk
  clear hk
  go_enter Tryd.func57, Tryd.ntmps57
  go_wp2_with fail
  refine (num_any d _).mono ?_
  rintro e w1 ⟨rfl, hb1⟩
  have HB1 := Lib.hid hb1
  clear hb1
  go_wp2_with fail
  refine (mark_any 101 [txt (num8 d)] (some ⟨w1.heap.size, 0, none⟩) 1 _ ((HK.out.below HB1.out HK.out.lt).below (alloc_below w1 _) (Nat.lt_of_lt_of_le HK.out.lt HB1.out.size)) (by simp [total, num_size]) (by simp) (strs_new w1 [txt (num8 d)] 9)).mono ?_
  rintro e w2 ⟨rfl, hb2⟩
  have HB2 := Lib.hid (HB1.out.trans ((alloc_below w1 (.cells #[.string (txt (num8 d))] 9)).mono HB1.out.size |>.trans (hb2.mono (Nat.le_trans HB1.out.size (by simp)))))
  clear hb2
  go_wp2
  go_ret
  exact ⟨rfl, HB2.out⟩
theorem tJoin_any (x y : ByteArray) (w : World) (hk : HasK w) (hx : x.size ≤ 1000000) (hy : y.size ≤ 1000000) :
    Calls Tryd.prog 34 #[.string x, .string y] w fun e w' => e = .returned (.string (joinM x y)) ∧ Below w.heap.size w w' := by
  have HK := Lib.hid hk
  clear hk
  go_enter Tryd.func34, Tryd.ntmps34
  go_wp2_with fail
  refine (mark_any 110 [x, y] (some ⟨w.heap.size, 0, none⟩) 2 _ (HK.out.below (alloc_below w _) HK.out.lt) (by simp [total]; omega) (by simp) (strs_new w [x, y] 9)).mono ?_
  rintro e w2 ⟨rfl, hb2⟩
  have HB2 := Lib.hid ((alloc_below w (.cells #[.string x, .string y] 9)).trans (hb2.mono (by simp)))
  clear hb2
  go_wp2
  go_ret
  exact ⟨rfl, HB2.out⟩
set_option maxRecDepth 100000 in
theorem tLeaf_any (x : It) (d : Int) (w : World) (hk : HasK w) (hx : x.1.size ≤ 1000000) (hy : x.2.size ≤ 1000000) :
    Calls Tryd.prog 58 #[.agg #[.string x.1, .string x.2], .int .i64 d] w fun e w' => e = .returned (.string (leafM x d)) ∧ Below w.heap.size w w' := by
  have HK := Lib.hid hk
  have HX := Lib.hid hx
  have HY := Lib.hid hy
  clear hk hx hy
  go_enter Tryd.func58, Tryd.ntmps58
  go_wp2
  have hb1 : Below w.heap.size w (w.alloc (.cells #[.string x.1, .string x.2] 24)) := alloc_below _ _
  have hN1 : w.heap.size < (w.alloc (.cells #[.string x.1, .string x.2] 24)).heap.size := by simp
  have e0 : (w.alloc (.cells #[.string x.1, .string x.2] 24)).cell? ⟨w.heap.size, 0, none⟩ = some (.string x.1) := cell_of_row _ w.heap.size 0 _ 24 (0, 0) (heap_alloc_new _ _)
  have e1 : (w.alloc (.cells #[.string x.1, .string x.2] 24)).cell? ⟨w.heap.size, 1, none⟩ = some (.string x.2) := cell_of_row _ w.heap.size 1 _ 24 (0, 0) (heap_alloc_new _ _)
  have HB1 := Lib.hid hb1
  have E0 := Lib.hid e0
  have E1 := Lib.hid e1
  clear hb1 e0 e1
  generalize hw1 : w.alloc (.cells #[.string x.1, .string x.2] 24) = w1 at HB1 E0 E1 hN1
  clear hw1
  have hs0 : w1.cell? ⟨w.heap.size, 0, none⟩ = some (.string x.1) ∧ w1.cell? ⟨w.heap.size, 1, none⟩ = some (.string x.2) ∧ Below w1.heap.size w1 w1.drew := ⟨E0.out, E1.out, (Below.refl _ _).drew⟩
  have KEEP : ∀ u v : World, (u.cell? ⟨w.heap.size, 0, none⟩ = some (.string x.1) ∧ u.cell? ⟨w.heap.size, 1, none⟩ = some (.string x.2) ∧ Below w1.heap.size w1 u) → Below u.heap.size u v → (v.cell? ⟨w.heap.size, 0, none⟩ = some (.string x.1) ∧ v.cell? ⟨w.heap.size, 1, none⟩ = some (.string x.2) ∧ Below w1.heap.size w1 v) :=
    fun u v ⟨h0, h1, hb⟩ hv => ⟨(hv.cell (by have := hb.size; show w.heap.size < _; omega)).trans h0, (hv.cell (by have := hb.size; show w.heap.size < _; omega)).trans h1, hb.trans (hv.mono hb.size)⟩
  have HKEEP := Lib.hid KEEP
  have HS0 := Lib.hid hs0
  have HHOLD := Lib.hid (show ∀ u : World, (u.cell? ⟨w.heap.size, 0, none⟩ = some (.string x.1) ∧ u.cell? ⟨w.heap.size, 1, none⟩ = some (.string x.2) ∧ Below w1.heap.size w1 u) → HasK u from fun u hu => (HK.out.below HB1.out HK.out.lt).below hu.2.2 (Nat.lt_of_lt_of_le HK.out.lt HB1.out.size))
  have HTOT := Lib.hid (show total [txt (num8 d), x.1, x.2] ≤ 1073741800 by have := HX.out; have := HY.out; simp [total, num_size]; omega)
  clear KEEP hs0
  go_region_held3 (fun w' => w'.cell? ⟨w.heap.size, 0, none⟩ = some (.string x.1) ∧ w'.cell? ⟨w.heap.size, 1, none⟩ = some (.string x.2) ∧ Below w1.heap.size w1 w') (first | exact HS0.out | (refine HKEEP.out _ _ ?_ (by assumption); first | exact HS0.out | assumption | exact ⟨by assumption, by assumption, by assumption⟩) | (refine HKEEP.out _ _ ?_ (alloc_below _ _); first | exact HS0.out | assumption | exact ⟨by assumption, by assumption, by assumption⟩))
    (first | (go_at_call 66; refine (num_any d _).mono ?_; rintro e w2 ⟨rfl, hb2⟩) | (go_at_call 43; refine (mark_any 108 [txt (num8 d), x.1, x.2] (some ⟨_, 0, none⟩) 3 _ (HHOLD.out _ (by assumption)) HTOT.out (by simp) (strs_new _ [txt (num8 d), x.1, x.2] 9)).mono ?_; rintro e w2 ⟨rfl, hb2⟩))
  rename_i _ _ w2 _ hheld
  have HB2 := Lib.hid (HB1.out.trans (hheld.2.2.mono HB1.out.size))
  clear hheld
  go_wp2
  go_ret
  exact ⟨rfl, HB2.out⟩
theorem ge_cases {x y : It} {j : Nat} (m1 : x.1.size = 16) (m2 : x.2.size = 16) :
    (Op.bytesLess y.1.toList x.1.toList = true ∧ (decide (x.1.size = 16) && decide (x.2.size = 16) && (decide (j + 1 = 0) || decide (y.1.data.toList < x.1.data.toList))) = true) ∨
    (Op.bytesLess y.1.toList x.1.toList = false ∧ (decide (x.1.size = 16) && decide (x.2.size = 16) && (decide (j + 1 = 0) || decide (y.1.data.toList < x.1.data.toList))) = false) := by
  rw [decide_eq_true m1, decide_eq_true m2, decide_eq_false (show ¬ j + 1 = 0 by omega), bytesLess_eq, ByteArray.toList_eq, ByteArray.toList_eq]
  by_cases h2 : y.1.data.toList < x.1.data.toList
  · exact .inl ⟨by simp [h2], by rw [decide_eq_true h2]; rfl⟩
  · exact .inr ⟨by simp [h2], by rw [decide_eq_false h2]; rfl⟩
set_option maxRecDepth 100000 in
theorem tRight_any (L : List It) (A : Option Addr) (cap : Nat) (w : World) (hl : L.length ≤ 1000000) (hm : Itms w A L) :
    Calls Tryd.prog 48 #[.slice A L.length cap] w fun e w' => e = .returned (.bool (rightItems L)) ∧ Below w.heap.size w w' := by
  have HM := Lib.hid hm
  clear hm
  by_cases h60 : 60 < L.length
  · have HF := Lib.hid (show rightItems L = false by unfold rightItems; rw [decide_eq_false (show ¬ L.length ≤ 60 by omega), Bool.and_false])
    go_enter Tryd.func48, Tryd.ntmps48
    go_wp2
    go_ret
    exact ⟨by rw [HF.out]; rfl, Below.refl _ _⟩
  · have h60' : ¬ (60 : Int) < (L.length : Int) := by omega
    have HLE := Lib.hid (show L.length ≤ 60 by omega)
    clear h60
    go_enter Tryd.func48, Tryd.ntmps48
    go_wp2
    go_loopw [10] (fun i wr => ∃ k : Nat, k ≤ L.length ∧ i = .int .i64 (k : Int) ∧ goodItems L k = true ∧ Below w.heap.size w wr) (fun i _ => L.length - (intOf i).toNat)
    case atStart => exact ⟨0, by omega, rfl, rfl, Below.refl _ _⟩
    case round =>
      obtain ⟨k, hk, rfl, hg, hb⟩ := hrel
      have HG := Lib.hid hg
      have HB := Lib.hid hb
      clear hg hb
      by_cases hlt : k < L.length
      · obtain ⟨a, rfl, hal, c0, c1⟩ := HM.out.at_ hlt
        have hal' : a.block < w.heap.size := hal
        have d0 : wr.cell? (a.add (k * 2)) = some (.string (itAt L k).1) := (HB.out.cell (by rw [block_add]; exact hal)).trans c0
        have d1 : wr.cell? ((a.add (k * 2)).add 1) = some (.string (itAt L k).2) := (HB.out.cell (by rw [block_add, block_add]; exact hal)).trans c1
        have d2 : wr.cell? ⟨(a.add (k * 2)).block, (a.add (k * 2)).off + 1, none⟩ = some (.string (itAt L k).2) := d1
        clear c0 c1 hal d1
        generalize hxk : itAt L k = x at d0 d2
        have HXK := Lib.hid hxk
        clear hxk
        go_wp2_with fail
        have hb1 : Below w.heap.size w (wr.alloc (.cells #[.string x.1, .string x.2] 24)) := HB.out.alloc HB.out.size _
        have hN1 : wr.heap.size < (wr.alloc (.cells #[.string x.1, .string x.2] 24)).heap.size := by simp
        have e0 : (wr.alloc (.cells #[.string x.1, .string x.2] 24)).cell? ⟨wr.heap.size, 0, none⟩ = some (.string x.1) := cell_of_row _ wr.heap.size 0 _ 24 (0, 0) (heap_alloc_new _ _)
        have e1 : (wr.alloc (.cells #[.string x.1, .string x.2] 24)).cell? ⟨wr.heap.size, 1, none⟩ = some (.string x.2) := cell_of_row _ wr.heap.size 1 _ 24 (0, 0) (heap_alloc_new _ _)
        have HB1 := Lib.hid hb1
        clear hb1 d0 d2
        generalize hw1 : wr.alloc (.cells #[.string x.1, .string x.2] 24) = w1 at HB1 e0 e1 hN1
        clear hw1
        refine (tMark_any x.1 _).mono ?_
        rintro e w1 ⟨rfl, rfl⟩
        by_cases m1 : x.1.size = 16
        · rw [decide_eq_true m1]
          go_wp2_with fail
          refine (tMark_any x.2 _).mono ?_
          rintro e w1 ⟨rfl, rfl⟩
          by_cases m2 : x.2.size = 16
          · rw [decide_eq_true m2]
            cases k with
            | zero =>
              have HG1 := Lib.hid (show goodItems L (0 + 1) = true by rw [goodItems_next, HG.out, Bool.true_and]; unfold goodItem; rw [HXK.out]; simp [m1, m2])
              clear m1 m2
              go_wp2
              go_quiet (fail)
              go_wp2
              go_roundw
              case rel => exact ⟨0 + 1, by omega, by go_num, HG1.out, below_drew HB1.out _⟩
              case measure => simp [intOf]; omega
            | succ j =>
              obtain ⟨a', ha', _, f0, _⟩ := HM.out.at_ (show j < L.length by omega)
              cases ha'
              have g0 : w1.cell? (a.add (j * 2)) = some (.string (itAt L j).1) := (HB1.out.cell (by rw [block_add]; exact hal')).trans f0
              generalize hyk : itAt L j = y at g0
              have HYK := Lib.hid hyk
              clear hyk f0
              have hlq : (((j + 1 : Nat) : Int)) = (j : Int) + 1 := by omega
              have s1 : IntKind.i64.wrap (((j + 1 : Nat) : Int) - 1) = (j : Int) := by rw [hlq, show (j : Int) + 1 - 1 = (j : Int) by omega]; exact IntWalk.i64_in _ (by omega)
              have s2 : (0 : Int) < ((j + 1 : Nat) : Int) := by omega
              have s3 : (j : Int) < (L.length : Int) := by omega
              have hcase : (Op.bytesLess y.1.toList x.1.toList = true ∧ goodItem L (j + 1) = true) ∨ (Op.bytesLess y.1.toList x.1.toList = false ∧ goodItem L (j + 1) = false) := by
                unfold goodItem
                rw [HXK.out, show j + 1 - 1 = j from rfl, HYK.out]
                exact ge_cases m1 m2
              clear m1 m2 hlq
              rcases hcase with ⟨b1, hgi⟩ | ⟨b1, hgi⟩
              · have HG1 := Lib.hid (show goodItems L (j + 1 + 1) = true by rw [goodItems_next, HG.out, Bool.true_and, hgi])
                clear hgi
                go_wp2
                go_quiet (fail)
                go_wp2
                go_roundw
                case rel => exact ⟨j + 1 + 1, by omega, by go_num, HG1.out, below_drew HB1.out _⟩
                case measure => simp [intOf]; omega
              · have HF := Lib.hid (show rightItems L = false by unfold rightItems; rw [goodItems_false hgi hlt]; rfl)
                clear hgi
                go_wp2
                go_quiet (fail)
                go_wp2
                go_ret
                exact ⟨by rw [HF.out]; rfl, below_drew HB1.out _⟩
          · have HF := Lib.hid (show rightItems L = false by unfold rightItems; rw [goodItems_false (k := k) (by unfold goodItem; rw [HXK.out, decide_eq_false m2]; simp) hlt]; rfl)
            rw [decide_eq_false m2]
            clear m1 m2
            go_wp2
            go_ret
            exact ⟨by rw [HF.out]; rfl, HB1.out⟩
        · have HF := Lib.hid (show rightItems L = false by unfold rightItems; rw [goodItems_false (k := k) (by unfold goodItem; rw [HXK.out, decide_eq_false m1]; simp) hlt]; rfl)
          rw [decide_eq_false m1]
          clear m1
          go_wp2
          go_ret
          exact ⟨by rw [HF.out]; rfl, HB1.out⟩
      · have hkn : k = L.length := by omega
        have HF := Lib.hid (show rightItems L = true by
          unfold rightItems
          rw [← hkn, HG.out, Bool.true_and, decide_eq_true_eq, hkn]; exact HLE.out)
        clear hkn
        go_wp2
        go_ret
        exact ⟨by rw [HF.out]; rfl, HB.out⟩
end Go.Proofs.YtenlpbcembadcaaDoor
/- One item more: plain lists. -/
namespace Go.Proofs.YtenlpbcembadcaaDoor

abbrev ltI (x y : It) : Prop := x.1.data.toList < y.1.data.toList
def ltIB (x y : It) : Bool := Sort.ltStr x.1.data.toList y.1.data.toList
def insIt (x : It) : List It → List It
  | [] => [x]
  | y :: r => if ltI y x then y :: insIt x r else x :: y :: r
def others (L : List It) (x : It) : List It := L.filter fun y => decide (y.1 ≠ x.1)
def setOf (L : List It) (x : It) : List It × Int :=
  if rightItems L = true ∧ rightItems [x] = true then (if (others L x).length = L.length ∧ 60 ≤ L.length then ([], 12) else (insIt x (others L x), 0)) else ([], 1)
theorem ltI_trans {x y z : It} (h1 : ltI x y) (h2 : ltI y z) : ltI x z := List.lt_trans h1 h2
theorem ltI_asymm {x y : It} (h1 : ltI x y) (h2 : ltI y x) : False := List.lt_irrefl _ (List.lt_trans h1 h2)
theorem ltI_total {x y : It} (h : ¬ ltI x y) (hne : x.1 ≠ y.1) : ltI y x := by
  have h1 : y.1.data.toList ≤ x.1.data.toList := List.not_lt.1 h
  by_cases h2 : ltI y x
  · exact h2
  · have h3 : x.1.data.toList ≤ y.1.data.toList := List.not_lt.1 h2
    exact absurd (text_of (List.le_antisymm h3 h1)) hne
theorem insIt_perm (x : It) : ∀ L : List It, (insIt x L).Perm (x :: L)
  | [] => List.Perm.refl _
  | y :: r => by
    unfold insIt
    split
    · exact ((insIt_perm x r).cons y).trans (List.Perm.swap x y r)
    · exact List.Perm.refl _
theorem insIt_sorted (x : It) : ∀ L : List It, L.Pairwise ltI → (∀ y ∈ L, y.1 ≠ x.1) → (insIt x L).Pairwise ltI
  | [], _, _ => by unfold insIt; simp
  | y :: r, hs, hn => by
    obtain ⟨h1, h2⟩ := List.pairwise_cons.1 hs
    unfold insIt
    split
    · rename_i h
      refine List.pairwise_cons.2 ⟨fun z hz => ?_, insIt_sorted x r h2 (fun z hz => hn z (by simp [hz]))⟩
      have hz' := (insIt_perm x r).mem_iff.1 hz
      rcases List.mem_cons.1 hz' with rfl | hz'
      · exact h
      · exact h1 z hz'
    · rename_i h
      have hxy : ltI x y := ltI_total h (hn y (by simp))
      refine List.pairwise_cons.2 ⟨fun z hz => ?_, hs⟩
      rcases List.mem_cons.1 hz with rfl | hz
      · exact hxy
      · exact ltI_trans hxy (h1 z hz)
/-- There is one order in which they rise. -/
theorem sorted_one {L M : List It} (p : L.Perm M) (hL : L.Pairwise ltI) (hM : M.Pairwise ltI) : L = M :=
  List.Perm.eq_of_pairwise (fun _ _ _ _ h1 h2 => (ltI_asymm h1 h2).elim) hL hM p
theorem others_sorted {L : List It} (h : L.Pairwise ltI) (x : It) : (others L x).Pairwise ltI := h.filter _
theorem others_ne (L : List It) (x : It) : ∀ y ∈ others L x, y.1 ≠ x.1 := fun y hy => by
  have := (List.mem_filter.1 hy).2
  exact of_decide_eq_true this
/-- Whoever is put behind the others and sorted stands where it is put in. -/
theorem set_sorted {L M : List It} {x : It} (h : L.Pairwise ltI) (p : M.Perm (others L x ++ [x])) (hM : M.Pairwise ltI) : M = insIt x (others L x) :=
  sorted_one (p.trans ((List.perm_append_singleton x (others L x)).trans (insIt_perm x _).symm)) hM (insIt_sorted x _ (others_sorted h x) (others_ne L x))
end Go.Proofs.YtenlpbcembadcaaDoor
/- Where items that rise part at a bit, and where one more must stand: plain facts. -/
namespace Go.Proofs.YtenlpbcembadcaaDoor

theorem byte_of_bits_lt (x y m : Nat) (hx : x < 256) (hy : y < 256) (hm : m < 8) (h : ∀ j, j < m → x / 2 ^ (7 - j) % 2 = y / 2 ^ (7 - j) % 2) (h1 : x / 2 ^ (7 - m) % 2 = 1) (h0 : y / 2 ^ (7 - m) % 2 = 0) : y < x := by
  rcases (show m = 0 ∨ m = 1 ∨ m = 2 ∨ m = 3 ∨ m = 4 ∨ m = 5 ∨ m = 6 ∨ m = 7 by omega) with rfl | rfl | rfl | rfl | rfl | rfl | rfl | rfl
  · simp at h0 h1; omega
  · have a0 := h 0 (by omega)
    simp at h0 h1 a0; omega
  · have a0 := h 0 (by omega); have a1 := h 1 (by omega)
    simp at h0 h1 a0 a1; omega
  · have a0 := h 0 (by omega); have a1 := h 1 (by omega); have a2 := h 2 (by omega)
    simp at h0 h1 a0 a1 a2; omega
  · have a0 := h 0 (by omega); have a1 := h 1 (by omega); have a2 := h 2 (by omega); have a3 := h 3 (by omega)
    simp at h0 h1 a0 a1 a2 a3; omega
  · have a0 := h 0 (by omega); have a1 := h 1 (by omega); have a2 := h 2 (by omega); have a3 := h 3 (by omega); have a4 := h 4 (by omega)
    simp at h0 h1 a0 a1 a2 a3 a4; omega
  · have a0 := h 0 (by omega); have a1 := h 1 (by omega); have a2 := h 2 (by omega); have a3 := h 3 (by omega); have a4 := h 4 (by omega); have a5 := h 5 (by omega)
    simp at h0 h1 a0 a1 a2 a3 a4 a5; omega
  · have a0 := h 0 (by omega); have a1 := h 1 (by omega); have a2 := h 2 (by omega); have a3 := h 3 (by omega); have a4 := h 4 (by omega); have a5 := h 5 (by omega); have a6 := h 6 (by omega)
    simp at h0 h1 a0 a1 a2 a3 a4 a5 a6; omega
theorem getD_eq (l : List UInt8) (i : Nat) (h : i < l.length) : l.getD i 0 = l[i] := by
  rw [List.getD_eq_getElem?_getD, List.getElem?_eq_getElem h]; rfl
theorem lt_at {a b : List UInt8} (m : Nat) (ha : m < a.length) (hb : m < b.length) (hs : ∀ i, i < m → a.getD i 0 = b.getD i 0) (h : b.getD m 0 < a.getD m 0) : b < a := by
  have e : b.take m = a.take m := by
    apply List.ext_getElem
    · simp; omega
    · intro i h1 h2
      have hi : i < m := by rw [List.length_take] at h1; omega
      rw [List.getElem_take, List.getElem_take]
      have := hs i hi
      rw [getD_eq a i (by omega), getD_eq b i (by omega)] at this
      exact this.symm
  rw [← List.take_append_drop m b, ← List.take_append_drop m a, e]
  apply List.append_left_lt
  rw [List.drop_eq_getElem_cons hb, List.drop_eq_getElem_cons ha]
  rw [getD_eq a m ha, getD_eq b m hb] at h
  exact List.cons_lt_cons_iff.2 (.inl h)
/-- Alike ahead of a bit, that with the bit 0 stands first. -/
theorem bit_first {a b : List UInt8} (ha : a.length = 16) (hb : b.length = 16) {d : Nat} (hd : d < 128) (hs : ∀ k, k < d → bitOf a k = bitOf b k) (h1 : bitOf a d = 1) (h0 : bitOf b d = 0) : b < a := by
  refine lt_at (d / 8) (by omega) (by omega) (fun i hi => ?_) ?_
  · apply UInt8.toNat_inj.1
    refine byte_of_bits _ _ (a.getD i 0).toNat_lt (b.getD i 0).toNat_lt fun j hj => ?_
    have := hs (8 * i + j) (by omega)
    unfold bitOf at this
    rw [show (8 * i + j) / 8 = i by omega, show (8 * i + j) % 8 = j by omega] at this
    exact this
  · rw [UInt8.lt_iff_toNat_lt]
    refine byte_of_bits_lt _ _ (d % 8) (a.getD (d / 8) 0).toNat_lt (b.getD (d / 8) 0).toNat_lt (Nat.mod_lt _ (by decide)) (fun j hj => ?_) h1 h0
    have := hs (8 * (d / 8) + j) (by omega)
    unfold bitOf at this
    rw [show (8 * (d / 8) + j) / 8 = d / 8 by omega, show (8 * (d / 8) + j) % 8 = j by omega] at this
    exact this
theorem itAt_mem {L : List It} {i : Nat} (h : i < L.length) : itAt L i ∈ L := by rw [itAt_of h]; exact List.getElem_mem h
theorem itAt_rise {L : List It} (hs : L.Pairwise ltI) {i j : Nat} (hij : i < j) (hj : j < L.length) : ltI (itAt L i) (itAt L j) := by
  rw [itAt_of hj, itAt_of (show i < L.length by omega)]
  exact List.pairwise_iff_getElem.1 hs i j (by omega) hj hij
/-- Behind one whose bit is 1 all have it. -/
theorem bit_mono {L : List It} {d : Nat} (hs : L.Pairwise ltI) (hap : Apart L d) (hd : d < 128) {i j : Nat} (hij : i ≤ j) (hj : j < L.length) (h : bitI (itAt L i) d = 1) : bitI (itAt L j) d = 1 := by
  by_cases e : i = j
  · rwa [← e]
  · have hlt : ltI (itAt L i) (itAt L j) := itAt_rise hs (by omega) hj
    have hi : itAt L i ∈ L := itAt_mem (by omega)
    have hjm : itAt L j ∈ L := itAt_mem hj
    have hb := bitOf_lt (itAt L j).1.data.toList d
    by_cases e0 : bitI (itAt L j) d = 0
    · have := bit_first (a := (itAt L i).1.data.toList) (b := (itAt L j).1.data.toList) (hap.1 _ hi) (hap.1 _ hjm) hd (fun k hk => hap.2.2 _ hi _ hjm k hk) h e0
      exact (ltI_asymm hlt this).elim
    · unfold bitI at e0 ⊢; omega
theorem half_cut {L : List It} {d r : Nat} (h0 : ∀ i, i < r → i < L.length → bitI (itAt L i) d ≠ 1) (h1 : ∀ i, r ≤ i → i < L.length → bitI (itAt L i) d = 1) : half L d 0 = L.take r ∧ half L d 1 = L.drop r := by
  have t0 : ∀ x ∈ L.take r, bitI x d = 0 := by
    intro x hx
    obtain ⟨i, hi, rfl⟩ := List.getElem_of_mem hx
    rw [List.length_take] at hi
    have := h0 i (by omega) (by omega)
    rw [itAt_of (show i < L.length by omega)] at this
    rw [List.getElem_take]
    have hb := bitOf_lt (L[i]'(by omega)).1.data.toList d
    unfold bitI at this ⊢; omega
  have t1 : ∀ x ∈ L.drop r, bitI x d = 1 := by
    intro x hx
    obtain ⟨i, hi, rfl⟩ := List.getElem_of_mem hx
    rw [List.length_drop] at hi
    have := h1 (r + i) (by omega) (by omega)
    rw [itAt_of (show r + i < L.length by omega)] at this
    rw [List.getElem_drop]
    exact this
  unfold half
  constructor
  · conv => lhs; rw [← List.take_append_drop r L]
    rw [List.filter_append, List.filter_eq_self.2 (fun x hx => by rw [beq_iff_eq]; exact t0 x hx), List.filter_eq_nil_iff.2 (fun x hx => by rw [beq_iff_eq, t1 x hx]; decide), List.append_nil]
  · conv => lhs; rw [← List.take_append_drop r L]
    rw [List.filter_append, List.filter_eq_nil_iff.2 (fun x hx => by rw [beq_iff_eq, t0 x hx]; decide), List.filter_eq_self.2 (fun x hx => by rw [beq_iff_eq]; exact t1 x hx), List.nil_append]
theorem half_rise {L : List It} (h : L.Pairwise ltI) (d k : Nat) : (half L d k).Pairwise ltI := h.filter _
theorem drop_at {L : List It} {p : Nat} (hp : p < L.length) : L.drop p = itAt L p :: L.drop (p + 1) := by
  rw [List.drop_eq_getElem_cons hp, itAt_of hp]
theorem rise_mid {L : List It} {x : It} {p q : Nat} (hs : L.Pairwise ltI) (_hpq : p ≤ q) (h0 : ∀ i, i < p → i < L.length → ltI (itAt L i) x) (h1 : ∀ i, q ≤ i → i < L.length → ltI x (itAt L i)) : (L.take p ++ x :: L.drop q).Pairwise ltI := by
  have a0 : ∀ y ∈ L.take p, ltI y x := by
    intro y hy
    obtain ⟨i, hi, rfl⟩ := List.getElem_of_mem hy
    rw [List.length_take] at hi
    have := h0 i (by omega) (by omega)
    rw [itAt_of (show i < L.length by omega)] at this
    rw [List.getElem_take]; exact this
  have a1 : ∀ y ∈ L.drop q, ltI x y := by
    intro y hy
    obtain ⟨i, hi, rfl⟩ := List.getElem_of_mem hy
    rw [List.length_drop] at hi
    have := h1 (q + i) (by omega) (by omega)
    rw [itAt_of (show q + i < L.length by omega)] at this
    rw [List.getElem_drop]; exact this
  rw [List.pairwise_append, List.pairwise_cons]
  refine ⟨hs.sublist (List.take_sublist p L), ⟨a1, hs.sublist (List.drop_sublist q L)⟩, fun y hy z hz => ?_⟩
  rcases List.mem_cons.1 hz with rfl | hz
  · exact a0 y hy
  · exact ltI_trans (a0 y hy) (a1 z hz)
theorem ltI_ne {x y : It} (h : ltI x y) : x.1 ≠ y.1 := fun e => by
  unfold ltI at h
  rw [e] at h
  exact List.lt_irrefl _ h
theorem take_ne {L : List It} {x : It} {p : Nat} (h0 : ∀ i, i < p → i < L.length → ltI (itAt L i) x) : ∀ y ∈ L.take p, y.1 ≠ x.1 := by
  intro y hy
  obtain ⟨i, hi, rfl⟩ := List.getElem_of_mem hy
  rw [List.length_take] at hi
  have := h0 i (by omega) (by omega)
  rw [itAt_of (show i < L.length by omega)] at this
  rw [List.getElem_take]; exact ltI_ne this
theorem drop_ne {L : List It} {x : It} {q : Nat} (h1 : ∀ i, q ≤ i → i < L.length → ltI x (itAt L i)) : ∀ y ∈ L.drop q, y.1 ≠ x.1 := by
  intro y hy
  obtain ⟨i, hi, rfl⟩ := List.getElem_of_mem hy
  rw [List.length_drop] at hi
  have := h1 (q + i) (by omega) (by omega)
  rw [itAt_of (show q + i < L.length by omega)] at this
  rw [List.getElem_drop]; exact fun e => ltI_ne this e.symm
/-- One more, of a new index. -/
theorem set_new {L : List It} {x : It} {p : Nat} (hs : L.Pairwise ltI) (h0 : ∀ i, i < p → i < L.length → ltI (itAt L i) x) (h1 : ∀ i, p ≤ i → i < L.length → ltI x (itAt L i)) :
    others L x = L ∧ L.take p ++ x :: L.drop p = insIt x (others L x) := by
  have he : others L x = L := by
    refine List.filter_eq_self.2 fun y hy => decide_eq_true ?_
    rw [← List.take_append_drop p L] at hy
    rcases List.mem_append.1 hy with hy | hy
    · exact take_ne h0 y hy
    · exact drop_ne h1 y hy
  refine ⟨he, set_sorted hs ?_ (rise_mid hs (Nat.le_refl p) h0 h1)⟩
  rw [he]
  conv => rhs; rw [← List.take_append_drop p L]
  rw [List.append_assoc]
  exact List.Perm.append_left _ (List.perm_append_singleton x _).symm
/-- One in another one's place. -/
theorem set_there {L : List It} {x : It} {p : Nat} (hs : L.Pairwise ltI) (hp : p < L.length) (he : (itAt L p).1 = x.1) :
    (others L x).length + 1 = L.length ∧ L.take p ++ x :: L.drop (p + 1) = insIt x (others L x) := by
  have h0 : ∀ i, i < p → i < L.length → ltI (itAt L i) x := fun i hi _ => by
    have := itAt_rise hs hi hp
    unfold ltI at this ⊢
    rwa [he] at this
  have h1 : ∀ i, p + 1 ≤ i → i < L.length → ltI x (itAt L i) := fun i hi hl => by
    have := itAt_rise hs (show p < i by omega) hl
    unfold ltI at this ⊢
    rwa [he] at this
  have ho : others L x = L.take p ++ L.drop (p + 1) := by
    unfold others
    conv => lhs; rw [← List.take_append_drop p L, drop_at hp]
    rw [List.filter_append, List.filter_cons_of_neg (by simp [he]), List.filter_eq_self.2 (fun y hy => decide_eq_true (take_ne h0 y hy)), List.filter_eq_self.2 (fun y hy => decide_eq_true (drop_ne h1 y hy))]
  refine ⟨by rw [ho]; simp; omega, set_sorted hs ?_ (rise_mid hs (Nat.le_succ p) h0 h1)⟩
  rw [ho, List.append_assoc]
  exact List.Perm.append_left _ (List.perm_append_singleton x _).symm
end Go.Proofs.YtenlpbcembadcaaDoor
/- Where an index lies, or would: the library's binary search over the program's comparison. -/
namespace Go.Proofs.YtenlpbcembadcaaDoor
open Go.RowKit

theorem cmp_lt : ∀ a b : List UInt8, Lib.compareBytes a b < 0 ↔ a < b
  | [], [] => by simp [Lib.compareBytes]
  | [], _ :: _ => by simp [Lib.compareBytes]
  | _ :: _, [] => by simp [Lib.compareBytes]
  | a :: r, b :: s => by
    rw [List.cons_lt_cons_iff, ← cmp_lt r s]
    rw [show Lib.compareBytes (a :: r) (b :: s) = if a < b then -1 else if b < a then 1 else Lib.compareBytes r s from by rw [Lib.compareBytes]]
    by_cases h1 : a < b
    · rw [if_pos h1]; simp [h1]
    · rw [if_neg h1]
      by_cases h2 : b < a
      · rw [if_pos h2]
        have : a ≠ b := fun e => by subst e; exact h1 h2
        simp [h1, this]
      · rw [if_neg h2]
        have e : a = b := by
          apply UInt8.toNat_inj.1
          rw [UInt8.lt_iff_toNat_lt] at h1 h2
          omega
        simp [e]
theorem cmp_eq0 : ∀ a b : List UInt8, Lib.compareBytes a b = 0 ↔ a = b
  | [], [] => by simp [Lib.compareBytes]
  | [], _ :: _ => by simp [Lib.compareBytes]
  | _ :: _, [] => by simp [Lib.compareBytes]
  | a :: r, b :: s => by
    rw [List.cons.injEq, ← cmp_eq0 r s]
    rw [show Lib.compareBytes (a :: r) (b :: s) = if a < b then -1 else if b < a then 1 else Lib.compareBytes r s from by rw [Lib.compareBytes]]
    by_cases h1 : a < b
    · rw [if_pos h1]
      have : a ≠ b := fun e => by subst e; exact absurd h1 (by simp)
      simp [this]
    · rw [if_neg h1]
      by_cases h2 : b < a
      · rw [if_pos h2]
        have : a ≠ b := fun e => by subst e; exact h1 h2
        simp [this]
      · rw [if_neg h2]
        have e : a = b := by
          apply UInt8.toNat_inj.1
          rw [UInt8.lt_iff_toNat_lt] at h1 h2
          omega
        simp [e]
set_option maxRecDepth 100000 in
theorem compareString_any (a b : ByteArray) (w : World) :
    Calls Tryd.prog 92 #[.string a, .string b] w fun e w' => e = .returned (.int .i64 (Lib.compareBytes a.data.toList b.data.toList)) ∧ w' = w := by
  go_enter Tryd.func92, Tryd.ntmps92
  go_wp2
  rw [run_callFunc_extern Tryd.func101 (by kernel_rfl) (by kernel_rfl) (by kernel_rfl) (e := Extern.BytealgCompare.compare) (by kernel_rfl), Lib.run_compareString]
  simp only [Result.andThen]
  rw [Oper.upon_value]
  go_wp2
  go_ret
  exact ⟨rfl, rfl⟩
theorem compare_any (a b : ByteArray) (w : World) :
    Calls Tryd.prog 76 #[.string a, .string b] w fun e w' => e = .returned (.int .i64 (Lib.compareBytes a.data.toList b.data.toList)) ∧ w' = w := by
  go_enter Tryd.func76, Tryd.ntmps76
  go_wp2_with fail
  refine (compareString_any a b _).mono ?_
  rintro e w1 ⟨rfl, rfl⟩
  go_wp2
  go_ret
  exact ⟨rfl, rfl⟩
theorem tSet1_any (y : It) (ix : ByteArray) (w : World) :
    Calls Tryd.prog 75 #[.agg #[.string y.1, .string y.2], .string ix] w fun e w' => e = .returned (.int .i64 (Lib.compareBytes y.1.data.toList ix.data.toList)) ∧ Below w.heap.size w w' := by
  have HB0 := Lib.hid (alloc_below w (.cells #[.string y.1, .string y.2] 24))
  have hc0 : (w.alloc (.cells #[.string y.1, .string y.2] 24)).cell? ⟨w.heap.size, 0, none⟩ = some (.string y.1) := cell_of_row _ w.heap.size 0 _ 24 (0, 0) (heap_alloc_new _ _)
  go_enter Tryd.func75, Tryd.ntmps75
  go_wp2_with fail
  refine (compare_any y.1 ix _).mono ?_
  rintro e w1 ⟨rfl, rfl⟩
  clear hc0
  go_wp2
  go_ret
  exact ⟨rfl, HB0.out⟩
/-- A place, and whether it is there. -/
structure Spot where
  p : Nat
  b : Bool
structure Spot.Of (s : Spot) (L : List It) (x : It) : Prop where
  le : s.p ≤ L.length
  low : ∀ i, i < s.p → i < L.length → ltI (itAt L i) x
  there : s.b = true → s.p < L.length ∧ (itAt L s.p).1 = x.1
  high : s.b = false → ∀ i, s.p ≤ i → i < L.length → ltI x (itAt L i)
set_option maxRecDepth 100000 in
theorem tSeek_any (L : List It) (A : Option Addr) (cap : Nat) (x : It) (w : World) (hl : L.length ≤ 1000000) (hm : Itms w A L) (hs : L.Pairwise ltI) :
    Calls Tryd.prog 74 #[.slice A L.length cap, .string x.1, .func (.func 75) #[] #[]] w fun e w' => Below w.heap.size w w' ∧ ∃ s : Spot, s.Of L x ∧ e = .returned (.tuple #[.int .i64 (s.p : Int), .bool s.b]) := by
  have HM := Lib.hid hm
  have HS := Lib.hid hs
  clear hm hs
  go_enter Tryd.func74, Tryd.ntmps74
  go_wp2
  go_loopw [9, 10] (fun i j wr => ∃ p q : Nat, p ≤ q ∧ q ≤ L.length ∧ i = .int .i64 (p : Int) ∧ j = .int .i64 (q : Int) ∧ (∀ m, m < p → m < L.length → ltI (itAt L m) x) ∧ (∀ m, q ≤ m → m < L.length → ¬ ltI (itAt L m) x) ∧ Below w.heap.size w wr) (fun i j _ => (intOf j).toNat - (intOf i).toNat)
  case atStart => exact ⟨0, L.length, by omega, by omega, rfl, rfl, fun m hm => by omega, fun m h1 h2 => by omega, Below.refl _ _⟩
  case round =>
    obtain ⟨p, q, hpq, hq, rfl, rfl, h0, h1, hb⟩ := hrel
    have H0 := Lib.hid h0
    have H1 := Lib.hid h1
    have HB := Lib.hid hb
    clear h0 h1 hb
    by_cases hlt : p < q
    · obtain ⟨h, hh⟩ : ∃ h, (p + q) / 2 = h := ⟨_, rfl⟩
      have hph : p ≤ h := by omega
      have hhq : h < q := by omega
      have hhl : h < L.length := by omega
      have HV : ((p : Int) + (q : Int)) / 2 = (h : Int) := by omega
      have hv2 : (h : Int) < (L.length : Int) := by omega
      have hmk := Itms.below HM.out HB.out
      obtain ⟨a, rfl, hal, c0, c1⟩ := hmk.at_ hhl
      have d2 : wr.cell? ⟨(a.add (h * 2)).block, (a.add (h * 2)).off + 1, none⟩ = some (.string (itAt L h).2) := c1
      clear hmk hh c1 hal
      generalize hy : itAt L h = y at c0 d2
      have HY := Lib.hid hy
      clear hy
      go_wp2_with fail
      refine (tSet1_any y x.1 _).mono ?_
      rintro e w1 ⟨rfl, hb1⟩
      have HB1 := Lib.hid (HB.out.trans (hb1.mono HB.out.size))
      clear hb1 c0 d2 HV
      by_cases hc : ltI y x
      · have hneg : Lib.compareBytes y.1.data.toList x.1.data.toList < 0 := (cmp_lt _ _).2 hc
        have HH := Lib.hid (show ∀ m, m < h + 1 → m < L.length → ltI (itAt L m) x from fun m h1 _ => by
          rcases (show m = h ∨ m < h by omega) with rfl | h2
          · rw [HY.out]; exact hc
          · exact ltI_trans (itAt_rise HS.out h2 hhl) (by rw [HY.out]; exact hc))
        clear hc
        generalize Lib.compareBytes y.1.data.toList x.1.data.toList = c at hneg
        go_wp2
        go_roundw
        case rel => exact ⟨h + 1, q, by omega, hq, by go_num, rfl, HH.out, H1.out, HB1.out⟩
        case measure => simp [intOf]; omega
      · have hneg : ¬ Lib.compareBytes y.1.data.toList x.1.data.toList < 0 := fun e => hc ((cmp_lt _ _).1 e)
        have HH := Lib.hid (show ∀ m, h ≤ m → m < L.length → ¬ ltI (itAt L m) x from fun m h1 h3 h4 => by
          rcases (show m = h ∨ h < m by omega) with rfl | h2
          · rw [HY.out] at h4; exact hc h4
          · have := ltI_trans (itAt_rise HS.out h2 h3) h4
            rw [HY.out] at this; exact hc this)
        clear hc
        generalize Lib.compareBytes y.1.data.toList x.1.data.toList = c at hneg
        go_wp2
        go_roundw
        case rel => exact ⟨p, h, hph, by omega, rfl, rfl, H0.out, HH.out, HB1.out⟩
        case measure => simp [intOf]; omega
    · have hpq' : p = q := by omega
      subst hpq'
      clear hlt hpq
      by_cases hpl : p < L.length
      · have hv2 : (p : Int) < (L.length : Int) := by omega
        have hmk := Itms.below HM.out HB.out
        obtain ⟨a, rfl, hal, c0, c1⟩ := hmk.at_ hpl
        have d2 : wr.cell? ⟨(a.add (p * 2)).block, (a.add (p * 2)).off + 1, none⟩ = some (.string (itAt L p).2) := c1
        clear hmk c1 hal
        generalize hy : itAt L p = y at c0 d2
        have HY := Lib.hid hy
        clear hy
        go_wp2_with fail
        refine (tSet1_any y x.1 _).mono ?_
        rintro e w1 ⟨rfl, hb1⟩
        have HB1 := Lib.hid (HB.out.trans (hb1.mono HB.out.size))
        clear hb1 c0 d2
        by_cases he : y.1 = x.1
        · have hz : Lib.compareBytes y.1.data.toList x.1.data.toList = 0 := (cmp_eq0 _ _).2 (by rw [he])
          rw [hz]
          have HE := Lib.hid he
          clear he hz
          go_wp2
          refine bodyPost_ret (results_tmp2 rfl _ _ _) rfl ?_
          exact ⟨HB1.out, ⟨p, true⟩, ⟨hq, H0.out, fun _ => ⟨hpl, by rw [HY.out]; exact HE.out⟩, fun h => by cases h⟩, rfl⟩
        · have hz : (Lib.compareBytes y.1.data.toList x.1.data.toList == 0) = false := by
            rw [beq_eq_false_iff_ne]
            intro e
            exact he (text_of ((cmp_eq0 _ _).1 e))
          have HE := Lib.hid (show ∀ i, p ≤ i → i < L.length → ltI x (itAt L i) from fun i h1 h2 => by
            have h3 := H1.out p (Nat.le_refl p) hpl
            rw [HY.out] at h3
            have h4 : ltI x y := ltI_total h3 he
            rcases (show i = p ∨ p < i by omega) with rfl | h5
            · rw [HY.out]; exact h4
            · exact ltI_trans h4 (by have := itAt_rise HS.out h5 h2; rwa [HY.out] at this))
          clear he
          generalize Lib.compareBytes y.1.data.toList x.1.data.toList = c at hz
          go_wp2
          refine bodyPost_ret (results_tmp2 rfl _ _ _) rfl ?_
          exact ⟨HB1.out, ⟨p, false⟩, ⟨hq, H0.out, (fun h => by cases h), fun _ => HE.out⟩, rfl⟩
      · have hv2 : ¬ (p : Int) < (L.length : Int) := by omega
        go_wp2
        refine bodyPost_ret (results_tmp2 rfl _ _ _) rfl ?_
        exact ⟨HB.out, ⟨p, false⟩, ⟨hq, H0.out, (fun h => by cases h), fun _ i h1 h2 => by have : p ≤ i := h1; omega⟩, rfl⟩
end Go.Proofs.YtenlpbcembadcaaDoor
