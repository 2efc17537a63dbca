/- Parts of the proof, one behind the other: PTrie, PEnd, PRoot. -/
import Derived.Test.YtcfpmofmjnhonaaGreatDoorM10
import Derived.Test.YtcfpmofmjnhonaaGreatDoorM8
import Derived.Test.YtcfpmofmjnhonaaGreatDoorM12
import Derived.Test.YtcfpmofmjnhonaaGreatDoorM5
import Derived.Test.YtcfpmofmjnhonaaGreatDoorM35
import Derived.Test.YtcfpmofmjnhonaaGreatDoorM16
/- The program's trie: isMark, bit, Right, Empty, Leaf, Join. -/
namespace Go.Proofs.YtcfpmofmjnhonaaGreatDoor
open Go.RowKit

theorem tMark_any (s : ByteArray) (w : World) : Calls Tryz.prog 126 #[.string s] w fun e w' => e = .returned (.bool (decide (s.size = 16))) ∧ w' = w := by
  by_cases h : s.size = 16
  · go_enter Tryz.func126, Tryz.ntmps126
    go_wp2
    go_ret
    exact ⟨by simp [h], rfl⟩
  · go_enter Tryz.func126, Tryz.ntmps126
    go_wp2
    go_ret
    refine ⟨?_, rfl⟩
    simp [h]; omega
theorem tBit_any (ix : ByteArray) (d : Nat) (w : World) (h16 : ix.size = 16) (hd : d < 128) :
    Calls Tryz.prog 128 #[.string ix, .int .i64 (d : Int)] w fun e w' => e = .returned (.int .i64 ((bitOf ix.data.toList d : Nat) : Int)) ∧ w' = w := by
  have HB := Lib.hid (show bitAns ix (d : Int) = (((bitOf ix.data.toList d : Nat) : Int), 0) by
    unfold bitAns
    rw [if_pos h16, if_pos (by omega), Int.toNat_natCast])
  clear h16 hd
  go_enter Tryz.func128, Tryz.ntmps128
  go_wp2_with fail
  refine (ixBit_is ix d _ 0 _ HB.out).mono ?_
  rintro e w1 ⟨rfl, rfl⟩
  go_wp2
  go_ret
  exact ⟨rfl, rfl⟩
theorem tEmpty_any (d : Int) (w : World) (hk : HasK w) : Calls Tryz.prog 181 #[.int .i64 d] w fun e w' => e = .returned (.string (emptyM d)) ∧ Below w.heap.size w w' := by
  have HK := Lib.hid hk
  clear hk
  go_enter Tryz.func181, Tryz.ntmps181
  go_wp2_with fail
  refine (num_any d _).mono ?_
  rintro e w1 ⟨rfl, hb1⟩
  have HB1 := Lib.hid hb1
  clear hb1
  go_wp2_with fail
  refine (mark_any 101 [txt (num8 d)] (some ⟨w1.heap.size, 0, none⟩) 1 _ ((HK.out.below HB1.out HK.out.lt).below (alloc_below w1 _) (Nat.lt_of_lt_of_le HK.out.lt HB1.out.size)) (by simp [total, num_size]) (by simp) (strs_new w1 [txt (num8 d)] 9)).mono ?_
  rintro e w2 ⟨rfl, hb2⟩
  have HB2 := Lib.hid (HB1.out.trans ((alloc_below w1 (.cells #[.string (txt (num8 d))] 9)).mono HB1.out.size |>.trans (hb2.mono (Nat.le_trans HB1.out.size (by simp)))))
  clear hb2
  go_wp2
  go_ret
  exact ⟨rfl, HB2.out⟩
theorem tJoin_any (x y : ByteArray) (w : World) (hk : HasK w) (hx : x.size ≤ 1000000) (hy : y.size ≤ 1000000) :
    Calls Tryz.prog 183 #[.string x, .string y] w fun e w' => e = .returned (.string (joinM x y)) ∧ Below w.heap.size w w' := by
  have HK := Lib.hid hk
  clear hk
  go_enter Tryz.func183, Tryz.ntmps183
  go_wp2_with fail
  refine (mark_any 110 [x, y] (some ⟨w.heap.size, 0, none⟩) 2 _ (HK.out.below (alloc_below w _) HK.out.lt) (by simp [total]; omega) (by simp) (strs_new w [x, y] 9)).mono ?_
  rintro e w2 ⟨rfl, hb2⟩
  have HB2 := Lib.hid ((alloc_below w (.cells #[.string x, .string y] 9)).trans (hb2.mono (by simp)))
  clear hb2
  go_wp2
  go_ret
  exact ⟨rfl, HB2.out⟩
set_option maxRecDepth 100000 in
theorem tLeaf_any (x : It) (d : Int) (w : World) (hk : HasK w) (hx : x.1.size ≤ 1000000) (hy : x.2.size ≤ 1000000) :
    Calls Tryz.prog 182 #[.agg #[.string x.1, .string x.2], .int .i64 d] w fun e w' => e = .returned (.string (leafM x d)) ∧ Below w.heap.size w w' := by
  have HK := Lib.hid hk
  have HX := Lib.hid hx
  have HY := Lib.hid hy
  clear hk hx hy
  go_enter Tryz.func182, Tryz.ntmps182
  go_wp2
  have hb1 : Below w.heap.size w (w.alloc (.cells #[.string x.1, .string x.2] 61)) := alloc_below _ _
  have hN1 : w.heap.size < (w.alloc (.cells #[.string x.1, .string x.2] 61)).heap.size := by simp
  have e0 : (w.alloc (.cells #[.string x.1, .string x.2] 61)).cell? ⟨w.heap.size, 0, none⟩ = some (.string x.1) := cell_of_row _ w.heap.size 0 _ 61 (0, 0) (heap_alloc_new _ _)
  have e1 : (w.alloc (.cells #[.string x.1, .string x.2] 61)).cell? ⟨w.heap.size, 1, none⟩ = some (.string x.2) := cell_of_row _ w.heap.size 1 _ 61 (0, 0) (heap_alloc_new _ _)
  have HB1 := Lib.hid hb1
  have E0 := Lib.hid e0
  have E1 := Lib.hid e1
  clear hb1 e0 e1
  generalize hw1 : w.alloc (.cells #[.string x.1, .string x.2] 61) = w1 at HB1 E0 E1 hN1
  clear hw1
  have hs0 : w1.cell? ⟨w.heap.size, 0, none⟩ = some (.string x.1) ∧ w1.cell? ⟨w.heap.size, 1, none⟩ = some (.string x.2) ∧ Below w1.heap.size w1 w1.drew := ⟨E0.out, E1.out, (Below.refl _ _).drew⟩
  have KEEP : ∀ u v : World, (u.cell? ⟨w.heap.size, 0, none⟩ = some (.string x.1) ∧ u.cell? ⟨w.heap.size, 1, none⟩ = some (.string x.2) ∧ Below w1.heap.size w1 u) → Below u.heap.size u v → (v.cell? ⟨w.heap.size, 0, none⟩ = some (.string x.1) ∧ v.cell? ⟨w.heap.size, 1, none⟩ = some (.string x.2) ∧ Below w1.heap.size w1 v) :=
    fun u v ⟨h0, h1, hb⟩ hv => ⟨(hv.cell (by have := hb.size; show w.heap.size < _; omega)).trans h0, (hv.cell (by have := hb.size; show w.heap.size < _; omega)).trans h1, hb.trans (hv.mono hb.size)⟩
  have HKEEP := Lib.hid KEEP
  have HS0 := Lib.hid hs0
  have HHOLD := Lib.hid (show ∀ u : World, (u.cell? ⟨w.heap.size, 0, none⟩ = some (.string x.1) ∧ u.cell? ⟨w.heap.size, 1, none⟩ = some (.string x.2) ∧ Below w1.heap.size w1 u) → HasK u from fun u hu => (HK.out.below HB1.out HK.out.lt).below hu.2.2 (Nat.lt_of_lt_of_le HK.out.lt HB1.out.size))
  have HTOT := Lib.hid (show total [txt (num8 d), x.1, x.2] ≤ 1073741800 by have := HX.out; have := HY.out; simp [total, num_size]; omega)
  clear KEEP hs0
  go_region_held3 (fun w' => w'.cell? ⟨w.heap.size, 0, none⟩ = some (.string x.1) ∧ w'.cell? ⟨w.heap.size, 1, none⟩ = some (.string x.2) ∧ Below w1.heap.size w1 w') (first | exact HS0.out | (refine HKEEP.out _ _ ?_ (by assumption); first | exact HS0.out | assumption | exact ⟨by assumption, by assumption, by assumption⟩) | (refine HKEEP.out _ _ ?_ (alloc_below _ _); first | exact HS0.out | assumption | exact ⟨by assumption, by assumption, by assumption⟩))
    (first | (go_at_call 104; refine (num_any d _).mono ?_; rintro e w2 ⟨rfl, hb2⟩) | (go_at_call 55; refine (mark_any 108 [txt (num8 d), x.1, x.2] (some ⟨_, 0, none⟩) 3 _ (HHOLD.out _ (by assumption)) HTOT.out (by simp) (strs_new _ [txt (num8 d), x.1, x.2] 9)).mono ?_; rintro e w2 ⟨rfl, hb2⟩))
  rename_i _ _ w2 _ hheld
  have HB2 := Lib.hid (HB1.out.trans (hheld.2.2.mono HB1.out.size))
  clear hheld
  go_wp2
  go_ret
  exact ⟨rfl, HB2.out⟩
theorem ge_cases {x y : It} {j : Nat} (m1 : x.1.size = 16) (m2 : x.2.size = 16) :
    (Op.bytesLess y.1.toList x.1.toList = true ∧ (decide (x.1.size = 16) && decide (x.2.size = 16) && (decide (j + 1 = 0) || decide (y.1.data.toList < x.1.data.toList))) = true) ∨
    (Op.bytesLess y.1.toList x.1.toList = false ∧ (decide (x.1.size = 16) && decide (x.2.size = 16) && (decide (j + 1 = 0) || decide (y.1.data.toList < x.1.data.toList))) = false) := by
  rw [decide_eq_true m1, decide_eq_true m2, decide_eq_false (show ¬ j + 1 = 0 by omega), bytesLess_eq, ByteArray.toList_eq, ByteArray.toList_eq]
  by_cases h2 : y.1.data.toList < x.1.data.toList
  · exact .inl ⟨by simp [h2], by rw [decide_eq_true h2]; rfl⟩
  · exact .inr ⟨by simp [h2], by rw [decide_eq_false h2]; rfl⟩
set_option maxRecDepth 100000 in
theorem tRight_any (L : List It) (A : Option Addr) (cap : Nat) (w : World) (hl : L.length ≤ 1000000) (hm : Itms w A L) :
    Calls Tryz.prog 125 #[.slice A L.length cap] w fun e w' => e = .returned (.bool (rightItems L)) ∧ Below w.heap.size w w' := by
  have HM := Lib.hid hm
  clear hm
  by_cases h60 : 60 < L.length
  · have HF := Lib.hid (show rightItems L = false by unfold rightItems; rw [decide_eq_false (show ¬ L.length ≤ 60 by omega), Bool.and_false])
    go_enter Tryz.func125, Tryz.ntmps125
    go_wp2
    go_ret
    exact ⟨by rw [HF.out]; rfl, Below.refl _ _⟩
  · have h60' : ¬ (60 : Int) < (L.length : Int) := by omega
    have HLE := Lib.hid (show L.length ≤ 60 by omega)
    clear h60
    go_enter Tryz.func125, Tryz.ntmps125
    go_wp2
    go_loopw [10] (fun i wr => ∃ k : Nat, k ≤ L.length ∧ i = .int .i64 (k : Int) ∧ goodItems L k = true ∧ Below w.heap.size w wr) (fun i _ => L.length - (intOf i).toNat)
    case atStart => exact ⟨0, by omega, rfl, rfl, Below.refl _ _⟩
    case round =>
      obtain ⟨k, hk, rfl, hg, hb⟩ := hrel
      have HG := Lib.hid hg
      have HB := Lib.hid hb
      clear hg hb
      by_cases hlt : k < L.length
      · obtain ⟨a, rfl, hal, c0, c1⟩ := HM.out.at_ hlt
        have hal' : a.block < w.heap.size := hal
        have d0 : wr.cell? (a.add (k * 2)) = some (.string (itAt L k).1) := (HB.out.cell (by rw [block_add]; exact hal)).trans c0
        have d1 : wr.cell? ((a.add (k * 2)).add 1) = some (.string (itAt L k).2) := (HB.out.cell (by rw [block_add, block_add]; exact hal)).trans c1
        have d2 : wr.cell? ⟨(a.add (k * 2)).block, (a.add (k * 2)).off + 1, none⟩ = some (.string (itAt L k).2) := d1
        clear c0 c1 hal d1
        generalize hxk : itAt L k = x at d0 d2
        have HXK := Lib.hid hxk
        clear hxk
        go_wp2_with fail
        have hb1 : Below w.heap.size w (wr.alloc (.cells #[.string x.1, .string x.2] 61)) := HB.out.alloc HB.out.size _
        have hN1 : wr.heap.size < (wr.alloc (.cells #[.string x.1, .string x.2] 61)).heap.size := by simp
        have e0 : (wr.alloc (.cells #[.string x.1, .string x.2] 61)).cell? ⟨wr.heap.size, 0, none⟩ = some (.string x.1) := cell_of_row _ wr.heap.size 0 _ 61 (0, 0) (heap_alloc_new _ _)
        have e1 : (wr.alloc (.cells #[.string x.1, .string x.2] 61)).cell? ⟨wr.heap.size, 1, none⟩ = some (.string x.2) := cell_of_row _ wr.heap.size 1 _ 61 (0, 0) (heap_alloc_new _ _)
        have HB1 := Lib.hid hb1
        clear hb1 d0 d2
        generalize hw1 : wr.alloc (.cells #[.string x.1, .string x.2] 61) = w1 at HB1 e0 e1 hN1
        clear hw1
        refine (tMark_any x.1 _).mono ?_
        rintro e w1 ⟨rfl, rfl⟩
        by_cases m1 : x.1.size = 16
        · rw [decide_eq_true m1]
          go_wp2_with fail
          refine (tMark_any x.2 _).mono ?_
          rintro e w1 ⟨rfl, rfl⟩
          by_cases m2 : x.2.size = 16
          · rw [decide_eq_true m2]
            cases k with
            | zero =>
              have HG1 := Lib.hid (show goodItems L (0 + 1) = true by rw [goodItems_next, HG.out, Bool.true_and]; unfold goodItem; rw [HXK.out]; simp [m1, m2])
              clear m1 m2
              go_wp2
              go_quiet (fail)
              go_wp2
              go_roundw
              case rel => exact ⟨0 + 1, by omega, by go_num, HG1.out, below_drew HB1.out _⟩
              case measure => simp [intOf]; omega
            | succ j =>
              obtain ⟨a', ha', _, f0, _⟩ := HM.out.at_ (show j < L.length by omega)
              cases ha'
              have g0 : w1.cell? (a.add (j * 2)) = some (.string (itAt L j).1) := (HB1.out.cell (by rw [block_add]; exact hal')).trans f0
              generalize hyk : itAt L j = y at g0
              have HYK := Lib.hid hyk
              clear hyk f0
              have hlq : (((j + 1 : Nat) : Int)) = (j : Int) + 1 := by omega
              have s1 : IntKind.i64.wrap (((j + 1 : Nat) : Int) - 1) = (j : Int) := by rw [hlq, show (j : Int) + 1 - 1 = (j : Int) by omega]; exact IntWalk.i64_in _ (by omega)
              have s2 : (0 : Int) < ((j + 1 : Nat) : Int) := by omega
              have s3 : (j : Int) < (L.length : Int) := by omega
              have hcase : (Op.bytesLess y.1.toList x.1.toList = true ∧ goodItem L (j + 1) = true) ∨ (Op.bytesLess y.1.toList x.1.toList = false ∧ goodItem L (j + 1) = false) := by
                unfold goodItem
                rw [HXK.out, show j + 1 - 1 = j from rfl, HYK.out]
                exact ge_cases m1 m2
              clear m1 m2 hlq
              rcases hcase with ⟨b1, hgi⟩ | ⟨b1, hgi⟩
              · have HG1 := Lib.hid (show goodItems L (j + 1 + 1) = true by rw [goodItems_next, HG.out, Bool.true_and, hgi])
                clear hgi
                go_wp2
                go_quiet (fail)
                go_wp2
                go_roundw
                case rel => exact ⟨j + 1 + 1, by omega, by go_num, HG1.out, below_drew HB1.out _⟩
                case measure => simp [intOf]; omega
              · have HF := Lib.hid (show rightItems L = false by unfold rightItems; rw [goodItems_false hgi hlt]; rfl)
                clear hgi
                go_wp2
                go_quiet (fail)
                go_wp2
                go_ret
                exact ⟨by rw [HF.out]; rfl, below_drew HB1.out _⟩
          · have HF := Lib.hid (show rightItems L = false by unfold rightItems; rw [goodItems_false (k := k) (by unfold goodItem; rw [HXK.out, decide_eq_false m2]; simp) hlt]; rfl)
            rw [decide_eq_false m2]
            clear m1 m2
            go_wp2
            go_ret
            exact ⟨by rw [HF.out]; rfl, HB1.out⟩
        · have HF := Lib.hid (show rightItems L = false by unfold rightItems; rw [goodItems_false (k := k) (by unfold goodItem; rw [HXK.out, decide_eq_false m1]; simp) hlt]; rfl)
          rw [decide_eq_false m1]
          clear m1
          go_wp2
          go_ret
          exact ⟨by rw [HF.out]; rfl, HB1.out⟩
      · have hkn : k = L.length := by omega
        have HF := Lib.hid (show rightItems L = true by
          unfold rightItems
          rw [← hkn, HG.out, Bool.true_and, decide_eq_true_eq, hkn]; exact HLE.out)
        clear hkn
        go_wp2
        go_ret
        exact ⟨by rw [HF.out]; rfl, HB.out⟩
end Go.Proofs.YtcfpmofmjnhonaaGreatDoor
/- The program's mark of what lies at a way's end. -/
namespace Go.Proofs.YtcfpmofmjnhonaaGreatDoor
open Go.RowKit

set_option maxRecDepth 100000 in
theorem pEnd_any (P : List ByteArray) (A : Option Addr) (cap : Nat) (x : It) (w : World) (hk : HasK w) (hx : x.1.size ≤ 1000000) (hy : x.2.size ≤ 1000000) (hxx : x.1.size = 0 → x.2.size = 0) :
    Calls Tryz.prog 192 #[.agg #[.slice A P.length cap, .string x.1, .string x.2]] w fun e w' => e = .returned (.string (startOf P x)) ∧ Below w.heap.size w w' := by
  have HB0 := Lib.hid (alloc_below w (.cells #[.slice A P.length cap, .string x.1, .string x.2] 63))
  have HH0 := Lib.hid (show Holds (w.alloc (.cells #[.slice A P.length cap, .string x.1, .string x.2] 63)) w.heap.size 3 (pCells (.slice A P.length cap) x) 63 from Holds.new w 3 (pCells (.slice A P.length cap) x) 63)
  have HK := Lib.hid hk
  clear hk
  obtain ⟨S, hS⟩ : ∃ S, startOf P x = S := ⟨_, rfl⟩
  rw [hS]
  have HS := Lib.hid hS
  clear hS
  go_enter Tryz.func192, Tryz.ntmps192
  go_wp2_with fail
  generalize w.alloc (.cells #[.slice A P.length cap, .string x.1, .string x.2] 63) = w0 at HB0 HH0
  refine (pEmpty_any x _).mono ?_
  rintro e w1 ⟨rfl, hb1⟩
  have HB1 := Lib.hid (HB0.out.trans (hb1.mono HB0.out.size))
  have HH1 := Lib.hid (HH0.out.below hb1 HH0.out.lt)
  clear hb1 HB0 HH0
  have p0 : w1.cell? ⟨w.heap.size, 0, none⟩ = some (.slice A P.length cap) := HH1.out.cell 0 (by omega)
  have p1 : w1.cell? ⟨w.heap.size, 1, none⟩ = some (.string x.1) := HH1.out.cell 1 (by omega)
  have p2 : w1.cell? ⟨w.heap.size, 2, none⟩ = some (.string x.2) := HH1.out.cell 2 (by omega)
  by_cases hz : x.1.size = 0
  · have hF : S = emptyM P.length := by rw [← HS.out]; unfold startOf; rw [if_pos hz]
    subst hF
    rw [decide_eq_true ⟨hz, hxx hz⟩]
    clear hz hxx
    go_wp2_with fail
    refine (tEmpty_any P.length _ (HK.out.below HB1.out HK.out.lt)).mono ?_
    rintro e w2 ⟨rfl, hb2⟩
    have HB2 := Lib.hid (HB1.out.trans (hb2.mono HB1.out.size))
    clear hb2
    go_wp2
    go_ret
    exact ⟨rfl, HB2.out⟩
  · have hF : S = leafM x P.length := by rw [← HS.out]; unfold startOf; rw [if_neg hz]
    subst hF
    rw [decide_eq_false (fun e => hz e.1)]
    clear hz hxx
    go_wp2_with fail
    refine (tLeaf_any x P.length _ (HK.out.below HB1.out HK.out.lt) hx hy).mono ?_
    rintro e w2 ⟨rfl, hb2⟩
    have HB2 := Lib.hid (HB1.out.trans (hb2.mono HB1.out.size))
    clear hb2
    go_wp2
    go_ret
    exact ⟨rfl, HB2.out⟩
end Go.Proofs.YtcfpmofmjnhonaaGreatDoor
/- The program's Root: from a leaf's mark back along the path, by a range over slices.Backward. -/
namespace Go.Proofs.YtcfpmofmjnhonaaGreatDoor
open Go.RowKit Go.Shelf
attribute [local go_sem] Oper.semAt_some

def leadStep (ix : ByteArray) (P : List ByteArray) (s : ByteArray) (k : Nat) : ByteArray := if bitOf ix.data.toList k = 0 then joinM s (P.getD k ⟨#[]⟩) else joinM (P.getD k ⟨#[]⟩) s
theorem backTo_next (n : Nat) : backTo (n + 1) (n + 1) = n :: backTo n n := by
  unfold backTo
  rw [List.range_succ_eq_map, List.map_cons, List.map_map]
  congr 1
  apply List.map_congr_left
  intro j _
  show n + 1 - 1 - (j + 1) = n - 1 - j
  omega
theorem leadFrom_fold (ix : ByteArray) (P : List ByteArray) : ∀ (n : Nat) (s : ByteArray), leadFrom ix P n s = (backTo n n).foldl (leadStep ix P) s
  | 0, s => rfl
  | n + 1, s => by
    rw [backTo_next, List.foldl_cons]
    exact leadFrom_fold ix P n _
def leadTo (ix : ByteArray) (P : List ByteArray) (s : ByteArray) (ys : List (Fin P.length)) : ByteArray := (ys.map (·.val)).foldl (leadStep ix P) s
theorem leadTo_snoc (ix : ByteArray) (P : List ByteArray) (s : ByteArray) (ys : List (Fin P.length)) (x : Fin P.length) : leadTo ix P s (ys ++ [x]) = leadStep ix P (leadTo ix P s ys) x.val := by simp [leadTo]
theorem leadTo_all {ix : ByteArray} {P : List ByteArray} {s : ByteArray} {ys : List (Fin P.length)} (h : back P ys P.length) : leadTo ix P s ys = leadFrom ix P P.length s := by
  unfold leadTo
  rw [leadFrom_fold, h]
def PRight : Prop := ∀ (ix : ByteArray) (P : List ByteArray) (A : Option Addr) (cap : Nat) (x : It) (w : World), HasK w → P.length ≤ 1000000 → Strs w A P → ix.size ≤ 1000000 → x.1.size ≤ 1000000 → x.2.size ≤ 1000000 →
    Calls Tryz.prog 191 #[.string ix, .agg #[.slice A P.length cap, .string x.1, .string x.2]] w fun e w' => e = .returned (.bool (rightProof ix P x)) ∧ Below w.heap.size w w'

set_option maxHeartbeats 2000000 in
set_option maxRecDepth 100000 in
theorem pRoot_no (RT : PRight) (ix : ByteArray) (P : List ByteArray) (A : Option Addr) (cap : Nat) (x : It) (w : World) (hk : HasK w) (hl : P.length ≤ 1000000) (hm : Strs w A P) (hi : ix.size ≤ 1000000) (hx : x.1.size ≤ 1000000) (hy : x.2.size ≤ 1000000) (h : rightProof ix P x = false) :
    Calls Tryz.prog 139 #[.string ix, .agg #[.slice A P.length cap, .string x.1, .string x.2]] w fun e w' => e = .returned (.tuple #[.string ⟨#[]⟩, errOf 1]) ∧ Below w.heap.size w w' := by
  refine (callsIn_wide (n := 3)).1 ?_
  refine callsIn_of_wp_marks Tryz.func139 rfl trivial ?_ rfl
  simp only [Tryz.ntmps139, List.size_toArray, List.length_cons, List.length_nil, Nat.reduceAdd, Nat.reduceSub, Array.replicate_succ, Array.replicate_zero, List.push_toArray, List.append_toArray, List.nil_append, List.cons_append]
  gi_wp2
  have HB0 := Lib.hid (show Below w.heap.size w ((w.alloc (.cells #[.string ix] 9)).alloc (.cells #[.slice A P.length cap, .string x.1, .string x.2] 63)) from ((Below.refl _ w).alloc (Nat.le_refl _) _).alloc (by simp) _)
  refine ⟨trivial, (callsIn_wide.2 (RT ix P A cap x _ (hk.below HB0.out hk.lt) hl (hm.below HB0.out) hi hx hy)).mono ?_⟩
  rintro e w1 ⟨rfl, hb1⟩
  rw [h]
  have HB1 := Lib.hid (HB0.out.trans (hb1.mono HB0.out.size))
  clear hb1
  gi_wp2
  exact ⟨_, results_tmp2 rfl _ _ _, rfl, HB1.out⟩

def rootAct (ix : ByteArray) (P : List ByteArray) (A : Option Addr) (cap : Nat) (x : It) (bI bM bS : Nat) (j : Fin P.length) : Act :=
  { tmps := #[.string ix, .agg #[.slice A P.length cap, .string x.1, .string x.2], .pointer (some ⟨bI, 0, none⟩), .pointer (some ⟨bI + 1, 0, none⟩), .string ⟨#[]⟩, .nilIface, .pointer (some ⟨bM, 0, none⟩), .int .i64 (j.val : Int), .string (placed P j), undef, undef, .string ix,
      .agg #[.slice A P.length cap, .string x.1, .string x.2], .bool true, .bool false, undef, .agg #[.slice A P.length cap, .string x.1, .string x.2], .string (startOf P x), .pointer (some ⟨bI + 1, 0, none⟩), .slice A P.length cap,
      .func (.func 232) #[] #[.pointer (some ⟨bS, 0, none⟩)], .int .i64 (j.val : Int), .string (placed P j),
      undef, undef, undef, undef, undef, undef, undef, undef, undef, undef, undef, undef, undef, undef, undef], defers := [] }
theorem below_from {B : Nat} {W W' : World} (h : Below W.heap.size W W') : KeepsFrom B W W' := ⟨h.size, fun k _ _ hk _ => (h.block k (Array.getElem?_eq_some_iff.1 hk).1).trans hk⟩

theorem other_cell {W : World} {B : Nat} {a : Addr} {v : Value} (h : W.cell? a = some v) (hne : B ≠ a.block) (u : Value) : (W.setCell ⟨B, 0, none⟩ u).cell? a = some v :=
  (World.cell?_of_block ((grownBy_setCell' W B u).block a.block (block_lt_of_cell h) (fun e => hne (by cases e; rfl)))).trans h

set_option maxHeartbeats 4000000 in
set_option maxRecDepth 100000 in
theorem pRoot_yes (RT : PRight) (ix : ByteArray) (P : List ByteArray) (A : Option Addr) (cap : Nat) (x : It) (w : World) (hk : HasK w) (hl : P.length ≤ 1000000) (hm : Strs w A P) (hi : ix.size ≤ 1000000) (hx : x.1.size ≤ 1000000) (hy : x.2.size ≤ 1000000) (h : rightProof ix P x = true) :
    Calls Tryz.prog 139 #[.string ix, .agg #[.slice A P.length cap, .string x.1, .string x.2]] w fun e w' => e = .returned (.tuple #[.string (leadFrom ix P P.length (startOf P x)), errOf 0]) ∧ Below w.heap.size w w' := by
  refine (callsIn_wide (n := 3)).1 ?_
  refine callsIn_of_wp_marks Tryz.func139 rfl trivial ?_ rfl
  simp only [Tryz.ntmps139, List.size_toArray, List.length_cons, List.length_nil, Nat.reduceAdd, Nat.reduceSub, Array.replicate_succ, Array.replicate_zero, List.push_toArray, List.append_toArray, List.nil_append, List.cons_append]
  gi_wp2
  obtain ⟨w0, hw0⟩ : ∃ w0, (w.alloc (.cells #[.string ix] 9)).alloc (.cells #[.slice A P.length cap, .string x.1, .string x.2] 63) = w0 := ⟨_, rfl⟩
  have HB0 := Lib.hid (show Below w.heap.size w w0 by rw [← hw0]; exact ((Below.refl _ w).alloc (Nat.le_refl _) _).alloc (by simp) _)
  have hz0 : w0.heap.size = w.heap.size + 2 := by rw [← hw0]; simp
  have bI : w0.cell? ⟨w.heap.size, 0, none⟩ = some (.string ix) := by
    rw [← hw0]; exact ((alloc_below (w.alloc (.cells #[.string ix] 9)) (.cells #[.slice A P.length cap, .string x.1, .string x.2] 63)).cell (by simp)).trans (cell_of_row _ w.heap.size 0 _ 9 (0, 0) (heap_alloc_new _ _))
  have HH := Lib.hid (show Holds w0 (w.heap.size + 1) 3 (pCells (.slice A P.length cap) x) 63 by
    rw [← hw0]; have := Holds.new (w.alloc (.cells #[.string ix] 9)) 3 (pCells (.slice A P.length cap) x) 63; rw [World.size_alloc] at this; exact this)
  rw [hw0]
  clear hw0
  refine ⟨trivial, (callsIn_wide.2 (RT ix P A cap x _ (hk.below HB0.out hk.lt) hl (hm.below HB0.out) hi hx hy)).mono ?_⟩
  rintro e w1 ⟨rfl, hb1⟩
  rw [h]
  have HB1 := Lib.hid (HB0.out.trans (hb1.mono HB0.out.size))
  have HH1 := Lib.hid (HH.out.below hb1 HH.out.lt)
  replace bI := (hb1.cell (by show w.heap.size < _; omega)).trans bI
  have hz1 : w.heap.size + 2 ≤ w1.heap.size := by have := hb1.size; omega
  clear hb1 HB0 HH hz0 w0
  have p0 : w1.cell? ⟨w.heap.size + 1, 0, none⟩ = some (.slice A P.length cap) := HH1.out.cell 0 (by omega)
  have p1 : w1.cell? ⟨w.heap.size + 1, 1, none⟩ = some (.string x.1) := HH1.out.cell 1 (by omega)
  have p2 : w1.cell? ⟨w.heap.size + 1, 2, none⟩ = some (.string x.2) := HH1.out.cell 2 (by omega)
  obtain ⟨h16, h128, hmk, hxx⟩ := rightProof_facts h
  have HMK := Lib.hid hmk
  have hx0 : x.1.size = 0 → x.2.size = 0 := by rcases hxx with ⟨_, e⟩ | ⟨e, _⟩ <;> omega
  clear hmk hxx
  gi_wp2
  refine ⟨trivial, (callsIn_wide.2 (pEnd_any P A cap x _ (hk.below HB1.out hk.lt) hx hy hx0)).mono ?_⟩
  rintro e w2 ⟨rfl, hb2⟩
  have HB2 := Lib.hid (HB1.out.trans (hb2.mono HB1.out.size))
  have HH2 := Lib.hid (HH1.out.below hb2 HH1.out.lt)
  replace bI := (hb2.cell (by show w.heap.size < _; omega)).trans bI
  have hz2 : w.heap.size + 2 ≤ w2.heap.size := by have := hb2.size; omega
  clear hb2 HB1 HH1 hz1 p0 p1 p2 w1
  obtain ⟨w3, hw3⟩ : ∃ w3, w2.alloc (.cells #[.string (startOf P x)] 9) = w3 := ⟨_, rfl⟩
  have hb3 : Below w2.heap.size w2 w3 := by rw [← hw3]; exact alloc_below _ _
  have HB3 := Lib.hid (HB2.out.trans (hb3.mono HB2.out.size))
  have HH3 := Lib.hid (HH2.out.below hb3 HH2.out.lt)
  have HBX := Lib.hid (show Boxed w3 w2.heap.size 9 (.string (startOf P x)) by rw [← hw3]; exact Boxed.new w2 9 _)
  have hz3 : w2.heap.size < w3.heap.size := by rw [← hw3]; simp
  replace bI := (hb3.cell (by show w.heap.size < _; omega)).trans bI
  have p0 : w3.cell? ⟨w.heap.size + 1, 0, none⟩ = some (.slice A P.length cap) := HH3.out.cell 0 (by omega)
  clear hb3 HB2 HH2
  gi_wp2
  refine ⟨trivial, (back_in Fence.wide 2 trivial rfl _ _ _ _).mono ?_⟩
  rintro e w6 ⟨rfl, rfl⟩
  gi_wp2
  obtain ⟨t, ht⟩ : ∃ t : Fin P.length → Act, t = rootAct ix P A cap x w.heap.size w2.heap.size w3.heap.size := ⟨_, rfl⟩
  clear p0 hw3
  have HQ := Lib.hid (show (startOf P x).size = 16 from start_size P x)
  have bN := Boxed.new w3 50 (.slice A P.length cap)
  have HB4 := Lib.hid (HB3.out.trans ((alloc_below w3 (.cells #[.slice A P.length cap] 50)).mono HB3.out.size))
  have hm4 := StrsAt.below (n₀ := w.heap.size) hm HB4.out
  have bI4 := ((alloc_below w3 (.cells #[.slice A P.length cap] 50)).cell (p := ⟨w.heap.size, 0, none⟩) (show w.heap.size < w3.heap.size by omega)).trans bI
  have bX4 := HBX.out.alloc (.cells #[.slice A P.length cap] 50)
  refine wpIn_rangeFunc_ownG rfl (by omega) (gf := 232) (lb := #[.pointer (some ⟨w3.heap.size, 0, none⟩)]) rfl trivial (enters_of Tryz.func232 (by kernel_rfl) rfl)
    (back_stops Fence.wide 2 trivial rfl (by omega) w3.heap.size w.heap.size cap A P hl _ (by simp) (by simp; omega) bN.cell hm4) keepBox_t (keepBox_b (by simp; omega)) (Below.refl _ _) (fun _ => rfl)
    (fun pre W => ((leadTo ix P (startOf P x) pre).size = 16 ∧ W.cell? ⟨w2.heap.size, 0, none⟩ = some (.string (leadTo ix P (startOf P x) pre)) ∧ W.frozen? ⟨w2.heap.size, 0, none⟩ = false ∧ W.cell? ⟨w.heap.size, 0, none⟩ = some (.string ix)) ∧ Below w.heap.size w W)
    (fun _ _ _ => False)
    (OwnFrom.and (Own.from (fun s A B row hs hg hr => ⟨hs.1, cell_kept hs.2.1 hg hr, (frozen_kept hs.2.1 hg hr).trans hs.2.2.1, cell_kept hs.2.2.2 hg hr⟩) _) (ownFrom_below (Nat.le_refl _) (by simp; omega)))
    (fun _ _ _ _ _ hs _ _ => hs)
    ⟨⟨HQ.out, bX4.cell, bX4.frozen, bI4⟩, HB4.out⟩
    t ?assign ?body ?done ?stop
  case assign =>
    intro l j W K hK
    subst ht
    gi_wp2
    exact hK
  case body =>
    rintro l pre j W ⟨⟨hs, hc, hf, hi'⟩, hB⟩ _
    subst ht
    dsimp only [rootAct]
    have hj := j.isLt
    obtain ⟨B, hb⟩ : ∃ B : Nat, bitOf ix.data.toList j.val = B := ⟨_, rfl⟩
    have hB2 : B = 0 ∨ B = 1 := by have := bitOf_lt ix.data.toList j.val; omega
    have HBIT := Lib.hid (show bitAns ix j.val = ((B : Int), 0) by unfold bitAns; rw [if_pos h16, if_pos ⟨by omega, by omega⟩, Int.toNat_natCast, hb])
    have HPS := Lib.hid (show (placed P j).size = 16 from marksOk_get HMK.out (by unfold placed; rw [List.getD_eq_getElem?_getD, List.getElem?_eq_getElem hj]; rfl))
    have HSTEP := Lib.hid (show leadTo ix P (startOf P x) (pre ++ [j]) = if B = 0 then joinM (leadTo ix P (startOf P x) pre) (placed P j) else joinM (placed P j) (leadTo ix P (startOf P x) pre) by rw [leadTo_snoc]; unfold leadStep placed; rw [hb])
    have HBW := Lib.hid hB
    have HKW := Lib.hid (hk.below hB hk.lt)
    have HNN := Lib.hid (show w2.heap.size < W.heap.size from block_lt_of_cell hc)
    clear hb hB
    generalize placed P j = p at HPS HSTEP ⊢
    generalize leadTo ix P (startOf P x) pre = u at hs hc HSTEP
    rcases hB2 with rfl | rfl
    · have HU := Lib.hid (show leadTo ix P (startOf P x) (pre ++ [j]) = joinM u p ∧ (leadTo ix P (startOf P x) (pre ++ [j])).size = 16 from ⟨HSTEP.out, by rw [HSTEP.out]; exact join_size _ _⟩)
      gi_wp2_with (refine ⟨trivial, ?_⟩; gi_at_call 81; refine (CallsIn.inRound l (callsIn_wide.2 (ixBit_is ix j.val ((0 : Nat) : Int) 0 _ HBIT.out))).mono ?_; rintro e w' ⟨rfl, rfl⟩)
      refine ⟨trivial, (CallsIn.inRound l (callsIn_wide.2 (tJoin_any u p _ HKW.out (by omega) (by have := HPS.out; omega)))).mono ?_⟩
      rintro e W1 ⟨rfl, hb1⟩
      have h1 := hb1.mono HBW.out.size
      have e1 := (hb1.cell (p := ⟨w2.heap.size, 0, none⟩) HNN.out).trans hc
      have e2 := (hb1.frozen (p := ⟨w2.heap.size, 0, none⟩) HNN.out).trans hf
      have e3 := (hb1.cell (p := ⟨w.heap.size, 0, none⟩) (show w.heap.size < _ from Nat.lt_trans (by omega) HNN.out)).trans hi'
      have HB1 := Lib.hid hb1
      clear hb1
      gi_wp2
      refine ⟨(below_from HB1.out).trans ((KeepsOthers.setCell _ _ _).from _), ⟨h1.setCell (p := ⟨w2.heap.size, 0, none⟩) (show w.heap.size ≤ w2.heap.size by omega) _, fun e => ?_⟩, ⟨HU.out.2, ?_, ?_, ?_⟩, (HBW.out.trans h1).setCell (p := ⟨w2.heap.size, 0, none⟩) (show w.heap.size ≤ w2.heap.size by omega) _⟩
      · exact other_cell ((HB1.out.cell (block_lt_of_cell e)).trans e) (show w2.heap.size ≠ w3.heap.size by omega) _
      · rw [HU.out.1]; exact World.cell?_setCell_same' _ _ _ (by rw [e1]; rfl)
      · rw [World.frozen?_setCell]; exact e2
      · exact other_cell e3 (show w2.heap.size ≠ w.heap.size by omega) _
    · have HU := Lib.hid (show leadTo ix P (startOf P x) (pre ++ [j]) = joinM p u ∧ (leadTo ix P (startOf P x) (pre ++ [j])).size = 16 from ⟨HSTEP.out, by rw [HSTEP.out]; exact join_size _ _⟩)
      gi_wp2_with (refine ⟨trivial, ?_⟩; gi_at_call 81; refine (CallsIn.inRound l (callsIn_wide.2 (ixBit_is ix j.val ((1 : Nat) : Int) 0 _ HBIT.out))).mono ?_; rintro e w' ⟨rfl, rfl⟩)
      refine ⟨trivial, (CallsIn.inRound l (callsIn_wide.2 (tJoin_any p u _ HKW.out (by have := HPS.out; omega) (by omega)))).mono ?_⟩
      rintro e W1 ⟨rfl, hb1⟩
      have h1 := hb1.mono HBW.out.size
      have e1 := (hb1.cell (p := ⟨w2.heap.size, 0, none⟩) HNN.out).trans hc
      have e2 := (hb1.frozen (p := ⟨w2.heap.size, 0, none⟩) HNN.out).trans hf
      have e3 := (hb1.cell (p := ⟨w.heap.size, 0, none⟩) (show w.heap.size < _ from Nat.lt_trans (by omega) HNN.out)).trans hi'
      have HB1 := Lib.hid hb1
      clear hb1
      gi_wp2
      refine ⟨(below_from HB1.out).trans ((KeepsOthers.setCell _ _ _).from _), ⟨h1.setCell (p := ⟨w2.heap.size, 0, none⟩) (show w.heap.size ≤ w2.heap.size by omega) _, fun e => ?_⟩, ⟨HU.out.2, ?_, ?_, ?_⟩, (HBW.out.trans h1).setCell (p := ⟨w2.heap.size, 0, none⟩) (show w.heap.size ≤ w2.heap.size by omega) _⟩
      · exact other_cell ((HB1.out.cell (block_lt_of_cell e)).trans e) (show w2.heap.size ≠ w3.heap.size by omega) _
      · rw [HU.out.1]; exact World.cell?_setCell_same' _ _ _ (by rw [e1]; rfl)
      · rw [World.frozen?_setCell]; exact e2
      · exact other_cell e3 (show w2.heap.size ≠ w.heap.size by omega) _
  case done =>
    rintro D ys W hD hys ⟨⟨_, hc, hf, _⟩, hB⟩ hK
    rw [leadTo_all hys] at hc
    gi_wp2
    refine ⟨by simp, .inl ⟨_, _, rfl, run_takeDeferred hK, ?_⟩⟩
    exact ⟨_, results_tmp2 rfl _ _ _, rfl, hB.trans (belowK_b (w := w) (Nat.le_refl _) W D _ _ (by simp at hD; omega) hK rfl rfl)⟩
  case stop =>
    rintro D c pre W _ _ hh _
    exact hh.elim
end Go.Proofs.YtcfpmofmjnhonaaGreatDoor
