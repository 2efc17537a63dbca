/- Parts of the proof, one behind the other: PMarks, PEnd, PRoot, PRight, PVerify. -/
import Derived.WalkKit
import Derived.Lib.Hide
import Derived.WalkLawsBesides
import Derived.Deep.QuietTactic
import Derived.Deep.WholeRow
import Derived.ArgAppend
import Derived.Laws.AppendOwnNone
import Derived.Laws.CopyRow
import Derived.Deep.RegionLaw
import Derived.Laws.BytesString
import Derived.Laws.IdiomStrings
import Derived.Test.YtgjmbokfenpefaaGreatDoorProg
import Derived.Laws.BitsAllLaws
import Derived.Outline
import Derived.BigQuiet
import Derived.Laws.CopyOwn
import Derived.RegionTactic
import Derived.StillTail
import Derived.Deep.Quiet
import Derived.Deep.RegionHeld3
import Derived.Deep.DeepCutAuto
import Derived.IntWalk
import Derived.Sort.Walk0
import Derived.Tactics
import Derived.Orders
import Derived.Laws.ResultCell
import Derived.LaidEql
import Derived.Stop.Asserts
import Derived.RowKitTokens
import Derived.Laws.StructEq
import Derived.RangeFuncNested
import Derived.RangeFuncBound
import Derived.RangeFuncCalls
import Derived.RangeFuncLeaves
import Derived.Shelf.Abstract
import Derived.Shelf.RegionOpen
import Derived.OwnWalkIn
import Derived.TacticsInMore
import Derived.LoopNIn
import Derived.LoopIn
import Derived.Test.YtgjmbokfenpefaaGreatDoorM1
import Derived.Test.YtgjmbokfenpefaaGreatDoorM2
import Derived.Test.YtgjmbokfenpefaaGreatDoorM3
import Derived.Test.YtgjmbokfenpefaaGreatDoorM4
import Derived.Test.YtgjmbokfenpefaaGreatDoorM5
import Derived.Test.YtgjmbokfenpefaaGreatDoorM6
import Derived.Test.YtgjmbokfenpefaaGreatDoorM7
import Derived.Test.YtgjmbokfenpefaaGreatDoorM13
import Derived.Test.YtgjmbokfenpefaaGreatDoorM17
import Derived.Test.YtgjmbokfenpefaaGreatDoorM18
import Derived.Test.YtgjmbokfenpefaaGreatDoorM21
import Derived.Test.YtgjmbokfenpefaaGreatDoorM22
/- Whether some text is no mark, by slices.ContainsFunc. -/
namespace Go.Proofs.YtgjmbokfenpefaaGreatDoor
open Go.RowKit

theorem pNoMark_any (s : ByteArray) (w : World) : Calls Tryz.prog 247 #[.string s] w fun e w' => e = .returned (.bool (!decide (s.size = 16))) ∧ w' = w := by
  by_cases h : s.size = 16
  · rw [decide_eq_true h]
    have hi : ((s.size : Int) == 16) = true := by rw [beq_iff_eq]; omega
    have hj : ((s.size : Int) != 16) = false := by simp [bne, hi]
    go_enter Tryz.func247, Tryz.ntmps247
    go_wp2
    go_ret
    exact ⟨rfl, rfl⟩
  · rw [decide_eq_false h]
    have hi : ((s.size : Int) == 16) = false := by rw [beq_eq_false_iff_ne]; omega
    have hj : ((s.size : Int) != 16) = true := by simp [bne, hi]
    go_enter Tryz.func247, Tryz.ntmps247
    go_wp2
    go_ret
    exact ⟨rfl, rfl⟩
set_option maxRecDepth 100000 in
theorem pMarksIx_any (P : List ByteArray) (A : Option Addr) (cap : Nat) (w : World) (hl : P.length ≤ 1000000) (hm : Strs w A P) :
    Calls Tryz.prog 250 #[.slice A P.length cap, .func (.func 247) #[] #[]] w fun e w' => w' = w ∧ ∃ n : Int, e = .returned (.int .i64 n) ∧ ((0 ≤ n ∧ marksOk P = false) ∨ (n = -1 ∧ marksOk P = true)) := by
  have HM := Lib.hid hm
  clear hm
  go_enter Tryz.func250, Tryz.ntmps250
  go_wp2
  go_loopw [8] (fun t wr => ∃ j : Nat, j ≤ P.length ∧ t = .int .i64 (j : Int) ∧ wr = w ∧ marksUpto P j = true) (fun t _ => P.length - (intOf t).toNat)
  case atStart => exact ⟨0, by omega, rfl, rfl, rfl⟩
  case round =>
    obtain ⟨j, hj, rfl, rfl, hall⟩ := hrel
    have HALL := Lib.hid hall
    clear hall
    by_cases hlt : j < P.length
    · obtain ⟨p, hp⟩ : ∃ p, P[j]? = some p := ⟨_, List.getElem?_eq_getElem hlt⟩
      obtain ⟨a, rfl, hal, c0⟩ := HM.out j p hp
      have HP := Lib.hid hp
      clear hp
      go_wp2_with fail
      refine (pNoMark_any p _).mono ?_
      rintro e w1 ⟨rfl, rfl⟩
      by_cases he : p.size = 16
      · rw [decide_eq_true he]
        have HE := Lib.hid he
        clear he
        go_wp2
        go_roundw
        case rel =>
          refine ⟨j + 1, by omega, by go_num, ?_, ?_⟩
          · first | rfl | trivial
          · have := HALL.out
            unfold marksUpto marksOk at this ⊢
            rw [List.take_add_one, HP.out, List.all_append, this]
            simp [HE.out]
        case measure => simp [intOf]; omega
      · rw [decide_eq_false he]
        have HE := Lib.hid he
        clear he
        go_wp2
        go_ret
        exact ⟨rfl, j, rfl, .inl ⟨by omega, marksOk_false HP.out HE.out⟩⟩
    · go_wp2
      go_ret
      exact ⟨rfl, -1, rfl, .inr ⟨rfl, by have h := HALL.out; unfold marksUpto at h; rwa [List.take_of_length_le (by omega)] at h⟩⟩
theorem pMarks_any (P : List ByteArray) (A : Option Addr) (cap : Nat) (w : World) (hl : P.length ≤ 1000000) (hm : Strs w A P) :
    Calls Tryz.prog 225 #[.slice A P.length cap, .func (.func 247) #[] #[]] w fun e w' => e = .returned (.bool (!marksOk P)) ∧ w' = w := by
  go_enter Tryz.func225, Tryz.ntmps225
  go_wp2_with fail
  refine (pMarksIx_any P A cap _ hl hm).mono ?_
  rintro e w1 ⟨rfl, n, rfl, ⟨h0, hf⟩ | ⟨rfl, hf⟩⟩
  · have HF := Lib.hid hf
    clear hf
    go_wp2
    go_ret
    exact ⟨by rw [HF.out]; rfl, rfl⟩
  · have HF := Lib.hid hf
    clear hf
    go_wp2
    go_ret
    exact ⟨by rw [HF.out]; rfl, rfl⟩
theorem pAre_any (P : List ByteArray) (A : Option Addr) (cap : Nat) (w : World) (hl : P.length ≤ 1000000) (hm : Strs w A P) :
    Calls Tryz.prog 218 #[.slice A P.length cap] w fun e w' => e = .returned (.bool (marksOk P)) ∧ w' = w := by
  obtain ⟨M, hM⟩ : ∃ M, marksOk P = M := ⟨_, rfl⟩
  have HM := Lib.hid hM
  rw [hM]
  clear hM
  go_enter Tryz.func218, Tryz.ntmps218
  go_wp2_with fail
  refine (pMarks_any P A cap _ hl hm).mono ?_
  rintro e w1 ⟨rfl, rfl⟩
  rw [HM.out]
  go_wp2
  go_ret
  exact ⟨rfl, rfl⟩
theorem pAreOne_any (s : ByteArray) (a : Nat) (w : World) (hm : Strs w (some ⟨a, 0, none⟩) [s]) :
    Calls Tryz.prog 218 #[.slice (some ⟨a, 0, none⟩) 1 1] w fun e w' => e = .returned (.bool (decide (s.size = 16))) ∧ w' = w :=
  (pAre_any [s] (some ⟨a, 0, none⟩) 1 w (by simp) hm).mono fun e w' h => ⟨h.1.trans (by simp [marksOk]), h.2⟩
theorem empty_of {s : ByteArray} (h : s.size = 0) : s = ⟨#[]⟩ := by
  obtain ⟨d⟩ := s
  congr 1
  exact Array.eq_empty_of_size_eq_zero h
theorem pEmpty_any (x : It) (w : World) : Calls Tryz.prog 244 #[.agg #[.string x.1, .string x.2]] w fun e w' => e = .returned (.bool (decide (x.1.size = 0 ∧ x.2.size = 0))) ∧ Below w.heap.size w w' := by
  have HBW := Lib.hid (alloc_below w (.cells #[.string x.1, .string x.2] 59))
  have he : decide (x.1.size = 0 ∧ x.2.size = 0) = decide (x = (⟨#[]⟩, ⟨#[]⟩)) := by
    by_cases h : x.1.size = 0 ∧ x.2.size = 0
    · rw [decide_eq_true h, decide_eq_true (Prod.ext (empty_of h.1) (empty_of h.2))]
    · rw [decide_eq_false h, decide_eq_false (fun e => h (by subst e; exact ⟨rfl, rfl⟩))]
  obtain ⟨T, hT⟩ : ∃ T, decide (x.1.size = 0 ∧ x.2.size = 0) = T := ⟨_, rfl⟩
  have hne : ∀ u : World, (binOp .eql 59 (.agg #[.string x.1, .string x.2]) (.agg #[.string ⟨#[]⟩, .string ⟨#[]⟩])).run Tryz.prog u = .ok (.bool T) u := fun u => by rw [← hT, he]; exact run_eql_items x (⟨#[]⟩, ⟨#[]⟩) u
  rw [hT]
  clear hT he
  go_enter Tryz.func244, Tryz.ntmps244
  go_wp2
  go_ret
  exact ⟨rfl, HBW.out⟩
end Go.Proofs.YtgjmbokfenpefaaGreatDoor
/- The program's mark of what lies at a way's end. -/
namespace Go.Proofs.YtgjmbokfenpefaaGreatDoor
open Go.RowKit

set_option maxRecDepth 100000 in
theorem pEnd_any (P : List ByteArray) (A : Option Addr) (cap : Nat) (x : It) (w : World) (hk : HasK w) (hx : x.1.size ≤ 1000000) (hy : x.2.size ≤ 1000000) (hxx : x.1.size = 0 → x.2.size = 0) :
    Calls Tryz.prog 216 #[.agg #[.slice A P.length cap, .string x.1, .string x.2]] w fun e w' => e = .returned (.string (startOf P x)) ∧ Below w.heap.size w w' := by
  have HB0 := Lib.hid (alloc_below w (.cells #[.slice A P.length cap, .string x.1, .string x.2] 61))
  have HH0 := Lib.hid (show Holds (w.alloc (.cells #[.slice A P.length cap, .string x.1, .string x.2] 61)) w.heap.size 3 (pCells (.slice A P.length cap) x) 61 from Holds.new w 3 (pCells (.slice A P.length cap) x) 61)
  have HK := Lib.hid hk
  clear hk
  obtain ⟨S, hS⟩ : ∃ S, startOf P x = S := ⟨_, rfl⟩
  rw [hS]
  have HS := Lib.hid hS
  clear hS
  go_enter Tryz.func216, Tryz.ntmps216
  go_wp2_with fail
  generalize w.alloc (.cells #[.slice A P.length cap, .string x.1, .string x.2] 61) = w0 at HB0 HH0
  refine (pEmpty_any x _).mono ?_
  rintro e w1 ⟨rfl, hb1⟩
  have HB1 := Lib.hid (HB0.out.trans (hb1.mono HB0.out.size))
  have HH1 := Lib.hid (HH0.out.below hb1 HH0.out.lt)
  clear hb1 HB0 HH0
  have p0 : w1.cell? ⟨w.heap.size, 0, none⟩ = some (.slice A P.length cap) := HH1.out.cell 0 (by omega)
  have p1 : w1.cell? ⟨w.heap.size, 1, none⟩ = some (.string x.1) := HH1.out.cell 1 (by omega)
  have p2 : w1.cell? ⟨w.heap.size, 2, none⟩ = some (.string x.2) := HH1.out.cell 2 (by omega)
  by_cases hz : x.1.size = 0
  · have hF : S = emptyM P.length := by rw [← HS.out]; unfold startOf; rw [if_pos hz]
    subst hF
    rw [decide_eq_true ⟨hz, hxx hz⟩]
    clear hz hxx
    go_wp2_with fail
    refine (tEmpty_any P.length _ (HK.out.below HB1.out HK.out.lt)).mono ?_
    rintro e w2 ⟨rfl, hb2⟩
    have HB2 := Lib.hid (HB1.out.trans (hb2.mono HB1.out.size))
    clear hb2
    go_wp2
    go_ret
    exact ⟨rfl, HB2.out⟩
  · have hF : S = leafM x P.length := by rw [← HS.out]; unfold startOf; rw [if_neg hz]
    subst hF
    rw [decide_eq_false (fun e => hz e.1)]
    clear hz hxx
    go_wp2_with fail
    refine (tLeaf_any x P.length _ (HK.out.below HB1.out HK.out.lt) hx hy).mono ?_
    rintro e w2 ⟨rfl, hb2⟩
    have HB2 := Lib.hid (HB1.out.trans (hb2.mono HB1.out.size))
    clear hb2
    go_wp2
    go_ret
    exact ⟨rfl, HB2.out⟩
end Go.Proofs.YtgjmbokfenpefaaGreatDoor
/- The program's Root: from a leaf's mark back along the path, by a range over slices.Backward. -/
namespace Go.Proofs.YtgjmbokfenpefaaGreatDoor
open Go.RowKit Go.Shelf
attribute [local go_sem] Oper.semAt_some

def leadStep (ix : ByteArray) (P : List ByteArray) (s : ByteArray) (k : Nat) : ByteArray := if bitOf ix.data.toList k = 0 then joinM s (P.getD k ⟨#[]⟩) else joinM (P.getD k ⟨#[]⟩) s
theorem backTo_next (n : Nat) : backTo (n + 1) (n + 1) = n :: backTo n n := by
  unfold backTo
  rw [List.range_succ_eq_map, List.map_cons, List.map_map]
  congr 1
  apply List.map_congr_left
  intro j _
  show n + 1 - 1 - (j + 1) = n - 1 - j
  omega
theorem leadFrom_fold (ix : ByteArray) (P : List ByteArray) : ∀ (n : Nat) (s : ByteArray), leadFrom ix P n s = (backTo n n).foldl (leadStep ix P) s
  | 0, s => rfl
  | n + 1, s => by
    rw [backTo_next, List.foldl_cons]
    exact leadFrom_fold ix P n _
def leadTo (ix : ByteArray) (P : List ByteArray) (s : ByteArray) (ys : List (Fin P.length)) : ByteArray := (ys.map (·.val)).foldl (leadStep ix P) s
theorem leadTo_snoc (ix : ByteArray) (P : List ByteArray) (s : ByteArray) (ys : List (Fin P.length)) (x : Fin P.length) : leadTo ix P s (ys ++ [x]) = leadStep ix P (leadTo ix P s ys) x.val := by simp [leadTo]
theorem leadTo_all {ix : ByteArray} {P : List ByteArray} {s : ByteArray} {ys : List (Fin P.length)} (h : back P ys P.length) : leadTo ix P s ys = leadFrom ix P P.length s := by
  unfold leadTo
  rw [leadFrom_fold, h]
def PRight : Prop := ∀ (ix : ByteArray) (P : List ByteArray) (A : Option Addr) (cap : Nat) (x : It) (w : World), HasK w → P.length ≤ 1000000 → Strs w A P → ix.size ≤ 1000000 → x.1.size ≤ 1000000 → x.2.size ≤ 1000000 →
    Calls Tryz.prog 215 #[.string ix, .agg #[.slice A P.length cap, .string x.1, .string x.2]] w fun e w' => e = .returned (.bool (rightProof ix P x)) ∧ Below w.heap.size w w'

set_option maxHeartbeats 2000000 in
set_option maxRecDepth 100000 in
theorem pRoot_no (RT : PRight) (ix : ByteArray) (P : List ByteArray) (A : Option Addr) (cap : Nat) (x : It) (w : World) (hk : HasK w) (hl : P.length ≤ 1000000) (hm : Strs w A P) (hi : ix.size ≤ 1000000) (hx : x.1.size ≤ 1000000) (hy : x.2.size ≤ 1000000) (h : rightProof ix P x = false) :
    Calls Tryz.prog 160 #[.string ix, .agg #[.slice A P.length cap, .string x.1, .string x.2]] w fun e w' => e = .returned (.tuple #[.string ⟨#[]⟩, errOf 1]) ∧ Below w.heap.size w w' := by
  refine (callsIn_wide (n := 3)).1 ?_
  refine callsIn_of_wp_marks Tryz.func160 rfl trivial ?_ rfl
  simp only [Tryz.ntmps160, List.size_toArray, List.length_cons, List.length_nil, Nat.reduceAdd, Nat.reduceSub, Array.replicate_succ, Array.replicate_zero, List.push_toArray, List.append_toArray, List.nil_append, List.cons_append]
  gi_wp2
  have HB0 := Lib.hid (show Below w.heap.size w ((w.alloc (.cells #[.string ix] 9)).alloc (.cells #[.slice A P.length cap, .string x.1, .string x.2] 61)) from ((Below.refl _ w).alloc (Nat.le_refl _) _).alloc (by simp) _)
  refine ⟨trivial, (callsIn_wide.2 (RT ix P A cap x _ (hk.below HB0.out hk.lt) hl (hm.below HB0.out) hi hx hy)).mono ?_⟩
  rintro e w1 ⟨rfl, hb1⟩
  rw [h]
  have HB1 := Lib.hid (HB0.out.trans (hb1.mono HB0.out.size))
  clear hb1
  gi_wp2
  exact ⟨_, results_tmp2 rfl _ _ _, rfl, HB1.out⟩

def rootAct (ix : ByteArray) (P : List ByteArray) (A : Option Addr) (cap : Nat) (x : It) (bI bM bS : Nat) (j : Fin P.length) : Act :=
  { tmps := #[.string ix, .agg #[.slice A P.length cap, .string x.1, .string x.2], .pointer (some ⟨bI, 0, none⟩), .pointer (some ⟨bI + 1, 0, none⟩), .string ⟨#[]⟩, .nilIface, .pointer (some ⟨bM, 0, none⟩), .int .i64 (j.val : Int), .string (placed P j), undef, undef, .string ix,
      .agg #[.slice A P.length cap, .string x.1, .string x.2], .bool true, .bool false, undef, .agg #[.slice A P.length cap, .string x.1, .string x.2], .string (startOf P x), .pointer (some ⟨bI + 1, 0, none⟩), .slice A P.length cap,
      .func (.func 246) #[] #[.pointer (some ⟨bS, 0, none⟩)], .int .i64 (j.val : Int), .string (placed P j),
      undef, undef, undef, undef, undef, undef, undef, undef, undef, undef, undef, undef, undef, undef, undef], defers := [] }
theorem below_from {B : Nat} {W W' : World} (h : Below W.heap.size W W') : KeepsFrom B W W' := ⟨h.size, fun k _ _ hk _ => (h.block k (Array.getElem?_eq_some_iff.1 hk).1).trans hk⟩

theorem other_cell {W : World} {B : Nat} {a : Addr} {v : Value} (h : W.cell? a = some v) (hne : B ≠ a.block) (u : Value) : (W.setCell ⟨B, 0, none⟩ u).cell? a = some v :=
  (World.cell?_of_block ((grownBy_setCell' W B u).block a.block (block_lt_of_cell h) (fun e => hne (by cases e; rfl)))).trans h

set_option maxHeartbeats 4000000 in
set_option maxRecDepth 100000 in
theorem pRoot_yes (RT : PRight) (ix : ByteArray) (P : List ByteArray) (A : Option Addr) (cap : Nat) (x : It) (w : World) (hk : HasK w) (hl : P.length ≤ 1000000) (hm : Strs w A P) (hi : ix.size ≤ 1000000) (hx : x.1.size ≤ 1000000) (hy : x.2.size ≤ 1000000) (h : rightProof ix P x = true) :
    Calls Tryz.prog 160 #[.string ix, .agg #[.slice A P.length cap, .string x.1, .string x.2]] w fun e w' => e = .returned (.tuple #[.string (leadFrom ix P P.length (startOf P x)), errOf 0]) ∧ Below w.heap.size w w' := by
  refine (callsIn_wide (n := 3)).1 ?_
  refine callsIn_of_wp_marks Tryz.func160 rfl trivial ?_ rfl
  simp only [Tryz.ntmps160, List.size_toArray, List.length_cons, List.length_nil, Nat.reduceAdd, Nat.reduceSub, Array.replicate_succ, Array.replicate_zero, List.push_toArray, List.append_toArray, List.nil_append, List.cons_append]
  gi_wp2
  obtain ⟨w0, hw0⟩ : ∃ w0, (w.alloc (.cells #[.string ix] 9)).alloc (.cells #[.slice A P.length cap, .string x.1, .string x.2] 61) = w0 := ⟨_, rfl⟩
  have HB0 := Lib.hid (show Below w.heap.size w w0 by rw [← hw0]; exact ((Below.refl _ w).alloc (Nat.le_refl _) _).alloc (by simp) _)
  have hz0 : w0.heap.size = w.heap.size + 2 := by rw [← hw0]; simp
  have bI : w0.cell? ⟨w.heap.size, 0, none⟩ = some (.string ix) := by
    rw [← hw0]; exact ((alloc_below (w.alloc (.cells #[.string ix] 9)) (.cells #[.slice A P.length cap, .string x.1, .string x.2] 61)).cell (by simp)).trans (cell_of_row _ w.heap.size 0 _ 9 (0, 0) (heap_alloc_new _ _))
  have HH := Lib.hid (show Holds w0 (w.heap.size + 1) 3 (pCells (.slice A P.length cap) x) 61 by
    rw [← hw0]; have := Holds.new (w.alloc (.cells #[.string ix] 9)) 3 (pCells (.slice A P.length cap) x) 61; rw [World.size_alloc] at this; exact this)
  rw [hw0]
  clear hw0
  refine ⟨trivial, (callsIn_wide.2 (RT ix P A cap x _ (hk.below HB0.out hk.lt) hl (hm.below HB0.out) hi hx hy)).mono ?_⟩
  rintro e w1 ⟨rfl, hb1⟩
  rw [h]
  have HB1 := Lib.hid (HB0.out.trans (hb1.mono HB0.out.size))
  have HH1 := Lib.hid (HH.out.below hb1 HH.out.lt)
  replace bI := (hb1.cell (by show w.heap.size < _; omega)).trans bI
  have hz1 : w.heap.size + 2 ≤ w1.heap.size := by have := hb1.size; omega
  clear hb1 HB0 HH hz0 w0
  have p0 : w1.cell? ⟨w.heap.size + 1, 0, none⟩ = some (.slice A P.length cap) := HH1.out.cell 0 (by omega)
  have p1 : w1.cell? ⟨w.heap.size + 1, 1, none⟩ = some (.string x.1) := HH1.out.cell 1 (by omega)
  have p2 : w1.cell? ⟨w.heap.size + 1, 2, none⟩ = some (.string x.2) := HH1.out.cell 2 (by omega)
  obtain ⟨h16, h128, hmk, hxx⟩ := rightProof_facts h
  have HMK := Lib.hid hmk
  have hx0 : x.1.size = 0 → x.2.size = 0 := by rcases hxx with ⟨_, e⟩ | ⟨e, _⟩ <;> omega
  clear hmk hxx
  gi_wp2
  refine ⟨trivial, (callsIn_wide.2 (pEnd_any P A cap x _ (hk.below HB1.out hk.lt) hx hy hx0)).mono ?_⟩
  rintro e w2 ⟨rfl, hb2⟩
  have HB2 := Lib.hid (HB1.out.trans (hb2.mono HB1.out.size))
  have HH2 := Lib.hid (HH1.out.below hb2 HH1.out.lt)
  replace bI := (hb2.cell (by show w.heap.size < _; omega)).trans bI
  have hz2 : w.heap.size + 2 ≤ w2.heap.size := by have := hb2.size; omega
  clear hb2 HB1 HH1 hz1 p0 p1 p2 w1
  obtain ⟨w3, hw3⟩ : ∃ w3, w2.alloc (.cells #[.string (startOf P x)] 9) = w3 := ⟨_, rfl⟩
  have hb3 : Below w2.heap.size w2 w3 := by rw [← hw3]; exact alloc_below _ _
  have HB3 := Lib.hid (HB2.out.trans (hb3.mono HB2.out.size))
  have HH3 := Lib.hid (HH2.out.below hb3 HH2.out.lt)
  have HBX := Lib.hid (show Boxed w3 w2.heap.size 9 (.string (startOf P x)) by rw [← hw3]; exact Boxed.new w2 9 _)
  have hz3 : w2.heap.size < w3.heap.size := by rw [← hw3]; simp
  replace bI := (hb3.cell (by show w.heap.size < _; omega)).trans bI
  have p0 : w3.cell? ⟨w.heap.size + 1, 0, none⟩ = some (.slice A P.length cap) := HH3.out.cell 0 (by omega)
  clear hb3 HB2 HH2
  gi_wp2
  refine ⟨trivial, (back_in Fence.wide 2 trivial rfl _ _ _ _).mono ?_⟩
  rintro e w6 ⟨rfl, rfl⟩
  gi_wp2
  obtain ⟨t, ht⟩ : ∃ t : Fin P.length → Act, t = rootAct ix P A cap x w.heap.size w2.heap.size w3.heap.size := ⟨_, rfl⟩
  clear p0 hw3
  have HQ := Lib.hid (show (startOf P x).size = 16 from start_size P x)
  have bN := Boxed.new w3 53 (.slice A P.length cap)
  have HB4 := Lib.hid (HB3.out.trans ((alloc_below w3 (.cells #[.slice A P.length cap] 53)).mono HB3.out.size))
  have hm4 := StrsAt.below (n₀ := w.heap.size) hm HB4.out
  have bI4 := ((alloc_below w3 (.cells #[.slice A P.length cap] 53)).cell (p := ⟨w.heap.size, 0, none⟩) (show w.heap.size < w3.heap.size by omega)).trans bI
  have bX4 := HBX.out.alloc (.cells #[.slice A P.length cap] 53)
  refine wpIn_rangeFunc_ownG rfl (by omega) (gf := 246) (lb := #[.pointer (some ⟨w3.heap.size, 0, none⟩)]) rfl trivial (enters_of Tryz.func246 (by kernel_rfl) rfl)
    (back_stops Fence.wide 2 trivial rfl (by omega) w3.heap.size w.heap.size cap A P hl _ (by simp) (by simp; omega) bN.cell hm4) keepBox_t (keepBox_b (by simp; omega)) (Below.refl _ _) (fun _ => rfl)
    (fun pre W => ((leadTo ix P (startOf P x) pre).size = 16 ∧ W.cell? ⟨w2.heap.size, 0, none⟩ = some (.string (leadTo ix P (startOf P x) pre)) ∧ W.frozen? ⟨w2.heap.size, 0, none⟩ = false ∧ W.cell? ⟨w.heap.size, 0, none⟩ = some (.string ix)) ∧ Below w.heap.size w W)
    (fun _ _ _ => False)
    (OwnFrom.and (Own.from (fun s A B row hs hg hr => ⟨hs.1, cell_kept hs.2.1 hg hr, (frozen_kept hs.2.1 hg hr).trans hs.2.2.1, cell_kept hs.2.2.2 hg hr⟩) _) (ownFrom_below (Nat.le_refl _) (by simp; omega)))
    (fun _ _ _ _ _ hs _ _ => hs)
    ⟨⟨HQ.out, bX4.cell, bX4.frozen, bI4⟩, HB4.out⟩
    t ?assign ?body ?done ?stop
  case assign =>
    intro l j W K hK
    subst ht
    gi_wp2
    exact hK
  case body =>
    rintro l pre j W ⟨⟨hs, hc, hf, hi'⟩, hB⟩ _
    subst ht
    dsimp only [rootAct]
    have hj := j.isLt
    obtain ⟨B, hb⟩ : ∃ B : Nat, bitOf ix.data.toList j.val = B := ⟨_, rfl⟩
    have hB2 : B = 0 ∨ B = 1 := by have := bitOf_lt ix.data.toList j.val; omega
    have HBIT := Lib.hid (show bitAns ix j.val = ((B : Int), 0) by unfold bitAns; rw [if_pos h16, if_pos ⟨by omega, by omega⟩, Int.toNat_natCast, hb])
    have HPS := Lib.hid (show (placed P j).size = 16 from marksOk_get HMK.out (by unfold placed; rw [List.getD_eq_getElem?_getD, List.getElem?_eq_getElem hj]; rfl))
    have HSTEP := Lib.hid (show leadTo ix P (startOf P x) (pre ++ [j]) = if B = 0 then joinM (leadTo ix P (startOf P x) pre) (placed P j) else joinM (placed P j) (leadTo ix P (startOf P x) pre) by rw [leadTo_snoc]; unfold leadStep placed; rw [hb])
    have HBW := Lib.hid hB
    have HKW := Lib.hid (hk.below hB hk.lt)
    have HNN := Lib.hid (show w2.heap.size < W.heap.size from block_lt_of_cell hc)
    clear hb hB
    generalize placed P j = p at HPS HSTEP ⊢
    generalize leadTo ix P (startOf P x) pre = u at hs hc HSTEP
    rcases hB2 with rfl | rfl
    · have HU := Lib.hid (show leadTo ix P (startOf P x) (pre ++ [j]) = joinM u p ∧ (leadTo ix P (startOf P x) (pre ++ [j])).size = 16 from ⟨HSTEP.out, by rw [HSTEP.out]; exact join_size _ _⟩)
      gi_wp2_with (refine ⟨trivial, ?_⟩; gi_at_call 211; refine (CallsIn.inRound l (callsIn_wide.2 (ixBit_is ix j.val ((0 : Nat) : Int) 0 _ HBIT.out))).mono ?_; rintro e w' ⟨rfl, rfl⟩)
      refine ⟨trivial, (CallsIn.inRound l (callsIn_wide.2 (tJoin_any u p _ HKW.out (by omega) (by have := HPS.out; omega)))).mono ?_⟩
      rintro e W1 ⟨rfl, hb1⟩
      have h1 := hb1.mono HBW.out.size
      have e1 := (hb1.cell (p := ⟨w2.heap.size, 0, none⟩) HNN.out).trans hc
      have e2 := (hb1.frozen (p := ⟨w2.heap.size, 0, none⟩) HNN.out).trans hf
      have e3 := (hb1.cell (p := ⟨w.heap.size, 0, none⟩) (show w.heap.size < _ from Nat.lt_trans (by omega) HNN.out)).trans hi'
      have HB1 := Lib.hid hb1
      clear hb1
      gi_wp2
      refine ⟨(below_from HB1.out).trans ((KeepsOthers.setCell _ _ _).from _), ⟨h1.setCell (p := ⟨w2.heap.size, 0, none⟩) (show w.heap.size ≤ w2.heap.size by omega) _, fun e => ?_⟩, ⟨HU.out.2, ?_, ?_, ?_⟩, (HBW.out.trans h1).setCell (p := ⟨w2.heap.size, 0, none⟩) (show w.heap.size ≤ w2.heap.size by omega) _⟩
      · exact other_cell ((HB1.out.cell (block_lt_of_cell e)).trans e) (show w2.heap.size ≠ w3.heap.size by omega) _
      · rw [HU.out.1]; exact World.cell?_setCell_same' _ _ _ (by rw [e1]; rfl)
      · rw [World.frozen?_setCell]; exact e2
      · exact other_cell e3 (show w2.heap.size ≠ w.heap.size by omega) _
    · have HU := Lib.hid (show leadTo ix P (startOf P x) (pre ++ [j]) = joinM p u ∧ (leadTo ix P (startOf P x) (pre ++ [j])).size = 16 from ⟨HSTEP.out, by rw [HSTEP.out]; exact join_size _ _⟩)
      gi_wp2_with (refine ⟨trivial, ?_⟩; gi_at_call 211; refine (CallsIn.inRound l (callsIn_wide.2 (ixBit_is ix j.val ((1 : Nat) : Int) 0 _ HBIT.out))).mono ?_; rintro e w' ⟨rfl, rfl⟩)
      refine ⟨trivial, (CallsIn.inRound l (callsIn_wide.2 (tJoin_any p u _ HKW.out (by have := HPS.out; omega) (by omega)))).mono ?_⟩
      rintro e W1 ⟨rfl, hb1⟩
      have h1 := hb1.mono HBW.out.size
      have e1 := (hb1.cell (p := ⟨w2.heap.size, 0, none⟩) HNN.out).trans hc
      have e2 := (hb1.frozen (p := ⟨w2.heap.size, 0, none⟩) HNN.out).trans hf
      have e3 := (hb1.cell (p := ⟨w.heap.size, 0, none⟩) (show w.heap.size < _ from Nat.lt_trans (by omega) HNN.out)).trans hi'
      have HB1 := Lib.hid hb1
      clear hb1
      gi_wp2
      refine ⟨(below_from HB1.out).trans ((KeepsOthers.setCell _ _ _).from _), ⟨h1.setCell (p := ⟨w2.heap.size, 0, none⟩) (show w.heap.size ≤ w2.heap.size by omega) _, fun e => ?_⟩, ⟨HU.out.2, ?_, ?_, ?_⟩, (HBW.out.trans h1).setCell (p := ⟨w2.heap.size, 0, none⟩) (show w.heap.size ≤ w2.heap.size by omega) _⟩
      · exact other_cell ((HB1.out.cell (block_lt_of_cell e)).trans e) (show w2.heap.size ≠ w3.heap.size by omega) _
      · rw [HU.out.1]; exact World.cell?_setCell_same' _ _ _ (by rw [e1]; rfl)
      · rw [World.frozen?_setCell]; exact e2
      · exact other_cell e3 (show w2.heap.size ≠ w.heap.size by omega) _
  case done =>
    rintro D ys W hD hys ⟨⟨_, hc, hf, _⟩, hB⟩ hK
    rw [leadTo_all hys] at hc
    gi_wp2
    refine ⟨by simp, .inl ⟨_, _, rfl, run_takeDeferred hK, ?_⟩⟩
    exact ⟨_, results_tmp2 rfl _ _ _, rfl, hB.trans (belowK_b (w := w) (Nat.le_refl _) W D _ _ (by simp at hD; omega) hK rfl rfl)⟩
  case stop =>
    rintro D c pre W _ _ hh _
    exact hh.elim
end Go.Proofs.YtgjmbokfenpefaaGreatDoor
/- The program's Right of proofs. -/
namespace Go.Proofs.YtgjmbokfenpefaaGreatDoor
open Go.RowKit

theorem commonOf_comm (A B : List UInt8) : commonOf A B = commonOf B A :=
  commonOf_is A B _ (commonOf_le B A) (fun k h => (commonOf_same B A k h).symm) (fun h e => commonOf_other B A h e.symm)

set_option maxHeartbeats 1000000 in
set_option maxRecDepth 100000 in
theorem pRight_any (ix : ByteArray) (P : List ByteArray) (A : Option Addr) (cap : Nat) (x : It) (w : World) (hl : P.length ≤ 1000000) (hm : Strs w A P) :
    Calls Tryz.prog 215 #[.string ix, .agg #[.slice A P.length cap, .string x.1, .string x.2]] w fun e w' => e = .returned (.bool (rightProof ix P x)) ∧ Below w.heap.size w w' := by
  have HM := Lib.hid hm
  have HBW := Lib.hid (alloc_below w (.cells #[.slice A P.length cap, .string x.1, .string x.2] 61))
  have HB2 := Lib.hid (show Below w.heap.size w ((w.alloc (.cells #[.slice A P.length cap, .string x.1, .string x.2] 61)).alloc (.cells #[.string ix] 9)) from ((Below.refl _ w).alloc (Nat.le_refl _) _).alloc (by simp) _)
  have HH2 := Lib.hid (show Holds ((w.alloc (.cells #[.slice A P.length cap, .string x.1, .string x.2] 61)).alloc (.cells #[.string ix] 9)) w.heap.size 3 (pCells (.slice A P.length cap) x) 61 from (Holds.new w 3 (pCells (.slice A P.length cap) x) 61).alloc _)
  have HS1 := Lib.hid (show Strs ((w.alloc (.cells #[.slice A P.length cap, .string x.1, .string x.2] 61)).alloc (.cells #[.string ix] 9)) (some ⟨w.heap.size + 1, 0, none⟩) [ix] by
    have := strs_new (w.alloc (.cells #[.slice A P.length cap, .string x.1, .string x.2] 61)) [ix] 9; rw [World.size_alloc] at this; exact this)
  clear hm
  obtain ⟨T, hT⟩ : ∃ T, rightProof ix P x = T := ⟨_, rfl⟩
  rw [hT]
  have HT := Lib.hid hT
  clear hT
  by_cases hp : 128 < P.length
  · have hF : T = false := by rw [← HT.out]; unfold rightProof; rw [decide_eq_false (show ¬ P.length ≤ 128 by omega)]; simp
    subst hF
    go_enter Tryz.func215, Tryz.ntmps215
    go_wp2
    go_ret
    exact ⟨rfl, HBW.out⟩
  have HP128 := Lib.hid (show decide (P.length ≤ 128) = true from decide_eq_true (by omega))
  by_cases h16 : ix.size = 16
  · have H16 := Lib.hid h16
    have H16D := Lib.hid (decide_eq_true h16)
    obtain ⟨M, hmk⟩ : ∃ M, marksOk P = M := ⟨_, rfl⟩
    have HMK := Lib.hid hmk
    clear hmk h16
    cases M
    · have hF : T = false := by rw [← HT.out]; unfold rightProof; rw [HMK.out]; simp
      subst hF
      go_enter Tryz.func215, Tryz.ntmps215
      go_wp2_with fail
      refine (pAreOne_any ix _ _ HS1.out).mono ?_
      rintro e w1 ⟨rfl, rfl⟩
      rw [H16D.out]
      go_wp2_with fail
      refine (pAre_any P A cap _ hl (HM.out.below HB2.out)).mono ?_
      rintro e w1 ⟨rfl, rfl⟩
      rw [HMK.out]
      go_wp2
      go_ret
      exact ⟨rfl, HB2.out⟩
    by_cases hz : x.1.size = 0 ∧ x.2.size = 0
    · have hF : T = true := by rw [← HT.out]; unfold rightProof; rw [H16D.out, HP128.out, HMK.out, if_pos hz]; rfl
      have HZ := Lib.hid (decide_eq_true hz)
      subst hF
      clear hz
      go_enter Tryz.func215, Tryz.ntmps215
      go_wp2_with fail
      refine (pAreOne_any ix _ _ HS1.out).mono ?_
      rintro e w1 ⟨rfl, rfl⟩
      rw [H16D.out]
      go_wp2_with fail
      refine (pAre_any P A cap _ hl (HM.out.below HB2.out)).mono ?_
      rintro e w1 ⟨rfl, rfl⟩
      rw [HMK.out]
      generalize (w.alloc (.cells #[.slice A P.length cap, .string x.1, .string x.2] 61)).alloc (.cells #[.string ix] 9) = w2 at HB2 HH2
      have p0 : w2.cell? ⟨w.heap.size, 0, none⟩ = some (.slice A P.length cap) := HH2.out.cell 0 (by omega)
      have p1 : w2.cell? ⟨w.heap.size, 1, none⟩ = some (.string x.1) := HH2.out.cell 1 (by omega)
      have p2 : w2.cell? ⟨w.heap.size, 2, none⟩ = some (.string x.2) := HH2.out.cell 2 (by omega)
      go_wp2_with fail
      refine (pEmpty_any x _).mono ?_
      rintro e w3 ⟨rfl, hb3⟩
      rw [HZ.out]
      have HB3 := Lib.hid (HB2.out.trans (hb3.mono HB2.out.size))
      have HH3 := Lib.hid (HH2.out.below hb3 HH2.out.lt)
      clear hb3 p0 p1 p2 HB2 HH2
      have p0 : w3.cell? ⟨w.heap.size, 0, none⟩ = some (.slice A P.length cap) := HH3.out.cell 0 (by omega)
      have p1 : w3.cell? ⟨w.heap.size, 1, none⟩ = some (.string x.1) := HH3.out.cell 1 (by omega)
      have p2 : w3.cell? ⟨w.heap.size, 2, none⟩ = some (.string x.2) := HH3.out.cell 2 (by omega)
      go_wp2
      go_ret
      exact ⟨rfl, HB3.out⟩
    · have hL : leafOk ix P.length x = T := by rw [← HT.out]; unfold rightProof; rw [H16D.out, HP128.out, HMK.out, if_neg hz]; rfl
      have HL := Lib.hid hL
      have HZ := Lib.hid (decide_eq_false hz)
      obtain ⟨y, l, h3⟩ : ∃ y l, comAns x.1 ix = (y, l) := ⟨_, _, rfl⟩
      have H3 := Lib.hid h3
      unfold comAns at h3
      clear hz hL
      by_cases c1 : x.1.size = 16
      · rw [if_pos ⟨c1, H16.out⟩] at h3
        obtain ⟨rfl, rfl⟩ := Prod.mk.inj h3
        clear h3
        rw [commonOf_comm] at H3
        obtain ⟨C, hC⟩ : ∃ C : Nat, commonOf ix.data.toList x.1.data.toList = C := ⟨_, rfl⟩
        rw [hC] at H3
        have HC := Lib.hid hC
        have HE0 := Lib.hid (show errOf 0 = Value.nilIface from rfl)
        clear hC
        by_cases c2 : P.length ≤ C
        · have e2 : decide (P.length ≤ C) = true := by simp [c2]
          have hF : T = decide (x.2.size = 16) := by rw [← HL.out]; unfold leafOk; rw [HC.out, decide_eq_true c1, e2]; rfl
          subst hF
          have c2' : (P.length : Int) ≤ (C : Int) := by omega
          clear c1 e2
          go_enter Tryz.func215, Tryz.ntmps215
          go_wp2_with fail
          refine (pAreOne_any ix _ _ HS1.out).mono ?_
          rintro e w1 ⟨rfl, rfl⟩
          rw [H16D.out]
          go_wp2_with fail
          refine (pAre_any P A cap _ hl (HM.out.below HB2.out)).mono ?_
          rintro e w1 ⟨rfl, rfl⟩
          rw [HMK.out]
          generalize (w.alloc (.cells #[.slice A P.length cap, .string x.1, .string x.2] 61)).alloc (.cells #[.string ix] 9) = w2 at HB2 HH2
          have p0 : w2.cell? ⟨w.heap.size, 0, none⟩ = some (.slice A P.length cap) := HH2.out.cell 0 (by omega)
          have p1 : w2.cell? ⟨w.heap.size, 1, none⟩ = some (.string x.1) := HH2.out.cell 1 (by omega)
          have p2 : w2.cell? ⟨w.heap.size, 2, none⟩ = some (.string x.2) := HH2.out.cell 2 (by omega)
          go_wp2_with fail
          refine (pEmpty_any x _).mono ?_
          rintro e w3 ⟨rfl, hb3⟩
          rw [HZ.out]
          have HB3 := Lib.hid (HB2.out.trans (hb3.mono HB2.out.size))
          have HH3 := Lib.hid (HH2.out.below hb3 HH2.out.lt)
          clear hb3 p0 p1 p2 HB2 HH2
          have p0 : w3.cell? ⟨w.heap.size, 0, none⟩ = some (.slice A P.length cap) := HH3.out.cell 0 (by omega)
          have p1 : w3.cell? ⟨w.heap.size, 1, none⟩ = some (.string x.1) := HH3.out.cell 1 (by omega)
          have p2 : w3.cell? ⟨w.heap.size, 2, none⟩ = some (.string x.2) := HH3.out.cell 2 (by omega)
          go_wp2_with fail
          refine (ixCommon_is x.1 ix (C : Int) 0 _ H3.out).mono ?_
          rintro e w1 ⟨rfl, rfl⟩
          rw [HE0.out]
          go_wp2_with fail
          refine (pAreOne_any x.2 w1.heap.size _ (strs_new w1 [x.2] 9)).mono ?_
          rintro e w4 ⟨rfl, rfl⟩
          have HB4 := Lib.hid (HB3.out.alloc HB3.out.size (.cells #[.string x.2] 9))
          go_wp2
          go_ret
          exact ⟨rfl, HB4.out⟩
        · have hF : T = false := by rw [← HL.out]; unfold leafOk; rw [HC.out, decide_eq_false c2]; simp
          subst hF
          have c2' : ¬ (P.length : Int) ≤ (C : Int) := by omega
          clear c1
          go_enter Tryz.func215, Tryz.ntmps215
          go_wp2_with fail
          refine (pAreOne_any ix _ _ HS1.out).mono ?_
          rintro e w1 ⟨rfl, rfl⟩
          rw [H16D.out]
          go_wp2_with fail
          refine (pAre_any P A cap _ hl (HM.out.below HB2.out)).mono ?_
          rintro e w1 ⟨rfl, rfl⟩
          rw [HMK.out]
          generalize (w.alloc (.cells #[.slice A P.length cap, .string x.1, .string x.2] 61)).alloc (.cells #[.string ix] 9) = w2 at HB2 HH2
          have p0 : w2.cell? ⟨w.heap.size, 0, none⟩ = some (.slice A P.length cap) := HH2.out.cell 0 (by omega)
          have p1 : w2.cell? ⟨w.heap.size, 1, none⟩ = some (.string x.1) := HH2.out.cell 1 (by omega)
          have p2 : w2.cell? ⟨w.heap.size, 2, none⟩ = some (.string x.2) := HH2.out.cell 2 (by omega)
          go_wp2_with fail
          refine (pEmpty_any x _).mono ?_
          rintro e w3 ⟨rfl, hb3⟩
          rw [HZ.out]
          have HB3 := Lib.hid (HB2.out.trans (hb3.mono HB2.out.size))
          have HH3 := Lib.hid (HH2.out.below hb3 HH2.out.lt)
          clear hb3 p0 p1 p2 HB2 HH2
          have p0 : w3.cell? ⟨w.heap.size, 0, none⟩ = some (.slice A P.length cap) := HH3.out.cell 0 (by omega)
          have p1 : w3.cell? ⟨w.heap.size, 1, none⟩ = some (.string x.1) := HH3.out.cell 1 (by omega)
          have p2 : w3.cell? ⟨w.heap.size, 2, none⟩ = some (.string x.2) := HH3.out.cell 2 (by omega)
          go_wp2_with fail
          refine (ixCommon_is x.1 ix (C : Int) 0 _ H3.out).mono ?_
          rintro e w1 ⟨rfl, rfl⟩
          rw [HE0.out]
          go_wp2
          go_ret
          exact ⟨rfl, HB3.out⟩
      · rw [if_neg (fun h => c1 h.1)] at h3
        obtain ⟨rfl, rfl⟩ := Prod.mk.inj h3
        clear h3
        have hF : T = false := by rw [← HL.out]; unfold leafOk; rw [decide_eq_false c1]; simp
        subst hF
        have HE1 := Lib.hid (show errOf 1 = Value.iface 28 (.int .i64 1) from rfl)
        clear c1
        go_enter Tryz.func215, Tryz.ntmps215
        go_wp2_with fail
        refine (pAreOne_any ix _ _ HS1.out).mono ?_
        rintro e w1 ⟨rfl, rfl⟩
        rw [H16D.out]
        go_wp2_with fail
        refine (pAre_any P A cap _ hl (HM.out.below HB2.out)).mono ?_
        rintro e w1 ⟨rfl, rfl⟩
        rw [HMK.out]
        generalize (w.alloc (.cells #[.slice A P.length cap, .string x.1, .string x.2] 61)).alloc (.cells #[.string ix] 9) = w2 at HB2 HH2
        have p0 : w2.cell? ⟨w.heap.size, 0, none⟩ = some (.slice A P.length cap) := HH2.out.cell 0 (by omega)
        have p1 : w2.cell? ⟨w.heap.size, 1, none⟩ = some (.string x.1) := HH2.out.cell 1 (by omega)
        have p2 : w2.cell? ⟨w.heap.size, 2, none⟩ = some (.string x.2) := HH2.out.cell 2 (by omega)
        go_wp2_with fail
        refine (pEmpty_any x _).mono ?_
        rintro e w3 ⟨rfl, hb3⟩
        rw [HZ.out]
        have HB3 := Lib.hid (HB2.out.trans (hb3.mono HB2.out.size))
        have HH3 := Lib.hid (HH2.out.below hb3 HH2.out.lt)
        clear hb3 p0 p1 p2 HB2 HH2
        have p0 : w3.cell? ⟨w.heap.size, 0, none⟩ = some (.slice A P.length cap) := HH3.out.cell 0 (by omega)
        have p1 : w3.cell? ⟨w.heap.size, 1, none⟩ = some (.string x.1) := HH3.out.cell 1 (by omega)
        have p2 : w3.cell? ⟨w.heap.size, 2, none⟩ = some (.string x.2) := HH3.out.cell 2 (by omega)
        go_wp2_with fail
        refine (ixCommon_is x.1 ix 0 1 _ H3.out).mono ?_
        rintro e w1 ⟨rfl, rfl⟩
        rw [HE1.out]
        go_wp2
        go_ret
        exact ⟨rfl, HB3.out⟩
  · have hF : T = false := by rw [← HT.out]; unfold rightProof; rw [decide_eq_false h16]; simp
    subst hF
    have H16D := Lib.hid (decide_eq_false h16)
    clear h16
    go_enter Tryz.func215, Tryz.ntmps215
    go_wp2_with fail
    refine (pAreOne_any ix _ _ HS1.out).mono ?_
    rintro e w1 ⟨rfl, rfl⟩
    rw [H16D.out]
    go_wp2
    go_ret
    exact ⟨rfl, HB2.out⟩
end Go.Proofs.YtgjmbokfenpefaaGreatDoor
/- The program's Root and Verify, as the document's. -/
namespace Go.Proofs.YtgjmbokfenpefaaGreatDoor
open Go.RowKit

theorem pRoot_is (ix : ByteArray) (P : List ByteArray) (A : Option Addr) (cap : Nat) (x : It) (s : ByteArray) (n : Int) (w : World) (hk : HasK w) (hl : P.length ≤ 1000000) (hm : Strs w A P) (hi : ix.size ≤ 1000000) (hx : x.1.size ≤ 1000000) (hy : x.2.size ≤ 1000000) (h : proofRootAns ix P x = (s, n)) :
    Calls Tryz.prog 160 #[.string ix, .agg #[.slice A P.length cap, .string x.1, .string x.2]] w fun e w' => e = .returned (.tuple #[.string s, errOf n]) ∧ Below w.heap.size w w' := by
  have RT : PRight := fun ix P A cap x w _ hl hm _ _ _ => pRight_any ix P A cap x w hl hm
  unfold proofRootAns at h
  by_cases hr : rightProof ix P x = true
  · rw [if_pos hr] at h
    obtain ⟨rfl, rfl⟩ := Prod.mk.inj h
    exact pRoot_yes RT ix P A cap x w hk hl hm hi hx hy hr
  · rw [if_neg hr] at h
    obtain ⟨rfl, rfl⟩ := Prod.mk.inj h
    exact pRoot_no RT ix P A cap x w hk hl hm hi hx hy (by simpa using hr)

set_option maxHeartbeats 1000000 in
set_option maxRecDepth 100000 in
theorem pVerify_is (root ix : ByteArray) (P : List ByteArray) (A : Option Addr) (cap : Nat) (x : It) (c : ByteArray) (t : Bool) (n : Int) (w : World) (hk : HasK w) (hl : P.length ≤ 1000000) (hm : Strs w A P) (hi : ix.size ≤ 1000000) (hx : x.1.size ≤ 1000000) (hy : x.2.size ≤ 1000000) (h : verifyAns root ix P x = (c, t, n)) :
    Calls Tryz.prog 97 #[.string root, .string ix, .agg #[.slice A P.length cap, .string x.1, .string x.2]] w fun e w' => e = .returned (.tuple #[.string c, .bool t, errOf n]) ∧ Below w.heap.size w w' := by
  have HBW := Lib.hid (alloc_below w (.cells #[.slice A P.length cap, .string x.1, .string x.2] 61))
  have HN := Lib.hid (show Holds (w.alloc (.cells #[.slice A P.length cap, .string x.1, .string x.2] 61)) w.heap.size 3 (pCells (.slice A P.length cap) x) 61 from Holds.new w 3 (pCells (.slice A P.length cap) x) 61)
  have HK := Lib.hid (hk.below HBW.out hk.lt)
  have HM := Lib.hid (hm.below HBW.out)
  clear hk hm
  obtain ⟨s, m, hpr⟩ : ∃ s m, proofRootAns ix P x = (s, m) := ⟨_, _, rfl⟩
  have HPR := Lib.hid hpr
  have hm01 : m = 0 ∨ m = 1 := by
    unfold proofRootAns at hpr
    split at hpr
    · exact .inl (Prod.mk.inj hpr).2.symm
    · exact .inr (Prod.mk.inj hpr).2.symm
  unfold verifyAns at h
  rw [hpr] at h
  clear hpr
  rcases hm01 with rfl | rfl
  · rw [if_neg (by omega)] at h
    have HE0 := Lib.hid (show errOf 0 = Value.nilIface from rfl)
    by_cases hs : s ≠ root
    · rw [if_pos hs] at h
      obtain ⟨rfl, h2⟩ := Prod.mk.inj h
      obtain ⟨rfl, rfl⟩ := Prod.mk.inj h2
      have e1 : (s.toList == root.toList) = false := by rw [beq_eq_false_iff_ne]; exact fun e => hs ((text_eq _ _).1 e)
      clear h h2 hs
      go_enter Tryz.func97, Tryz.ntmps97
      go_wp2_with fail
      refine (pRoot_is ix P A cap x _ _ _ HK.out hl HM.out hi hx hy HPR.out).mono ?_
      rintro e w1 ⟨rfl, hb1⟩
      rw [HE0.out]
      have HB1 := Lib.hid (HBW.out.trans (hb1.mono HBW.out.size))
      clear hb1
      go_wp2
      refine bodyPost_ret (results_tmp3' rfl _ _ _) rfl ?_
      exact ⟨rfl, HB1.out⟩
    · have hs' : s = root := Classical.not_not.1 hs
      subst hs'
      rw [if_neg hs] at h
      by_cases hxi : x.1 = ix
      · rw [if_pos hxi] at h
        obtain ⟨rfl, h2⟩ := Prod.mk.inj h
        obtain ⟨rfl, rfl⟩ := Prod.mk.inj h2
        subst hxi
        clear h h2 hs
        go_enter Tryz.func97, Tryz.ntmps97
        go_wp2_with fail
        refine (pRoot_is _ P A cap x _ _ _ HK.out hl HM.out hi hx hy HPR.out).mono ?_
        rintro e w1 ⟨rfl, hb1⟩
        rw [HE0.out]
        have HB1 := Lib.hid (HBW.out.trans (hb1.mono HBW.out.size))
        have HN1 := Lib.hid (HN.out.below hb1 HN.out.lt)
        have c1 : w1.cell? ⟨w.heap.size, 1, none⟩ = some (.string x.1) := HN1.out.cell 1 (by omega)
        have c2 : w1.cell? ⟨w.heap.size, 2, none⟩ = some (.string x.2) := HN1.out.cell 2 (by omega)
        clear hb1
        go_wp2
        refine bodyPost_ret (results_tmp3' rfl _ _ _) rfl ?_
        exact ⟨rfl, HB1.out⟩
      · rw [if_neg hxi] at h
        obtain ⟨rfl, h2⟩ := Prod.mk.inj h
        obtain ⟨rfl, rfl⟩ := Prod.mk.inj h2
        have e1 : (x.1.toList == ix.toList) = false := by rw [beq_eq_false_iff_ne]; exact fun e => hxi ((text_eq _ _).1 e)
        clear h h2 hs hxi
        go_enter Tryz.func97, Tryz.ntmps97
        go_wp2_with fail
        refine (pRoot_is _ P A cap x _ _ _ HK.out hl HM.out hi hx hy HPR.out).mono ?_
        rintro e w1 ⟨rfl, hb1⟩
        rw [HE0.out]
        have HB1 := Lib.hid (HBW.out.trans (hb1.mono HBW.out.size))
        have HN1 := Lib.hid (HN.out.below hb1 HN.out.lt)
        have c1 : w1.cell? ⟨w.heap.size, 1, none⟩ = some (.string x.1) := HN1.out.cell 1 (by omega)
        have c2 : w1.cell? ⟨w.heap.size, 2, none⟩ = some (.string x.2) := HN1.out.cell 2 (by omega)
        clear hb1
        go_wp2
        refine bodyPost_ret (results_tmp3' rfl _ _ _) rfl ?_
        exact ⟨rfl, HB1.out⟩
  · rw [if_pos (by omega)] at h
    have HE1 := Lib.hid (show errOf 1 = Value.iface 28 (.int .i64 1) from rfl)
    obtain ⟨rfl, h2⟩ := Prod.mk.inj h
    obtain ⟨rfl, rfl⟩ := Prod.mk.inj h2
    clear h h2
    go_enter Tryz.func97, Tryz.ntmps97
    go_wp2_with fail
    refine (pRoot_is ix P A cap x _ _ _ HK.out hl HM.out hi hx hy HPR.out).mono ?_
    rintro e w1 ⟨rfl, hb1⟩
    rw [HE1.out]
    have HB1 := Lib.hid (HBW.out.trans (hb1.mono HBW.out.size))
    clear hb1
    go_wp2
    refine bodyPost_ret (results_tmp3' rfl _ _ _) rfl ?_
    exact ⟨rfl, HB1.out⟩

end Go.Proofs.YtgjmbokfenpefaaGreatDoor
