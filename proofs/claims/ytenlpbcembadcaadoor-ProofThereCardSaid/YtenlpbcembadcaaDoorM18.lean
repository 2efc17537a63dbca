/- Parts of the proof, one behind the other: PRight, PVerify, PThere, Open, Laid. -/
import Derived.Test.YtenlpbcembadcaaDoorM17
import Derived.Test.YtenlpbcembadcaaDoorM2
import Derived.Test.YtenlpbcembadcaaDoorM7
import Derived.Test.YtenlpbcembadcaaDoorM16
import Derived.Test.YtenlpbcembadcaaDoorM5
import Derived.Deep.Slices
import Derived.Deep.Fields
import Derived.ChangeSame
import Derived.Lib.SmallJoins
import Derived.SliceStrings
import Derived.OpenShut
import Derived.Test.YtenlpbcembadcaaDoorRows
import Derived.Test.YtenlpbcembadcaaDoorM12
import Derived.Test.YtenlpbcembadcaaDoorM3
import Derived.WalkKit
import Derived.ProofKit
import Derived.Deep.DeepHandedRow
import Derived.Lib.LaidTab
import Derived.LaidHandle
/- The program's Right of proofs. -/
namespace Go.Proofs.YtenlpbcembadcaaDoor
open Go.RowKit

theorem commonOf_comm (A B : List UInt8) : commonOf A B = commonOf B A :=
  commonOf_is A B _ (commonOf_le B A) (fun k h => (commonOf_same B A k h).symm) (fun h e => commonOf_other B A h e.symm)

set_option maxHeartbeats 1000000 in
set_option maxRecDepth 100000 in
theorem pRight_any (ix : ByteArray) (P : List ByteArray) (A : Option Addr) (cap : Nat) (x : It) (w : World) (hl : P.length ≤ 1000000) (hm : Strs w A P) :
    Calls Tryd.prog 11 #[.string ix, .agg #[.slice A P.length cap, .string x.1, .string x.2]] w fun e w' => e = .returned (.bool (rightProof ix P x)) ∧ Below w.heap.size w w' := by
  have HM := Lib.hid hm
  have HBW := Lib.hid (alloc_below w (.cells #[.slice A P.length cap, .string x.1, .string x.2] 26))
  have HB2 := Lib.hid (show Below w.heap.size w ((w.alloc (.cells #[.slice A P.length cap, .string x.1, .string x.2] 26)).alloc (.cells #[.string ix] 9)) from ((Below.refl _ w).alloc (Nat.le_refl _) _).alloc (by simp) _)
  have HH2 := Lib.hid (show Holds ((w.alloc (.cells #[.slice A P.length cap, .string x.1, .string x.2] 26)).alloc (.cells #[.string ix] 9)) w.heap.size 3 (pCells (.slice A P.length cap) x) 26 from (Holds.new w 3 (pCells (.slice A P.length cap) x) 26).alloc _)
  have HS1 := Lib.hid (show Strs ((w.alloc (.cells #[.slice A P.length cap, .string x.1, .string x.2] 26)).alloc (.cells #[.string ix] 9)) (some ⟨w.heap.size + 1, 0, none⟩) [ix] by
    have := strs_new (w.alloc (.cells #[.slice A P.length cap, .string x.1, .string x.2] 26)) [ix] 9; rw [World.size_alloc] at this; exact this)
  clear hm
  obtain ⟨T, hT⟩ : ∃ T, rightProof ix P x = T := ⟨_, rfl⟩
  rw [hT]
  have HT := Lib.hid hT
  clear hT
  by_cases hp : 128 < P.length
  · have hF : T = false := by rw [← HT.out]; unfold rightProof; rw [decide_eq_false (show ¬ P.length ≤ 128 by omega)]; simp
    subst hF
    go_enter Tryd.func11, Tryd.ntmps11
    go_wp2
    go_ret
    exact ⟨rfl, HBW.out⟩
  have HP128 := Lib.hid (show decide (P.length ≤ 128) = true from decide_eq_true (by omega))
  by_cases h16 : ix.size = 16
  · have H16 := Lib.hid h16
    have H16D := Lib.hid (decide_eq_true h16)
    obtain ⟨M, hmk⟩ : ∃ M, marksOk P = M := ⟨_, rfl⟩
    have HMK := Lib.hid hmk
    clear hmk h16
    cases M
    · have hF : T = false := by rw [← HT.out]; unfold rightProof; rw [HMK.out]; simp
      subst hF
      go_enter Tryd.func11, Tryd.ntmps11
      go_wp2_with fail
      refine (pAreOne_any ix _ _ HS1.out).mono ?_
      rintro e w1 ⟨rfl, rfl⟩
      rw [H16D.out]
      go_wp2_with fail
      refine (pAre_any P A cap _ hl (HM.out.below HB2.out)).mono ?_
      rintro e w1 ⟨rfl, rfl⟩
      rw [HMK.out]
      go_wp2
      go_ret
      exact ⟨rfl, HB2.out⟩
    by_cases hz : x.1.size = 0 ∧ x.2.size = 0
    · have hF : T = true := by rw [← HT.out]; unfold rightProof; rw [H16D.out, HP128.out, HMK.out, if_pos hz]; rfl
      have HZ := Lib.hid (decide_eq_true hz)
      subst hF
      clear hz
      go_enter Tryd.func11, Tryd.ntmps11
      go_wp2_with fail
      refine (pAreOne_any ix _ _ HS1.out).mono ?_
      rintro e w1 ⟨rfl, rfl⟩
      rw [H16D.out]
      go_wp2_with fail
      refine (pAre_any P A cap _ hl (HM.out.below HB2.out)).mono ?_
      rintro e w1 ⟨rfl, rfl⟩
      rw [HMK.out]
      generalize (w.alloc (.cells #[.slice A P.length cap, .string x.1, .string x.2] 26)).alloc (.cells #[.string ix] 9) = w2 at HB2 HH2
      have p0 : w2.cell? ⟨w.heap.size, 0, none⟩ = some (.slice A P.length cap) := HH2.out.cell 0 (by omega)
      have p1 : w2.cell? ⟨w.heap.size, 1, none⟩ = some (.string x.1) := HH2.out.cell 1 (by omega)
      have p2 : w2.cell? ⟨w.heap.size, 2, none⟩ = some (.string x.2) := HH2.out.cell 2 (by omega)
      go_wp2_with fail
      refine (pEmpty_any x _).mono ?_
      rintro e w3 ⟨rfl, hb3⟩
      rw [HZ.out]
      have HB3 := Lib.hid (HB2.out.trans (hb3.mono HB2.out.size))
      have HH3 := Lib.hid (HH2.out.below hb3 HH2.out.lt)
      clear hb3 p0 p1 p2 HB2 HH2
      have p0 : w3.cell? ⟨w.heap.size, 0, none⟩ = some (.slice A P.length cap) := HH3.out.cell 0 (by omega)
      have p1 : w3.cell? ⟨w.heap.size, 1, none⟩ = some (.string x.1) := HH3.out.cell 1 (by omega)
      have p2 : w3.cell? ⟨w.heap.size, 2, none⟩ = some (.string x.2) := HH3.out.cell 2 (by omega)
      go_wp2
      go_ret
      exact ⟨rfl, HB3.out⟩
    · have hL : leafOk ix P.length x = T := by rw [← HT.out]; unfold rightProof; rw [H16D.out, HP128.out, HMK.out, if_neg hz]; rfl
      have HL := Lib.hid hL
      have HZ := Lib.hid (decide_eq_false hz)
      obtain ⟨y, l, h3⟩ : ∃ y l, comAns x.1 ix = (y, l) := ⟨_, _, rfl⟩
      have H3 := Lib.hid h3
      unfold comAns at h3
      clear hz hL
      by_cases c1 : x.1.size = 16
      · rw [if_pos ⟨c1, H16.out⟩] at h3
        obtain ⟨rfl, rfl⟩ := Prod.mk.inj h3
        clear h3
        rw [commonOf_comm] at H3
        obtain ⟨C, hC⟩ : ∃ C : Nat, commonOf ix.data.toList x.1.data.toList = C := ⟨_, rfl⟩
        rw [hC] at H3
        have HC := Lib.hid hC
        have HE0 := Lib.hid (show errOf 0 = Value.nilIface from rfl)
        clear hC
        by_cases c2 : P.length ≤ C
        · have e2 : decide (P.length ≤ C) = true := by simp [c2]
          have hF : T = decide (x.2.size = 16) := by rw [← HL.out]; unfold leafOk; rw [HC.out, decide_eq_true c1, e2]; rfl
          subst hF
          have c2' : (P.length : Int) ≤ (C : Int) := by omega
          clear c1 e2
          go_enter Tryd.func11, Tryd.ntmps11
          go_wp2_with fail
          refine (pAreOne_any ix _ _ HS1.out).mono ?_
          rintro e w1 ⟨rfl, rfl⟩
          rw [H16D.out]
          go_wp2_with fail
          refine (pAre_any P A cap _ hl (HM.out.below HB2.out)).mono ?_
          rintro e w1 ⟨rfl, rfl⟩
          rw [HMK.out]
          generalize (w.alloc (.cells #[.slice A P.length cap, .string x.1, .string x.2] 26)).alloc (.cells #[.string ix] 9) = w2 at HB2 HH2
          have p0 : w2.cell? ⟨w.heap.size, 0, none⟩ = some (.slice A P.length cap) := HH2.out.cell 0 (by omega)
          have p1 : w2.cell? ⟨w.heap.size, 1, none⟩ = some (.string x.1) := HH2.out.cell 1 (by omega)
          have p2 : w2.cell? ⟨w.heap.size, 2, none⟩ = some (.string x.2) := HH2.out.cell 2 (by omega)
          go_wp2_with fail
          refine (pEmpty_any x _).mono ?_
          rintro e w3 ⟨rfl, hb3⟩
          rw [HZ.out]
          have HB3 := Lib.hid (HB2.out.trans (hb3.mono HB2.out.size))
          have HH3 := Lib.hid (HH2.out.below hb3 HH2.out.lt)
          clear hb3 p0 p1 p2 HB2 HH2
          have p0 : w3.cell? ⟨w.heap.size, 0, none⟩ = some (.slice A P.length cap) := HH3.out.cell 0 (by omega)
          have p1 : w3.cell? ⟨w.heap.size, 1, none⟩ = some (.string x.1) := HH3.out.cell 1 (by omega)
          have p2 : w3.cell? ⟨w.heap.size, 2, none⟩ = some (.string x.2) := HH3.out.cell 2 (by omega)
          go_wp2_with fail
          refine (ixCommon_is x.1 ix (C : Int) 0 _ H3.out).mono ?_
          rintro e w1 ⟨rfl, rfl⟩
          rw [HE0.out]
          go_wp2_with fail
          refine (pAreOne_any x.2 w1.heap.size _ (strs_new w1 [x.2] 9)).mono ?_
          rintro e w4 ⟨rfl, rfl⟩
          have HB4 := Lib.hid (HB3.out.alloc HB3.out.size (.cells #[.string x.2] 9))
          go_wp2
          go_ret
          exact ⟨rfl, HB4.out⟩
        · have hF : T = false := by rw [← HL.out]; unfold leafOk; rw [HC.out, decide_eq_false c2]; simp
          subst hF
          have c2' : ¬ (P.length : Int) ≤ (C : Int) := by omega
          clear c1
          go_enter Tryd.func11, Tryd.ntmps11
          go_wp2_with fail
          refine (pAreOne_any ix _ _ HS1.out).mono ?_
          rintro e w1 ⟨rfl, rfl⟩
          rw [H16D.out]
          go_wp2_with fail
          refine (pAre_any P A cap _ hl (HM.out.below HB2.out)).mono ?_
          rintro e w1 ⟨rfl, rfl⟩
          rw [HMK.out]
          generalize (w.alloc (.cells #[.slice A P.length cap, .string x.1, .string x.2] 26)).alloc (.cells #[.string ix] 9) = w2 at HB2 HH2
          have p0 : w2.cell? ⟨w.heap.size, 0, none⟩ = some (.slice A P.length cap) := HH2.out.cell 0 (by omega)
          have p1 : w2.cell? ⟨w.heap.size, 1, none⟩ = some (.string x.1) := HH2.out.cell 1 (by omega)
          have p2 : w2.cell? ⟨w.heap.size, 2, none⟩ = some (.string x.2) := HH2.out.cell 2 (by omega)
          go_wp2_with fail
          refine (pEmpty_any x _).mono ?_
          rintro e w3 ⟨rfl, hb3⟩
          rw [HZ.out]
          have HB3 := Lib.hid (HB2.out.trans (hb3.mono HB2.out.size))
          have HH3 := Lib.hid (HH2.out.below hb3 HH2.out.lt)
          clear hb3 p0 p1 p2 HB2 HH2
          have p0 : w3.cell? ⟨w.heap.size, 0, none⟩ = some (.slice A P.length cap) := HH3.out.cell 0 (by omega)
          have p1 : w3.cell? ⟨w.heap.size, 1, none⟩ = some (.string x.1) := HH3.out.cell 1 (by omega)
          have p2 : w3.cell? ⟨w.heap.size, 2, none⟩ = some (.string x.2) := HH3.out.cell 2 (by omega)
          go_wp2_with fail
          refine (ixCommon_is x.1 ix (C : Int) 0 _ H3.out).mono ?_
          rintro e w1 ⟨rfl, rfl⟩
          rw [HE0.out]
          go_wp2
          go_ret
          exact ⟨rfl, HB3.out⟩
      · rw [if_neg (fun h => c1 h.1)] at h3
        obtain ⟨rfl, rfl⟩ := Prod.mk.inj h3
        clear h3
        have hF : T = false := by rw [← HL.out]; unfold leafOk; rw [decide_eq_false c1]; simp
        subst hF
        have HE1 := Lib.hid (show errOf 1 = Value.iface 31 (.int .i64 1) from rfl)
        clear c1
        go_enter Tryd.func11, Tryd.ntmps11
        go_wp2_with fail
        refine (pAreOne_any ix _ _ HS1.out).mono ?_
        rintro e w1 ⟨rfl, rfl⟩
        rw [H16D.out]
        go_wp2_with fail
        refine (pAre_any P A cap _ hl (HM.out.below HB2.out)).mono ?_
        rintro e w1 ⟨rfl, rfl⟩
        rw [HMK.out]
        generalize (w.alloc (.cells #[.slice A P.length cap, .string x.1, .string x.2] 26)).alloc (.cells #[.string ix] 9) = w2 at HB2 HH2
        have p0 : w2.cell? ⟨w.heap.size, 0, none⟩ = some (.slice A P.length cap) := HH2.out.cell 0 (by omega)
        have p1 : w2.cell? ⟨w.heap.size, 1, none⟩ = some (.string x.1) := HH2.out.cell 1 (by omega)
        have p2 : w2.cell? ⟨w.heap.size, 2, none⟩ = some (.string x.2) := HH2.out.cell 2 (by omega)
        go_wp2_with fail
        refine (pEmpty_any x _).mono ?_
        rintro e w3 ⟨rfl, hb3⟩
        rw [HZ.out]
        have HB3 := Lib.hid (HB2.out.trans (hb3.mono HB2.out.size))
        have HH3 := Lib.hid (HH2.out.below hb3 HH2.out.lt)
        clear hb3 p0 p1 p2 HB2 HH2
        have p0 : w3.cell? ⟨w.heap.size, 0, none⟩ = some (.slice A P.length cap) := HH3.out.cell 0 (by omega)
        have p1 : w3.cell? ⟨w.heap.size, 1, none⟩ = some (.string x.1) := HH3.out.cell 1 (by omega)
        have p2 : w3.cell? ⟨w.heap.size, 2, none⟩ = some (.string x.2) := HH3.out.cell 2 (by omega)
        go_wp2_with fail
        refine (ixCommon_is x.1 ix 0 1 _ H3.out).mono ?_
        rintro e w1 ⟨rfl, rfl⟩
        rw [HE1.out]
        go_wp2
        go_ret
        exact ⟨rfl, HB3.out⟩
  · have hF : T = false := by rw [← HT.out]; unfold rightProof; rw [decide_eq_false h16]; simp
    subst hF
    have H16D := Lib.hid (decide_eq_false h16)
    clear h16
    go_enter Tryd.func11, Tryd.ntmps11
    go_wp2_with fail
    refine (pAreOne_any ix _ _ HS1.out).mono ?_
    rintro e w1 ⟨rfl, rfl⟩
    rw [H16D.out]
    go_wp2
    go_ret
    exact ⟨rfl, HB2.out⟩
end Go.Proofs.YtenlpbcembadcaaDoor
/- The program's Root and Verify, as the document's. -/
namespace Go.Proofs.YtenlpbcembadcaaDoor
open Go.RowKit

theorem pRoot_is (ix : ByteArray) (P : List ByteArray) (A : Option Addr) (cap : Nat) (x : It) (s : ByteArray) (n : Int) (w : World) (hk : HasK w) (hl : P.length ≤ 1000000) (hm : Strs w A P) (hi : ix.size ≤ 1000000) (hx : x.1.size ≤ 1000000) (hy : x.2.size ≤ 1000000) (h : proofRootAns ix P x = (s, n)) :
    Calls Tryd.prog 9 #[.string ix, .agg #[.slice A P.length cap, .string x.1, .string x.2]] w fun e w' => e = .returned (.tuple #[.string s, errOf n]) ∧ Below w.heap.size w w' := by
  have RT : PRight := fun ix P A cap x w _ hl hm _ _ _ => pRight_any ix P A cap x w hl hm
  unfold proofRootAns at h
  by_cases hr : rightProof ix P x = true
  · rw [if_pos hr] at h
    obtain ⟨rfl, rfl⟩ := Prod.mk.inj h
    exact pRoot_yes RT ix P A cap x w hk hl hm hi hx hy hr
  · rw [if_neg hr] at h
    obtain ⟨rfl, rfl⟩ := Prod.mk.inj h
    exact pRoot_no RT ix P A cap x w hk hl hm hi hx hy (by simpa using hr)

set_option maxHeartbeats 1000000 in
set_option maxRecDepth 100000 in
theorem pVerify_is (root ix : ByteArray) (P : List ByteArray) (A : Option Addr) (cap : Nat) (x : It) (c : ByteArray) (t : Bool) (n : Int) (w : World) (hk : HasK w) (hl : P.length ≤ 1000000) (hm : Strs w A P) (hi : ix.size ≤ 1000000) (hx : x.1.size ≤ 1000000) (hy : x.2.size ≤ 1000000) (h : verifyAns root ix P x = (c, t, n)) :
    Calls Tryd.prog 14 #[.string root, .string ix, .agg #[.slice A P.length cap, .string x.1, .string x.2]] w fun e w' => e = .returned (.tuple #[.string c, .bool t, errOf n]) ∧ Below w.heap.size w w' := by
  have HBW := Lib.hid (alloc_below w (.cells #[.slice A P.length cap, .string x.1, .string x.2] 26))
  have HN := Lib.hid (show Holds (w.alloc (.cells #[.slice A P.length cap, .string x.1, .string x.2] 26)) w.heap.size 3 (pCells (.slice A P.length cap) x) 26 from Holds.new w 3 (pCells (.slice A P.length cap) x) 26)
  have HK := Lib.hid (hk.below HBW.out hk.lt)
  have HM := Lib.hid (hm.below HBW.out)
  clear hk hm
  obtain ⟨s, m, hpr⟩ : ∃ s m, proofRootAns ix P x = (s, m) := ⟨_, _, rfl⟩
  have HPR := Lib.hid hpr
  have hm01 : m = 0 ∨ m = 1 := by
    unfold proofRootAns at hpr
    split at hpr
    · exact .inl (Prod.mk.inj hpr).2.symm
    · exact .inr (Prod.mk.inj hpr).2.symm
  unfold verifyAns at h
  rw [hpr] at h
  clear hpr
  rcases hm01 with rfl | rfl
  · rw [if_neg (by omega)] at h
    have HE0 := Lib.hid (show errOf 0 = Value.nilIface from rfl)
    by_cases hs : s ≠ root
    · rw [if_pos hs] at h
      obtain ⟨rfl, h2⟩ := Prod.mk.inj h
      obtain ⟨rfl, rfl⟩ := Prod.mk.inj h2
      have e1 : (s.toList == root.toList) = false := by rw [beq_eq_false_iff_ne]; exact fun e => hs ((text_eq _ _).1 e)
      clear h h2 hs
      go_enter Tryd.func14, Tryd.ntmps14
      go_wp2_with fail
      refine (pRoot_is ix P A cap x _ _ _ HK.out hl HM.out hi hx hy HPR.out).mono ?_
      rintro e w1 ⟨rfl, hb1⟩
      rw [HE0.out]
      have HB1 := Lib.hid (HBW.out.trans (hb1.mono HBW.out.size))
      clear hb1
      go_wp2
      refine bodyPost_ret (results_tmp3' rfl _ _ _) rfl ?_
      exact ⟨rfl, HB1.out⟩
    · have hs' : s = root := Classical.not_not.1 hs
      subst hs'
      rw [if_neg hs] at h
      by_cases hxi : x.1 = ix
      · rw [if_pos hxi] at h
        obtain ⟨rfl, h2⟩ := Prod.mk.inj h
        obtain ⟨rfl, rfl⟩ := Prod.mk.inj h2
        subst hxi
        clear h h2 hs
        go_enter Tryd.func14, Tryd.ntmps14
        go_wp2_with fail
        refine (pRoot_is _ P A cap x _ _ _ HK.out hl HM.out hi hx hy HPR.out).mono ?_
        rintro e w1 ⟨rfl, hb1⟩
        rw [HE0.out]
        have HB1 := Lib.hid (HBW.out.trans (hb1.mono HBW.out.size))
        have HN1 := Lib.hid (HN.out.below hb1 HN.out.lt)
        have c1 : w1.cell? ⟨w.heap.size, 1, none⟩ = some (.string x.1) := HN1.out.cell 1 (by omega)
        have c2 : w1.cell? ⟨w.heap.size, 2, none⟩ = some (.string x.2) := HN1.out.cell 2 (by omega)
        clear hb1
        go_wp2
        refine bodyPost_ret (results_tmp3' rfl _ _ _) rfl ?_
        exact ⟨rfl, HB1.out⟩
      · rw [if_neg hxi] at h
        obtain ⟨rfl, h2⟩ := Prod.mk.inj h
        obtain ⟨rfl, rfl⟩ := Prod.mk.inj h2
        have e1 : (x.1.toList == ix.toList) = false := by rw [beq_eq_false_iff_ne]; exact fun e => hxi ((text_eq _ _).1 e)
        clear h h2 hs hxi
        go_enter Tryd.func14, Tryd.ntmps14
        go_wp2_with fail
        refine (pRoot_is _ P A cap x _ _ _ HK.out hl HM.out hi hx hy HPR.out).mono ?_
        rintro e w1 ⟨rfl, hb1⟩
        rw [HE0.out]
        have HB1 := Lib.hid (HBW.out.trans (hb1.mono HBW.out.size))
        have HN1 := Lib.hid (HN.out.below hb1 HN.out.lt)
        have c1 : w1.cell? ⟨w.heap.size, 1, none⟩ = some (.string x.1) := HN1.out.cell 1 (by omega)
        have c2 : w1.cell? ⟨w.heap.size, 2, none⟩ = some (.string x.2) := HN1.out.cell 2 (by omega)
        clear hb1
        go_wp2
        refine bodyPost_ret (results_tmp3' rfl _ _ _) rfl ?_
        exact ⟨rfl, HB1.out⟩
  · rw [if_pos (by omega)] at h
    have HE1 := Lib.hid (show errOf 1 = Value.iface 31 (.int .i64 1) from rfl)
    obtain ⟨rfl, h2⟩ := Prod.mk.inj h
    obtain ⟨rfl, rfl⟩ := Prod.mk.inj h2
    clear h h2
    go_enter Tryd.func14, Tryd.ntmps14
    go_wp2_with fail
    refine (pRoot_is ix P A cap x _ _ _ HK.out hl HM.out hi hx hy HPR.out).mono ?_
    rintro e w1 ⟨rfl, hb1⟩
    rw [HE1.out]
    have HB1 := Lib.hid (HBW.out.trans (hb1.mono HBW.out.size))
    clear hb1
    go_wp2
    refine bodyPost_ret (results_tmp3' rfl _ _ _) rfl ?_
    exact ⟨rfl, HB1.out⟩

end Go.Proofs.YtenlpbcembadcaaDoor
/- ProofThere, over the program's Verify. -/
namespace Go.Proofs.YtenlpbcembadcaaDoor
open Go.RowKit
theorem verifyFace : VerifyFace where
  verify root ix P A cap x c t n w hk hl hm hi hx hy h := pVerify_is root ix P A cap x c t n w hk hl hm hi hx hy h
end Go.Proofs.YtenlpbcembadcaaDoor
/- Arguments opened: lists of items, of texts; an item. -/
namespace Go.Proofs.YtenlpbcembadcaaDoor
open Go.ChangeShapes Go.WideShapes Go.Deep Go.RowKit

section
variable {H : Type} {enc : TypeId × Value → H} {P : Program} {w : World} {base : Nat} {spare : Nat → Bool} {held : Bool}
theorem open_slice_fields {t e : TypeId} {fs : Array Field} {fuel : Nat} {cs : List Value} {x : DataW H × List MemPlace} (ht : P.underlying t = some (.slice e)) (he : P.underlying e = some (.struct fs))
    (hone : oneCellFields P fs = true) (hC : P.cellsOf e = fs.size) (h : DataW.trod enc P w base spare held fuel t cs = some x) :
    (cs = [.slice none 0 0] ∧ x = (.nil, [])) ∨
    ∃ (a : Addr) (len cap m : Nat), cs = [.slice (some a) len cap] ∧ len ≤ cap ∧ m = (if spare a.block then cap else len) ∧
      ∀ i, i < m → ∃ (ys : List (DataW H × List MemPlace)) (n : Nat), ys.length = fs.size ∧
        ∀ (j : Nat) (f : Field), fs[j]? = some f → ∃ (v : Value) (y : DataW H × List MemPlace), w.cell? (a.add (i * fs.size + j)) = some v ∧ ys[j]? = some y ∧ DataW.trod enc P w base spare held n f.type [v] = some y := by
  rcases open_slice ht h with h0 | ⟨a, len, cap, m, n, D, Pl, hcs, hb, hl, hm, hmm, hx, hi⟩
  · exact .inl h0
  · refine .inr ⟨a, len, cap, m, hcs, hl, hmm, fun i him => ?_⟩
    obtain ⟨cs', hc, ht'⟩ := hi i him
    rw [hC] at hc
    obtain ⟨ys, n', hn', hy, hlen, hyl, hf⟩ := DataW.trod_struct he ht'
    obtain ⟨_, hcl, hat⟩ := World.cells?_some hc
    refine ⟨ys, n', hyl, fun j f hj => ?_⟩
    obtain ⟨ho, hk⟩ := hone_of hone j f hj
    have hjl : j < fs.size := (Array.getElem?_eq_some_iff.1 hj).1
    have hcell := hat j hjl
    have hv : cs'[j]? = some (cs'[j]'(by omega)) := List.getElem?_eq_getElem (by omega)
    have h1 := hf j f hj
    rw [ho, hk] at h1
    have hone' : (cs'.drop j).take 1 = [cs'[j]'(by omega)] := by
      rw [List.drop_eq_getElem_cons (by omega)]
      rfl
    rw [hone'] at h1
    have hys : ys[j]? = some (ys[j]'(by omega)) := List.getElem?_eq_getElem (by omega)
    refine ⟨_, _, ?_, hys, h1.trans hys⟩
    rw [← Go.Deep.add_add, hcell, hv]
/-- A list of structs of two texts, as items. -/
theorem open_items {t e : TypeId} {f0 f1 : Field} {a0 : Option Addr} {len cap : Nat} {d : DataW H} {p : List MemPlace} (ht : P.underlying t = some (.slice e)) (he : P.underlying e = some (.struct #[f0, f1]))
    (hone : oneCellFields P #[f0, f1] = true) (hC : P.cellsOf e = 2) (h0 : P.underlying f0.type = some .string) (h1 : P.underlying f1.type = some .string) (h : DataW.Trod enc P w base spare held t (.slice a0 len cap) d p) :
    ∃ L : List It, L.length = len ∧ len ≤ cap ∧ Itms w a0 L := by
  obtain ⟨fuel, hf⟩ := h
  rcases open_slice_fields ht he hone hC hf with ⟨hcs, _⟩ | ⟨a, len', cap', m, hcs, hl, hm, hi⟩
  · simp [Value.cells] at hcs
    obtain ⟨rfl, rfl, rfl⟩ := hcs
    exact ⟨[], rfl, Nat.le_refl 0, Itms.nil _ _⟩
  · simp [Value.cells] at hcs
    obtain ⟨rfl, rfl, rfl⟩ := hcs
    have hlm : len ≤ m := by rw [hm]; split <;> omega
    have key : ∀ i, i < len → ∃ x : It, w.cell? (a.add (i * 2)) = some (.string x.1) ∧ w.cell? ((a.add (i * 2)).add 1) = some (.string x.2) := by
      intro i hil
      obtain ⟨ys, n, _, hj⟩ := hi i (by omega)
      obtain ⟨v, y, hc, _, hy⟩ := hj 0 f0 rfl
      obtain ⟨v', y', hc', _, hy'⟩ := hj 1 f1 rfl
      obtain ⟨s, e0, _, _⟩ := DataW.trod_string h0 hy
      obtain ⟨s', e1, _, _⟩ := DataW.trod_string h1 hy'
      obtain rfl := List.singleton_inj.1 e0
      obtain rfl := List.singleton_inj.1 e1
      exact ⟨(s, s'), hc, by rw [add_add']; exact hc'⟩
    refine ⟨(List.range len).map fun i => if hi : i < len then (key i hi).choose else (⟨#[]⟩, ⟨#[]⟩), by simp, hl, ?_⟩
    intro i x hx
    have hil : i < len := by have := (List.getElem?_eq_some_iff.1 hx).1; simpa using this
    have hk := (key i hil).choose_spec
    rw [List.getElem?_map, List.getElem?_range hil, Option.map_some, dif_pos hil] at hx
    rw [Option.some.inj hx] at hk
    exact ⟨a, rfl, by have := block_lt_of_cell hk.1; rwa [block_add] at this, hk.1, hk.2⟩
theorem open_texts {t e : TypeId} {a0 : Option Addr} {len cap : Nat} {d : DataW H} {p : List MemPlace} (ht : P.underlying t = some (.slice e)) (he : P.underlying e = some .string) (hc : P.cellsOf e = 1)
    (h : DataW.Trod enc P w base spare held t (.slice a0 len cap) d p) : ∃ L : List ByteArray, L.length = len ∧ Strs w a0 L := by
  obtain ⟨fuel, hf⟩ := h
  rcases open_strings ht he hc hf with ⟨hcs, hx⟩ | ⟨a, len', cap', ss, hcs, _, hl, hm, hz, hx, hcell, hws⟩
  · simp [Value.cells] at hcs
    obtain ⟨rfl, rfl, rfl⟩ := hcs
    exact ⟨[], rfl, Strs.nil _ _⟩
  · simp [Value.cells] at hcs
    obtain ⟨rfl, rfl, rfl⟩ := hcs
    have hle : len ≤ ss.length := by rw [hz]; split <;> omega
    refine ⟨ss.take len, by rw [List.length_take]; omega, fun i p hp => ?_⟩
    have hi : i < len := by have := (List.getElem?_eq_some_iff.1 hp).1; rw [List.length_take] at this; omega
    have hcl := hcell i (by omega)
    have hp' : ss.getD i ByteArray.empty = p := by
      rw [List.getElem?_take_of_lt hi] at hp
      rw [List.getD_eq_getElem?_getD, hp]; rfl
    rw [hp'] at hcl
    exact ⟨a, rfl, by have := block_lt_of_cell hcl; rwa [block_add] at this, hcl⟩
/-- A struct of two texts. -/
theorem open_item {r : Reach} {b0 : Nat} {t : TypeId} {f0 f1 : Field} {v : Value} {d : DataW H} {p : List MemPlace} (hs : P.underlying t = some (.struct #[f0, f1])) (hone : oneCellFields P #[f0, f1] = true) (hC : P.cellsOf t = 2) (h0 : P.underlying f0.type = some .string) (h1 : P.underlying f1.type = some .string)
    (hv : Value.okWide P w r b0 t v) (h : DataW.Trod enc P w base spare held t v d p) : ∃ x : It, v = .agg #[.string x.1, .string x.2] := by
  obtain ⟨v0, v1, y0, y1, n, rfl, _, _, hy0, hy1⟩ := Go.Joins.open_agg2 hs hone hC hv h
  obtain ⟨s, e0, _, _⟩ := DataW.trod_string h0 hy0
  obtain ⟨s', e1, _, _⟩ := DataW.trod_string h1 hy1
  simp at e0 e1
  subst e0 e1
  exact ⟨(s, s'), rfl⟩
theorem open_texts_cell {t e : TypeId} {fuel : Nat} {v : Value} {x : DataW H × List MemPlace} (ht : P.underlying t = some (.slice e)) (he : P.underlying e = some .string) (hc : P.cellsOf e = 1)
    (h : DataW.trod enc P w base spare held fuel t [v] = some x) : ∃ A cap, ∃ L : List ByteArray, v = .slice A L.length cap ∧ Strs w A L := by
  rcases open_strings ht he hc h with ⟨hcs, _⟩ | ⟨a, len, cap, ss, hcs, hb, hl, hm, hz, hx, hcell, hws⟩
  · obtain rfl := List.singleton_inj.1 hcs
    exact ⟨none, 0, [], rfl, Strs.nil _ _⟩
  · obtain rfl := List.singleton_inj.1 hcs
    have h' : DataW.Trod enc P w base spare held t (.slice (some a) len cap) x.1 x.2 := ⟨fuel, by simpa [Value.cells] using h⟩
    obtain ⟨L, rfl, hL⟩ := open_texts ht he hc h'
    exact ⟨some a, cap, L, rfl, hL⟩
/-- A proof: a list of texts and an item. -/
theorem open_proof {r : Reach} {b0 : Nat} {t ts te ti : TypeId} {f0 f1 g0 g1 : Field} {v : Value} {d : DataW H} {p : List MemPlace} (hs : P.underlying t = some (.struct #[f0, f1])) (hC : P.cellsOf t = 3)
    (o0 : f0.offset = 0) (o1 : f1.offset = 1) (e0 : f0.type = ts) (e1 : f1.type = ti) (hts : P.underlying ts = some (.slice te)) (hte : P.underlying te = some .string) (hce : P.cellsOf te = 1) (hcs : P.cellsOf ts = 1)
    (hti : P.underlying ti = some (.struct #[g0, g1])) (hone : oneCellFields P #[g0, g1] = true) (hci : P.cellsOf ti = 2) (k0 : P.underlying g0.type = some .string) (k1 : P.underlying g1.type = some .string)
    (hv : Value.okWide P w r b0 t v) (h : DataW.Trod enc P w base spare held t v d p) : ∃ A cap, ∃ L : List ByteArray, ∃ x : It, v = .agg #[.slice A L.length cap, .string x.1, .string x.2] ∧ Strs w A L := by
  obtain ⟨cs, rfl, hsz⟩ := okWide_struct hs hv
  obtain ⟨l⟩ := cs
  match l, hsz.trans hC with
  | [c0, c1, c2], _ =>
    obtain ⟨fuel, hf⟩ := h
    obtain ⟨y0, y1, n, hx, _, h0, h1⟩ := trod_struct2 hs hf
    subst e0 e1
    rw [o0, hcs] at h0
    rw [o1, hci] at h1
    obtain ⟨A, cap, L, rfl, hL⟩ := open_texts_cell hts hte hce (by simpa [Value.cells] using h0)
    obtain ⟨z0, z1, m, hz, _, i0, i1⟩ := trod_struct2 hti h1
    obtain ⟨p0, q0⟩ := hone_of hone 0 g0 rfl
    obtain ⟨p1, q1⟩ := hone_of hone 1 g1 rfl
    rw [p0, q0] at i0
    rw [p1, q1] at i1
    obtain ⟨s, es, _, _⟩ := DataW.trod_string k0 (show DataW.trod enc P w base spare held m g0.type [c1] = some z0 by simpa [Value.cells] using i0)
    obtain ⟨s', es', _, _⟩ := DataW.trod_string k1 (show DataW.trod enc P w base spare held m g1.type [c2] = some z1 by simpa [Value.cells] using i1)
    obtain rfl := List.singleton_inj.1 es
    obtain rfl := List.singleton_inj.1 es'
    exact ⟨A, cap, L, (s, s'), rfl, hL⟩
end
end Go.Proofs.YtenlpbcembadcaaDoor
/- What a row's listed variables give a walk: the round numbers, the handle of errors.errorType, any table on the list; a world for the witness. -/
namespace Go.Proofs.YtenlpbcembadcaaDoor
open Go.ChangeShapes Go.WideShapes Go.ChangeAt Go.RowKit

theorem sumOwn : ownKnob Tryd.prog.godebug = none := by kernel_rfl
theorem sumLaidOut : laidOutB Tryd.prog = true := by kernel_rfl
theorem gK : Tryd.prog.globalNamed "rollkeeper/sum.roundNumbers" = some 1 := by kernel_rfl
theorem gKType : (Tryd.prog.globals[1]?).map (·.type) = some 61 := by kernel_rfl
theorem cellsA32 : Tryd.prog.cellsOf 61 = 64 := by kernel_rfl
theorem cellsU32 : Tryd.prog.cellsOf 59 = 1 := by kernel_rfl
theorem cellsStr : Tryd.prog.cellsOf 9 = 1 := by kernel_rfl

/-- A table that stands somewhere on the row's list. -/
theorem tab_of_vars {P : Program} {W : World} {name : String} {k : IntKind} {zs : List Int} {rest : List (String × DataW Unit)} {ps : List MemPlace} {g : Nat} {t e : TypeId} {n : Nat}
    (hg : P.globalNamed name = some g) (hty : (P.globals[g]?).map (·.type) = some t) (ht : P.underlying t = some (.array n e)) (he : P.underlying e = some (.int k)) (hce : P.cellsOf e = 1) (hct : P.cellsOf t = n)
    (h : DataW.LaidVars P W ((name, Lib.tabData k zs) :: rest) ps) : Lib.TabIs P W name k zs := by
  obtain ⟨g', t', cs, fuel, p, q, hg', ht', hvar, hd, _, _⟩ := h
  obtain rfl := Option.some.inj (hg.symm.trans hg')
  obtain rfl := Option.some.inj (hty.symm.trans ht')
  unfold Lib.TabIs
  rw [hvar, ← Lib.cells_of_tab ht he hce hct hd]
theorem vars_tail {P : Program} {W : World} {x : String × DataW Unit} {rest : List (String × DataW Unit)} {ps : List MemPlace} (h : DataW.LaidVars P W (x :: rest) ps) : ∃ q, DataW.LaidVars P W rest q := by
  obtain ⟨n, d⟩ := x
  obtain ⟨_, _, _, _, _, q, _, _, _, _, h, _⟩ := h
  exact ⟨q, h⟩
/-- The round numbers as a row lists them. -/
def kData : DataW Unit := Lib.tabData .u32 (kTab.map fun n : Nat => (n : Int))
theorem hasK_of_vars {W : World} {rest : List (String × DataW Unit)} {ps : List MemPlace} (h : DataW.LaidVars Tryd.prog W (("rollkeeper/sum.roundNumbers", kData) :: rest) ps) : HasK W := by
  have t0 := tab_of_vars gK gKType Tryd.underlying61 Tryd.underlying59 cellsU32 cellsA32 h
  intro i hi
  rw [t0.cell gK i (by rw [List.length_map]; exact hi)]
  have hlt : kTab.getD i 0 < 4294967296 := by rw [← k_root i hi]; exact Nat.mod_lt _ (by decide)
  have e1 : (kTab.map fun n : Nat => (n : Int)).getD i 0 = ((kTab.getD i 0 : Nat) : Int) := by
    rw [List.getD_eq_getElem?_getD, List.getD_eq_getElem?_getD, List.getElem?_map]
    cases kTab[i]? <;> rfl
  rw [e1]
  unfold W32 kOf
  rw [BitVec.toNat_ofNat, Nat.mod_eq_of_lt (by omega)]

theorem gErrType : Tryd.prog.globalNamed "errors.errorType" = some 0 := by kernel_rfl
theorem rtErr : (Tryd.prog.cutTypes.find? (·.1 == "internal/reflectlite.rtype")).map (·.2) = some 157 := by kernel_rfl
theorem oneRowErr : ((List.range Tryd.prog.types.size).filter fun t => Tryd.prog.rowNamed t [101, 114, 114, 111, 114]) = [35] := by kernel_rfl
def errData : DataW Unit := .iface "internal/reflectlite.rtype" (.agg [.ptr (.lit (.string [101, 114, 114, 111, 114]))])
theorem handle_of_laid {W : World} {l : List (String × DataW Unit)} (h : handlesMet Tryd.prog l W) (hm : ("errors.errorType", errData) ∈ l) :
    W.cell? ⟨0, 0, none⟩ = some (.iface 157 (.agg #[hand 35])) := by
  obtain ⟨name, u, ty, e1, e2, e3, e4, e5⟩ := h _ hm
  have en : name = [101, 114, 114, 111, 114] := (Option.some.inj e1).symm
  subst en
  obtain rfl := Option.some.inj (rtErr.symm.trans e2)
  have hm : ty ∈ (List.range Tryd.prog.types.size).filter fun t => Tryd.prog.rowNamed t [101, 114, 114, 111, 114] := List.mem_filter.2 ⟨List.mem_range.2 e3, e4⟩
  rw [oneRowErr] at hm
  obtain rfl := List.mem_singleton.1 hm
  have hh : typeHandle Tryd.prog 35 = hand 35 := by kernel_rfl
  rw [hh] at e5
  simpa using World.var?_cell gErrType e5 0

/-- A world for the witness: variables laid, one after the other. -/
def laidCells : DataW Unit → Array Value
  | .agg l => (l.map fun
    | .lit (.int k z) => Value.int k z
    | _ => .bool false).toArray
  | _ => #[]
noncomputable def laidBy (g : Nat) (cs : Array Value) (w : World) : World :=
  { w with heap := w.heap.modify g fun
      | .cells _ t frozen => .cells cs t frozen
      | o => o }
noncomputable def laidAt (g : Nat) (d : DataW Unit) (w : World) : World := laidBy g (laidCells d) w
noncomputable def laidErr (w : World) : World := laidBy 0 #[.iface 157 (.agg #[hand 35])] w
noncomputable def laidK (w : World) : World := laidAt 1 kData w
end Go.Proofs.YtenlpbcembadcaaDoor
