/- Parts of the proof, one behind the other: PRight, PVerify, Longs, ProofLaw, PProof. -/
import Derived.Test.YtcfpmofmjnhonaaGreatDoorM35
import Derived.Test.YtcfpmofmjnhonaaGreatDoorM3
import Derived.Test.YtcfpmofmjnhonaaGreatDoorM36
import Derived.Test.YtcfpmofmjnhonaaGreatDoorM12
import Derived.Test.YtcfpmofmjnhonaaGreatDoorM21
import Derived.Test.YtcfpmofmjnhonaaGreatDoorProg
import Derived.Test.YtcfpmofmjnhonaaGreatDoorM16
import Derived.Test.YtcfpmofmjnhonaaGreatDoorM19
/- The program's Right of proofs. -/
namespace Go.Proofs.YtcfpmofmjnhonaaGreatDoor
open Go.RowKit

theorem commonOf_comm (A B : List UInt8) : commonOf A B = commonOf B A :=
  commonOf_is A B _ (commonOf_le B A) (fun k h => (commonOf_same B A k h).symm) (fun h e => commonOf_other B A h e.symm)

set_option maxHeartbeats 1000000 in
set_option maxRecDepth 100000 in
theorem pRight_any (ix : ByteArray) (P : List ByteArray) (A : Option Addr) (cap : Nat) (x : It) (w : World) (hl : P.length ≤ 1000000) (hm : Strs w A P) :
    Calls Tryz.prog 191 #[.string ix, .agg #[.slice A P.length cap, .string x.1, .string x.2]] w fun e w' => e = .returned (.bool (rightProof ix P x)) ∧ Below w.heap.size w w' := by
  have HM := Lib.hid hm
  have HBW := Lib.hid (alloc_below w (.cells #[.slice A P.length cap, .string x.1, .string x.2] 63))
  have HB2 := Lib.hid (show Below w.heap.size w ((w.alloc (.cells #[.slice A P.length cap, .string x.1, .string x.2] 63)).alloc (.cells #[.string ix] 9)) from ((Below.refl _ w).alloc (Nat.le_refl _) _).alloc (by simp) _)
  have HH2 := Lib.hid (show Holds ((w.alloc (.cells #[.slice A P.length cap, .string x.1, .string x.2] 63)).alloc (.cells #[.string ix] 9)) w.heap.size 3 (pCells (.slice A P.length cap) x) 63 from (Holds.new w 3 (pCells (.slice A P.length cap) x) 63).alloc _)
  have HS1 := Lib.hid (show Strs ((w.alloc (.cells #[.slice A P.length cap, .string x.1, .string x.2] 63)).alloc (.cells #[.string ix] 9)) (some ⟨w.heap.size + 1, 0, none⟩) [ix] by
    have := strs_new (w.alloc (.cells #[.slice A P.length cap, .string x.1, .string x.2] 63)) [ix] 9; rw [World.size_alloc] at this; exact this)
  clear hm
  obtain ⟨T, hT⟩ : ∃ T, rightProof ix P x = T := ⟨_, rfl⟩
  rw [hT]
  have HT := Lib.hid hT
  clear hT
  by_cases hp : 128 < P.length
  · have hF : T = false := by rw [← HT.out]; unfold rightProof; rw [decide_eq_false (show ¬ P.length ≤ 128 by omega)]; simp
    subst hF
    go_enter Tryz.func191, Tryz.ntmps191
    go_wp2
    go_ret
    exact ⟨rfl, HBW.out⟩
  have HP128 := Lib.hid (show decide (P.length ≤ 128) = true from decide_eq_true (by omega))
  by_cases h16 : ix.size = 16
  · have H16 := Lib.hid h16
    have H16D := Lib.hid (decide_eq_true h16)
    obtain ⟨M, hmk⟩ : ∃ M, marksOk P = M := ⟨_, rfl⟩
    have HMK := Lib.hid hmk
    clear hmk h16
    cases M
    · have hF : T = false := by rw [← HT.out]; unfold rightProof; rw [HMK.out]; simp
      subst hF
      go_enter Tryz.func191, Tryz.ntmps191
      go_wp2_with fail
      refine (pAreOne_any ix _ _ HS1.out).mono ?_
      rintro e w1 ⟨rfl, rfl⟩
      rw [H16D.out]
      go_wp2_with fail
      refine (pAre_any P A cap _ hl (HM.out.below HB2.out)).mono ?_
      rintro e w1 ⟨rfl, rfl⟩
      rw [HMK.out]
      go_wp2
      go_ret
      exact ⟨rfl, HB2.out⟩
    by_cases hz : x.1.size = 0 ∧ x.2.size = 0
    · have hF : T = true := by rw [← HT.out]; unfold rightProof; rw [H16D.out, HP128.out, HMK.out, if_pos hz]; rfl
      have HZ := Lib.hid (decide_eq_true hz)
      subst hF
      clear hz
      go_enter Tryz.func191, Tryz.ntmps191
      go_wp2_with fail
      refine (pAreOne_any ix _ _ HS1.out).mono ?_
      rintro e w1 ⟨rfl, rfl⟩
      rw [H16D.out]
      go_wp2_with fail
      refine (pAre_any P A cap _ hl (HM.out.below HB2.out)).mono ?_
      rintro e w1 ⟨rfl, rfl⟩
      rw [HMK.out]
      generalize (w.alloc (.cells #[.slice A P.length cap, .string x.1, .string x.2] 63)).alloc (.cells #[.string ix] 9) = w2 at HB2 HH2
      have p0 : w2.cell? ⟨w.heap.size, 0, none⟩ = some (.slice A P.length cap) := HH2.out.cell 0 (by omega)
      have p1 : w2.cell? ⟨w.heap.size, 1, none⟩ = some (.string x.1) := HH2.out.cell 1 (by omega)
      have p2 : w2.cell? ⟨w.heap.size, 2, none⟩ = some (.string x.2) := HH2.out.cell 2 (by omega)
      go_wp2_with fail
      refine (pEmpty_any x _).mono ?_
      rintro e w3 ⟨rfl, hb3⟩
      rw [HZ.out]
      have HB3 := Lib.hid (HB2.out.trans (hb3.mono HB2.out.size))
      have HH3 := Lib.hid (HH2.out.below hb3 HH2.out.lt)
      clear hb3 p0 p1 p2 HB2 HH2
      have p0 : w3.cell? ⟨w.heap.size, 0, none⟩ = some (.slice A P.length cap) := HH3.out.cell 0 (by omega)
      have p1 : w3.cell? ⟨w.heap.size, 1, none⟩ = some (.string x.1) := HH3.out.cell 1 (by omega)
      have p2 : w3.cell? ⟨w.heap.size, 2, none⟩ = some (.string x.2) := HH3.out.cell 2 (by omega)
      go_wp2
      go_ret
      exact ⟨rfl, HB3.out⟩
    · have hL : leafOk ix P.length x = T := by rw [← HT.out]; unfold rightProof; rw [H16D.out, HP128.out, HMK.out, if_neg hz]; rfl
      have HL := Lib.hid hL
      have HZ := Lib.hid (decide_eq_false hz)
      obtain ⟨y, l, h3⟩ : ∃ y l, comAns x.1 ix = (y, l) := ⟨_, _, rfl⟩
      have H3 := Lib.hid h3
      unfold comAns at h3
      clear hz hL
      by_cases c1 : x.1.size = 16
      · rw [if_pos ⟨c1, H16.out⟩] at h3
        obtain ⟨rfl, rfl⟩ := Prod.mk.inj h3
        clear h3
        rw [commonOf_comm] at H3
        obtain ⟨C, hC⟩ : ∃ C : Nat, commonOf ix.data.toList x.1.data.toList = C := ⟨_, rfl⟩
        rw [hC] at H3
        have HC := Lib.hid hC
        have HE0 := Lib.hid (show errOf 0 = Value.nilIface from rfl)
        clear hC
        by_cases c2 : P.length ≤ C
        · have e2 : decide (P.length ≤ C) = true := by simp [c2]
          have hF : T = decide (x.2.size = 16) := by rw [← HL.out]; unfold leafOk; rw [HC.out, decide_eq_true c1, e2]; rfl
          subst hF
          have c2' : (P.length : Int) ≤ (C : Int) := by omega
          clear c1 e2
          go_enter Tryz.func191, Tryz.ntmps191
          go_wp2_with fail
          refine (pAreOne_any ix _ _ HS1.out).mono ?_
          rintro e w1 ⟨rfl, rfl⟩
          rw [H16D.out]
          go_wp2_with fail
          refine (pAre_any P A cap _ hl (HM.out.below HB2.out)).mono ?_
          rintro e w1 ⟨rfl, rfl⟩
          rw [HMK.out]
          generalize (w.alloc (.cells #[.slice A P.length cap, .string x.1, .string x.2] 63)).alloc (.cells #[.string ix] 9) = w2 at HB2 HH2
          have p0 : w2.cell? ⟨w.heap.size, 0, none⟩ = some (.slice A P.length cap) := HH2.out.cell 0 (by omega)
          have p1 : w2.cell? ⟨w.heap.size, 1, none⟩ = some (.string x.1) := HH2.out.cell 1 (by omega)
          have p2 : w2.cell? ⟨w.heap.size, 2, none⟩ = some (.string x.2) := HH2.out.cell 2 (by omega)
          go_wp2_with fail
          refine (pEmpty_any x _).mono ?_
          rintro e w3 ⟨rfl, hb3⟩
          rw [HZ.out]
          have HB3 := Lib.hid (HB2.out.trans (hb3.mono HB2.out.size))
          have HH3 := Lib.hid (HH2.out.below hb3 HH2.out.lt)
          clear hb3 p0 p1 p2 HB2 HH2
          have p0 : w3.cell? ⟨w.heap.size, 0, none⟩ = some (.slice A P.length cap) := HH3.out.cell 0 (by omega)
          have p1 : w3.cell? ⟨w.heap.size, 1, none⟩ = some (.string x.1) := HH3.out.cell 1 (by omega)
          have p2 : w3.cell? ⟨w.heap.size, 2, none⟩ = some (.string x.2) := HH3.out.cell 2 (by omega)
          go_wp2_with fail
          refine (ixCommon_is x.1 ix (C : Int) 0 _ H3.out).mono ?_
          rintro e w1 ⟨rfl, rfl⟩
          rw [HE0.out]
          go_wp2_with fail
          refine (pAreOne_any x.2 w1.heap.size _ (strs_new w1 [x.2] 9)).mono ?_
          rintro e w4 ⟨rfl, rfl⟩
          have HB4 := Lib.hid (HB3.out.alloc HB3.out.size (.cells #[.string x.2] 9))
          go_wp2
          go_ret
          exact ⟨rfl, HB4.out⟩
        · have hF : T = false := by rw [← HL.out]; unfold leafOk; rw [HC.out, decide_eq_false c2]; simp
          subst hF
          have c2' : ¬ (P.length : Int) ≤ (C : Int) := by omega
          clear c1
          go_enter Tryz.func191, Tryz.ntmps191
          go_wp2_with fail
          refine (pAreOne_any ix _ _ HS1.out).mono ?_
          rintro e w1 ⟨rfl, rfl⟩
          rw [H16D.out]
          go_wp2_with fail
          refine (pAre_any P A cap _ hl (HM.out.below HB2.out)).mono ?_
          rintro e w1 ⟨rfl, rfl⟩
          rw [HMK.out]
          generalize (w.alloc (.cells #[.slice A P.length cap, .string x.1, .string x.2] 63)).alloc (.cells #[.string ix] 9) = w2 at HB2 HH2
          have p0 : w2.cell? ⟨w.heap.size, 0, none⟩ = some (.slice A P.length cap) := HH2.out.cell 0 (by omega)
          have p1 : w2.cell? ⟨w.heap.size, 1, none⟩ = some (.string x.1) := HH2.out.cell 1 (by omega)
          have p2 : w2.cell? ⟨w.heap.size, 2, none⟩ = some (.string x.2) := HH2.out.cell 2 (by omega)
          go_wp2_with fail
          refine (pEmpty_any x _).mono ?_
          rintro e w3 ⟨rfl, hb3⟩
          rw [HZ.out]
          have HB3 := Lib.hid (HB2.out.trans (hb3.mono HB2.out.size))
          have HH3 := Lib.hid (HH2.out.below hb3 HH2.out.lt)
          clear hb3 p0 p1 p2 HB2 HH2
          have p0 : w3.cell? ⟨w.heap.size, 0, none⟩ = some (.slice A P.length cap) := HH3.out.cell 0 (by omega)
          have p1 : w3.cell? ⟨w.heap.size, 1, none⟩ = some (.string x.1) := HH3.out.cell 1 (by omega)
          have p2 : w3.cell? ⟨w.heap.size, 2, none⟩ = some (.string x.2) := HH3.out.cell 2 (by omega)
          go_wp2_with fail
          refine (ixCommon_is x.1 ix (C : Int) 0 _ H3.out).mono ?_
          rintro e w1 ⟨rfl, rfl⟩
          rw [HE0.out]
          go_wp2
          go_ret
          exact ⟨rfl, HB3.out⟩
      · rw [if_neg (fun h => c1 h.1)] at h3
        obtain ⟨rfl, rfl⟩ := Prod.mk.inj h3
        clear h3
        have hF : T = false := by rw [← HL.out]; unfold leafOk; rw [decide_eq_false c1]; simp
        subst hF
        have HE1 := Lib.hid (show errOf 1 = Value.iface 28 (.int .i64 1) from rfl)
        clear c1
        go_enter Tryz.func191, Tryz.ntmps191
        go_wp2_with fail
        refine (pAreOne_any ix _ _ HS1.out).mono ?_
        rintro e w1 ⟨rfl, rfl⟩
        rw [H16D.out]
        go_wp2_with fail
        refine (pAre_any P A cap _ hl (HM.out.below HB2.out)).mono ?_
        rintro e w1 ⟨rfl, rfl⟩
        rw [HMK.out]
        generalize (w.alloc (.cells #[.slice A P.length cap, .string x.1, .string x.2] 63)).alloc (.cells #[.string ix] 9) = w2 at HB2 HH2
        have p0 : w2.cell? ⟨w.heap.size, 0, none⟩ = some (.slice A P.length cap) := HH2.out.cell 0 (by omega)
        have p1 : w2.cell? ⟨w.heap.size, 1, none⟩ = some (.string x.1) := HH2.out.cell 1 (by omega)
        have p2 : w2.cell? ⟨w.heap.size, 2, none⟩ = some (.string x.2) := HH2.out.cell 2 (by omega)
        go_wp2_with fail
        refine (pEmpty_any x _).mono ?_
        rintro e w3 ⟨rfl, hb3⟩
        rw [HZ.out]
        have HB3 := Lib.hid (HB2.out.trans (hb3.mono HB2.out.size))
        have HH3 := Lib.hid (HH2.out.below hb3 HH2.out.lt)
        clear hb3 p0 p1 p2 HB2 HH2
        have p0 : w3.cell? ⟨w.heap.size, 0, none⟩ = some (.slice A P.length cap) := HH3.out.cell 0 (by omega)
        have p1 : w3.cell? ⟨w.heap.size, 1, none⟩ = some (.string x.1) := HH3.out.cell 1 (by omega)
        have p2 : w3.cell? ⟨w.heap.size, 2, none⟩ = some (.string x.2) := HH3.out.cell 2 (by omega)
        go_wp2_with fail
        refine (ixCommon_is x.1 ix 0 1 _ H3.out).mono ?_
        rintro e w1 ⟨rfl, rfl⟩
        rw [HE1.out]
        go_wp2
        go_ret
        exact ⟨rfl, HB3.out⟩
  · have hF : T = false := by rw [← HT.out]; unfold rightProof; rw [decide_eq_false h16]; simp
    subst hF
    have H16D := Lib.hid (decide_eq_false h16)
    clear h16
    go_enter Tryz.func191, Tryz.ntmps191
    go_wp2_with fail
    refine (pAreOne_any ix _ _ HS1.out).mono ?_
    rintro e w1 ⟨rfl, rfl⟩
    rw [H16D.out]
    go_wp2
    go_ret
    exact ⟨rfl, HB2.out⟩
end Go.Proofs.YtcfpmofmjnhonaaGreatDoor
/- The program's Root and Verify, as the document's. -/
namespace Go.Proofs.YtcfpmofmjnhonaaGreatDoor
open Go.RowKit

theorem pRoot_is (ix : ByteArray) (P : List ByteArray) (A : Option Addr) (cap : Nat) (x : It) (s : ByteArray) (n : Int) (w : World) (hk : HasK w) (hl : P.length ≤ 1000000) (hm : Strs w A P) (hi : ix.size ≤ 1000000) (hx : x.1.size ≤ 1000000) (hy : x.2.size ≤ 1000000) (h : proofRootAns ix P x = (s, n)) :
    Calls Tryz.prog 139 #[.string ix, .agg #[.slice A P.length cap, .string x.1, .string x.2]] w fun e w' => e = .returned (.tuple #[.string s, errOf n]) ∧ Below w.heap.size w w' := by
  have RT : PRight := fun ix P A cap x w _ hl hm _ _ _ => pRight_any ix P A cap x w hl hm
  unfold proofRootAns at h
  by_cases hr : rightProof ix P x = true
  · rw [if_pos hr] at h
    obtain ⟨rfl, rfl⟩ := Prod.mk.inj h
    exact pRoot_yes RT ix P A cap x w hk hl hm hi hx hy hr
  · rw [if_neg hr] at h
    obtain ⟨rfl, rfl⟩ := Prod.mk.inj h
    exact pRoot_no RT ix P A cap x w hk hl hm hi hx hy (by simpa using hr)

set_option maxHeartbeats 1000000 in
set_option maxRecDepth 100000 in
theorem pVerify_is (root ix : ByteArray) (P : List ByteArray) (A : Option Addr) (cap : Nat) (x : It) (c : ByteArray) (t : Bool) (n : Int) (w : World) (hk : HasK w) (hl : P.length ≤ 1000000) (hm : Strs w A P) (hi : ix.size ≤ 1000000) (hx : x.1.size ≤ 1000000) (hy : x.2.size ≤ 1000000) (h : verifyAns root ix P x = (c, t, n)) :
    Calls Tryz.prog 88 #[.string root, .string ix, .agg #[.slice A P.length cap, .string x.1, .string x.2]] w fun e w' => e = .returned (.tuple #[.string c, .bool t, errOf n]) ∧ Below w.heap.size w w' := by
  have HBW := Lib.hid (alloc_below w (.cells #[.slice A P.length cap, .string x.1, .string x.2] 63))
  have HN := Lib.hid (show Holds (w.alloc (.cells #[.slice A P.length cap, .string x.1, .string x.2] 63)) w.heap.size 3 (pCells (.slice A P.length cap) x) 63 from Holds.new w 3 (pCells (.slice A P.length cap) x) 63)
  have HK := Lib.hid (hk.below HBW.out hk.lt)
  have HM := Lib.hid (hm.below HBW.out)
  clear hk hm
  obtain ⟨s, m, hpr⟩ : ∃ s m, proofRootAns ix P x = (s, m) := ⟨_, _, rfl⟩
  have HPR := Lib.hid hpr
  have hm01 : m = 0 ∨ m = 1 := by
    unfold proofRootAns at hpr
    split at hpr
    · exact .inl (Prod.mk.inj hpr).2.symm
    · exact .inr (Prod.mk.inj hpr).2.symm
  unfold verifyAns at h
  rw [hpr] at h
  clear hpr
  rcases hm01 with rfl | rfl
  · rw [if_neg (by omega)] at h
    have HE0 := Lib.hid (show errOf 0 = Value.nilIface from rfl)
    by_cases hs : s ≠ root
    · rw [if_pos hs] at h
      obtain ⟨rfl, h2⟩ := Prod.mk.inj h
      obtain ⟨rfl, rfl⟩ := Prod.mk.inj h2
      have e1 : (s.toList == root.toList) = false := by rw [beq_eq_false_iff_ne]; exact fun e => hs ((text_eq _ _).1 e)
      clear h h2 hs
      go_enter Tryz.func88, Tryz.ntmps88
      go_wp2_with fail
      refine (pRoot_is ix P A cap x _ _ _ HK.out hl HM.out hi hx hy HPR.out).mono ?_
      rintro e w1 ⟨rfl, hb1⟩
      rw [HE0.out]
      have HB1 := Lib.hid (HBW.out.trans (hb1.mono HBW.out.size))
      clear hb1
      go_wp2
      refine bodyPost_ret (results_tmp3' rfl _ _ _) rfl ?_
      exact ⟨rfl, HB1.out⟩
    · have hs' : s = root := Classical.not_not.1 hs
      subst hs'
      rw [if_neg hs] at h
      by_cases hxi : x.1 = ix
      · rw [if_pos hxi] at h
        obtain ⟨rfl, h2⟩ := Prod.mk.inj h
        obtain ⟨rfl, rfl⟩ := Prod.mk.inj h2
        subst hxi
        clear h h2 hs
        go_enter Tryz.func88, Tryz.ntmps88
        go_wp2_with fail
        refine (pRoot_is _ P A cap x _ _ _ HK.out hl HM.out hi hx hy HPR.out).mono ?_
        rintro e w1 ⟨rfl, hb1⟩
        rw [HE0.out]
        have HB1 := Lib.hid (HBW.out.trans (hb1.mono HBW.out.size))
        have HN1 := Lib.hid (HN.out.below hb1 HN.out.lt)
        have c1 : w1.cell? ⟨w.heap.size, 1, none⟩ = some (.string x.1) := HN1.out.cell 1 (by omega)
        have c2 : w1.cell? ⟨w.heap.size, 2, none⟩ = some (.string x.2) := HN1.out.cell 2 (by omega)
        clear hb1
        go_wp2
        refine bodyPost_ret (results_tmp3' rfl _ _ _) rfl ?_
        exact ⟨rfl, HB1.out⟩
      · rw [if_neg hxi] at h
        obtain ⟨rfl, h2⟩ := Prod.mk.inj h
        obtain ⟨rfl, rfl⟩ := Prod.mk.inj h2
        have e1 : (x.1.toList == ix.toList) = false := by rw [beq_eq_false_iff_ne]; exact fun e => hxi ((text_eq _ _).1 e)
        clear h h2 hs hxi
        go_enter Tryz.func88, Tryz.ntmps88
        go_wp2_with fail
        refine (pRoot_is _ P A cap x _ _ _ HK.out hl HM.out hi hx hy HPR.out).mono ?_
        rintro e w1 ⟨rfl, hb1⟩
        rw [HE0.out]
        have HB1 := Lib.hid (HBW.out.trans (hb1.mono HBW.out.size))
        have HN1 := Lib.hid (HN.out.below hb1 HN.out.lt)
        have c1 : w1.cell? ⟨w.heap.size, 1, none⟩ = some (.string x.1) := HN1.out.cell 1 (by omega)
        have c2 : w1.cell? ⟨w.heap.size, 2, none⟩ = some (.string x.2) := HN1.out.cell 2 (by omega)
        clear hb1
        go_wp2
        refine bodyPost_ret (results_tmp3' rfl _ _ _) rfl ?_
        exact ⟨rfl, HB1.out⟩
  · rw [if_pos (by omega)] at h
    have HE1 := Lib.hid (show errOf 1 = Value.iface 28 (.int .i64 1) from rfl)
    obtain ⟨rfl, h2⟩ := Prod.mk.inj h
    obtain ⟨rfl, rfl⟩ := Prod.mk.inj h2
    clear h h2
    go_enter Tryz.func88, Tryz.ntmps88
    go_wp2_with fail
    refine (pRoot_is ix P A cap x _ _ _ HK.out hl HM.out hi hx hy HPR.out).mono ?_
    rintro e w1 ⟨rfl, hb1⟩
    rw [HE1.out]
    have HB1 := Lib.hid (HBW.out.trans (hb1.mono HBW.out.size))
    clear hb1
    go_wp2
    refine bodyPost_ret (results_tmp3' rfl _ _ _) rfl ?_
    exact ⟨rfl, HB1.out⟩

end Go.Proofs.YtcfpmofmjnhonaaGreatDoor
/- ProofLeads, the walk, over whatever contracts the program's proofs keep. -/
namespace Go.Proofs.YtcfpmofmjnhonaaGreatDoor
open Go.RowKit

/-- What the program answers of proofs. -/
structure ProofFace : Prop where
  right : ∀ (ix : ByteArray) (P : List ByteArray) (A : Option Addr) (cap : Nat) (x : It) (w : World), HasK w → P.length ≤ 1000000 → Strs w A P → ix.size ≤ 1000000 → x.1.size ≤ 1000000 → x.2.size ≤ 1000000 →
    Calls Tryz.prog 191 #[.string ix, .agg #[.slice A P.length cap, .string x.1, .string x.2]] w fun e w' => e = .returned (.bool (rightProof ix P x)) ∧ Below w.heap.size w w'
  root : ∀ (ix : ByteArray) (P : List ByteArray) (A : Option Addr) (cap : Nat) (x : It) (s : ByteArray) (n : Int) (w : World), HasK w → P.length ≤ 1000000 → Strs w A P → ix.size ≤ 1000000 → x.1.size ≤ 1000000 → x.2.size ≤ 1000000 → proofRootAns ix P x = (s, n) →
    Calls Tryz.prog 139 #[.string ix, .agg #[.slice A P.length cap, .string x.1, .string x.2]] w fun e w' => e = .returned (.tuple #[.string s, errOf n]) ∧ Below w.heap.size w w'
  verify : ∀ (root ix : ByteArray) (P : List ByteArray) (A : Option Addr) (cap : Nat) (x : It) (c : ByteArray) (t : Bool) (n : Int) (w : World), HasK w → P.length ≤ 1000000 → Strs w A P → ix.size ≤ 1000000 → x.1.size ≤ 1000000 → x.2.size ≤ 1000000 → verifyAns root ix P x = (c, t, n) →
    Calls Tryz.prog 88 #[.string root, .string ix, .agg #[.slice A P.length cap, .string x.1, .string x.2]] w fun e w' => e = .returned (.tuple #[.string c, .bool t, errOf n]) ∧ Below w.heap.size w w'
  commit : ∀ (o v c : ByteArray) (n : Int) (w : World), HasK w → o.size ≤ 1000000 → v.size ≤ 1000000 → commitAns o v = (c, n) →
    Calls Tryz.prog 47 #[.string o, .string v] w fun e w' => e = .returned (.tuple #[.string c, errOf n]) ∧ Below w.heap.size w w'

end Go.Proofs.YtcfpmofmjnhonaaGreatDoor
/- The program's Commit, and all four of its answers, as the document's. -/
namespace Go.Proofs.YtcfpmofmjnhonaaGreatDoor
open Go.RowKit

set_option maxRecDepth 100000 in
theorem pCommit_is (o v c : ByteArray) (n : Int) (w : World) (hk : HasK w) (h : commitAns o v = (c, n)) :
    Calls Tryz.prog 47 #[.string o, .string v] w fun e w' => e = .returned (.tuple #[.string c, errOf n]) ∧ Below w.heap.size w w' := by
  have HK := Lib.hid hk
  have HBW := Lib.hid (alloc_below w (.cells #[.string o] 9))
  have HS1 := Lib.hid (show Strs (w.alloc (.cells #[.string o] 9)) (some ⟨w.heap.size, 0, none⟩) [o] from strs_new w [o] 9)
  clear hk
  unfold commitAns at h
  by_cases h16 : o.size = 16
  · have H16D := Lib.hid (decide_eq_true h16)
    by_cases hv0 : v.size = 0
    · rw [if_neg (by omega)] at h
      obtain ⟨rfl, rfl⟩ := Prod.mk.inj h
      have hv1 : (v.size : Int) < 1 := by omega
      clear h h16 hv0
      go_enter Tryz.func47, Tryz.ntmps47
      go_wp2_with fail
      refine (pAreOne_any o _ _ HS1.out).mono ?_
      rintro e w1 ⟨rfl, rfl⟩
      rw [H16D.out]
      go_wp2
      refine bodyPost_ret (results_tmp2 rfl _ _ _) rfl ?_
      exact ⟨rfl, HBW.out⟩
    · have hv1 : ¬ (v.size : Int) < 1 := by omega
      by_cases hv : 24 < v.size
      · rw [if_neg (by omega)] at h
        obtain ⟨rfl, rfl⟩ := Prod.mk.inj h
        have hv2 : (24 : Int) < (v.size : Int) := by omega
        clear h h16 hv0
        go_enter Tryz.func47, Tryz.ntmps47
        go_wp2_with fail
        refine (pAreOne_any o _ _ HS1.out).mono ?_
        rintro e w1 ⟨rfl, rfl⟩
        rw [H16D.out]
        go_wp2
        refine bodyPost_ret (results_tmp2 rfl _ _ _) rfl ?_
        exact ⟨rfl, HBW.out⟩
      · rw [if_pos ⟨h16, by omega, by omega⟩] at h
        obtain ⟨rfl, rfl⟩ := Prod.mk.inj h
        have HTOT := Lib.hid (show total [o, v] ≤ 1073741800 by simp [total]; omega)
        have hv2 : ¬ (24 : Int) < (v.size : Int) := by omega
        clear h h16 hv0 hv
        go_enter Tryz.func47, Tryz.ntmps47
        go_wp2_with fail
        refine (pAreOne_any o _ _ HS1.out).mono ?_
        rintro e w1 ⟨rfl, rfl⟩
        rw [H16D.out]
        generalize w.alloc (.cells #[.string o] 9) = w1 at HBW
        go_wp2_with fail
        refine (mark_any 99 [o, v] (some ⟨w1.heap.size, 0, none⟩) 2 _ ((HK.out.below HBW.out HK.out.lt).alloc _) HTOT.out (by simp) (strs_new w1 [o, v] 9)).mono ?_
        rintro e w2 ⟨rfl, hb2⟩
        have HB2 := Lib.hid ((HBW.out.alloc HBW.out.size (.cells #[.string o, .string v] 9)).trans (hb2.mono (by have := HBW.out.size; simp; omega)))
        clear hb2
        go_wp2
        refine bodyPost_ret (results_tmp2 rfl _ _ _) rfl ?_
        exact ⟨rfl, HB2.out⟩
  · rw [if_neg (fun e => h16 e.1)] at h
    obtain ⟨rfl, rfl⟩ := Prod.mk.inj h
    have H16D := Lib.hid (decide_eq_false h16)
    clear h h16
    go_enter Tryz.func47, Tryz.ntmps47
    go_wp2_with fail
    refine (pAreOne_any o _ _ HS1.out).mono ?_
    rintro e w1 ⟨rfl, rfl⟩
    rw [H16D.out]
    go_wp2
    refine bodyPost_ret (results_tmp2 rfl _ _ _) rfl ?_
    exact ⟨rfl, HBW.out⟩

theorem proofFace : ProofFace where
  right ix P A cap x w _ hl hm _ _ _ := pRight_any ix P A cap x w hl hm
  root ix P A cap x s n w hk hl hm hi hx hy h := pRoot_is ix P A cap x s n w hk hl hm hi hx hy h
  verify root ix P A cap x c t n w hk hl hm hi hx hy h := pVerify_is root ix P A cap x c t n w hk hl hm hi hx hy h
  commit o v c n w hk _ _ h := pCommit_is o v c n w hk h
end Go.Proofs.YtcfpmofmjnhonaaGreatDoor
