/- Parts of the proof, one behind the other: Lead, SetM, Dst. -/
import Derived.Test.YtcfpmofmjnhonaaGreatDoorM13
import Derived.Test.YtcfpmofmjnhonaaGreatDoorM5
import Derived.Sort.LotA
import Derived.Lib.SortBridge
import Derived.Test.YtcfpmofmjnhonaaGreatDoorM2
import Derived.Test.YtcfpmofmjnhonaaGreatDoorM8
import Derived.Test.YtcfpmofmjnhonaaGreatDoorM15
import Derived.Test.YtcfpmofmjnhonaaGreatDoorM11
import Derived.Test.YtcfpmofmjnhonaaGreatDoorM12
/- The document's ProofRoot, Verify and Commit. -/
namespace Go.Proofs.YtcfpmofmjnhonaaGreatDoor
open Go.RowKit

/-- From a mark on, along the last k of a path, back. -/
def leadFrom (ix : ByteArray) (P : List ByteArray) : Nat → ByteArray → ByteArray
  | 0, s => s
  | k + 1, s => leadFrom ix P k (if bitOf ix.data.toList k = 0 then joinM s (P.getD k ⟨#[]⟩) else joinM (P.getD k ⟨#[]⟩) s)
def startOf (P : List ByteArray) (x : It) : ByteArray := if x.1.size = 0 then emptyM P.length else leafM x P.length
def proofRootAns (ix : ByteArray) (P : List ByteArray) (x : It) : ByteArray × Int := if rightProof ix P x = true then (leadFrom ix P P.length (startOf P x), 0) else (⟨#[]⟩, 1)
theorem join_size (a b : ByteArray) : (joinM a b).size = 16 := markOf_len _ _
theorem start_size (P : List ByteArray) (x : It) : (startOf P x).size = 16 := by unfold startOf emptyM leafM; split <;> exact markOf_len _ _
theorem rightProof_facts {ix : ByteArray} {P : List ByteArray} {x : It} (h : rightProof ix P x = true) :
    ix.size = 16 ∧ P.length ≤ 128 ∧ marksOk P = true ∧ ((x.1.size = 0 ∧ x.2.size = 0) ∨ (x.1.size = 16 ∧ x.2.size = 16 ∧ P.length ≤ commonOf ix.data.toList x.1.data.toList)) := by
  unfold rightProof at h
  simp only [Bool.and_eq_true, decide_eq_true_eq] at h
  obtain ⟨⟨⟨h1, h2⟩, h3⟩, h4⟩ := h
  refine ⟨h1, h2, h3, ?_⟩
  by_cases e : x.1.size = 0 ∧ x.2.size = 0
  · exact .inl e
  · rw [if_neg e] at h4
    unfold leafOk at h4
    simp only [Bool.and_eq_true, decide_eq_true_eq] at h4
    exact .inr ⟨h4.1.1, h4.2, h4.1.2⟩

set_option maxHeartbeats 1000000 in
set_option maxRecDepth 100000 in
theorem refProofRoot_is (b : Nat) (ix : ByteArray) (P : List ByteArray) (A : Option Addr) (cap : Nat) (x : It) (s : ByteArray) (n : Int) (w : World) (hr : Holds w b 72 refCells 121) (hm : Strs w A P) (hl : P.length ≤ 1000000) (h : proofRootAns ix P x = (s, n)) :
    Calls Tryz.prog 140 #[.pointer (some ⟨b, 0, none⟩), .string ix, .agg #[.slice A P.length cap, .string x.1, .string x.2]] w fun e w' => e = .returned (.tuple #[.string s, .int .i64 n]) ∧ Below w.heap.size w w' := by
  have HR := Lib.hid hr
  have HM := Lib.hid hm
  have HBW := Lib.hid (alloc_below w (.cells #[.slice A P.length cap, .string x.1, .string x.2] 63))
  have HN := Lib.hid (show Holds (w.alloc (.cells #[.slice A P.length cap, .string x.1, .string x.2] 63)) w.heap.size 3 (pCells (.slice A P.length cap) x) 63 from Holds.new w 3 (pCells (.slice A P.length cap) x) 63)
  clear hr hm
  unfold proofRootAns at h
  by_cases hk : rightProof ix P x = true
  · rw [if_pos hk] at h
    obtain ⟨hs, rfl⟩ := Prod.mk.inj h
    have HS := Lib.hid hs
    have HK := Lib.hid hk
    obtain ⟨h16, h128, hmk, hx⟩ := rightProof_facts hk
    have H16 := Lib.hid h16
    have HMK := Lib.hid hmk
    clear hs h hk h16 hmk
    go_enter Tryz.func140, Tryz.ntmps140
    go_wp2_with fail
    refine (refRightProof_any ix P A cap x _ (HM.out.below HBW.out) hl).mono ?_
    rintro e w1 ⟨rfl, hb1⟩
    rw [HK.out]
    have HB1 := Lib.hid (HBW.out.trans (hb1.mono HBW.out.size))
    have HN1 := Lib.hid (HN.out.below hb1 HN.out.lt)
    have c0 : w1.cell? ⟨w.heap.size, 0, none⟩ = some (.slice A P.length cap) := HN1.out.cell 0 (by omega)
    clear hb1
    go_wp2_with fail
    refine (refEmpty_any b P.length _ (HR.out.below HB1.out HR.out.lt)).mono ?_
    rintro e w2 ⟨rfl, hb2⟩
    have HB2 := Lib.hid (HB1.out.trans (hb2.mono HB1.out.size))
    have HN2 := Lib.hid (HN1.out.below hb2 HN1.out.lt)
    have c1 : w2.cell? ⟨w.heap.size, 1, none⟩ = some (.string x.1) := HN2.out.cell 1 (by omega)
    have c2 : w2.cell? ⟨w.heap.size, 2, none⟩ = some (.string x.2) := HN2.out.cell 2 (by omega)
    have d0 : w2.cell? ⟨w.heap.size, 0, none⟩ = some (.slice A P.length cap) := HN2.out.cell 0 (by omega)
    clear hb2 c0
    have LOOP : ∀ (u : ByteArray) (wu : World) (Q : World → Prop), True := fun _ _ _ => trivial
    clear LOOP
    by_cases hz : x.1.size = 0
    · have z1 : x.1.toList = [] := empty_list.2 hz
      have z2 : x.1.toList.isEmpty = true := by simp [z1]
      have ES := Lib.hid (show emptyM P.length = startOf P x by unfold startOf; rw [if_pos hz])
      clear hz
      rw [ES.out]
      go_wp2
      have HST := Lib.hid (start_size P x)
      obtain ⟨u0, hu0⟩ : ∃ u0, startOf P x = u0 := ⟨_, rfl⟩
      rw [hu0] at HS HST
      rw [hu0]
      clear hu0 ES d0 c1 c2 z1 z2
      go_loopw [8, 9] (fun sv kv wr => ∃ (k : Nat) (z : Int) (u : ByteArray), k ≤ P.length ∧ Hid (z = (k : Int) - 1) ∧ kv = .int .i64 z ∧ sv = .string u ∧ Hid (u.size = 16 ∧ leadFrom ix P k u = s ∧ Below w.heap.size w wr ∧ Holds wr w.heap.size 3 (pCells (.slice A P.length cap) x) 63)) (fun _ kv _ => (intOf kv + 1).toNat)
      case atStart => exact ⟨P.length, _, u0, Nat.le_refl _, Lib.hid rfl, rfl, rfl, Lib.hid ⟨HST.out, HS.out, HB2.out, HN2.out⟩⟩
      case round =>
        obtain ⟨k, z, u, hkp, HZ, rfl, rfl, HU⟩ := hrel
        have c0 : wr.cell? ⟨w.heap.size, 0, none⟩ = some (.slice A P.length cap) := HU.out.2.2.2.cell 0 (by omega)
        by_cases hz : 0 ≤ z
        · obtain ⟨m, rfl⟩ : ∃ m : Nat, z = (m : Int) := ⟨z.toNat, by omega⟩
          have HK1 := Lib.hid (show k = m + 1 by have := HZ.out; omega)
          have hmp : m < P.length := by have := HK1.out; omega
          obtain ⟨p, hp⟩ : ∃ p, P[m]? = some p := ⟨_, List.getElem?_eq_getElem hmp⟩
          have HP := Lib.hid hp
          obtain ⟨a, rfl, _, c1⟩ := (HM.out.below HU.out.2.2.1) m p hp
          obtain ⟨B, hB⟩ : ∃ B, bitOf ix.data.toList m = B := ⟨_, rfl⟩
          have HBIT := Lib.hid hB
          have HUS := Lib.hid HU.out.1
          have HPS := Lib.hid (marksOk_get HMK.out hp)
          clear hp hB hz hkp
          by_cases hb0 : B = 0
          · have eB : ((B : Int) == 0) = true := by rw [beq_iff_eq]; omega
            have HNEXT := Lib.hid (show leadFrom ix P m (joinM u p) = s by
              have := HU.out.2.1
              rw [HK1.out, leadFrom, if_pos (HBIT.out.trans hb0), List.getD_eq_getElem?_getD, HP.out] at this
              exact this)
            clear hb0
            go_wp2_with fail
            refine (at_any ix m _ H16.out (by omega)).mono ?_
            rintro e w4 ⟨rfl, rfl⟩
            rw [HBIT.out]
            go_wp2_with fail
            refine (refJoin_any b u p _ (HR.out.below HU.out.2.2.1 HR.out.lt) (by have := HUS.out; have := HPS.out; omega) (by have := HUS.out; have := HPS.out; omega)).mono ?_
            rintro e w5 ⟨rfl, hb5⟩
            have HU' := Lib.hid (show (joinM u p).size = 16 ∧ leadFrom ix P m (joinM u p) = s ∧ Below w.heap.size w w5 ∧ Holds w5 w.heap.size 3 (pCells (.slice (some a) P.length cap) x) 63 from
              ⟨join_size _ _, HNEXT.out, HU.out.2.2.1.trans (hb5.mono HU.out.2.2.1.size), HU.out.2.2.2.below hb5 HU.out.2.2.2.lt⟩)
            clear hb5 eB
            go_wp2
            go_roundw
            case rel => exact ⟨m, (m : Int) - 1, _, by omega, Lib.hid rfl, rfl, rfl, HU'⟩
            case measure => simp [intOf]
          · have eB : ((B : Int) == 0) = false := by rw [beq_eq_false_iff_ne]; omega
            have HNEXT := Lib.hid (show leadFrom ix P m (joinM p u) = s by
              have := HU.out.2.1
              rw [HK1.out, leadFrom, if_neg (by rw [HBIT.out]; exact hb0), List.getD_eq_getElem?_getD, HP.out] at this
              exact this)
            clear hb0
            go_wp2_with fail
            refine (at_any ix m _ H16.out (by omega)).mono ?_
            rintro e w4 ⟨rfl, rfl⟩
            rw [HBIT.out]
            go_wp2_with fail
            refine (refJoin_any b p u _ (HR.out.below HU.out.2.2.1 HR.out.lt) (by have := HUS.out; have := HPS.out; omega) (by have := HUS.out; have := HPS.out; omega)).mono ?_
            rintro e w5 ⟨rfl, hb5⟩
            have HU' := Lib.hid (show (joinM p u).size = 16 ∧ leadFrom ix P m (joinM p u) = s ∧ Below w.heap.size w w5 ∧ Holds w5 w.heap.size 3 (pCells (.slice (some a) P.length cap) x) 63 from
              ⟨join_size _ _, HNEXT.out, HU.out.2.2.1.trans (hb5.mono HU.out.2.2.1.size), HU.out.2.2.2.below hb5 HU.out.2.2.2.lt⟩)
            clear hb5 eB
            go_wp2
            go_roundw
            case rel => exact ⟨m, (m : Int) - 1, _, by omega, Lib.hid rfl, rfl, rfl, HU'⟩
            case measure => simp [intOf]
        · have HK0 := Lib.hid (show k = 0 by have := HZ.out; omega)
          have HF := Lib.hid (show u = s by have := HU.out.2.1; rw [HK0.out] at this; exact this)
          go_wp2
          refine bodyPost_ret (results_tmp2 rfl _ _ _) rfl ?_
          exact ⟨by rw [HF.out]; rfl, HU.out.2.2.1⟩
    · have z1 : ¬ x.1.toList = [] := fun e => hz (empty_list.1 e)
      have z2 : x.1.toList.isEmpty = false := by simpa using z1
      have ES := Lib.hid (show leafM x P.length = startOf P x by unfold startOf; rw [if_neg hz])
      have HX1 := Lib.hid (show x.1.size ≤ 1000000 by omega)
      have HX2 := Lib.hid (show x.2.size ≤ 1000000 by omega)
      clear hz
      go_wp2_with fail
      refine (refLeaf_any b x P.length _ (HR.out.below HB2.out HR.out.lt) HX1.out HX2.out).mono ?_
      rintro e w3 ⟨rfl, hb3⟩
      rw [ES.out]
      have HB3 := Lib.hid (HB2.out.trans (hb3.mono HB2.out.size))
      have HN3 := Lib.hid (HN2.out.below hb3 HN2.out.lt)
      have c0 : w3.cell? ⟨w.heap.size, 0, none⟩ = some (.slice A P.length cap) := HN3.out.cell 0 (by omega)
      clear hb3 c1 c2 d0
      go_wp2
      have HST := Lib.hid (start_size P x)
      obtain ⟨u0, hu0⟩ : ∃ u0, startOf P x = u0 := ⟨_, rfl⟩
      rw [hu0] at HS HST
      rw [hu0]
      clear hu0 ES c0 z1 z2
      go_loopw [8, 9] (fun sv kv wr => ∃ (k : Nat) (z : Int) (u : ByteArray), k ≤ P.length ∧ Hid (z = (k : Int) - 1) ∧ kv = .int .i64 z ∧ sv = .string u ∧ Hid (u.size = 16 ∧ leadFrom ix P k u = s ∧ Below w.heap.size w wr ∧ Holds wr w.heap.size 3 (pCells (.slice A P.length cap) x) 63)) (fun _ kv _ => (intOf kv + 1).toNat)
      case atStart => exact ⟨P.length, _, u0, Nat.le_refl _, Lib.hid rfl, rfl, rfl, Lib.hid ⟨HST.out, HS.out, HB3.out, HN3.out⟩⟩
      case round =>
        obtain ⟨k, z, u, hkp, HZ, rfl, rfl, HU⟩ := hrel
        have c0 : wr.cell? ⟨w.heap.size, 0, none⟩ = some (.slice A P.length cap) := HU.out.2.2.2.cell 0 (by omega)
        by_cases hz : 0 ≤ z
        · obtain ⟨m, rfl⟩ : ∃ m : Nat, z = (m : Int) := ⟨z.toNat, by omega⟩
          have HK1 := Lib.hid (show k = m + 1 by have := HZ.out; omega)
          have hmp : m < P.length := by have := HK1.out; omega
          obtain ⟨p, hp⟩ : ∃ p, P[m]? = some p := ⟨_, List.getElem?_eq_getElem hmp⟩
          have HP := Lib.hid hp
          obtain ⟨a, rfl, _, c1⟩ := (HM.out.below HU.out.2.2.1) m p hp
          obtain ⟨B, hB⟩ : ∃ B, bitOf ix.data.toList m = B := ⟨_, rfl⟩
          have HBIT := Lib.hid hB
          have HUS := Lib.hid HU.out.1
          have HPS := Lib.hid (marksOk_get HMK.out hp)
          clear hp hB hz hkp
          by_cases hb0 : B = 0
          · have eB : ((B : Int) == 0) = true := by rw [beq_iff_eq]; omega
            have HNEXT := Lib.hid (show leadFrom ix P m (joinM u p) = s by
              have := HU.out.2.1
              rw [HK1.out, leadFrom, if_pos (HBIT.out.trans hb0), List.getD_eq_getElem?_getD, HP.out] at this
              exact this)
            clear hb0
            go_wp2_with fail
            refine (at_any ix m _ H16.out (by omega)).mono ?_
            rintro e w4 ⟨rfl, rfl⟩
            rw [HBIT.out]
            go_wp2_with fail
            refine (refJoin_any b u p _ (HR.out.below HU.out.2.2.1 HR.out.lt) (by have := HUS.out; have := HPS.out; omega) (by have := HUS.out; have := HPS.out; omega)).mono ?_
            rintro e w5 ⟨rfl, hb5⟩
            have HU' := Lib.hid (show (joinM u p).size = 16 ∧ leadFrom ix P m (joinM u p) = s ∧ Below w.heap.size w w5 ∧ Holds w5 w.heap.size 3 (pCells (.slice (some a) P.length cap) x) 63 from
              ⟨join_size _ _, HNEXT.out, HU.out.2.2.1.trans (hb5.mono HU.out.2.2.1.size), HU.out.2.2.2.below hb5 HU.out.2.2.2.lt⟩)
            clear hb5 eB
            go_wp2
            go_roundw
            case rel => exact ⟨m, (m : Int) - 1, _, by omega, Lib.hid rfl, rfl, rfl, HU'⟩
            case measure => simp [intOf]
          · have eB : ((B : Int) == 0) = false := by rw [beq_eq_false_iff_ne]; omega
            have HNEXT := Lib.hid (show leadFrom ix P m (joinM p u) = s by
              have := HU.out.2.1
              rw [HK1.out, leadFrom, if_neg (by rw [HBIT.out]; exact hb0), List.getD_eq_getElem?_getD, HP.out] at this
              exact this)
            clear hb0
            go_wp2_with fail
            refine (at_any ix m _ H16.out (by omega)).mono ?_
            rintro e w4 ⟨rfl, rfl⟩
            rw [HBIT.out]
            go_wp2_with fail
            refine (refJoin_any b p u _ (HR.out.below HU.out.2.2.1 HR.out.lt) (by have := HUS.out; have := HPS.out; omega) (by have := HUS.out; have := HPS.out; omega)).mono ?_
            rintro e w5 ⟨rfl, hb5⟩
            have HU' := Lib.hid (show (joinM p u).size = 16 ∧ leadFrom ix P m (joinM p u) = s ∧ Below w.heap.size w w5 ∧ Holds w5 w.heap.size 3 (pCells (.slice (some a) P.length cap) x) 63 from
              ⟨join_size _ _, HNEXT.out, HU.out.2.2.1.trans (hb5.mono HU.out.2.2.1.size), HU.out.2.2.2.below hb5 HU.out.2.2.2.lt⟩)
            clear hb5 eB
            go_wp2
            go_roundw
            case rel => exact ⟨m, (m : Int) - 1, _, by omega, Lib.hid rfl, rfl, rfl, HU'⟩
            case measure => simp [intOf]
        · have HK0 := Lib.hid (show k = 0 by have := HZ.out; omega)
          have HF := Lib.hid (show u = s by have := HU.out.2.1; rw [HK0.out] at this; exact this)
          go_wp2
          refine bodyPost_ret (results_tmp2 rfl _ _ _) rfl ?_
          exact ⟨by rw [HF.out]; rfl, HU.out.2.2.1⟩
  · rw [if_neg hk] at h
    obtain ⟨rfl, rfl⟩ := Prod.mk.inj h
    have HK := Lib.hid (show rightProof ix P x = false by simpa using hk)
    clear h hk
    go_enter Tryz.func140, Tryz.ntmps140
    go_wp2_with fail
    refine (refRightProof_any ix P A cap x _ (HM.out.below HBW.out) hl).mono ?_
    rintro e w1 ⟨rfl, hb1⟩
    rw [HK.out]
    have HB1 := Lib.hid (HBW.out.trans (hb1.mono HBW.out.size))
    clear hb1
    go_wp2
    refine bodyPost_ret (results_tmp2 rfl _ _ _) rfl ?_
    exact ⟨rfl, HB1.out⟩

theorem results_tmp3' {fn : Func} {p q r : Tmp} (h : fn.results = #[.tmp p, .tmp q, .tmp r]) (tmps : Array Value) (P : Program) (w : World) :
    (results fn tmps).run P w = .ok (.tuple #[tmps.getD p undef, tmps.getD q undef, tmps.getD r undef]) w := by
  simp [results, h, go_sem]
def verifyAns (root ix : ByteArray) (P : List ByteArray) (x : It) : ByteArray × Bool × Int :=
  if (proofRootAns ix P x).2 ≠ 0 then (⟨#[]⟩, false, (proofRootAns ix P x).2)
  else if (proofRootAns ix P x).1 ≠ root then (⟨#[]⟩, false, 13)
  else if x.1 = ix then (x.2, true, 0) else (⟨#[]⟩, false, 0)
theorem text_eq (a b : ByteArray) : a.toList = b.toList ↔ a = b := by
  rw [ByteArray.toList_eq, ByteArray.toList_eq]
  exact ⟨text_of, fun h => by rw [h]⟩
set_option maxHeartbeats 1000000 in
set_option maxRecDepth 100000 in
theorem refVerify_is (b : Nat) (root ix : ByteArray) (P : List ByteArray) (A : Option Addr) (cap : Nat) (x : It) (c : ByteArray) (t : Bool) (n : Int) (w : World) (hr : Holds w b 72 refCells 121) (hm : Strs w A P) (hl : P.length ≤ 1000000) (h : verifyAns root ix P x = (c, t, n)) :
    Calls Tryz.prog 91 #[.pointer (some ⟨b, 0, none⟩), .string root, .string ix, .agg #[.slice A P.length cap, .string x.1, .string x.2]] w fun e w' => e = .returned (.tuple #[.string c, .bool t, .int .i64 n]) ∧ Below w.heap.size w w' := by
  have HBW := Lib.hid (alloc_below w (.cells #[.slice A P.length cap, .string x.1, .string x.2] 63))
  have HN := Lib.hid (show Holds (w.alloc (.cells #[.slice A P.length cap, .string x.1, .string x.2] 63)) w.heap.size 3 (pCells (.slice A P.length cap) x) 63 from Holds.new w 3 (pCells (.slice A P.length cap) x) 63)
  have HR := Lib.hid (hr.below HBW.out hr.lt)
  have HM := Lib.hid (hm.below HBW.out)
  clear hr hm
  obtain ⟨s, m, hpr⟩ : ∃ s m, proofRootAns ix P x = (s, m) := ⟨_, _, rfl⟩
  have HPR := Lib.hid hpr
  unfold verifyAns at h
  rw [hpr] at h
  clear hpr
  by_cases hm0 : m ≠ 0
  · rw [if_pos hm0] at h
    obtain ⟨rfl, h2⟩ := Prod.mk.inj h
    obtain ⟨rfl, rfl⟩ := Prod.mk.inj h2
    have e1 : (m == 0) = false := by rw [beq_eq_false_iff_ne]; exact hm0
    have e2 : (m != 0) = true := by simpa using hm0
    clear h h2 hm0
    go_enter Tryz.func91, Tryz.ntmps91
    go_wp2_with fail
    refine (refProofRoot_is b ix P A cap x _ _ _ HR.out HM.out hl HPR.out).mono ?_
    rintro e w1 ⟨rfl, hb1⟩
    have HB1 := Lib.hid (HBW.out.trans (hb1.mono HBW.out.size))
    have HN1 := Lib.hid (HN.out.below hb1 HN.out.lt)
    have c1 : w1.cell? ⟨w.heap.size, 1, none⟩ = some (.string x.1) := HN1.out.cell 1 (by omega)
    have c2 : w1.cell? ⟨w.heap.size, 2, none⟩ = some (.string x.2) := HN1.out.cell 2 (by omega)
    clear hb1
    go_wp2
    refine bodyPost_ret (results_tmp3' rfl _ _ _) rfl ?_
    exact ⟨rfl, HB1.out⟩
  · have hm1 : m = 0 := by omega
    subst hm1
    rw [if_neg (by omega)] at h
    by_cases hs : s ≠ root
    · rw [if_pos hs] at h
      obtain ⟨rfl, h2⟩ := Prod.mk.inj h
      obtain ⟨rfl, rfl⟩ := Prod.mk.inj h2
      have e1 : (s.toList == root.toList) = false := by rw [beq_eq_false_iff_ne]; exact fun e => hs ((text_eq _ _).1 e)
      have e2 : (!s.toList == root.toList) = true := by rw [e1]; rfl
      clear h h2 hm0 hs
      go_enter Tryz.func91, Tryz.ntmps91
      go_wp2_with fail
      refine (refProofRoot_is b ix P A cap x _ _ _ HR.out HM.out hl HPR.out).mono ?_
      rintro e w1 ⟨rfl, hb1⟩
      have HB1 := Lib.hid (HBW.out.trans (hb1.mono HBW.out.size))
      have HN1 := Lib.hid (HN.out.below hb1 HN.out.lt)
      have c1 : w1.cell? ⟨w.heap.size, 1, none⟩ = some (.string x.1) := HN1.out.cell 1 (by omega)
      have c2 : w1.cell? ⟨w.heap.size, 2, none⟩ = some (.string x.2) := HN1.out.cell 2 (by omega)
      clear hb1
      go_wp2
      refine bodyPost_ret (results_tmp3' rfl _ _ _) rfl ?_
      exact ⟨rfl, HB1.out⟩
    · have hs' : s = root := Classical.not_not.1 hs
      subst hs'
      rw [if_neg hs] at h
      by_cases hx : x.1 = ix
      · rw [if_pos hx] at h
        obtain ⟨rfl, h2⟩ := Prod.mk.inj h
        obtain ⟨rfl, rfl⟩ := Prod.mk.inj h2
        subst hx
        clear h h2 hm0 hs
        go_enter Tryz.func91, Tryz.ntmps91
        go_wp2_with fail
        refine (refProofRoot_is b _ P A cap x _ _ _ HR.out HM.out hl HPR.out).mono ?_
        rintro e w1 ⟨rfl, hb1⟩
        have HB1 := Lib.hid (HBW.out.trans (hb1.mono HBW.out.size))
        have HN1 := Lib.hid (HN.out.below hb1 HN.out.lt)
        have c1 : w1.cell? ⟨w.heap.size, 1, none⟩ = some (.string x.1) := HN1.out.cell 1 (by omega)
        have c2 : w1.cell? ⟨w.heap.size, 2, none⟩ = some (.string x.2) := HN1.out.cell 2 (by omega)
        clear hb1
        go_wp2
        refine bodyPost_ret (results_tmp3' rfl _ _ _) rfl ?_
        exact ⟨rfl, HB1.out⟩
      · rw [if_neg hx] at h
        obtain ⟨rfl, h2⟩ := Prod.mk.inj h
        obtain ⟨rfl, rfl⟩ := Prod.mk.inj h2
        have e1 : (x.1.toList == ix.toList) = false := by rw [beq_eq_false_iff_ne]; exact fun e => hx ((text_eq _ _).1 e)
        clear h h2 hm0 hs hx
        go_enter Tryz.func91, Tryz.ntmps91
        go_wp2_with fail
        refine (refProofRoot_is b ix P A cap x _ _ _ HR.out HM.out hl HPR.out).mono ?_
        rintro e w1 ⟨rfl, hb1⟩
        have HB1 := Lib.hid (HBW.out.trans (hb1.mono HBW.out.size))
        have HN1 := Lib.hid (HN.out.below hb1 HN.out.lt)
        have c1 : w1.cell? ⟨w.heap.size, 1, none⟩ = some (.string x.1) := HN1.out.cell 1 (by omega)
        have c2 : w1.cell? ⟨w.heap.size, 2, none⟩ = some (.string x.2) := HN1.out.cell 2 (by omega)
        clear hb1
        go_wp2
        refine bodyPost_ret (results_tmp3' rfl _ _ _) rfl ?_
        exact ⟨rfl, HB1.out⟩

def commitAns (o v : ByteArray) : ByteArray × Int := if o.size = 16 ∧ 1 ≤ v.size ∧ v.size ≤ 24 then (markOf 99 [o, v], 0) else (⟨#[]⟩, 1)
set_option maxRecDepth 100000 in
theorem refCommit_is (b : Nat) (o v c : ByteArray) (n : Int) (w : World) (hr : Holds w b 72 refCells 121) (h : commitAns o v = (c, n)) :
    Calls Tryz.prog 92 #[.pointer (some ⟨b, 0, none⟩), .string o, .string v] w fun e w' => e = .returned (.tuple #[.string c, .int .i64 n]) ∧ Below w.heap.size w w' := by
  have HR := Lib.hid hr
  clear hr
  unfold commitAns at h
  by_cases h16 : o.size = 16
  · have H16 := Lib.hid h16
    by_cases hv : 1 ≤ v.size ∧ v.size ≤ 24
    · rw [if_pos ⟨h16, hv⟩] at h
      obtain ⟨rfl, rfl⟩ := Prod.mk.inj h
      have E := Lib.hid (show (decide ((1 : Int) ≤ (v.size : Int)) && decide ((v.size : Int) ≤ 24)) = true by simp; omega)
      have HTOT := Lib.hid (show total [o, v] ≤ 1073741800 by simp [total]; omega)
      clear h h16 hv
      go_enter Tryz.func92, Tryz.ntmps92
      go_wp2_with fail
      refine (isMark_t _ _ H16.out).mono ?_
      rintro e w1 ⟨rfl, rfl⟩
      go_wp2_with fail
      refine (in_any _ _ _ _).mono ?_
      rintro e w1 ⟨rfl, rfl⟩
      rw [E.out]
      go_wp2_with fail
      refine (refMark_any b 99 [o, v] (some ⟨w1.heap.size, 0, none⟩) 2 _ (HR.out.alloc _) HTOT.out (by simp) (strs_new w1 [o, v] 9)).mono ?_
      rintro e w2 ⟨rfl, hb2⟩
      have HB2 := Lib.hid ((alloc_below w1 (.cells #[.string o, .string v] 9)).trans (hb2.mono (by simp)))
      clear hb2
      go_wp2
      refine bodyPost_ret (results_tmp2 rfl _ _ _) rfl ?_
      exact ⟨rfl, HB2.out⟩
    · rw [if_neg (fun e => hv e.2)] at h
      obtain ⟨rfl, rfl⟩ := Prod.mk.inj h
      have E := Lib.hid (show (decide ((1 : Int) ≤ (v.size : Int)) && decide ((v.size : Int) ≤ 24)) = false by simp; omega)
      clear h h16 hv
      go_enter Tryz.func92, Tryz.ntmps92
      go_wp2_with fail
      refine (isMark_t _ _ H16.out).mono ?_
      rintro e w1 ⟨rfl, rfl⟩
      go_wp2_with fail
      refine (in_any _ _ _ _).mono ?_
      rintro e w1 ⟨rfl, rfl⟩
      rw [E.out]
      go_wp2
      refine bodyPost_ret (results_tmp2 rfl _ _ _) rfl ?_
      exact ⟨rfl, Below.refl _ _⟩
  · rw [if_neg (fun e => h16 e.1)] at h
    obtain ⟨rfl, rfl⟩ := Prod.mk.inj h
    have H16 := Lib.hid h16
    clear h h16
    go_enter Tryz.func92, Tryz.ntmps92
    go_wp2_with fail
    refine (isMark_f _ _ H16.out).mono ?_
    rintro e w1 ⟨rfl, rfl⟩
    go_wp2
    refine bodyPost_ret (results_tmp2 rfl _ _ _) rfl ?_
    exact ⟨rfl, Below.refl _ _⟩
end Go.Proofs.YtcfpmofmjnhonaaGreatDoor
/- One item more: plain lists. -/
namespace Go.Proofs.YtcfpmofmjnhonaaGreatDoor

abbrev ltI (x y : It) : Prop := x.1.data.toList < y.1.data.toList
def ltIB (x y : It) : Bool := Sort.ltStr x.1.data.toList y.1.data.toList
def insIt (x : It) : List It → List It
  | [] => [x]
  | y :: r => if ltI y x then y :: insIt x r else x :: y :: r
def others (L : List It) (x : It) : List It := L.filter fun y => decide (y.1 ≠ x.1)
def setOf (L : List It) (x : It) : List It × Int :=
  if rightItems L = true ∧ rightItems [x] = true then (if (others L x).length = L.length ∧ 60 ≤ L.length then ([], 12) else (insIt x (others L x), 0)) else ([], 1)
theorem ltI_trans {x y z : It} (h1 : ltI x y) (h2 : ltI y z) : ltI x z := List.lt_trans h1 h2
theorem ltI_asymm {x y : It} (h1 : ltI x y) (h2 : ltI y x) : False := List.lt_irrefl _ (List.lt_trans h1 h2)
theorem ltI_total {x y : It} (h : ¬ ltI x y) (hne : x.1 ≠ y.1) : ltI y x := by
  have h1 : y.1.data.toList ≤ x.1.data.toList := List.not_lt.1 h
  by_cases h2 : ltI y x
  · exact h2
  · have h3 : x.1.data.toList ≤ y.1.data.toList := List.not_lt.1 h2
    exact absurd (text_of (List.le_antisymm h3 h1)) hne
theorem insIt_perm (x : It) : ∀ L : List It, (insIt x L).Perm (x :: L)
  | [] => List.Perm.refl _
  | y :: r => by
    unfold insIt
    split
    · exact ((insIt_perm x r).cons y).trans (List.Perm.swap x y r)
    · exact List.Perm.refl _
theorem insIt_sorted (x : It) : ∀ L : List It, L.Pairwise ltI → (∀ y ∈ L, y.1 ≠ x.1) → (insIt x L).Pairwise ltI
  | [], _, _ => by unfold insIt; simp
  | y :: r, hs, hn => by
    obtain ⟨h1, h2⟩ := List.pairwise_cons.1 hs
    unfold insIt
    split
    · rename_i h
      refine List.pairwise_cons.2 ⟨fun z hz => ?_, insIt_sorted x r h2 (fun z hz => hn z (by simp [hz]))⟩
      have hz' := (insIt_perm x r).mem_iff.1 hz
      rcases List.mem_cons.1 hz' with rfl | hz'
      · exact h
      · exact h1 z hz'
    · rename_i h
      have hxy : ltI x y := ltI_total h (hn y (by simp))
      refine List.pairwise_cons.2 ⟨fun z hz => ?_, hs⟩
      rcases List.mem_cons.1 hz with rfl | hz
      · exact hxy
      · exact ltI_trans hxy (h1 z hz)
/-- There is one order in which they rise. -/
theorem sorted_one {L M : List It} (p : L.Perm M) (hL : L.Pairwise ltI) (hM : M.Pairwise ltI) : L = M :=
  List.Perm.eq_of_pairwise (fun _ _ _ _ h1 h2 => (ltI_asymm h1 h2).elim) hL hM p
theorem others_sorted {L : List It} (h : L.Pairwise ltI) (x : It) : (others L x).Pairwise ltI := h.filter _
theorem others_ne (L : List It) (x : It) : ∀ y ∈ others L x, y.1 ≠ x.1 := fun y hy => by
  have := (List.mem_filter.1 hy).2
  exact of_decide_eq_true this
/-- Whoever is put behind the others and sorted stands where it is put in. -/
theorem set_sorted {L M : List It} {x : It} (h : L.Pairwise ltI) (p : M.Perm (others L x ++ [x])) (hM : M.Pairwise ltI) : M = insIt x (others L x) :=
  sorted_one (p.trans ((List.perm_append_singleton x (others L x)).trans (insIt_perm x _).symm)) hM (insIt_sorted x _ (others_sorted h x) (others_ne L x))
end Go.Proofs.YtcfpmofmjnhonaaGreatDoor
/- The document's directory: what it knows, and what it answers. -/
namespace Go.Proofs.YtcfpmofmjnhonaaGreatDoor
open Go.RowKit

/-- A signed head. -/
structure Sgn where
  head : Hd
  key : Int
  sig : List ByteArray
  path : List ByteArray
def noSgn : Sgn := ⟨noHd, 0, [], []⟩
/-- A directory: those that wait, those that are there, since when, the epochs. -/
structure Dst where
  secret : ByteArray
  wait : List (ByteArray × ByteArray)
  vals : List (ByteArray × ByteArray)
  since : List (ByteArray × Int)
  eps : List Sgn
def newDst (secret : ByteArray) : Dst := ⟨secret, [], [], [], []⟩
def dirSeed (secret : ByteArray) : ByteArray := markOf 107 [secret]
def dirPub (secret : ByteArray) : ByteArray := boxPub (dirSeed secret)
def openOf (d : Dst) (name : ByteArray) : ByteArray := markOf 111 [d.secret, name, txt (num8 ((look d.since name).getD 0))]
def itemOf (d : Dst) (p : ByteArray × ByteArray) : It := ((ofAns p.1).1, (commitAns (openOf d p.1) p.2).1)
def itemsRaw (d : Dst) : List It := d.vals.map (itemOf d)
/-- Sorted by index (those of one index as they come). -/
def putIt (x : It) : List It → List It
  | [] => [x]
  | y :: L => if y.1.data.toList < x.1.data.toList then y :: putIt x L else x :: y :: L
def sortIts (L : List It) : List It := L.foldr putIt []
def itemsOf (d : Dst) : List It := sortIts (itemsRaw d)
/-- All names that are known, and one more. -/
def allNames (d : Dst) (name : ByteArray) : List (ByteArray × Bool) := upsAll (upsAll [(name, true)] (d.vals.map fun p => (p.1, true))) (d.wait.map fun p => (p.1, true))
def putAns (d : Dst) (name value : ByteArray) : Dst × Int :=
  if nameOk name.data.toList = true then
    (if 1 ≤ value.size ∧ value.size ≤ 24 then
      (if (allNames d name).length ≤ 60 then ({ d with wait := ups d.wait name value }, 0) else (d, 12))
    else (d, 1))
  else (d, 5)
/-- What waits is there. -/
def settled (d : Dst) : Dst := { d with wait := [], vals := upsAll d.vals d.wait, since := upsAll d.since (d.wait.map fun p => (p.1, ((d.eps.length : Int) + 1))) }
def signOf (secret : ByteArray) (n : Nat) (h : Hd) : Sgn :=
  ⟨h, (sealAns (dirSeed secret) (n : Int) (headMarkAns h).1).1, (sealAns (dirSeed secret) (n : Int) (headMarkAns h).1).2.1, (sealAns (dirSeed secret) (n : Int) (headMarkAns h).1).2.2.1⟩
def nextSgn (d : Dst) : Sgn := signOf d.secret d.eps.length (nextAns (d.eps.map (·.head)) (rootAns (itemsOf (settled d))).1).1
def publishAns (d : Dst) : Dst × Sgn × Int :=
  if d.eps.length < 8 then ({ settled d with eps := d.eps ++ [nextSgn d] }, nextSgn d, 0) else (d, noSgn, 12)
structure Answ where
  sgn : Sgn
  path : List ByteArray
  leaf : It
  opening : ByteArray
  value : ByteArray
def noAnsw : Answ := ⟨noSgn, [], noIt, ⟨#[]⟩, ⟨#[]⟩⟩
def lastSgn (d : Dst) : Sgn := d.eps.getD (d.eps.length - 1) noSgn
def foundAns (d : Dst) (name ix : ByteArray) : Answ :=
  ⟨lastSgn d, (proveAns (itemsOf d) ix).1, (proveAns (itemsOf d) ix).2.1, if (look d.vals name).isSome then openOf d name else ⟨#[]⟩, (look d.vals name).getD ⟨#[]⟩⟩
def lookupAns (d : Dst) (name : ByteArray) : Answ × Int :=
  if nameOk name.data.toList = true then (if d.eps.length = 0 then (noAnsw, 6) else (foundAns d name (ofAns name).1, 0)) else (noAnsw, 5)

/-- What holds of every directory that is so made. -/
structure DOk (d : Dst) : Prop where
  secret : d.secret.size = 16
  wk : (keysL d.wait).Nodup
  vk : (keysL d.vals).Nodup
  sk : (keysL d.since).Nodup
  wn : ∀ p ∈ d.wait, nameOk p.1.data.toList = true ∧ 1 ≤ p.2.size ∧ p.2.size ≤ 24
  vn : ∀ p ∈ d.vals, nameOk p.1.data.toList = true ∧ 1 ≤ p.2.size ∧ p.2.size ≤ 24
  same : ∀ s, (look d.since s).isSome = (look d.vals s).isSome
  epoch : ∀ s n, look d.since s = some n → 1 ≤ n ∧ n ≤ d.eps.length
  few : d.eps.length ≤ 8
  room : (allNames d ⟨#[]⟩).length ≤ 61
theorem newDst_ok {secret : ByteArray} (h : secret.size = 16) : DOk (newDst secret) :=
  ⟨h, List.nodup_nil, List.nodup_nil, List.nodup_nil, (fun p hp => by cases hp), (fun p hp => by cases hp), fun s => rfl, (fun s n h => by simp [newDst, look_nil] at h), by simp [newDst], by simp [allNames, newDst, upsAll]⟩

theorem putIt_perm (x : It) : ∀ L : List It, (putIt x L).Perm (x :: L)
  | [] => List.Perm.refl _
  | y :: L => by
    unfold putIt
    split
    · exact ((putIt_perm x L).cons y).trans (List.Perm.swap x y L)
    · exact List.Perm.refl _
theorem sortIts_perm (L : List It) : (sortIts L).Perm L := by
  induction L with
  | nil => exact List.Perm.refl _
  | cons x L ih => exact (putIt_perm x _).trans (ih.cons x)
def leI (x y : It) : Prop := ¬ y.1.data.toList < x.1.data.toList
theorem leI_trans {x y z : It} (h1 : leI x y) (h2 : leI y z) : leI x z := fun h => by
  unfold leI at h1 h2
  rw [List.not_lt] at h1 h2
  exact absurd h (List.not_lt.2 (List.le_trans h1 h2))
theorem putIt_sorted (x : It) : ∀ L : List It, L.Pairwise leI → (putIt x L).Pairwise leI
  | [], _ => List.pairwise_singleton _ _
  | y :: L, h => by
    obtain ⟨h1, h2⟩ := List.pairwise_cons.1 h
    unfold putIt
    split
    · rename_i hlt
      refine List.pairwise_cons.2 ⟨fun z hz => ?_, putIt_sorted x L h2⟩
      rcases List.mem_cons.1 ((putIt_perm x L).mem_iff.1 hz) with e | hz
      · subst e; exact fun h => List.lt_irrefl _ (List.lt_trans h hlt)
      · exact h1 z hz
    · rename_i hlt
      refine List.pairwise_cons.2 ⟨fun z hz => ?_, h⟩
      rcases List.mem_cons.1 hz with e | hz
      · subst e; exact hlt
      · exact leI_trans hlt (h1 z hz)
theorem sortIts_sorted (L : List It) : (sortIts L).Pairwise leI := by
  induction L with
  | nil => exact List.Pairwise.nil
  | cons x L ih => exact putIt_sorted x _ ih
/-- Sorted lists of the same items: one list, or neither is right. -/
theorem sorted_same {L M : List It} (p : L.Perm M) (hL : L.Pairwise leI) (hM : M.Pairwise leI) : L = M ∨ (rightItems L = false ∧ rightItems M = false) := by
  by_cases h : L.Pairwise fun x y => x.1 ≠ y.1
  · have h' : M.Pairwise fun x y => x.1 ≠ y.1 := (p.pairwise_iff (fun h e => h e.symm)).1 h
    have up : ∀ {L : List It}, L.Pairwise leI → (L.Pairwise fun x y => x.1 ≠ y.1) → L.Pairwise ltI := fun h1 h2 => (h1.and h2).imp fun h => by
      rename_i x y
      by_cases e : ltI x y
      · exact e
      · exact absurd (ltI_total e h.2) h.1
    exact .inl (sorted_one p (up hL h) (up hM h'))
  · have no : ∀ {L : List It}, (¬ L.Pairwise fun x y => x.1 ≠ y.1) → rightItems L = false := fun {L} h => by
      cases e : rightItems L with
      | false => rfl
      | true => exact absurd (right_apart e).2.1 h
    exact .inr ⟨no h, no (fun h' => h ((p.pairwise_iff (fun h e => h e.symm)).2 h'))⟩
theorem sorted_root {L M : List It} (p : L.Perm M) (hL : L.Pairwise leI) (hM : M.Pairwise leI) : rootAns L = rootAns M := by
  rcases sorted_same p hL hM with rfl | ⟨h1, h2⟩
  · rfl
  · unfold rootAns; rw [if_neg (by simp [h1]), if_neg (by simp [h2])]
theorem sorted_prove {L M : List It} (p : L.Perm M) (hL : L.Pairwise leI) (hM : M.Pairwise leI) (ix : ByteArray) : proveAns L ix = proveAns M ix := by
  rcases sorted_same p hL hM with rfl | ⟨h1, h2⟩
  · rfl
  · unfold proveAns; rw [if_neg (fun e => by rw [h1] at e; cases e.1), if_neg (fun e => by rw [h2] at e; cases e.1)]
end Go.Proofs.YtcfpmofmjnhonaaGreatDoor
