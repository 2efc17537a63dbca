/- Parts of the proof, one behind the other: Lead, Long, LawItems, ItemEq, Times. -/
import Derived.Test.YtenlpbcembadcaaDoorM9
import Derived.Test.YtenlpbcembadcaaDoorM1
import Derived.Test.YtenlpbcembadcaaDoorProg
import Derived.Test.YtenlpbcembadcaaDoorM5
import Derived.Laws.StructEq
import Derived.Test.YtenlpbcembadcaaDoorM2
/- The document's ProofRoot, Verify and Commit. -/
namespace Go.Proofs.YtenlpbcembadcaaDoor
open Go.RowKit

/-- From a mark on, along the last k of a path, back. -/
def leadFrom (ix : ByteArray) (P : List ByteArray) : Nat → ByteArray → ByteArray
  | 0, s => s
  | k + 1, s => leadFrom ix P k (if bitOf ix.data.toList k = 0 then joinM s (P.getD k ⟨#[]⟩) else joinM (P.getD k ⟨#[]⟩) s)
def startOf (P : List ByteArray) (x : It) : ByteArray := if x.1.size = 0 then emptyM P.length else leafM x P.length
def proofRootAns (ix : ByteArray) (P : List ByteArray) (x : It) : ByteArray × Int := if rightProof ix P x = true then (leadFrom ix P P.length (startOf P x), 0) else (⟨#[]⟩, 1)
theorem join_size (a b : ByteArray) : (joinM a b).size = 16 := markOf_len _ _
theorem start_size (P : List ByteArray) (x : It) : (startOf P x).size = 16 := by unfold startOf emptyM leafM; split <;> exact markOf_len _ _
theorem rightProof_facts {ix : ByteArray} {P : List ByteArray} {x : It} (h : rightProof ix P x = true) :
    ix.size = 16 ∧ P.length ≤ 128 ∧ marksOk P = true ∧ ((x.1.size = 0 ∧ x.2.size = 0) ∨ (x.1.size = 16 ∧ x.2.size = 16 ∧ P.length ≤ commonOf ix.data.toList x.1.data.toList)) := by
  unfold rightProof at h
  simp only [Bool.and_eq_true, decide_eq_true_eq] at h
  obtain ⟨⟨⟨h1, h2⟩, h3⟩, h4⟩ := h
  refine ⟨h1, h2, h3, ?_⟩
  by_cases e : x.1.size = 0 ∧ x.2.size = 0
  · exact .inl e
  · rw [if_neg e] at h4
    unfold leafOk at h4
    simp only [Bool.and_eq_true, decide_eq_true_eq] at h4
    exact .inr ⟨h4.1.1, h4.2, h4.1.2⟩

set_option maxHeartbeats 1000000 in
set_option maxRecDepth 100000 in
theorem refProofRoot_is (b : Nat) (ix : ByteArray) (P : List ByteArray) (A : Option Addr) (cap : Nat) (x : It) (s : ByteArray) (n : Int) (w : World) (hr : Holds w b 72 refCells 63) (hm : Strs w A P) (hl : P.length ≤ 1000000) (h : proofRootAns ix P x = (s, n)) :
    Calls Tryd.prog 8 #[.pointer (some ⟨b, 0, none⟩), .string ix, .agg #[.slice A P.length cap, .string x.1, .string x.2]] w fun e w' => e = .returned (.tuple #[.string s, .int .i64 n]) ∧ Below w.heap.size w w' := by
  have HR := Lib.hid hr
  have HM := Lib.hid hm
  have HBW := Lib.hid (alloc_below w (.cells #[.slice A P.length cap, .string x.1, .string x.2] 26))
  have HN := Lib.hid (show Holds (w.alloc (.cells #[.slice A P.length cap, .string x.1, .string x.2] 26)) w.heap.size 3 (pCells (.slice A P.length cap) x) 26 from Holds.new w 3 (pCells (.slice A P.length cap) x) 26)
  clear hr hm
  unfold proofRootAns at h
  by_cases hk : rightProof ix P x = true
  · rw [if_pos hk] at h
    obtain ⟨hs, rfl⟩ := Prod.mk.inj h
    have HS := Lib.hid hs
    have HK := Lib.hid hk
    obtain ⟨h16, h128, hmk, hx⟩ := rightProof_facts hk
    have H16 := Lib.hid h16
    have HMK := Lib.hid hmk
    clear hs h hk h16 hmk
    go_enter Tryd.func8, Tryd.ntmps8
    go_wp2_with fail
    refine (refRightProof_any ix P A cap x _ (HM.out.below HBW.out) hl).mono ?_
    rintro e w1 ⟨rfl, hb1⟩
    rw [HK.out]
    have HB1 := Lib.hid (HBW.out.trans (hb1.mono HBW.out.size))
    have HN1 := Lib.hid (HN.out.below hb1 HN.out.lt)
    have c0 : w1.cell? ⟨w.heap.size, 0, none⟩ = some (.slice A P.length cap) := HN1.out.cell 0 (by omega)
    clear hb1
    go_wp2_with fail
    refine (refEmpty_any b P.length _ (HR.out.below HB1.out HR.out.lt)).mono ?_
    rintro e w2 ⟨rfl, hb2⟩
    have HB2 := Lib.hid (HB1.out.trans (hb2.mono HB1.out.size))
    have HN2 := Lib.hid (HN1.out.below hb2 HN1.out.lt)
    have c1 : w2.cell? ⟨w.heap.size, 1, none⟩ = some (.string x.1) := HN2.out.cell 1 (by omega)
    have c2 : w2.cell? ⟨w.heap.size, 2, none⟩ = some (.string x.2) := HN2.out.cell 2 (by omega)
    have d0 : w2.cell? ⟨w.heap.size, 0, none⟩ = some (.slice A P.length cap) := HN2.out.cell 0 (by omega)
    clear hb2 c0
    have LOOP : ∀ (u : ByteArray) (wu : World) (Q : World → Prop), True := fun _ _ _ => trivial
    clear LOOP
    by_cases hz : x.1.size = 0
    · have z1 : x.1.toList = [] := empty_list.2 hz
      have z2 : x.1.toList.isEmpty = true := by simp [z1]
      have ES := Lib.hid (show emptyM P.length = startOf P x by unfold startOf; rw [if_pos hz])
      clear hz
      rw [ES.out]
      go_wp2
      have HST := Lib.hid (start_size P x)
      obtain ⟨u0, hu0⟩ : ∃ u0, startOf P x = u0 := ⟨_, rfl⟩
      rw [hu0] at HS HST
      rw [hu0]
      clear hu0 ES d0 c1 c2 z1 z2
      go_loopw [8, 9] (fun sv kv wr => ∃ (k : Nat) (z : Int) (u : ByteArray), k ≤ P.length ∧ Hid (z = (k : Int) - 1) ∧ kv = .int .i64 z ∧ sv = .string u ∧ Hid (u.size = 16 ∧ leadFrom ix P k u = s ∧ Below w.heap.size w wr ∧ Holds wr w.heap.size 3 (pCells (.slice A P.length cap) x) 26)) (fun _ kv _ => (intOf kv + 1).toNat)
      case atStart => exact ⟨P.length, _, u0, Nat.le_refl _, Lib.hid rfl, rfl, rfl, Lib.hid ⟨HST.out, HS.out, HB2.out, HN2.out⟩⟩
      case round =>
        obtain ⟨k, z, u, hkp, HZ, rfl, rfl, HU⟩ := hrel
        have c0 : wr.cell? ⟨w.heap.size, 0, none⟩ = some (.slice A P.length cap) := HU.out.2.2.2.cell 0 (by omega)
        by_cases hz : 0 ≤ z
        · obtain ⟨m, rfl⟩ : ∃ m : Nat, z = (m : Int) := ⟨z.toNat, by omega⟩
          have HK1 := Lib.hid (show k = m + 1 by have := HZ.out; omega)
          have hmp : m < P.length := by have := HK1.out; omega
          obtain ⟨p, hp⟩ : ∃ p, P[m]? = some p := ⟨_, List.getElem?_eq_getElem hmp⟩
          have HP := Lib.hid hp
          obtain ⟨a, rfl, _, c1⟩ := (HM.out.below HU.out.2.2.1) m p hp
          obtain ⟨B, hB⟩ : ∃ B, bitOf ix.data.toList m = B := ⟨_, rfl⟩
          have HBIT := Lib.hid hB
          have HUS := Lib.hid HU.out.1
          have HPS := Lib.hid (marksOk_get HMK.out hp)
          clear hp hB hz hkp
          by_cases hb0 : B = 0
          · have eB : ((B : Int) == 0) = true := by rw [beq_iff_eq]; omega
            have HNEXT := Lib.hid (show leadFrom ix P m (joinM u p) = s by
              have := HU.out.2.1
              rw [HK1.out, leadFrom, if_pos (HBIT.out.trans hb0), List.getD_eq_getElem?_getD, HP.out] at this
              exact this)
            clear hb0
            go_wp2_with fail
            refine (at_any ix m _ H16.out (by omega)).mono ?_
            rintro e w4 ⟨rfl, rfl⟩
            rw [HBIT.out]
            go_wp2_with fail
            refine (refJoin_any b u p _ (HR.out.below HU.out.2.2.1 HR.out.lt) (by have := HUS.out; have := HPS.out; omega) (by have := HUS.out; have := HPS.out; omega)).mono ?_
            rintro e w5 ⟨rfl, hb5⟩
            have HU' := Lib.hid (show (joinM u p).size = 16 ∧ leadFrom ix P m (joinM u p) = s ∧ Below w.heap.size w w5 ∧ Holds w5 w.heap.size 3 (pCells (.slice (some a) P.length cap) x) 26 from
              ⟨join_size _ _, HNEXT.out, HU.out.2.2.1.trans (hb5.mono HU.out.2.2.1.size), HU.out.2.2.2.below hb5 HU.out.2.2.2.lt⟩)
            clear hb5 eB
            go_wp2
            go_roundw
            case rel => exact ⟨m, (m : Int) - 1, _, by omega, Lib.hid rfl, rfl, rfl, HU'⟩
            case measure => simp [intOf]
          · have eB : ((B : Int) == 0) = false := by rw [beq_eq_false_iff_ne]; omega
            have HNEXT := Lib.hid (show leadFrom ix P m (joinM p u) = s by
              have := HU.out.2.1
              rw [HK1.out, leadFrom, if_neg (by rw [HBIT.out]; exact hb0), List.getD_eq_getElem?_getD, HP.out] at this
              exact this)
            clear hb0
            go_wp2_with fail
            refine (at_any ix m _ H16.out (by omega)).mono ?_
            rintro e w4 ⟨rfl, rfl⟩
            rw [HBIT.out]
            go_wp2_with fail
            refine (refJoin_any b p u _ (HR.out.below HU.out.2.2.1 HR.out.lt) (by have := HUS.out; have := HPS.out; omega) (by have := HUS.out; have := HPS.out; omega)).mono ?_
            rintro e w5 ⟨rfl, hb5⟩
            have HU' := Lib.hid (show (joinM p u).size = 16 ∧ leadFrom ix P m (joinM p u) = s ∧ Below w.heap.size w w5 ∧ Holds w5 w.heap.size 3 (pCells (.slice (some a) P.length cap) x) 26 from
              ⟨join_size _ _, HNEXT.out, HU.out.2.2.1.trans (hb5.mono HU.out.2.2.1.size), HU.out.2.2.2.below hb5 HU.out.2.2.2.lt⟩)
            clear hb5 eB
            go_wp2
            go_roundw
            case rel => exact ⟨m, (m : Int) - 1, _, by omega, Lib.hid rfl, rfl, rfl, HU'⟩
            case measure => simp [intOf]
        · have HK0 := Lib.hid (show k = 0 by have := HZ.out; omega)
          have HF := Lib.hid (show u = s by have := HU.out.2.1; rw [HK0.out] at this; exact this)
          go_wp2
          refine bodyPost_ret (results_tmp2 rfl _ _ _) rfl ?_
          exact ⟨by rw [HF.out]; rfl, HU.out.2.2.1⟩
    · have z1 : ¬ x.1.toList = [] := fun e => hz (empty_list.1 e)
      have z2 : x.1.toList.isEmpty = false := by simpa using z1
      have ES := Lib.hid (show leafM x P.length = startOf P x by unfold startOf; rw [if_neg hz])
      have HX1 := Lib.hid (show x.1.size ≤ 1000000 by omega)
      have HX2 := Lib.hid (show x.2.size ≤ 1000000 by omega)
      clear hz
      go_wp2_with fail
      refine (refLeaf_any b x P.length _ (HR.out.below HB2.out HR.out.lt) HX1.out HX2.out).mono ?_
      rintro e w3 ⟨rfl, hb3⟩
      rw [ES.out]
      have HB3 := Lib.hid (HB2.out.trans (hb3.mono HB2.out.size))
      have HN3 := Lib.hid (HN2.out.below hb3 HN2.out.lt)
      have c0 : w3.cell? ⟨w.heap.size, 0, none⟩ = some (.slice A P.length cap) := HN3.out.cell 0 (by omega)
      clear hb3 c1 c2 d0
      go_wp2
      have HST := Lib.hid (start_size P x)
      obtain ⟨u0, hu0⟩ : ∃ u0, startOf P x = u0 := ⟨_, rfl⟩
      rw [hu0] at HS HST
      rw [hu0]
      clear hu0 ES c0 z1 z2
      go_loopw [8, 9] (fun sv kv wr => ∃ (k : Nat) (z : Int) (u : ByteArray), k ≤ P.length ∧ Hid (z = (k : Int) - 1) ∧ kv = .int .i64 z ∧ sv = .string u ∧ Hid (u.size = 16 ∧ leadFrom ix P k u = s ∧ Below w.heap.size w wr ∧ Holds wr w.heap.size 3 (pCells (.slice A P.length cap) x) 26)) (fun _ kv _ => (intOf kv + 1).toNat)
      case atStart => exact ⟨P.length, _, u0, Nat.le_refl _, Lib.hid rfl, rfl, rfl, Lib.hid ⟨HST.out, HS.out, HB3.out, HN3.out⟩⟩
      case round =>
        obtain ⟨k, z, u, hkp, HZ, rfl, rfl, HU⟩ := hrel
        have c0 : wr.cell? ⟨w.heap.size, 0, none⟩ = some (.slice A P.length cap) := HU.out.2.2.2.cell 0 (by omega)
        by_cases hz : 0 ≤ z
        · obtain ⟨m, rfl⟩ : ∃ m : Nat, z = (m : Int) := ⟨z.toNat, by omega⟩
          have HK1 := Lib.hid (show k = m + 1 by have := HZ.out; omega)
          have hmp : m < P.length := by have := HK1.out; omega
          obtain ⟨p, hp⟩ : ∃ p, P[m]? = some p := ⟨_, List.getElem?_eq_getElem hmp⟩
          have HP := Lib.hid hp
          obtain ⟨a, rfl, _, c1⟩ := (HM.out.below HU.out.2.2.1) m p hp
          obtain ⟨B, hB⟩ : ∃ B, bitOf ix.data.toList m = B := ⟨_, rfl⟩
          have HBIT := Lib.hid hB
          have HUS := Lib.hid HU.out.1
          have HPS := Lib.hid (marksOk_get HMK.out hp)
          clear hp hB hz hkp
          by_cases hb0 : B = 0
          · have eB : ((B : Int) == 0) = true := by rw [beq_iff_eq]; omega
            have HNEXT := Lib.hid (show leadFrom ix P m (joinM u p) = s by
              have := HU.out.2.1
              rw [HK1.out, leadFrom, if_pos (HBIT.out.trans hb0), List.getD_eq_getElem?_getD, HP.out] at this
              exact this)
            clear hb0
            go_wp2_with fail
            refine (at_any ix m _ H16.out (by omega)).mono ?_
            rintro e w4 ⟨rfl, rfl⟩
            rw [HBIT.out]
            go_wp2_with fail
            refine (refJoin_any b u p _ (HR.out.below HU.out.2.2.1 HR.out.lt) (by have := HUS.out; have := HPS.out; omega) (by have := HUS.out; have := HPS.out; omega)).mono ?_
            rintro e w5 ⟨rfl, hb5⟩
            have HU' := Lib.hid (show (joinM u p).size = 16 ∧ leadFrom ix P m (joinM u p) = s ∧ Below w.heap.size w w5 ∧ Holds w5 w.heap.size 3 (pCells (.slice (some a) P.length cap) x) 26 from
              ⟨join_size _ _, HNEXT.out, HU.out.2.2.1.trans (hb5.mono HU.out.2.2.1.size), HU.out.2.2.2.below hb5 HU.out.2.2.2.lt⟩)
            clear hb5 eB
            go_wp2
            go_roundw
            case rel => exact ⟨m, (m : Int) - 1, _, by omega, Lib.hid rfl, rfl, rfl, HU'⟩
            case measure => simp [intOf]
          · have eB : ((B : Int) == 0) = false := by rw [beq_eq_false_iff_ne]; omega
            have HNEXT := Lib.hid (show leadFrom ix P m (joinM p u) = s by
              have := HU.out.2.1
              rw [HK1.out, leadFrom, if_neg (by rw [HBIT.out]; exact hb0), List.getD_eq_getElem?_getD, HP.out] at this
              exact this)
            clear hb0
            go_wp2_with fail
            refine (at_any ix m _ H16.out (by omega)).mono ?_
            rintro e w4 ⟨rfl, rfl⟩
            rw [HBIT.out]
            go_wp2_with fail
            refine (refJoin_any b p u _ (HR.out.below HU.out.2.2.1 HR.out.lt) (by have := HUS.out; have := HPS.out; omega) (by have := HUS.out; have := HPS.out; omega)).mono ?_
            rintro e w5 ⟨rfl, hb5⟩
            have HU' := Lib.hid (show (joinM p u).size = 16 ∧ leadFrom ix P m (joinM p u) = s ∧ Below w.heap.size w w5 ∧ Holds w5 w.heap.size 3 (pCells (.slice (some a) P.length cap) x) 26 from
              ⟨join_size _ _, HNEXT.out, HU.out.2.2.1.trans (hb5.mono HU.out.2.2.1.size), HU.out.2.2.2.below hb5 HU.out.2.2.2.lt⟩)
            clear hb5 eB
            go_wp2
            go_roundw
            case rel => exact ⟨m, (m : Int) - 1, _, by omega, Lib.hid rfl, rfl, rfl, HU'⟩
            case measure => simp [intOf]
        · have HK0 := Lib.hid (show k = 0 by have := HZ.out; omega)
          have HF := Lib.hid (show u = s by have := HU.out.2.1; rw [HK0.out] at this; exact this)
          go_wp2
          refine bodyPost_ret (results_tmp2 rfl _ _ _) rfl ?_
          exact ⟨by rw [HF.out]; rfl, HU.out.2.2.1⟩
  · rw [if_neg hk] at h
    obtain ⟨rfl, rfl⟩ := Prod.mk.inj h
    have HK := Lib.hid (show rightProof ix P x = false by simpa using hk)
    clear h hk
    go_enter Tryd.func8, Tryd.ntmps8
    go_wp2_with fail
    refine (refRightProof_any ix P A cap x _ (HM.out.below HBW.out) hl).mono ?_
    rintro e w1 ⟨rfl, hb1⟩
    rw [HK.out]
    have HB1 := Lib.hid (HBW.out.trans (hb1.mono HBW.out.size))
    clear hb1
    go_wp2
    refine bodyPost_ret (results_tmp2 rfl _ _ _) rfl ?_
    exact ⟨rfl, HB1.out⟩

theorem results_tmp3' {fn : Func} {p q r : Tmp} (h : fn.results = #[.tmp p, .tmp q, .tmp r]) (tmps : Array Value) (P : Program) (w : World) :
    (results fn tmps).run P w = .ok (.tuple #[tmps.getD p undef, tmps.getD q undef, tmps.getD r undef]) w := by
  simp [results, h, go_sem]
def verifyAns (root ix : ByteArray) (P : List ByteArray) (x : It) : ByteArray × Bool × Int :=
  if (proofRootAns ix P x).2 ≠ 0 then (⟨#[]⟩, false, (proofRootAns ix P x).2)
  else if (proofRootAns ix P x).1 ≠ root then (⟨#[]⟩, false, 13)
  else if x.1 = ix then (x.2, true, 0) else (⟨#[]⟩, false, 0)
theorem text_eq (a b : ByteArray) : a.toList = b.toList ↔ a = b := by
  rw [ByteArray.toList_eq, ByteArray.toList_eq]
  exact ⟨text_of, fun h => by rw [h]⟩
set_option maxHeartbeats 1000000 in
set_option maxRecDepth 100000 in
theorem refVerify_is (b : Nat) (root ix : ByteArray) (P : List ByteArray) (A : Option Addr) (cap : Nat) (x : It) (c : ByteArray) (t : Bool) (n : Int) (w : World) (hr : Holds w b 72 refCells 63) (hm : Strs w A P) (hl : P.length ≤ 1000000) (h : verifyAns root ix P x = (c, t, n)) :
    Calls Tryd.prog 13 #[.pointer (some ⟨b, 0, none⟩), .string root, .string ix, .agg #[.slice A P.length cap, .string x.1, .string x.2]] w fun e w' => e = .returned (.tuple #[.string c, .bool t, .int .i64 n]) ∧ Below w.heap.size w w' := by
  have HBW := Lib.hid (alloc_below w (.cells #[.slice A P.length cap, .string x.1, .string x.2] 26))
  have HN := Lib.hid (show Holds (w.alloc (.cells #[.slice A P.length cap, .string x.1, .string x.2] 26)) w.heap.size 3 (pCells (.slice A P.length cap) x) 26 from Holds.new w 3 (pCells (.slice A P.length cap) x) 26)
  have HR := Lib.hid (hr.below HBW.out hr.lt)
  have HM := Lib.hid (hm.below HBW.out)
  clear hr hm
  obtain ⟨s, m, hpr⟩ : ∃ s m, proofRootAns ix P x = (s, m) := ⟨_, _, rfl⟩
  have HPR := Lib.hid hpr
  unfold verifyAns at h
  rw [hpr] at h
  clear hpr
  by_cases hm0 : m ≠ 0
  · rw [if_pos hm0] at h
    obtain ⟨rfl, h2⟩ := Prod.mk.inj h
    obtain ⟨rfl, rfl⟩ := Prod.mk.inj h2
    have e1 : (m == 0) = false := by rw [beq_eq_false_iff_ne]; exact hm0
    have e2 : (m != 0) = true := by simpa using hm0
    clear h h2 hm0
    go_enter Tryd.func13, Tryd.ntmps13
    go_wp2_with fail
    refine (refProofRoot_is b ix P A cap x _ _ _ HR.out HM.out hl HPR.out).mono ?_
    rintro e w1 ⟨rfl, hb1⟩
    have HB1 := Lib.hid (HBW.out.trans (hb1.mono HBW.out.size))
    have HN1 := Lib.hid (HN.out.below hb1 HN.out.lt)
    have c1 : w1.cell? ⟨w.heap.size, 1, none⟩ = some (.string x.1) := HN1.out.cell 1 (by omega)
    have c2 : w1.cell? ⟨w.heap.size, 2, none⟩ = some (.string x.2) := HN1.out.cell 2 (by omega)
    clear hb1
    go_wp2
    refine bodyPost_ret (results_tmp3' rfl _ _ _) rfl ?_
    exact ⟨rfl, HB1.out⟩
  · have hm1 : m = 0 := by omega
    subst hm1
    rw [if_neg (by omega)] at h
    by_cases hs : s ≠ root
    · rw [if_pos hs] at h
      obtain ⟨rfl, h2⟩ := Prod.mk.inj h
      obtain ⟨rfl, rfl⟩ := Prod.mk.inj h2
      have e1 : (s.toList == root.toList) = false := by rw [beq_eq_false_iff_ne]; exact fun e => hs ((text_eq _ _).1 e)
      have e2 : (!s.toList == root.toList) = true := by rw [e1]; rfl
      clear h h2 hm0 hs
      go_enter Tryd.func13, Tryd.ntmps13
      go_wp2_with fail
      refine (refProofRoot_is b ix P A cap x _ _ _ HR.out HM.out hl HPR.out).mono ?_
      rintro e w1 ⟨rfl, hb1⟩
      have HB1 := Lib.hid (HBW.out.trans (hb1.mono HBW.out.size))
      have HN1 := Lib.hid (HN.out.below hb1 HN.out.lt)
      have c1 : w1.cell? ⟨w.heap.size, 1, none⟩ = some (.string x.1) := HN1.out.cell 1 (by omega)
      have c2 : w1.cell? ⟨w.heap.size, 2, none⟩ = some (.string x.2) := HN1.out.cell 2 (by omega)
      clear hb1
      go_wp2
      refine bodyPost_ret (results_tmp3' rfl _ _ _) rfl ?_
      exact ⟨rfl, HB1.out⟩
    · have hs' : s = root := Classical.not_not.1 hs
      subst hs'
      rw [if_neg hs] at h
      by_cases hx : x.1 = ix
      · rw [if_pos hx] at h
        obtain ⟨rfl, h2⟩ := Prod.mk.inj h
        obtain ⟨rfl, rfl⟩ := Prod.mk.inj h2
        subst hx
        clear h h2 hm0 hs
        go_enter Tryd.func13, Tryd.ntmps13
        go_wp2_with fail
        refine (refProofRoot_is b _ P A cap x _ _ _ HR.out HM.out hl HPR.out).mono ?_
        rintro e w1 ⟨rfl, hb1⟩
        have HB1 := Lib.hid (HBW.out.trans (hb1.mono HBW.out.size))
        have HN1 := Lib.hid (HN.out.below hb1 HN.out.lt)
        have c1 : w1.cell? ⟨w.heap.size, 1, none⟩ = some (.string x.1) := HN1.out.cell 1 (by omega)
        have c2 : w1.cell? ⟨w.heap.size, 2, none⟩ = some (.string x.2) := HN1.out.cell 2 (by omega)
        clear hb1
        go_wp2
        refine bodyPost_ret (results_tmp3' rfl _ _ _) rfl ?_
        exact ⟨rfl, HB1.out⟩
      · rw [if_neg hx] at h
        obtain ⟨rfl, h2⟩ := Prod.mk.inj h
        obtain ⟨rfl, rfl⟩ := Prod.mk.inj h2
        have e1 : (x.1.toList == ix.toList) = false := by rw [beq_eq_false_iff_ne]; exact fun e => hx ((text_eq _ _).1 e)
        clear h h2 hm0 hs hx
        go_enter Tryd.func13, Tryd.ntmps13
        go_wp2_with fail
        refine (refProofRoot_is b ix P A cap x _ _ _ HR.out HM.out hl HPR.out).mono ?_
        rintro e w1 ⟨rfl, hb1⟩
        have HB1 := Lib.hid (HBW.out.trans (hb1.mono HBW.out.size))
        have HN1 := Lib.hid (HN.out.below hb1 HN.out.lt)
        have c1 : w1.cell? ⟨w.heap.size, 1, none⟩ = some (.string x.1) := HN1.out.cell 1 (by omega)
        have c2 : w1.cell? ⟨w.heap.size, 2, none⟩ = some (.string x.2) := HN1.out.cell 2 (by omega)
        clear hb1
        go_wp2
        refine bodyPost_ret (results_tmp3' rfl _ _ _) rfl ?_
        exact ⟨rfl, HB1.out⟩

def commitAns (o v : ByteArray) : ByteArray × Int := if o.size = 16 ∧ 1 ≤ v.size ∧ v.size ≤ 24 then (markOf 99 [o, v], 0) else (⟨#[]⟩, 1)
set_option maxRecDepth 100000 in
theorem refCommit_is (b : Nat) (o v c : ByteArray) (n : Int) (w : World) (hr : Holds w b 72 refCells 63) (h : commitAns o v = (c, n)) :
    Calls Tryd.prog 15 #[.pointer (some ⟨b, 0, none⟩), .string o, .string v] w fun e w' => e = .returned (.tuple #[.string c, .int .i64 n]) ∧ Below w.heap.size w w' := by
  have HR := Lib.hid hr
  clear hr
  unfold commitAns at h
  by_cases h16 : o.size = 16
  · have H16 := Lib.hid h16
    by_cases hv : 1 ≤ v.size ∧ v.size ≤ 24
    · rw [if_pos ⟨h16, hv⟩] at h
      obtain ⟨rfl, rfl⟩ := Prod.mk.inj h
      have E := Lib.hid (show (decide ((1 : Int) ≤ (v.size : Int)) && decide ((v.size : Int) ≤ 24)) = true by simp; omega)
      have HTOT := Lib.hid (show total [o, v] ≤ 1073741800 by simp [total]; omega)
      clear h h16 hv
      go_enter Tryd.func15, Tryd.ntmps15
      go_wp2_with fail
      refine (isMark_t _ _ H16.out).mono ?_
      rintro e w1 ⟨rfl, rfl⟩
      go_wp2_with fail
      refine (in_any _ _ _ _).mono ?_
      rintro e w1 ⟨rfl, rfl⟩
      rw [E.out]
      go_wp2_with fail
      refine (refMark_any b 99 [o, v] (some ⟨w1.heap.size, 0, none⟩) 2 _ (HR.out.alloc _) HTOT.out (by simp) (strs_new w1 [o, v] 9)).mono ?_
      rintro e w2 ⟨rfl, hb2⟩
      have HB2 := Lib.hid ((alloc_below w1 (.cells #[.string o, .string v] 9)).trans (hb2.mono (by simp)))
      clear hb2
      go_wp2
      refine bodyPost_ret (results_tmp2 rfl _ _ _) rfl ?_
      exact ⟨rfl, HB2.out⟩
    · rw [if_neg (fun e => hv e.2)] at h
      obtain ⟨rfl, rfl⟩ := Prod.mk.inj h
      have E := Lib.hid (show (decide ((1 : Int) ≤ (v.size : Int)) && decide ((v.size : Int) ≤ 24)) = false by simp; omega)
      clear h h16 hv
      go_enter Tryd.func15, Tryd.ntmps15
      go_wp2_with fail
      refine (isMark_t _ _ H16.out).mono ?_
      rintro e w1 ⟨rfl, rfl⟩
      go_wp2_with fail
      refine (in_any _ _ _ _).mono ?_
      rintro e w1 ⟨rfl, rfl⟩
      rw [E.out]
      go_wp2
      refine bodyPost_ret (results_tmp2 rfl _ _ _) rfl ?_
      exact ⟨rfl, Below.refl _ _⟩
  · rw [if_neg (fun e => h16 e.1)] at h
    obtain ⟨rfl, rfl⟩ := Prod.mk.inj h
    have H16 := Lib.hid h16
    clear h h16
    go_enter Tryd.func15, Tryd.ntmps15
    go_wp2_with fail
    refine (isMark_f _ _ H16.out).mono ?_
    rintro e w1 ⟨rfl, rfl⟩
    go_wp2
    refine bodyPost_ret (results_tmp2 rfl _ _ _) rfl ?_
    exact ⟨rfl, Below.refl _ _⟩
end Go.Proofs.YtenlpbcembadcaaDoor
/- long. -/
namespace Go.Proofs.YtenlpbcembadcaaDoor
open Go.RowKit

set_option maxRecDepth 100000 in
theorem long_any (s : ByteArray) (w : World) : Calls Tryd.prog 5 #[.string s] w fun e w' => e = .returned (.bool (decide (60 < s.size))) ∧ w' = w := by
  go_enter Tryd.func5, Tryd.ntmps5
  go_wp2
  go_ret
  refine ⟨?_, rfl⟩
  show Ending.returned (Value.bool _) = _
  congr 2
  simp; omega
theorem long_e (s : ByteArray) (w : World) : Calls Tryd.prog 5 #[.string s] w fun e w' => ∃ b, e = .returned (.bool b) ∧ w' = w ∧ (b = false → s.size ≤ 60) :=
  (long_any s w).mono fun _ _ ⟨he, hw⟩ => ⟨_, he, hw, fun h => by simpa using h⟩

end Go.Proofs.YtenlpbcembadcaaDoor
/- The law's own helpers over items and texts: items, sameItems, sameTexts, sameProof. -/
namespace Go.Proofs.YtenlpbcembadcaaDoor
open Go.RowKit

theorem long_t (s : ByteArray) (w : World) (h : 60 < s.size) : Calls Tryd.prog 5 #[.string s] w fun e w' => e = .returned (.bool true) ∧ w' = w :=
  (long_any s w).mono fun _ _ ⟨he, hw⟩ => ⟨by rw [he, decide_eq_true h], hw⟩
theorem long_f (s : ByteArray) (w : World) (h : ¬ 60 < s.size) : Calls Tryd.prog 5 #[.string s] w fun e w' => e = .returned (.bool false) ∧ w' = w :=
  (long_any s w).mono fun _ _ ⟨he, hw⟩ => ⟨by rw [he, decide_eq_false h], hw⟩
end Go.Proofs.YtenlpbcembadcaaDoor
/- Items compared: one with one, and slices.Equal of the same items. -/
namespace Go.Proofs.YtenlpbcembadcaaDoor
open Go.RowKit

theorem stoodI : Tryd.prog.stoodInHeld 24 = false := by kernel_rfl
theorem itemFields : Tryd.prog.underlying 24 = some (.struct (Tryd.prog.fieldsOf 24)) := by kernel_rfl
theorem textI_ne {a b : ByteArray} (h : ¬ a = b) : (a.toList == b.toList) = false := by
  rw [beq_eq_false_iff_ne]
  intro e
  rw [ByteArray.toList_eq, ByteArray.toList_eq] at e
  exact h (text_of e)
set_option maxHeartbeats 1000000 in
theorem run_neq_items (a b : It) (w : World) :
    (binOp .neq 24 (.agg #[.string a.1, .string a.2]) (.agg #[.string b.1, .string b.2])).run Tryd.prog w = .ok (.bool (!decide (a = b))) w := by
  rw [run_neq_struct, run_equalIn_agg _ 9999 _ _ _ itemFields stoodI]
  by_cases h2 : a.1 = b.1
  · by_cases h3 : a.2 = b.2
    · have e : decide (a = b) = true := by simp [Prod.ext_iff, h2, h3]
      rw [e, h2, h3]
      go_simp
    · have e : decide (a = b) = false := by simp [Prod.ext_iff, h3]
      have e3 := textI_ne h3
      rw [e, h2]
      go_simp
  · have e : decide (a = b) = false := by simp [Prod.ext_iff, h2]
    have e3 := textI_ne h2
    rw [e]
    go_simp
end Go.Proofs.YtenlpbcembadcaaDoor
/- The document's numbers of rounds: times, above, root. -/
namespace Go.Proofs.YtenlpbcembadcaaDoor
open Go.RowKit

def u64s (l : List Nat) : List Value := l.map fun (n : Nat) => Value.int .u64 (n : Int)
theorem u64s_length (l : List Nat) : (u64s l).length = l.length := by simp [u64s]
theorem u64s_append (l m : List Nat) : u64s (l ++ m) = u64s l ++ u64s m := by simp [u64s]
theorem u64s_get (l : List Nat) (i : Nat) (h : i < l.length) : (u64s l)[i]? = some (.int .u64 ((l.getD i 0 : Nat) : Int)) := by simp [u64s, List.getD_eq_getElem?_getD, h]
theorem infoU64 : (Tryd.prog.info? 67).map (fun i => (i.zero, i.size, i.bytes)) = some (some (.int .u64 0), 1, 8) := by kernel_rfl

/-- What is left of a number, digit by digit of 2^16. -/
def digs : Nat → Nat → List Nat
  | 0, _ => []
  | f + 1, c => if c = 0 then [] else (c % 65536) :: digs f (c / 65536)
def timesL (x : Nat) : List Nat → Nat → List Nat
  | [], c => digs 4 c
  | d :: l, c => ((c + d * x) % 65536) :: timesL x l ((c + d * x) / 65536)
theorem digs_step (f c : Nat) (h : 0 < c) : digs (f + 1) c = (c % 65536) :: digs f (c / 65536) := by
  show (if c = 0 then [] else _) = _; rw [if_neg (by omega)]
theorem digs_zero (f : Nat) : digs f 0 = [] := by cases f <;> simp [digs]
/-- Digits of 2^16. -/
def Small (l : List Nat) : Prop := ∀ i, l.getD i 0 < 65536
def sliceN : Value → Nat | .slice _ n _ => n | _ => 0

structure TimesRel (N : Nat) (w wr : World) (v : Value) (done : List Nat) : Prop where
  below : Below N w wr
  row : Row wr N 1 v done.length (u64s done)
theorem TimesRel.grow {N : Nat} {w wr w' : World} {v v' : Value} {l : List Nat} {c : Nat} (h : TimesRel N w wr v l) (hN : N ≤ w.heap.size)
    (hr : Row w' N 1 v' (l.length + 1) (u64s l ++ [.int .u64 (c : Int)])) (hg : wr.grownBy w' v.ownBlock) : TimesRel N w w' v' (l ++ [c]) :=
  ⟨grown_below h.below h.row hg (Nat.le_refl _) (Nat.le_trans hN h.below.size), by simpa [u64s] using hr⟩

set_option maxRecDepth 100000 in
theorem times_any (vs : List Nat) (p : Option Addr) (cap x : Nat) (w : World) (hx : x ≤ 1099511627776) (hsm : Small vs) (hn : vs.length ≤ 1000)
    (hc : ∀ i, i < vs.length → ∃ g, p = some ⟨g, 0, none⟩ ∧ g < w.heap.size ∧ w.cell? ⟨g, i, none⟩ = some (.int .u64 ((vs.getD i 0 : Nat) : Int))) :
    Calls Tryd.prog 80 #[.slice p vs.length cap, .int .u64 (x : Int)] w fun e w' => ∃ v, e = .returned v ∧ TimesRel w.heap.size w w' v (timesL x vs 0) := by
  have HC := Lib.hid hc
  have HS := Lib.hid hsm
  clear hc hsm
  go_enter Tryd.func80, Tryd.ntmps80
  go_wp2
  go_loopw [5, 6, 7] (fun out c i wr => ∃ (cn k f : Nat) (done : List Nat), c = .int .u64 (cn : Int) ∧ i = .int .i64 (k : Int) ∧ cn < 4398046511104 ∧ k ≤ vs.length + 4 ∧
      (k < vs.length → done ++ timesL x (vs.drop k) cn = timesL x vs 0) ∧ (vs.length ≤ k → f + k = vs.length + 4 ∧ cn < 65536 ^ f ∧ done ++ digs f cn = timesL x vs 0) ∧ done.length = k ∧ TimesRel w.heap.size w wr out done)
    (fun _ _ i _ => vs.length + 4 - (intOf i).toNat)
  case atStart =>
    refine ⟨0, 0, 4 + vs.length, [], rfl, rfl, by omega, by omega, fun _ => rfl, fun h => ?_, rfl, ⟨Below.refl _ _, show Row w w.heap.size 1 (.slice none 0 0) 0 [] from Row.nil _ _ _⟩⟩
    have h0 : vs.length = 0 := by omega
    have e : vs = [] := List.eq_nil_of_length_eq_zero h0
    rw [h0, e]; exact ⟨rfl, by omega, rfl⟩
  case round =>
    obtain ⟨cn, k, f, done, rfl, rfl, hcn, hk, h1, h2, hdl, hr⟩ := hrel
    have H1 := Lib.hid h1
    have H2 := Lib.hid h2
    have HR := Lib.hid hr
    clear h1 h2 hr
    by_cases hlt : k < vs.length
    · obtain ⟨g, rfl, hg, hcell⟩ := HC.out k hlt
      have hc1 : wr.cell? ⟨g, k, none⟩ = some (.int .u64 ((vs.getD k 0 : Nat) : Int)) := by rw [HR.out.below.cell hg]; exact hcell
      have hd := HS.out k
      generalize hdk : vs.getD k 0 = d at hc1 hd
      obtain ⟨m, hm⟩ : ∃ m : Nat, d * x = m := ⟨_, rfl⟩
      have hmb : m ≤ 72056494526300160 := by
        rw [← hm]
        exact Nat.le_trans (Nat.mul_le_mul (show d ≤ 65535 by omega) hx) (by omega)
      have hmul : IntKind.u64.wrap ((d : Int) * (x : Int)) = (m : Int) := by
        rw [← Int.natCast_mul, hm]; simp [IntKind.wrap, IntKind.bits, IntKind.signed]; omega
      have HM := Lib.hid hm
      have HD := Lib.hid hdk
      have HDL := Lib.hid hdl
      clear hm hcell hdk hdl
      go_wp2_with (at_builtin; refine wpList_append_one rfl (.tmp 32) (.tmp 35) 126 rfl 67 Tryd.underlying126 (.int .u64 0) 8 infoU64 rfl (by decide) w.heap.size _ done.length _ rfl HR.out.row HR.out.below.size (by have := HDL.out; omega) _ rfl rfl 67 ?_; intro v3 w3 hr3 hg3)
      go_wp2
      go_roundw
      case rel =>
        have hgr := HR.out.grow (c := (cn + m) % 65536) (Nat.le_refl _) (by have := hr3.out; rwa [show ((cn : Int) + (m : Int)) % 65536 = (((cn + m) % 65536 : Nat) : Int) from by omega] at this) hg3.out
        have hlist := H1.out hlt
        have hdrop : vs.drop k = d :: vs.drop (k + 1) := by
          rw [List.drop_eq_getElem_cons hlt]; congr 1
          have := HD.out; rw [List.getD_eq_getElem?_getD, List.getElem?_eq_getElem hlt] at this; exact this
        rw [hdrop] at hlist
        simp only [timesL, HM.out] at hlist
        refine ⟨(cn + m) / 65536, k + 1, vs.length + 4 - (k + 1), done ++ [(cn + m) % 65536], by rw [show ((cn : Int) + (m : Int)) / 65536 = (((cn + m) / 65536 : Nat) : Int) from by omega], by go_num, by omega, by omega, fun h => ?_, fun h => ?_, by rw [List.length_append, HDL.out]; rfl, hgr⟩
        · rw [List.append_assoc]; exact hlist
        · have e : k + 1 = vs.length := by omega
          rw [List.drop_of_length_le (by omega)] at hlist
          refine ⟨by omega, by rw [show vs.length + 4 - (k + 1) = 4 from by omega]; omega, ?_⟩
          rw [List.append_assoc, show vs.length + 4 - (k + 1) = 4 from by omega]; exact hlist
      case measure => simp [intOf]; omega
    · by_cases hc0 : 0 < cn
      · obtain ⟨h2a, h2b, h2c⟩ := H2.out (by omega)
        obtain ⟨f', rfl⟩ : ∃ f', f = f' + 1 := by
          cases f with
          | zero => simp at h2b; omega
          | succ f => exact ⟨f, rfl⟩
        have hkb : k < vs.length + 4 := by omega
        have H2B := Lib.hid h2b
        have H2C := Lib.hid h2c
        have H2A := Lib.hid h2a
        have HDL := Lib.hid hdl
        clear h2a h2b h2c hdl
        go_wp2_with (at_builtin; refine wpList_append_one rfl (.tmp 32) (.tmp 35) 126 rfl 67 Tryd.underlying126 (.int .u64 0) 8 infoU64 rfl (by decide) w.heap.size _ done.length _ rfl HR.out.row HR.out.below.size (by have := HDL.out; omega) _ rfl rfl 67 ?_; intro v3 w3 hr3 hg3)
        go_wp2
        go_roundw
        case rel =>
          have hgr := HR.out.grow (c := cn % 65536) (Nat.le_refl _) (by have := hr3.out; rwa [show (cn : Int) % 65536 = ((cn % 65536 : Nat) : Int) from by omega] at this) hg3.out
          refine ⟨cn / 65536, k + 1, f', done ++ [cn % 65536], by rw [show (cn : Int) / 65536 = ((cn / 65536 : Nat) : Int) from by omega], by go_num, by omega, by omega, fun h => by omega, fun h => ⟨by have := H2A.out; omega, ?_, ?_⟩, by rw [List.length_append, HDL.out]; rfl, hgr⟩
          · have := H2B.out
            rw [Nat.pow_succ] at this
            exact Nat.div_lt_of_lt_mul (by rw [Nat.mul_comm]; exact this)
          · rw [List.append_assoc]
            have := H2C.out
            rw [digs_step f' cn hc0] at this
            exact this
        case measure => simp [intOf]; omega
      · obtain rfl : cn = 0 := by omega
        obtain ⟨h2a, h2b, h2c⟩ := H2.out (by omega)
        have H2C := Lib.hid h2c
        clear h2a h2b h2c hdl
        go_wp2
        go_ret
        refine ⟨_, rfl, ?_⟩
        have := H2C.out
        rw [digs_zero, List.append_nil] at this
        rw [← this]
        exact HR.out
end Go.Proofs.YtenlpbcembadcaaDoor
