/- Parts of the proof, one behind the other: RProof, Lead. -/
import Derived.Test.YtenlpbcembadcaaDoorM13
import Derived.Test.YtenlpbcembadcaaDoorM7
/- The document's RightProof, ProofRoot, Verify, Commit. -/
namespace Go.Proofs.YtenlpbcembadcaaDoor
open Go.RowKit

def marksOk (L : List ByteArray) : Bool := L.all fun s => decide (s.size = 16)
def marksUpto (L : List ByteArray) (k : Nat) : Bool := marksOk (L.take k)
theorem marksUpto_next (L : List ByteArray) (k : Nat) (p : ByteArray) (h : L[k]? = some p) : marksUpto L (k + 1) = (marksUpto L k && decide (p.size = 16)) := by
  unfold marksUpto marksOk
  rw [List.take_add_one, h]; simp
theorem marksOk_false {L : List ByteArray} {k : Nat} {p : ByteArray} (h : L[k]? = some p) (hp : ¬ p.size = 16) : marksOk L = false := by
  unfold marksOk
  rw [List.all_eq_false]
  exact ⟨p, List.mem_of_getElem? h, by simpa using hp⟩
theorem marksOk_get {L : List ByteArray} (h : marksOk L = true) {k : Nat} {p : ByteArray} (hp : L[k]? = some p) : p.size = 16 := by
  unfold marksOk at h
  rw [List.all_eq_true] at h
  simpa using h p (List.mem_of_getElem? hp)
set_option maxRecDepth 100000 in
theorem refMarks_any (L : List ByteArray) (A : Option Addr) (cap : Nat) (w : World) (hm : Strs w A L) (hl : L.length ≤ 1000000) :
    Calls Tryd.prog 39 #[.slice A L.length cap] w fun e w' => e = .returned (.bool (marksOk L)) ∧ w' = w := by
  have HM := Lib.hid hm
  clear hm
  go_enter Tryd.func39, Tryd.ntmps39
  go_wp2
  go_loopw [7] (fun i wr => ∃ k : Nat, k ≤ L.length ∧ i = .int .i64 (k : Int) ∧ wr = w ∧ marksUpto L k = true) (fun i _ => L.length - (intOf i).toNat)
  case atStart => exact ⟨0, by omega, rfl, rfl, rfl⟩
  case round =>
    obtain ⟨k, hk, rfl, rfl, hall⟩ := hrel
    have HALL := Lib.hid hall
    clear hall
    by_cases hlt : k < L.length
    · obtain ⟨p, hp⟩ : ∃ p, L[k]? = some p := ⟨_, List.getElem?_eq_getElem hlt⟩
      obtain ⟨a, rfl, _, c0⟩ := HM.out k p hp
      have HP := Lib.hid hp
      clear hp
      by_cases m : p.size = 16
      · have HN := Lib.hid (show marksUpto L (k + 1) = true by rw [marksUpto_next L k p HP.out, HALL.out, decide_eq_true m]; rfl)
        have M := Lib.hid m
        clear m
        go_wp2_with fail
        refine (isMark_t _ _ M.out).mono ?_
        rintro e w1 ⟨rfl, rfl⟩
        go_wp2
        go_roundw
        case rel =>
          refine ⟨k + 1, by omega, by go_num, ?_, HN.out⟩
          first | rfl | trivial
        case measure => simp [intOf]; omega
      · have HF := Lib.hid (marksOk_false HP.out m)
        have M := Lib.hid m
        clear m
        go_wp2_with fail
        refine (isMark_f _ _ M.out).mono ?_
        rintro e w1 ⟨rfl, rfl⟩
        go_wp2
        go_ret
        exact ⟨by rw [HF.out]; rfl, rfl⟩
    · have HF := Lib.hid (show marksOk L = true by have h := HALL.out; unfold marksUpto at h; rwa [List.take_of_length_le (by omega)] at h)
      go_wp2
      go_ret
      exact ⟨by rw [HF.out]; rfl, rfl⟩

def leafOk (ix : ByteArray) (n : Nat) (x : It) : Bool := decide (x.1.size = 16) && decide (n ≤ commonOf ix.data.toList x.1.data.toList) && decide (x.2.size = 16)
def rightProof (ix : ByteArray) (P : List ByteArray) (x : It) : Bool :=
  decide (ix.size = 16) && decide (P.length ≤ 128) && marksOk P && (if x.1.size = 0 ∧ x.2.size = 0 then true else leafOk ix P.length x)
theorem empty_list {s : ByteArray} : s.toList = [] ↔ s.size = 0 := by
  rw [ByteArray.toList_eq, List.eq_nil_iff_length_eq_zero, size_len]
set_option maxHeartbeats 1000000 in
set_option maxRecDepth 100000 in
theorem refRightProof_any (ix : ByteArray) (P : List ByteArray) (A : Option Addr) (cap : Nat) (x : It) (w : World) (hm : Strs w A P) (hl : P.length ≤ 1000000) :
    Calls Tryd.prog 12 #[.string ix, .agg #[.slice A P.length cap, .string x.1, .string x.2]] w fun e w' => e = .returned (.bool (rightProof ix P x)) ∧ Below w.heap.size w w' := by
  have HM := Lib.hid hm
  have hbw := alloc_below w (.cells #[.slice A P.length cap, .string x.1, .string x.2] 26)
  have HBW := Lib.hid hbw
  clear hm hbw
  obtain ⟨T, hT⟩ : ∃ T, rightProof ix P x = T := ⟨_, rfl⟩
  rw [hT]
  have HT := Lib.hid hT
  clear hT
  by_cases h16 : ix.size = 16
  · have H16 := Lib.hid h16
    by_cases hp : 128 < P.length
    · have hF : T = false := by rw [← HT.out]; unfold rightProof; rw [decide_eq_false (show ¬ P.length ≤ 128 by omega)]; simp
      subst hF
      clear h16
      go_enter Tryd.func12, Tryd.ntmps12
      go_wp2_with fail
      refine (isMark_t _ _ H16.out).mono ?_
      rintro e w1 ⟨rfl, rfl⟩
      go_wp2
      go_ret
      exact ⟨rfl, HBW.out⟩
    · by_cases hmk : marksOk P = true
      · have HMK := Lib.hid hmk
        by_cases hz : x.1.size = 0 ∧ x.2.size = 0
        · have hF : T = true := by rw [← HT.out]; unfold rightProof; rw [decide_eq_true h16, decide_eq_true (show P.length ≤ 128 by omega), hmk, if_pos hz]; rfl
          have z1 : x.1.toList = [] := empty_list.2 hz.1
          have z2 : x.2.toList = [] := empty_list.2 hz.2
          subst hF
          clear hz hmk h16
          go_enter Tryd.func12, Tryd.ntmps12
          go_wp2_with fail
          refine (isMark_t _ _ H16.out).mono ?_
          rintro e w1 ⟨rfl, rfl⟩
          go_wp2_with fail
          refine (refMarks_any P A cap _ (HM.out.below HBW.out) hl).mono ?_
          rintro e w1 ⟨rfl, rfl⟩
          rw [HMK.out]
          go_wp2
          go_ret
          exact ⟨rfl, HBW.out⟩
        · have hL : leafOk ix P.length x = T := by rw [← HT.out]; unfold rightProof; rw [decide_eq_true h16, decide_eq_true (show P.length ≤ 128 by omega), hmk, if_neg hz]; rfl
          have HL := Lib.hid hL
          obtain ⟨y, l, h3⟩ : ∃ y l, comAns ix x.1 = (y, l) := ⟨_, _, rfl⟩
          have H3 := Lib.hid h3
          have hz' : (x.1.toList = [] ∧ ¬ x.2.toList = []) ∨ ¬ x.1.toList = [] := by
            rw [empty_list, empty_list]
            by_cases e : x.1.size = 0
            · exact .inl ⟨e, fun e2 => hz ⟨e, e2⟩⟩
            · exact .inr e
          unfold comAns at h3
          clear hz hmk hL
          by_cases c1 : x.1.size = 16
          · rw [if_pos ⟨h16, c1⟩] at h3
            obtain ⟨rfl, rfl⟩ := Prod.mk.inj h3
            clear h3
            obtain ⟨C, hC⟩ : ∃ C : Nat, commonOf ix.data.toList x.1.data.toList = C := ⟨_, rfl⟩
            rw [hC] at H3
            have HC := Lib.hid hC
            clear hC
            have z1 : ¬ x.1.toList = [] := by rw [empty_list]; omega
            by_cases c2 : P.length ≤ C
            · have e2 : decide (P.length ≤ C) = true := by simp [c2]
              have hF : T = decide (x.2.size = 16) := by rw [← HL.out]; unfold leafOk; rw [HC.out, decide_eq_true c1, e2]; rfl
              subst hF
              clear h16 hz' c1
              go_enter Tryd.func12, Tryd.ntmps12
              go_wp2_with fail
              refine (isMark_t _ _ H16.out).mono ?_
              rintro e w1 ⟨rfl, rfl⟩
              go_wp2_with fail
              refine (refMarks_any P A cap _ (HM.out.below HBW.out) hl).mono ?_
              rintro e w1 ⟨rfl, rfl⟩
              rw [HMK.out]
              go_wp2_with fail
              refine (refCommon_is ix x.1 _ _ _ H3.out).mono ?_
              rintro e w1 ⟨rfl, rfl⟩
              go_wp2_with fail
              refine (isMark_any _ _).mono ?_
              rintro e w1 ⟨rfl, rfl⟩
              go_wp2
              go_ret
              exact ⟨rfl, HBW.out⟩
            · have e2 : decide (P.length ≤ C) = false := by simp; omega
              have hF : T = false := by rw [← HL.out]; unfold leafOk; rw [HC.out, e2]; simp
              subst hF
              clear h16 hz' c1
              go_enter Tryd.func12, Tryd.ntmps12
              go_wp2_with fail
              refine (isMark_t _ _ H16.out).mono ?_
              rintro e w1 ⟨rfl, rfl⟩
              go_wp2_with fail
              refine (refMarks_any P A cap _ (HM.out.below HBW.out) hl).mono ?_
              rintro e w1 ⟨rfl, rfl⟩
              rw [HMK.out]
              go_wp2_with fail
              refine (refCommon_is ix x.1 _ _ _ H3.out).mono ?_
              rintro e w1 ⟨rfl, rfl⟩
              go_wp2
              go_ret
              exact ⟨rfl, HBW.out⟩
          · rw [if_neg (fun h => c1 h.2)] at h3
            obtain ⟨rfl, rfl⟩ := Prod.mk.inj h3
            clear h3
            have hF : T = false := by rw [← HL.out]; unfold leafOk; rw [decide_eq_false c1]; rfl
            subst hF
            clear h16 c1
            rcases hz' with ⟨z1, z2⟩ | z1
            · have z3 : x.2.toList.isEmpty = false := by simpa using z2
              go_enter Tryd.func12, Tryd.ntmps12
              go_wp2_with fail
              refine (isMark_t _ _ H16.out).mono ?_
              rintro e w1 ⟨rfl, rfl⟩
              go_wp2_with fail
              refine (refMarks_any P A cap _ (HM.out.below HBW.out) hl).mono ?_
              rintro e w1 ⟨rfl, rfl⟩
              rw [HMK.out]
              go_wp2_with fail
              refine (refCommon_is ix x.1 _ _ _ H3.out).mono ?_
              rintro e w1 ⟨rfl, rfl⟩
              go_wp2
              go_ret
              exact ⟨rfl, HBW.out⟩
            · skip
              go_enter Tryd.func12, Tryd.ntmps12
              go_wp2_with fail
              refine (isMark_t _ _ H16.out).mono ?_
              rintro e w1 ⟨rfl, rfl⟩
              go_wp2_with fail
              refine (refMarks_any P A cap _ (HM.out.below HBW.out) hl).mono ?_
              rintro e w1 ⟨rfl, rfl⟩
              rw [HMK.out]
              go_wp2_with fail
              refine (refCommon_is ix x.1 _ _ _ H3.out).mono ?_
              rintro e w1 ⟨rfl, rfl⟩
              go_wp2
              go_ret
              exact ⟨rfl, HBW.out⟩
      · have hmk' : marksOk P = false := by simpa using hmk
        have HMK := Lib.hid hmk'
        have hF : T = false := by rw [← HT.out]; unfold rightProof; rw [hmk']; simp
        subst hF
        clear h16 hmk hmk'
        go_enter Tryd.func12, Tryd.ntmps12
        go_wp2_with fail
        refine (isMark_t _ _ H16.out).mono ?_
        rintro e w1 ⟨rfl, rfl⟩
        go_wp2_with fail
        refine (refMarks_any P A cap _ (HM.out.below HBW.out) hl).mono ?_
        rintro e w1 ⟨rfl, rfl⟩
        rw [HMK.out]
        go_wp2
        go_ret
        exact ⟨rfl, HBW.out⟩
  · have H16 := Lib.hid h16
    have hF : T = false := by rw [← HT.out]; unfold rightProof; rw [decide_eq_false h16]; rfl
    subst hF
    clear h16
    go_enter Tryd.func12, Tryd.ntmps12
    go_wp2_with fail
    refine (isMark_f _ _ H16.out).mono ?_
    rintro e w1 ⟨rfl, rfl⟩
    go_wp2
    go_ret
    exact ⟨rfl, HBW.out⟩
end Go.Proofs.YtenlpbcembadcaaDoor
/- The document's ProofRoot, Verify and Commit. -/
namespace Go.Proofs.YtenlpbcembadcaaDoor
open Go.RowKit

/-- From a mark on, along the last k of a path, back. -/
def leadFrom (ix : ByteArray) (P : List ByteArray) : Nat → ByteArray → ByteArray
  | 0, s => s
  | k + 1, s => leadFrom ix P k (if bitOf ix.data.toList k = 0 then joinM s (P.getD k ⟨#[]⟩) else joinM (P.getD k ⟨#[]⟩) s)
def startOf (P : List ByteArray) (x : It) : ByteArray := if x.1.size = 0 then emptyM P.length else leafM x P.length
def proofRootAns (ix : ByteArray) (P : List ByteArray) (x : It) : ByteArray × Int := if rightProof ix P x = true then (leadFrom ix P P.length (startOf P x), 0) else (⟨#[]⟩, 1)
theorem join_size (a b : ByteArray) : (joinM a b).size = 16 := markOf_len _ _
theorem start_size (P : List ByteArray) (x : It) : (startOf P x).size = 16 := by unfold startOf emptyM leafM; split <;> exact markOf_len _ _
theorem rightProof_facts {ix : ByteArray} {P : List ByteArray} {x : It} (h : rightProof ix P x = true) :
    ix.size = 16 ∧ P.length ≤ 128 ∧ marksOk P = true ∧ ((x.1.size = 0 ∧ x.2.size = 0) ∨ (x.1.size = 16 ∧ x.2.size = 16 ∧ P.length ≤ commonOf ix.data.toList x.1.data.toList)) := by
  unfold rightProof at h
  simp only [Bool.and_eq_true, decide_eq_true_eq] at h
  obtain ⟨⟨⟨h1, h2⟩, h3⟩, h4⟩ := h
  refine ⟨h1, h2, h3, ?_⟩
  by_cases e : x.1.size = 0 ∧ x.2.size = 0
  · exact .inl e
  · rw [if_neg e] at h4
    unfold leafOk at h4
    simp only [Bool.and_eq_true, decide_eq_true_eq] at h4
    exact .inr ⟨h4.1.1, h4.2, h4.1.2⟩

set_option maxHeartbeats 1000000 in
set_option maxRecDepth 100000 in
theorem refProofRoot_is (b : Nat) (ix : ByteArray) (P : List ByteArray) (A : Option Addr) (cap : Nat) (x : It) (s : ByteArray) (n : Int) (w : World) (hr : Holds w b 72 refCells 63) (hm : Strs w A P) (hl : P.length ≤ 1000000) (h : proofRootAns ix P x = (s, n)) :
    Calls Tryd.prog 8 #[.pointer (some ⟨b, 0, none⟩), .string ix, .agg #[.slice A P.length cap, .string x.1, .string x.2]] w fun e w' => e = .returned (.tuple #[.string s, .int .i64 n]) ∧ Below w.heap.size w w' := by
  have HR := Lib.hid hr
  have HM := Lib.hid hm
  have HBW := Lib.hid (alloc_below w (.cells #[.slice A P.length cap, .string x.1, .string x.2] 26))
  have HN := Lib.hid (show Holds (w.alloc (.cells #[.slice A P.length cap, .string x.1, .string x.2] 26)) w.heap.size 3 (pCells (.slice A P.length cap) x) 26 from Holds.new w 3 (pCells (.slice A P.length cap) x) 26)
  clear hr hm
  unfold proofRootAns at h
  by_cases hk : rightProof ix P x = true
  · rw [if_pos hk] at h
    obtain ⟨hs, rfl⟩ := Prod.mk.inj h
    have HS := Lib.hid hs
    have HK := Lib.hid hk
    obtain ⟨h16, h128, hmk, hx⟩ := rightProof_facts hk
    have H16 := Lib.hid h16
    have HMK := Lib.hid hmk
    clear hs h hk h16 hmk
    go_enter Tryd.func8, Tryd.ntmps8
    go_wp2_with fail
    refine (refRightProof_any ix P A cap x _ (HM.out.below HBW.out) hl).mono ?_
    rintro e w1 ⟨rfl, hb1⟩
    rw [HK.out]
    have HB1 := Lib.hid (HBW.out.trans (hb1.mono HBW.out.size))
    have HN1 := Lib.hid (HN.out.below hb1 HN.out.lt)
    have c0 : w1.cell? ⟨w.heap.size, 0, none⟩ = some (.slice A P.length cap) := HN1.out.cell 0 (by omega)
    clear hb1
    go_wp2_with fail
    refine (refEmpty_any b P.length _ (HR.out.below HB1.out HR.out.lt)).mono ?_
    rintro e w2 ⟨rfl, hb2⟩
    have HB2 := Lib.hid (HB1.out.trans (hb2.mono HB1.out.size))
    have HN2 := Lib.hid (HN1.out.below hb2 HN1.out.lt)
    have c1 : w2.cell? ⟨w.heap.size, 1, none⟩ = some (.string x.1) := HN2.out.cell 1 (by omega)
    have c2 : w2.cell? ⟨w.heap.size, 2, none⟩ = some (.string x.2) := HN2.out.cell 2 (by omega)
    have d0 : w2.cell? ⟨w.heap.size, 0, none⟩ = some (.slice A P.length cap) := HN2.out.cell 0 (by omega)
    clear hb2 c0
    have LOOP : ∀ (u : ByteArray) (wu : World) (Q : World → Prop), True := fun _ _ _ => trivial
    clear LOOP
    by_cases hz : x.1.size = 0
    · have z1 : x.1.toList = [] := empty_list.2 hz
      have z2 : x.1.toList.isEmpty = true := by simp [z1]
      have ES := Lib.hid (show emptyM P.length = startOf P x by unfold startOf; rw [if_pos hz])
      clear hz
      rw [ES.out]
      go_wp2
      have HST := Lib.hid (start_size P x)
      obtain ⟨u0, hu0⟩ : ∃ u0, startOf P x = u0 := ⟨_, rfl⟩
      rw [hu0] at HS HST
      rw [hu0]
      clear hu0 ES d0 c1 c2 z1 z2
      go_loopw [8, 9] (fun sv kv wr => ∃ (k : Nat) (z : Int) (u : ByteArray), k ≤ P.length ∧ Hid (z = (k : Int) - 1) ∧ kv = .int .i64 z ∧ sv = .string u ∧ Hid (u.size = 16 ∧ leadFrom ix P k u = s ∧ Below w.heap.size w wr ∧ Holds wr w.heap.size 3 (pCells (.slice A P.length cap) x) 26)) (fun _ kv _ => (intOf kv + 1).toNat)
      case atStart => exact ⟨P.length, _, u0, Nat.le_refl _, Lib.hid rfl, rfl, rfl, Lib.hid ⟨HST.out, HS.out, HB2.out, HN2.out⟩⟩
      case round =>
        obtain ⟨k, z, u, hkp, HZ, rfl, rfl, HU⟩ := hrel
        have c0 : wr.cell? ⟨w.heap.size, 0, none⟩ = some (.slice A P.length cap) := HU.out.2.2.2.cell 0 (by omega)
        by_cases hz : 0 ≤ z
        · obtain ⟨m, rfl⟩ : ∃ m : Nat, z = (m : Int) := ⟨z.toNat, by omega⟩
          have HK1 := Lib.hid (show k = m + 1 by have := HZ.out; omega)
          have hmp : m < P.length := by have := HK1.out; omega
          obtain ⟨p, hp⟩ : ∃ p, P[m]? = some p := ⟨_, List.getElem?_eq_getElem hmp⟩
          have HP := Lib.hid hp
          obtain ⟨a, rfl, _, c1⟩ := (HM.out.below HU.out.2.2.1) m p hp
          obtain ⟨B, hB⟩ : ∃ B, bitOf ix.data.toList m = B := ⟨_, rfl⟩
          have HBIT := Lib.hid hB
          have HUS := Lib.hid HU.out.1
          have HPS := Lib.hid (marksOk_get HMK.out hp)
          clear hp hB hz hkp
          by_cases hb0 : B = 0
          · have eB : ((B : Int) == 0) = true := by rw [beq_iff_eq]; omega
            have HNEXT := Lib.hid (show leadFrom ix P m (joinM u p) = s by
              have := HU.out.2.1
              rw [HK1.out, leadFrom, if_pos (HBIT.out.trans hb0), List.getD_eq_getElem?_getD, HP.out] at this
              exact this)
            clear hb0
            go_wp2_with fail
            refine (at_any ix m _ H16.out (by omega)).mono ?_
            rintro e w4 ⟨rfl, rfl⟩
            rw [HBIT.out]
            go_wp2_with fail
            refine (refJoin_any b u p _ (HR.out.below HU.out.2.2.1 HR.out.lt) (by have := HUS.out; have := HPS.out; omega) (by have := HUS.out; have := HPS.out; omega)).mono ?_
            rintro e w5 ⟨rfl, hb5⟩
            have HU' := Lib.hid (show (joinM u p).size = 16 ∧ leadFrom ix P m (joinM u p) = s ∧ Below w.heap.size w w5 ∧ Holds w5 w.heap.size 3 (pCells (.slice (some a) P.length cap) x) 26 from
              ⟨join_size _ _, HNEXT.out, HU.out.2.2.1.trans (hb5.mono HU.out.2.2.1.size), HU.out.2.2.2.below hb5 HU.out.2.2.2.lt⟩)
            clear hb5 eB
            go_wp2
            go_roundw
            case rel => exact ⟨m, (m : Int) - 1, _, by omega, Lib.hid rfl, rfl, rfl, HU'⟩
            case measure => simp [intOf]
          · have eB : ((B : Int) == 0) = false := by rw [beq_eq_false_iff_ne]; omega
            have HNEXT := Lib.hid (show leadFrom ix P m (joinM p u) = s by
              have := HU.out.2.1
              rw [HK1.out, leadFrom, if_neg (by rw [HBIT.out]; exact hb0), List.getD_eq_getElem?_getD, HP.out] at this
              exact this)
            clear hb0
            go_wp2_with fail
            refine (at_any ix m _ H16.out (by omega)).mono ?_
            rintro e w4 ⟨rfl, rfl⟩
            rw [HBIT.out]
            go_wp2_with fail
            refine (refJoin_any b p u _ (HR.out.below HU.out.2.2.1 HR.out.lt) (by have := HUS.out; have := HPS.out; omega) (by have := HUS.out; have := HPS.out; omega)).mono ?_
            rintro e w5 ⟨rfl, hb5⟩
            have HU' := Lib.hid (show (joinM p u).size = 16 ∧ leadFrom ix P m (joinM p u) = s ∧ Below w.heap.size w w5 ∧ Holds w5 w.heap.size 3 (pCells (.slice (some a) P.length cap) x) 26 from
              ⟨join_size _ _, HNEXT.out, HU.out.2.2.1.trans (hb5.mono HU.out.2.2.1.size), HU.out.2.2.2.below hb5 HU.out.2.2.2.lt⟩)
            clear hb5 eB
            go_wp2
            go_roundw
            case rel => exact ⟨m, (m : Int) - 1, _, by omega, Lib.hid rfl, rfl, rfl, HU'⟩
            case measure => simp [intOf]
        · have HK0 := Lib.hid (show k = 0 by have := HZ.out; omega)
          have HF := Lib.hid (show u = s by have := HU.out.2.1; rw [HK0.out] at this; exact this)
          go_wp2
          refine bodyPost_ret (results_tmp2 rfl _ _ _) rfl ?_
          exact ⟨by rw [HF.out]; rfl, HU.out.2.2.1⟩
    · have z1 : ¬ x.1.toList = [] := fun e => hz (empty_list.1 e)
      have z2 : x.1.toList.isEmpty = false := by simpa using z1
      have ES := Lib.hid (show leafM x P.length = startOf P x by unfold startOf; rw [if_neg hz])
      have HX1 := Lib.hid (show x.1.size ≤ 1000000 by omega)
      have HX2 := Lib.hid (show x.2.size ≤ 1000000 by omega)
      clear hz
      go_wp2_with fail
      refine (refLeaf_any b x P.length _ (HR.out.below HB2.out HR.out.lt) HX1.out HX2.out).mono ?_
      rintro e w3 ⟨rfl, hb3⟩
      rw [ES.out]
      have HB3 := Lib.hid (HB2.out.trans (hb3.mono HB2.out.size))
      have HN3 := Lib.hid (HN2.out.below hb3 HN2.out.lt)
      have c0 : w3.cell? ⟨w.heap.size, 0, none⟩ = some (.slice A P.length cap) := HN3.out.cell 0 (by omega)
      clear hb3 c1 c2 d0
      go_wp2
      have HST := Lib.hid (start_size P x)
      obtain ⟨u0, hu0⟩ : ∃ u0, startOf P x = u0 := ⟨_, rfl⟩
      rw [hu0] at HS HST
      rw [hu0]
      clear hu0 ES c0 z1 z2
      go_loopw [8, 9] (fun sv kv wr => ∃ (k : Nat) (z : Int) (u : ByteArray), k ≤ P.length ∧ Hid (z = (k : Int) - 1) ∧ kv = .int .i64 z ∧ sv = .string u ∧ Hid (u.size = 16 ∧ leadFrom ix P k u = s ∧ Below w.heap.size w wr ∧ Holds wr w.heap.size 3 (pCells (.slice A P.length cap) x) 26)) (fun _ kv _ => (intOf kv + 1).toNat)
      case atStart => exact ⟨P.length, _, u0, Nat.le_refl _, Lib.hid rfl, rfl, rfl, Lib.hid ⟨HST.out, HS.out, HB3.out, HN3.out⟩⟩
      case round =>
        obtain ⟨k, z, u, hkp, HZ, rfl, rfl, HU⟩ := hrel
        have c0 : wr.cell? ⟨w.heap.size, 0, none⟩ = some (.slice A P.length cap) := HU.out.2.2.2.cell 0 (by omega)
        by_cases hz : 0 ≤ z
        · obtain ⟨m, rfl⟩ : ∃ m : Nat, z = (m : Int) := ⟨z.toNat, by omega⟩
          have HK1 := Lib.hid (show k = m + 1 by have := HZ.out; omega)
          have hmp : m < P.length := by have := HK1.out; omega
          obtain ⟨p, hp⟩ : ∃ p, P[m]? = some p := ⟨_, List.getElem?_eq_getElem hmp⟩
          have HP := Lib.hid hp
          obtain ⟨a, rfl, _, c1⟩ := (HM.out.below HU.out.2.2.1) m p hp
          obtain ⟨B, hB⟩ : ∃ B, bitOf ix.data.toList m = B := ⟨_, rfl⟩
          have HBIT := Lib.hid hB
          have HUS := Lib.hid HU.out.1
          have HPS := Lib.hid (marksOk_get HMK.out hp)
          clear hp hB hz hkp
          by_cases hb0 : B = 0
          · have eB : ((B : Int) == 0) = true := by rw [beq_iff_eq]; omega
            have HNEXT := Lib.hid (show leadFrom ix P m (joinM u p) = s by
              have := HU.out.2.1
              rw [HK1.out, leadFrom, if_pos (HBIT.out.trans hb0), List.getD_eq_getElem?_getD, HP.out] at this
              exact this)
            clear hb0
            go_wp2_with fail
            refine (at_any ix m _ H16.out (by omega)).mono ?_
            rintro e w4 ⟨rfl, rfl⟩
            rw [HBIT.out]
            go_wp2_with fail
            refine (refJoin_any b u p _ (HR.out.below HU.out.2.2.1 HR.out.lt) (by have := HUS.out; have := HPS.out; omega) (by have := HUS.out; have := HPS.out; omega)).mono ?_
            rintro e w5 ⟨rfl, hb5⟩
            have HU' := Lib.hid (show (joinM u p).size = 16 ∧ leadFrom ix P m (joinM u p) = s ∧ Below w.heap.size w w5 ∧ Holds w5 w.heap.size 3 (pCells (.slice (some a) P.length cap) x) 26 from
              ⟨join_size _ _, HNEXT.out, HU.out.2.2.1.trans (hb5.mono HU.out.2.2.1.size), HU.out.2.2.2.below hb5 HU.out.2.2.2.lt⟩)
            clear hb5 eB
            go_wp2
            go_roundw
            case rel => exact ⟨m, (m : Int) - 1, _, by omega, Lib.hid rfl, rfl, rfl, HU'⟩
            case measure => simp [intOf]
          · have eB : ((B : Int) == 0) = false := by rw [beq_eq_false_iff_ne]; omega
            have HNEXT := Lib.hid (show leadFrom ix P m (joinM p u) = s by
              have := HU.out.2.1
              rw [HK1.out, leadFrom, if_neg (by rw [HBIT.out]; exact hb0), List.getD_eq_getElem?_getD, HP.out] at this
              exact this)
            clear hb0
            go_wp2_with fail
            refine (at_any ix m _ H16.out (by omega)).mono ?_
            rintro e w4 ⟨rfl, rfl⟩
            rw [HBIT.out]
            go_wp2_with fail
            refine (refJoin_any b p u _ (HR.out.below HU.out.2.2.1 HR.out.lt) (by have := HUS.out; have := HPS.out; omega) (by have := HUS.out; have := HPS.out; omega)).mono ?_
            rintro e w5 ⟨rfl, hb5⟩
            have HU' := Lib.hid (show (joinM p u).size = 16 ∧ leadFrom ix P m (joinM p u) = s ∧ Below w.heap.size w w5 ∧ Holds w5 w.heap.size 3 (pCells (.slice (some a) P.length cap) x) 26 from
              ⟨join_size _ _, HNEXT.out, HU.out.2.2.1.trans (hb5.mono HU.out.2.2.1.size), HU.out.2.2.2.below hb5 HU.out.2.2.2.lt⟩)
            clear hb5 eB
            go_wp2
            go_roundw
            case rel => exact ⟨m, (m : Int) - 1, _, by omega, Lib.hid rfl, rfl, rfl, HU'⟩
            case measure => simp [intOf]
        · have HK0 := Lib.hid (show k = 0 by have := HZ.out; omega)
          have HF := Lib.hid (show u = s by have := HU.out.2.1; rw [HK0.out] at this; exact this)
          go_wp2
          refine bodyPost_ret (results_tmp2 rfl _ _ _) rfl ?_
          exact ⟨by rw [HF.out]; rfl, HU.out.2.2.1⟩
  · rw [if_neg hk] at h
    obtain ⟨rfl, rfl⟩ := Prod.mk.inj h
    have HK := Lib.hid (show rightProof ix P x = false by simpa using hk)
    clear h hk
    go_enter Tryd.func8, Tryd.ntmps8
    go_wp2_with fail
    refine (refRightProof_any ix P A cap x _ (HM.out.below HBW.out) hl).mono ?_
    rintro e w1 ⟨rfl, hb1⟩
    rw [HK.out]
    have HB1 := Lib.hid (HBW.out.trans (hb1.mono HBW.out.size))
    clear hb1
    go_wp2
    refine bodyPost_ret (results_tmp2 rfl _ _ _) rfl ?_
    exact ⟨rfl, HB1.out⟩

theorem results_tmp3' {fn : Func} {p q r : Tmp} (h : fn.results = #[.tmp p, .tmp q, .tmp r]) (tmps : Array Value) (P : Program) (w : World) :
    (results fn tmps).run P w = .ok (.tuple #[tmps.getD p undef, tmps.getD q undef, tmps.getD r undef]) w := by
  simp [results, h, go_sem]
def verifyAns (root ix : ByteArray) (P : List ByteArray) (x : It) : ByteArray × Bool × Int :=
  if (proofRootAns ix P x).2 ≠ 0 then (⟨#[]⟩, false, (proofRootAns ix P x).2)
  else if (proofRootAns ix P x).1 ≠ root then (⟨#[]⟩, false, 13)
  else if x.1 = ix then (x.2, true, 0) else (⟨#[]⟩, false, 0)
theorem text_eq (a b : ByteArray) : a.toList = b.toList ↔ a = b := by
  rw [ByteArray.toList_eq, ByteArray.toList_eq]
  exact ⟨text_of, fun h => by rw [h]⟩
set_option maxHeartbeats 1000000 in
set_option maxRecDepth 100000 in
theorem refVerify_is (b : Nat) (root ix : ByteArray) (P : List ByteArray) (A : Option Addr) (cap : Nat) (x : It) (c : ByteArray) (t : Bool) (n : Int) (w : World) (hr : Holds w b 72 refCells 63) (hm : Strs w A P) (hl : P.length ≤ 1000000) (h : verifyAns root ix P x = (c, t, n)) :
    Calls Tryd.prog 13 #[.pointer (some ⟨b, 0, none⟩), .string root, .string ix, .agg #[.slice A P.length cap, .string x.1, .string x.2]] w fun e w' => e = .returned (.tuple #[.string c, .bool t, .int .i64 n]) ∧ Below w.heap.size w w' := by
  have HBW := Lib.hid (alloc_below w (.cells #[.slice A P.length cap, .string x.1, .string x.2] 26))
  have HN := Lib.hid (show Holds (w.alloc (.cells #[.slice A P.length cap, .string x.1, .string x.2] 26)) w.heap.size 3 (pCells (.slice A P.length cap) x) 26 from Holds.new w 3 (pCells (.slice A P.length cap) x) 26)
  have HR := Lib.hid (hr.below HBW.out hr.lt)
  have HM := Lib.hid (hm.below HBW.out)
  clear hr hm
  obtain ⟨s, m, hpr⟩ : ∃ s m, proofRootAns ix P x = (s, m) := ⟨_, _, rfl⟩
  have HPR := Lib.hid hpr
  unfold verifyAns at h
  rw [hpr] at h
  clear hpr
  by_cases hm0 : m ≠ 0
  · rw [if_pos hm0] at h
    obtain ⟨rfl, h2⟩ := Prod.mk.inj h
    obtain ⟨rfl, rfl⟩ := Prod.mk.inj h2
    have e1 : (m == 0) = false := by rw [beq_eq_false_iff_ne]; exact hm0
    have e2 : (m != 0) = true := by simpa using hm0
    clear h h2 hm0
    go_enter Tryd.func13, Tryd.ntmps13
    go_wp2_with fail
    refine (refProofRoot_is b ix P A cap x _ _ _ HR.out HM.out hl HPR.out).mono ?_
    rintro e w1 ⟨rfl, hb1⟩
    have HB1 := Lib.hid (HBW.out.trans (hb1.mono HBW.out.size))
    have HN1 := Lib.hid (HN.out.below hb1 HN.out.lt)
    have c1 : w1.cell? ⟨w.heap.size, 1, none⟩ = some (.string x.1) := HN1.out.cell 1 (by omega)
    have c2 : w1.cell? ⟨w.heap.size, 2, none⟩ = some (.string x.2) := HN1.out.cell 2 (by omega)
    clear hb1
    go_wp2
    refine bodyPost_ret (results_tmp3' rfl _ _ _) rfl ?_
    exact ⟨rfl, HB1.out⟩
  · have hm1 : m = 0 := by omega
    subst hm1
    rw [if_neg (by omega)] at h
    by_cases hs : s ≠ root
    · rw [if_pos hs] at h
      obtain ⟨rfl, h2⟩ := Prod.mk.inj h
      obtain ⟨rfl, rfl⟩ := Prod.mk.inj h2
      have e1 : (s.toList == root.toList) = false := by rw [beq_eq_false_iff_ne]; exact fun e => hs ((text_eq _ _).1 e)
      have e2 : (!s.toList == root.toList) = true := by rw [e1]; rfl
      clear h h2 hm0 hs
      go_enter Tryd.func13, Tryd.ntmps13
      go_wp2_with fail
      refine (refProofRoot_is b ix P A cap x _ _ _ HR.out HM.out hl HPR.out).mono ?_
      rintro e w1 ⟨rfl, hb1⟩
      have HB1 := Lib.hid (HBW.out.trans (hb1.mono HBW.out.size))
      have HN1 := Lib.hid (HN.out.below hb1 HN.out.lt)
      have c1 : w1.cell? ⟨w.heap.size, 1, none⟩ = some (.string x.1) := HN1.out.cell 1 (by omega)
      have c2 : w1.cell? ⟨w.heap.size, 2, none⟩ = some (.string x.2) := HN1.out.cell 2 (by omega)
      clear hb1
      go_wp2
      refine bodyPost_ret (results_tmp3' rfl _ _ _) rfl ?_
      exact ⟨rfl, HB1.out⟩
    · have hs' : s = root := Classical.not_not.1 hs
      subst hs'
      rw [if_neg hs] at h
      by_cases hx : x.1 = ix
      · rw [if_pos hx] at h
        obtain ⟨rfl, h2⟩ := Prod.mk.inj h
        obtain ⟨rfl, rfl⟩ := Prod.mk.inj h2
        subst hx
        clear h h2 hm0 hs
        go_enter Tryd.func13, Tryd.ntmps13
        go_wp2_with fail
        refine (refProofRoot_is b _ P A cap x _ _ _ HR.out HM.out hl HPR.out).mono ?_
        rintro e w1 ⟨rfl, hb1⟩
        have HB1 := Lib.hid (HBW.out.trans (hb1.mono HBW.out.size))
        have HN1 := Lib.hid (HN.out.below hb1 HN.out.lt)
        have c1 : w1.cell? ⟨w.heap.size, 1, none⟩ = some (.string x.1) := HN1.out.cell 1 (by omega)
        have c2 : w1.cell? ⟨w.heap.size, 2, none⟩ = some (.string x.2) := HN1.out.cell 2 (by omega)
        clear hb1
        go_wp2
        refine bodyPost_ret (results_tmp3' rfl _ _ _) rfl ?_
        exact ⟨rfl, HB1.out⟩
      · rw [if_neg hx] at h
        obtain ⟨rfl, h2⟩ := Prod.mk.inj h
        obtain ⟨rfl, rfl⟩ := Prod.mk.inj h2
        have e1 : (x.1.toList == ix.toList) = false := by rw [beq_eq_false_iff_ne]; exact fun e => hx ((text_eq _ _).1 e)
        clear h h2 hm0 hs hx
        go_enter Tryd.func13, Tryd.ntmps13
        go_wp2_with fail
        refine (refProofRoot_is b ix P A cap x _ _ _ HR.out HM.out hl HPR.out).mono ?_
        rintro e w1 ⟨rfl, hb1⟩
        have HB1 := Lib.hid (HBW.out.trans (hb1.mono HBW.out.size))
        have HN1 := Lib.hid (HN.out.below hb1 HN.out.lt)
        have c1 : w1.cell? ⟨w.heap.size, 1, none⟩ = some (.string x.1) := HN1.out.cell 1 (by omega)
        have c2 : w1.cell? ⟨w.heap.size, 2, none⟩ = some (.string x.2) := HN1.out.cell 2 (by omega)
        clear hb1
        go_wp2
        refine bodyPost_ret (results_tmp3' rfl _ _ _) rfl ?_
        exact ⟨rfl, HB1.out⟩

def commitAns (o v : ByteArray) : ByteArray × Int := if o.size = 16 ∧ 1 ≤ v.size ∧ v.size ≤ 24 then (markOf 99 [o, v], 0) else (⟨#[]⟩, 1)
set_option maxRecDepth 100000 in
theorem refCommit_is (b : Nat) (o v c : ByteArray) (n : Int) (w : World) (hr : Holds w b 72 refCells 63) (h : commitAns o v = (c, n)) :
    Calls Tryd.prog 15 #[.pointer (some ⟨b, 0, none⟩), .string o, .string v] w fun e w' => e = .returned (.tuple #[.string c, .int .i64 n]) ∧ Below w.heap.size w w' := by
  have HR := Lib.hid hr
  clear hr
  unfold commitAns at h
  by_cases h16 : o.size = 16
  · have H16 := Lib.hid h16
    by_cases hv : 1 ≤ v.size ∧ v.size ≤ 24
    · rw [if_pos ⟨h16, hv⟩] at h
      obtain ⟨rfl, rfl⟩ := Prod.mk.inj h
      have E := Lib.hid (show (decide ((1 : Int) ≤ (v.size : Int)) && decide ((v.size : Int) ≤ 24)) = true by simp; omega)
      have HTOT := Lib.hid (show total [o, v] ≤ 1073741800 by simp [total]; omega)
      clear h h16 hv
      go_enter Tryd.func15, Tryd.ntmps15
      go_wp2_with fail
      refine (isMark_t _ _ H16.out).mono ?_
      rintro e w1 ⟨rfl, rfl⟩
      go_wp2_with fail
      refine (in_any _ _ _ _).mono ?_
      rintro e w1 ⟨rfl, rfl⟩
      rw [E.out]
      go_wp2_with fail
      refine (refMark_any b 99 [o, v] (some ⟨w1.heap.size, 0, none⟩) 2 _ (HR.out.alloc _) HTOT.out (by simp) (strs_new w1 [o, v] 9)).mono ?_
      rintro e w2 ⟨rfl, hb2⟩
      have HB2 := Lib.hid ((alloc_below w1 (.cells #[.string o, .string v] 9)).trans (hb2.mono (by simp)))
      clear hb2
      go_wp2
      refine bodyPost_ret (results_tmp2 rfl _ _ _) rfl ?_
      exact ⟨rfl, HB2.out⟩
    · rw [if_neg (fun e => hv e.2)] at h
      obtain ⟨rfl, rfl⟩ := Prod.mk.inj h
      have E := Lib.hid (show (decide ((1 : Int) ≤ (v.size : Int)) && decide ((v.size : Int) ≤ 24)) = false by simp; omega)
      clear h h16 hv
      go_enter Tryd.func15, Tryd.ntmps15
      go_wp2_with fail
      refine (isMark_t _ _ H16.out).mono ?_
      rintro e w1 ⟨rfl, rfl⟩
      go_wp2_with fail
      refine (in_any _ _ _ _).mono ?_
      rintro e w1 ⟨rfl, rfl⟩
      rw [E.out]
      go_wp2
      refine bodyPost_ret (results_tmp2 rfl _ _ _) rfl ?_
      exact ⟨rfl, Below.refl _ _⟩
  · rw [if_neg (fun e => h16 e.1)] at h
    obtain ⟨rfl, rfl⟩ := Prod.mk.inj h
    have H16 := Lib.hid h16
    clear h h16
    go_enter Tryd.func15, Tryd.ntmps15
    go_wp2_with fail
    refine (isMark_f _ _ H16.out).mono ?_
    rintro e w1 ⟨rfl, rfl⟩
    go_wp2
    refine bodyPost_ret (results_tmp2 rfl _ _ _) rfl ?_
    exact ⟨rfl, Below.refl _ _⟩
end Go.Proofs.YtenlpbcembadcaaDoor
