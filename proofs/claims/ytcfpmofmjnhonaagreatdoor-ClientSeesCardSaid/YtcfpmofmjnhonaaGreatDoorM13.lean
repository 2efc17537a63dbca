/- Parts of the proof, one behind the other: RProof, Once, OnceFrom. -/
import Derived.Test.YtcfpmofmjnhonaaGreatDoorM11
import Derived.Test.YtcfpmofmjnhonaaGreatDoorM12
import Derived.Test.YtcfpmofmjnhonaaGreatDoorM8
import Derived.Test.YtcfpmofmjnhonaaGreatDoorM9
/- The document's RightProof, ProofRoot, Verify, Commit. -/
namespace Go.Proofs.YtcfpmofmjnhonaaGreatDoor
open Go.RowKit

def marksOk (L : List ByteArray) : Bool := L.all fun s => decide (s.size = 16)
def marksUpto (L : List ByteArray) (k : Nat) : Bool := marksOk (L.take k)
theorem marksUpto_next (L : List ByteArray) (k : Nat) (p : ByteArray) (h : L[k]? = some p) : marksUpto L (k + 1) = (marksUpto L k && decide (p.size = 16)) := by
  unfold marksUpto marksOk
  rw [List.take_add_one, h]; simp
theorem marksOk_false {L : List ByteArray} {k : Nat} {p : ByteArray} (h : L[k]? = some p) (hp : ¬ p.size = 16) : marksOk L = false := by
  unfold marksOk
  rw [List.all_eq_false]
  exact ⟨p, List.mem_of_getElem? h, by simpa using hp⟩
theorem marksOk_get {L : List ByteArray} (h : marksOk L = true) {k : Nat} {p : ByteArray} (hp : L[k]? = some p) : p.size = 16 := by
  unfold marksOk at h
  rw [List.all_eq_true] at h
  simpa using h p (List.mem_of_getElem? hp)
set_option maxRecDepth 100000 in
theorem refMarks_any (L : List ByteArray) (A : Option Addr) (cap : Nat) (w : World) (hm : Strs w A L) (hl : L.length ≤ 1000000) :
    Calls Tryz.prog 141 #[.slice A L.length cap] w fun e w' => e = .returned (.bool (marksOk L)) ∧ w' = w := by
  have HM := Lib.hid hm
  clear hm
  go_enter Tryz.func141, Tryz.ntmps141
  go_wp2
  go_loopw [7] (fun i wr => ∃ k : Nat, k ≤ L.length ∧ i = .int .i64 (k : Int) ∧ wr = w ∧ marksUpto L k = true) (fun i _ => L.length - (intOf i).toNat)
  case atStart => exact ⟨0, by omega, rfl, rfl, rfl⟩
  case round =>
    obtain ⟨k, hk, rfl, rfl, hall⟩ := hrel
    have HALL := Lib.hid hall
    clear hall
    by_cases hlt : k < L.length
    · obtain ⟨p, hp⟩ : ∃ p, L[k]? = some p := ⟨_, List.getElem?_eq_getElem hlt⟩
      obtain ⟨a, rfl, _, c0⟩ := HM.out k p hp
      have HP := Lib.hid hp
      clear hp
      by_cases m : p.size = 16
      · have HN := Lib.hid (show marksUpto L (k + 1) = true by rw [marksUpto_next L k p HP.out, HALL.out, decide_eq_true m]; rfl)
        have M := Lib.hid m
        clear m
        go_wp2_with fail
        refine (isMark_t _ _ M.out).mono ?_
        rintro e w1 ⟨rfl, rfl⟩
        go_wp2
        go_roundw
        case rel =>
          refine ⟨k + 1, by omega, by go_num, ?_, HN.out⟩
          first | rfl | trivial
        case measure => simp [intOf]; omega
      · have HF := Lib.hid (marksOk_false HP.out m)
        have M := Lib.hid m
        clear m
        go_wp2_with fail
        refine (isMark_f _ _ M.out).mono ?_
        rintro e w1 ⟨rfl, rfl⟩
        go_wp2
        go_ret
        exact ⟨by rw [HF.out]; rfl, rfl⟩
    · have HF := Lib.hid (show marksOk L = true by have h := HALL.out; unfold marksUpto at h; rwa [List.take_of_length_le (by omega)] at h)
      go_wp2
      go_ret
      exact ⟨by rw [HF.out]; rfl, rfl⟩

def leafOk (ix : ByteArray) (n : Nat) (x : It) : Bool := decide (x.1.size = 16) && decide (n ≤ commonOf ix.data.toList x.1.data.toList) && decide (x.2.size = 16)
def rightProof (ix : ByteArray) (P : List ByteArray) (x : It) : Bool :=
  decide (ix.size = 16) && decide (P.length ≤ 128) && marksOk P && (if x.1.size = 0 ∧ x.2.size = 0 then true else leafOk ix P.length x)
theorem empty_list {s : ByteArray} : s.toList = [] ↔ s.size = 0 := by
  rw [ByteArray.toList_eq, List.eq_nil_iff_length_eq_zero, size_len]
set_option maxHeartbeats 1000000 in
set_option maxRecDepth 100000 in
theorem refRightProof_any (ix : ByteArray) (P : List ByteArray) (A : Option Addr) (cap : Nat) (x : It) (w : World) (hm : Strs w A P) (hl : P.length ≤ 1000000) :
    Calls Tryz.prog 194 #[.string ix, .agg #[.slice A P.length cap, .string x.1, .string x.2]] w fun e w' => e = .returned (.bool (rightProof ix P x)) ∧ Below w.heap.size w w' := by
  have HM := Lib.hid hm
  have hbw := alloc_below w (.cells #[.slice A P.length cap, .string x.1, .string x.2] 63)
  have HBW := Lib.hid hbw
  clear hm hbw
  obtain ⟨T, hT⟩ : ∃ T, rightProof ix P x = T := ⟨_, rfl⟩
  rw [hT]
  have HT := Lib.hid hT
  clear hT
  by_cases h16 : ix.size = 16
  · have H16 := Lib.hid h16
    by_cases hp : 128 < P.length
    · have hF : T = false := by rw [← HT.out]; unfold rightProof; rw [decide_eq_false (show ¬ P.length ≤ 128 by omega)]; simp
      subst hF
      clear h16
      go_enter Tryz.func194, Tryz.ntmps194
      go_wp2_with fail
      refine (isMark_t _ _ H16.out).mono ?_
      rintro e w1 ⟨rfl, rfl⟩
      go_wp2
      go_ret
      exact ⟨rfl, HBW.out⟩
    · by_cases hmk : marksOk P = true
      · have HMK := Lib.hid hmk
        by_cases hz : x.1.size = 0 ∧ x.2.size = 0
        · have hF : T = true := by rw [← HT.out]; unfold rightProof; rw [decide_eq_true h16, decide_eq_true (show P.length ≤ 128 by omega), hmk, if_pos hz]; rfl
          have z1 : x.1.toList = [] := empty_list.2 hz.1
          have z2 : x.2.toList = [] := empty_list.2 hz.2
          subst hF
          clear hz hmk h16
          go_enter Tryz.func194, Tryz.ntmps194
          go_wp2_with fail
          refine (isMark_t _ _ H16.out).mono ?_
          rintro e w1 ⟨rfl, rfl⟩
          go_wp2_with fail
          refine (refMarks_any P A cap _ (HM.out.below HBW.out) hl).mono ?_
          rintro e w1 ⟨rfl, rfl⟩
          rw [HMK.out]
          go_wp2
          go_ret
          exact ⟨rfl, HBW.out⟩
        · have hL : leafOk ix P.length x = T := by rw [← HT.out]; unfold rightProof; rw [decide_eq_true h16, decide_eq_true (show P.length ≤ 128 by omega), hmk, if_neg hz]; rfl
          have HL := Lib.hid hL
          obtain ⟨y, l, h3⟩ : ∃ y l, comAns ix x.1 = (y, l) := ⟨_, _, rfl⟩
          have H3 := Lib.hid h3
          have hz' : (x.1.toList = [] ∧ ¬ x.2.toList = []) ∨ ¬ x.1.toList = [] := by
            rw [empty_list, empty_list]
            by_cases e : x.1.size = 0
            · exact .inl ⟨e, fun e2 => hz ⟨e, e2⟩⟩
            · exact .inr e
          unfold comAns at h3
          clear hz hmk hL
          by_cases c1 : x.1.size = 16
          · rw [if_pos ⟨h16, c1⟩] at h3
            obtain ⟨rfl, rfl⟩ := Prod.mk.inj h3
            clear h3
            obtain ⟨C, hC⟩ : ∃ C : Nat, commonOf ix.data.toList x.1.data.toList = C := ⟨_, rfl⟩
            rw [hC] at H3
            have HC := Lib.hid hC
            clear hC
            have z1 : ¬ x.1.toList = [] := by rw [empty_list]; omega
            by_cases c2 : P.length ≤ C
            · have e2 : decide (P.length ≤ C) = true := by simp [c2]
              have hF : T = decide (x.2.size = 16) := by rw [← HL.out]; unfold leafOk; rw [HC.out, decide_eq_true c1, e2]; rfl
              subst hF
              clear h16 hz' c1
              go_enter Tryz.func194, Tryz.ntmps194
              go_wp2_with fail
              refine (isMark_t _ _ H16.out).mono ?_
              rintro e w1 ⟨rfl, rfl⟩
              go_wp2_with fail
              refine (refMarks_any P A cap _ (HM.out.below HBW.out) hl).mono ?_
              rintro e w1 ⟨rfl, rfl⟩
              rw [HMK.out]
              go_wp2_with fail
              refine (refCommon_is ix x.1 _ _ _ H3.out).mono ?_
              rintro e w1 ⟨rfl, rfl⟩
              go_wp2_with fail
              refine (isMark_any _ _).mono ?_
              rintro e w1 ⟨rfl, rfl⟩
              go_wp2
              go_ret
              exact ⟨rfl, HBW.out⟩
            · have e2 : decide (P.length ≤ C) = false := by simp; omega
              have hF : T = false := by rw [← HL.out]; unfold leafOk; rw [HC.out, e2]; simp
              subst hF
              clear h16 hz' c1
              go_enter Tryz.func194, Tryz.ntmps194
              go_wp2_with fail
              refine (isMark_t _ _ H16.out).mono ?_
              rintro e w1 ⟨rfl, rfl⟩
              go_wp2_with fail
              refine (refMarks_any P A cap _ (HM.out.below HBW.out) hl).mono ?_
              rintro e w1 ⟨rfl, rfl⟩
              rw [HMK.out]
              go_wp2_with fail
              refine (refCommon_is ix x.1 _ _ _ H3.out).mono ?_
              rintro e w1 ⟨rfl, rfl⟩
              go_wp2
              go_ret
              exact ⟨rfl, HBW.out⟩
          · rw [if_neg (fun h => c1 h.2)] at h3
            obtain ⟨rfl, rfl⟩ := Prod.mk.inj h3
            clear h3
            have hF : T = false := by rw [← HL.out]; unfold leafOk; rw [decide_eq_false c1]; rfl
            subst hF
            clear h16 c1
            rcases hz' with ⟨z1, z2⟩ | z1
            · have z3 : x.2.toList.isEmpty = false := by simpa using z2
              go_enter Tryz.func194, Tryz.ntmps194
              go_wp2_with fail
              refine (isMark_t _ _ H16.out).mono ?_
              rintro e w1 ⟨rfl, rfl⟩
              go_wp2_with fail
              refine (refMarks_any P A cap _ (HM.out.below HBW.out) hl).mono ?_
              rintro e w1 ⟨rfl, rfl⟩
              rw [HMK.out]
              go_wp2_with fail
              refine (refCommon_is ix x.1 _ _ _ H3.out).mono ?_
              rintro e w1 ⟨rfl, rfl⟩
              go_wp2
              go_ret
              exact ⟨rfl, HBW.out⟩
            · skip
              go_enter Tryz.func194, Tryz.ntmps194
              go_wp2_with fail
              refine (isMark_t _ _ H16.out).mono ?_
              rintro e w1 ⟨rfl, rfl⟩
              go_wp2_with fail
              refine (refMarks_any P A cap _ (HM.out.below HBW.out) hl).mono ?_
              rintro e w1 ⟨rfl, rfl⟩
              rw [HMK.out]
              go_wp2_with fail
              refine (refCommon_is ix x.1 _ _ _ H3.out).mono ?_
              rintro e w1 ⟨rfl, rfl⟩
              go_wp2
              go_ret
              exact ⟨rfl, HBW.out⟩
      · have hmk' : marksOk P = false := by simpa using hmk
        have HMK := Lib.hid hmk'
        have hF : T = false := by rw [← HT.out]; unfold rightProof; rw [hmk']; simp
        subst hF
        clear h16 hmk hmk'
        go_enter Tryz.func194, Tryz.ntmps194
        go_wp2_with fail
        refine (isMark_t _ _ H16.out).mono ?_
        rintro e w1 ⟨rfl, rfl⟩
        go_wp2_with fail
        refine (refMarks_any P A cap _ (HM.out.below HBW.out) hl).mono ?_
        rintro e w1 ⟨rfl, rfl⟩
        rw [HMK.out]
        go_wp2
        go_ret
        exact ⟨rfl, HBW.out⟩
  · have H16 := Lib.hid h16
    have hF : T = false := by rw [← HT.out]; unfold rightProof; rw [decide_eq_false h16]; rfl
    subst hF
    clear h16
    go_enter Tryz.func194, Tryz.ntmps194
    go_wp2_with fail
    refine (isMark_f _ _ H16.out).mono ?_
    rintro e w1 ⟨rfl, rfl⟩
    go_wp2
    go_ret
    exact ⟨rfl, HBW.out⟩
end Go.Proofs.YtcfpmofmjnhonaaGreatDoor
/- The document's OncePublic, OnceSign, OnceFrom. -/
namespace Go.Proofs.YtcfpmofmjnhonaaGreatDoor
open Go.RowKit

/-- Where a chain begins. -/
def seedOf (seed : ByteArray) (key : Int) (c : Nat) : ByteArray := markOf 115 [seed, txt (num8 key), txt (num8 (c : Int))]
def pubChains (seed : ByteArray) (key : Int) (k : Nat) : List ByteArray := (List.range k).map fun c : Nat => alongFrom (c : Int) 15 0 (seedOf seed key c)
def publicOf (seed : ByteArray) (key : Int) : ByteArray := markOf 112 (pubChains seed key 35)
def publicAns (seed : ByteArray) (key : Int) : ByteArray × Int := if seed.size = 16 then (publicOf seed key, 0) else (⟨#[]⟩, 1)
def signChains (seed : ByteArray) (key : Int) (m : ByteArray) (k : Nat) : List ByteArray := (List.range k).map fun c : Nat => alongFrom (c : Int) ((digitsOf m.data.toList).getD c 0) 0 (seedOf seed key c)
def signAns (seed : ByteArray) (key : Int) (m : ByteArray) : List ByteArray × Int := if seed.size = 16 ∧ m.size = 16 then (signChains seed key m 35, 0) else ([], 1)
def fromChains (m : ByteArray) (sig : List ByteArray) (k : Nat) : List ByteArray := (List.range k).map fun c : Nat => alongFrom (c : Int) (15 - (digitsOf m.data.toList).getD c 0) ((digitsOf m.data.toList).getD c 0) (sig.getD c ⟨#[]⟩)
def fromAns (m : ByteArray) (sig : List ByteArray) : ByteArray × Int := if m.size = 16 ∧ sig.length = 35 ∧ marksOk sig = true then (markOf 112 (fromChains m sig 35), 0) else (⟨#[]⟩, 1)
theorem map_range_succ {α : Type} (f : Nat → α) (k : Nat) : (List.range (k + 1)).map f = (List.range k).map f ++ [f k] := by rw [List.range_succ, List.map_append]; rfl
theorem total_leM (l : List ByteArray) (n : Nat) (h : ∀ p ∈ l, p.size ≤ n) : total l ≤ l.length * (n + 8) := by
  unfold total
  induction l with
  | nil => simp
  | cons x r ih =>
    have h1 := h x (by simp)
    have h2 := ih fun p hp => h p (by simp [hp])
    simp only [List.map_cons, List.sum_cons, List.length_cons, Nat.add_mul]
    omega
theorem seedOf_size (seed : ByteArray) (key : Int) (c : Nat) : (seedOf seed key c).size = 16 := markOf_len _ _
theorem pub_size (seed : ByteArray) (key : Int) (k : Nat) : ∀ p ∈ pubChains seed key k, p.size ≤ 16 := by
  intro p hp
  unfold pubChains at hp
  obtain ⟨c, _, rfl⟩ := List.mem_map.1 hp
  exact Nat.le_of_eq (along_size _ _ _ _ (seedOf_size _ _ _))
theorem stCells_append (a b : List ByteArray) : stCells (a ++ b) = stCells a ++ stCells b := by unfold stCells; simp

set_option maxRecDepth 100000 in
theorem refOncePublic_is (b : Nat) (seed : ByteArray) (key : Int) (x : ByteArray) (n : Int) (w : World) (hr : Holds w b 72 refCells 121) (h : publicAns seed key = (x, n)) :
    Calls Tryz.prog 97 #[.pointer (some ⟨b, 0, none⟩), .string seed, .int .i64 key] w fun e w' => e = .returned (.tuple #[.string x, .int .i64 n]) ∧ Below w.heap.size w w' := by
  have HR := Lib.hid hr
  clear hr
  unfold publicAns at h
  by_cases h16 : seed.size = 16
  · rw [if_pos h16] at h
    obtain ⟨hx, rfl⟩ := Prod.mk.inj h
    have HX := Lib.hid hx
    have H16 := Lib.hid h16
    clear h hx h16
    go_enter Tryz.func97, Tryz.ntmps97
    go_wp2_with fail
    refine (isMark_t _ _ H16.out).mono ?_
    rintro e w0 ⟨rfl, rfl⟩
    go_wp2
    go_loopw [8, 13] (fun v i wr => ∃ k : Nat, k ≤ 35 ∧ i = .int .i64 (k : Int) ∧ Hid (Below w0.heap.size w0 wr ∧ Row wr w0.heap.size 1 v k (stCells (pubChains seed key k)))) (fun _ i _ => 35 - (intOf i).toNat)
    case atStart => exact ⟨0, by omega, rfl, Lib.hid ⟨Below.refl _ _, Row.nil _ _ _⟩⟩
    case round =>
      obtain ⟨k, hk, rfl, HU⟩ := hrel
      by_cases hlt : k < 35
      · go_wp2_with fail
        refine (refNum_any key _).mono ?_
        rintro e w1 ⟨rfl, hb1⟩
        have HS1 := Lib.hid hb1
        have HB1 := Lib.hid (HU.out.1.trans (hb1.mono HU.out.1.size))
        clear hb1
        go_wp2_with fail
        refine (refNum_any (k : Int) _).mono ?_
        rintro e w2 ⟨rfl, hb2⟩
        have HS2 := Lib.hid (HS1.out.trans (hb2.mono HS1.out.size))
        have HB2 := Lib.hid (HB1.out.trans (hb2.mono HB1.out.size))
        clear hb2
        go_wp2_with fail
        refine (refMark_any b 115 [seed, txt (num8 key), txt (num8 (k : Int))] (some ⟨w2.heap.size, 0, none⟩) 3 _ ((HR.out.below HB2.out HR.out.lt).alloc _) (by have := H16.out; simp [total, num_size]; omega) (by simp) (strs_new w2 [seed, txt (num8 key), txt (num8 (k : Int))] 9)).mono ?_
        rintro e w3 ⟨rfl, hb3⟩
        have HS3 := Lib.hid ((HS2.out.trans ((alloc_below w2 (.cells #[.string seed, .string (txt (num8 key)), .string (txt (num8 (k : Int)))] 9)).mono HS2.out.size)).trans (hb3.mono (Nat.le_trans HS2.out.size (by simp))))
        have HB3 := Lib.hid (HU.out.1.trans (HS3.out.mono HU.out.1.size))
        clear hb3
        go_wp2_with fail
        refine (refAlong_any b (seedOf seed key k) (k : Int) 0 15 _ (HR.out.below HB3.out HR.out.lt) (seedOf_size _ _ _) (by omega) (by omega)).mono ?_
        rintro e w4 ⟨rfl, hb4⟩
        have HS4 := Lib.hid (HS3.out.trans (hb4.mono HS3.out.size))
        have HB4 := Lib.hid (HB3.out.trans (hb4.mono HB3.out.size))
        have HROW := Lib.hid (HU.out.2.belowAll HS4.out)
        clear hb4
        go_wp2_with (at_builtin; refine wpList_append_one2 rfl (.tmp 16) (.tmp 28) 50 rfl 9 Tryz.underlying50 _ 16 infoStr rfl (by decide) w0.heap.size _ k _ rfl HROW.out HB4.out.size (by omega) _ rfl rfl 9 ?_; intro v' w6 hrow6 hgrow6 hmove6)
        go_roundw
        case rel =>
          refine ⟨k + 1, by omega, by go_num, Lib.hid ⟨HB4.out.grown hgrow6.out HB4.out.size (fun j hj => (HROW.out.lt j hj).1), ?_⟩⟩
          have e : pubChains seed key (k + 1) = pubChains seed key k ++ [alongFrom (k : Int) 15 0 (seedOf seed key k)] := map_range_succ _ _
          rw [e, stCells_append]
          exact hrow6.out
        case measure => simp [intOf]; omega
      · obtain rfl : k = 35 := by omega
        obtain ⟨-, PA, pc, rfl, hpi⟩ := (show Row wr w0.heap.size 1 _ (pubChains seed key 35).length (stCells (pubChains seed key 35)) from by unfold pubChains; rw [List.length_map, List.length_range]; exact HU.out.2).strs
        have HPI := Lib.hid hpi
        have HTOT := Lib.hid (show total (pubChains seed key 35) ≤ 1073741800 by have := total_leM _ 16 (pub_size seed key 35); have e : (pubChains seed key 35).length = 35 := by unfold pubChains; simp
                                                                                 omega)
        have HLEN := Lib.hid (show (pubChains seed key 35).length ≤ 1000000 by unfold pubChains; simp)
        clear hpi hlt hk
        go_wp2_with fail
        refine (refMark_any b 112 (pubChains seed key 35) PA pc _ (HR.out.below HU.out.1 HR.out.lt) HTOT.out HLEN.out HPI.out).mono ?_
        rintro e w7 ⟨rfl, hb7⟩
        have HB7 := Lib.hid (HU.out.1.trans (hb7.mono HU.out.1.size))
        clear hb7
        go_wp2
        refine bodyPost_ret (results_tmp2 rfl _ _ _) rfl ?_
        exact ⟨by rw [← HX.out]; rfl, HB7.out⟩
  · rw [if_neg h16] at h
    obtain ⟨rfl, rfl⟩ := Prod.mk.inj h
    have H16 := Lib.hid h16
    clear h h16
    go_enter Tryz.func97, Tryz.ntmps97
    go_wp2_with fail
    refine (isMark_f _ _ H16.out).mono ?_
    rintro e w0 ⟨rfl, rfl⟩
    go_wp2
    refine bodyPost_ret (results_tmp2 rfl _ _ _) rfl ?_
    exact ⟨rfl, Below.refl _ _⟩
/-- The digits, read. -/
theorem digit_cell {w : World} {base : Nat} {v : Value} {m : ByteArray} (h : Row w base 1 v 35 (i64s (digitsOf m.data.toList))) (h16 : m.size = 16) :
    ∃ g cap, v = .slice (some ⟨g, 0, none⟩) 35 cap ∧ base ≤ g ∧ g < w.heap.size ∧ ∀ k, k < 35 → w.cell? ⟨g, k, none⟩ = some (.int .i64 (((digitsOf m.data.toList).getD k 0 : Nat) : Int)) := by
  obtain ⟨g, cap, rfl, hb, hg, _, hc, _⟩ := h.shape (by omega)
  refine ⟨g, cap, rfl, hb, hg, fun k hk => hc k _ (i64s_get _ k ?_)⟩
  rw [digitsOf_length (by rw [size_len]; exact h16)]; exact hk
theorem digit_le {m : ByteArray} (h16 : m.size = 16) (k : Nat) : (digitsOf m.data.toList).getD k 0 ≤ 15 := by
  by_cases hk : k < (digitsOf m.data.toList).length
  · have := digitsOf_lt (show m.data.toList.length = 16 by rw [size_len]; exact h16) ((digitsOf m.data.toList).getD k 0) (by rw [List.getD_eq_getElem?_getD, List.getElem?_eq_getElem hk]; exact List.getElem_mem _)
    omega
  · rw [List.getD_eq_getElem?_getD, List.getElem?_eq_none (by omega)]; simp
theorem chains_len (f : Nat → ByteArray) (k : Nat) : ((List.range k).map f).length = k := by simp

set_option maxRecDepth 100000 in
theorem refOnceSign_is (b : Nat) (seed : ByteArray) (key : Int) (m : ByteArray) (T : List ByteArray) (n : Int) (w : World) (hr : Holds w b 72 refCells 121) (h : signAns seed key m = (T, n)) :
    Calls Tryz.prog 112 #[.pointer (some ⟨b, 0, none⟩), .string seed, .int .i64 key, .string m] w fun e w' => ∃ v, e = .returned (.tuple #[v, .int .i64 n]) ∧ Below w.heap.size w w' ∧ Row w' w.heap.size 1 v T.length (stCells T) := by
  have HR := Lib.hid hr
  clear hr
  unfold signAns at h
  by_cases h16 : seed.size = 16
  · have H16 := Lib.hid h16
    by_cases hm16 : m.size = 16
    · rw [if_pos ⟨h16, hm16⟩] at h
      obtain ⟨hx, rfl⟩ := Prod.mk.inj h
      have HX := Lib.hid hx
      have HM16 := Lib.hid hm16
      clear h hx h16 hm16
      go_enter Tryz.func112, Tryz.ntmps112
      go_wp2_with fail
      refine (isMark_t _ _ H16.out).mono ?_
      rintro e w0 ⟨rfl, rfl⟩
      go_wp2_with fail
      refine (isMark_t _ _ HM16.out).mono ?_
      rintro e w0 ⟨rfl, rfl⟩
      go_wp2_with fail
      refine (refDigits_any m _ HM16.out).mono ?_
      rintro e w1 ⟨dv, rfl, hb1, hdrow⟩
      obtain ⟨g, dc, rfl, hgb, hgl, hcells⟩ := digit_cell hdrow HM16.out
      have HC := Lib.hid hcells
      have HB1 := Lib.hid hb1
      have HGL := Lib.hid hgl
      clear hb1 hdrow hgb hgl hcells
      go_wp2
      go_loopw [10, 24] (fun v i wr => ∃ k : Nat, k ≤ 35 ∧ i = .int .i64 (k : Int) ∧ Hid (Below w1.heap.size w1 wr ∧ Row wr w1.heap.size 1 v k (stCells (signChains seed key m k)))) (fun _ i _ => 35 - (intOf i).toNat)
      case atStart => exact ⟨0, by omega, rfl, Lib.hid ⟨Below.refl _ _, Row.nil _ _ _⟩⟩
      case round =>
        obtain ⟨k, hk, rfl, HU⟩ := hrel
        by_cases hlt : k < 35
        · have t0 : wr.cell? ⟨g, k, none⟩ = some (.int .i64 (((digitsOf m.data.toList).getD k 0 : Nat) : Int)) := (HU.out.1.cell HGL.out).trans (HC.out k hlt)
          have HDL := Lib.hid (digit_le HM16.out k)
          obtain ⟨D, hD⟩ : ∃ D, (digitsOf m.data.toList).getD k 0 = D := ⟨_, rfl⟩
          rw [hD] at t0 HDL
          have HD := Lib.hid hD
          have HR0 := Lib.hid ((HR.out.below HB1.out HR.out.lt).below HU.out.1 (Nat.lt_of_lt_of_le HR.out.lt HB1.out.size))
          clear hD
          go_wp2_with fail
          clear t0
          refine (refNum_any key _).mono ?_
          rintro e w2 ⟨rfl, hb2⟩
          have HS2 := Lib.hid hb2
          clear hb2
          go_wp2_with fail
          refine (refNum_any (k : Int) _).mono ?_
          rintro e w3 ⟨rfl, hb3⟩
          have HS3 := Lib.hid (HS2.out.trans (hb3.mono HS2.out.size))
          clear hb3
          go_wp2_with fail
          refine (refMark_any b 115 [seed, txt (num8 key), txt (num8 (k : Int))] (some ⟨w3.heap.size, 0, none⟩) 3 _ ((HR0.out.below HS3.out HR0.out.lt).alloc _) (by have := H16.out; simp [total, num_size]; omega) (by simp) (strs_new w3 [seed, txt (num8 key), txt (num8 (k : Int))] 9)).mono ?_
          rintro e w4 ⟨rfl, hb4⟩
          have HS4 := Lib.hid ((HS3.out.trans ((alloc_below w3 (.cells #[.string seed, .string (txt (num8 key)), .string (txt (num8 (k : Int)))] 9)).mono HS3.out.size)).trans (hb4.mono (Nat.le_trans HS3.out.size (by simp))))
          clear hb4
          go_wp2_with fail
          refine (refAlong_any b (seedOf seed key k) (k : Int) 0 D _ (HR0.out.below HS4.out HR0.out.lt) (seedOf_size _ _ _) (by omega) HDL.out).mono ?_
          rintro e w5 ⟨rfl, hb5⟩
          have HS5 := Lib.hid (HS4.out.trans (hb5.mono HS4.out.size))
          have HB5 := Lib.hid (HU.out.1.trans (HS5.out.mono HU.out.1.size))
          have HROW := Lib.hid (HU.out.2.belowAll HS5.out)
          clear hb5
          go_wp2_with (at_builtin; refine wpList_append_one2 rfl (.tmp 29) (.tmp 42) 50 rfl 9 Tryz.underlying50 _ 16 infoStr rfl (by decide) w1.heap.size _ k _ rfl HROW.out HB5.out.size (by omega) _ rfl rfl 9 ?_; intro v' w6 hrow6 hgrow6 hmove6)
          go_roundw
          case rel =>
            refine ⟨k + 1, by omega, by go_num, Lib.hid ⟨HB5.out.grown hgrow6.out HB5.out.size (fun j hj => (HROW.out.lt j hj).1), ?_⟩⟩
            have e : signChains seed key m (k + 1) = signChains seed key m k ++ [alongFrom (k : Int) ((digitsOf m.data.toList).getD k 0) 0 (seedOf seed key k)] := map_range_succ _ _
            rw [e, stCells_append, HD.out]
            exact hrow6.out
          case measure => simp [intOf]; omega
        · obtain rfl : k = 35 := by omega
          go_wp2
          refine bodyPost_ret (results_tmp2 rfl _ _ _) rfl ?_
          refine ⟨_, rfl, HB1.out.trans (HU.out.1.mono HB1.out.size), ?_⟩
          rw [← HX.out, show (signChains seed key m 35).length = 35 from chains_len _ _]
          exact HU.out.2.mono HB1.out.size
    · rw [if_neg (fun e => hm16 e.2)] at h
      obtain ⟨rfl, rfl⟩ := Prod.mk.inj h
      have HM16 := Lib.hid hm16
      clear h h16 hm16
      go_enter Tryz.func112, Tryz.ntmps112
      go_wp2_with fail
      refine (isMark_t _ _ H16.out).mono ?_
      rintro e w0 ⟨rfl, rfl⟩
      go_wp2_with fail
      refine (isMark_f _ _ HM16.out).mono ?_
      rintro e w0 ⟨rfl, rfl⟩
      go_wp2
      refine bodyPost_ret (results_tmp2 rfl _ _ _) rfl ?_
      exact ⟨_, rfl, Below.refl _ _, Row.nil _ _ _⟩
  · rw [if_neg (fun e => h16 e.1)] at h
    obtain ⟨rfl, rfl⟩ := Prod.mk.inj h
    have H16 := Lib.hid h16
    clear h h16
    go_enter Tryz.func112, Tryz.ntmps112
    go_wp2_with fail
    refine (isMark_f _ _ H16.out).mono ?_
    rintro e w0 ⟨rfl, rfl⟩
    go_wp2
    refine bodyPost_ret (results_tmp2 rfl _ _ _) rfl ?_
    exact ⟨_, rfl, Below.refl _ _, Row.nil _ _ _⟩
end Go.Proofs.YtcfpmofmjnhonaaGreatDoor
/- The document's OnceFrom. -/
namespace Go.Proofs.YtcfpmofmjnhonaaGreatDoor
open Go.RowKit

theorem from_size (m : ByteArray) (sig : List ByteArray) (h : ∀ p ∈ sig, p.size = 16) (hl : sig.length = 35) (k : Nat) (hk : k ≤ 35) : ∀ p ∈ fromChains m sig k, p.size ≤ 16 := by
  intro p hp
  unfold fromChains at hp
  obtain ⟨c, hc, rfl⟩ := List.mem_map.1 hp
  have hc' : c < sig.length := by have := List.mem_range.1 hc; omega
  refine Nat.le_of_eq (along_size _ _ _ _ ?_)
  rw [List.getD_eq_getElem?_getD, List.getElem?_eq_getElem hc']
  exact h _ (List.getElem_mem _)
theorem marksOk_all {L : List ByteArray} (h : marksOk L = true) : ∀ p ∈ L, p.size = 16 := by
  unfold marksOk at h
  rw [List.all_eq_true] at h
  intro p hp
  simpa using h p hp

set_option maxHeartbeats 1000000 in
set_option maxRecDepth 100000 in
theorem refOnceFrom_is (b : Nat) (m : ByteArray) (S : List ByteArray) (A : Option Addr) (cap : Nat) (x : ByteArray) (n : Int) (w : World) (hl : S.length ≤ 1000000) (hr : Holds w b 72 refCells 121) (hsig : Strs w A S) (h : fromAns m S = (x, n)) :
    Calls Tryz.prog 142 #[.pointer (some ⟨b, 0, none⟩), .string m, .slice A S.length cap] w fun e w' => e = .returned (.tuple #[.string x, .int .i64 n]) ∧ Below w.heap.size w w' := by
  have HR := Lib.hid hr
  have HSIG := Lib.hid hsig
  clear hr hsig
  unfold fromAns at h
  by_cases hm16 : m.size = 16
  · have HM16 := Lib.hid hm16
    by_cases h35 : S.length = 35
    · by_cases hmk : marksOk S = true
      · rw [if_pos ⟨hm16, h35, hmk⟩] at h
        obtain ⟨hx, rfl⟩ := Prod.mk.inj h
        have HX := Lib.hid hx
        have HMK := Lib.hid hmk
        have H35 := Lib.hid h35
        have e35 : ((S.length : Int) == 35) = true := by rw [beq_iff_eq]; omega
        have e36 : ((S.length : Int) != 35) = false := by simp; omega
        have hs35 : S.length ≤ 35 := by omega
        have hs36 : 35 ≤ S.length := by omega
        clear h hx hm16 hmk h35
        go_enter Tryz.func142, Tryz.ntmps142
        go_wp2_with fail
        refine (isMark_t _ _ HM16.out).mono ?_
        rintro e w0 ⟨rfl, rfl⟩
        go_wp2_with fail
        refine (refMarks_any S A cap _ HSIG.out hl).mono ?_
        rintro e w0 ⟨rfl, rfl⟩
        rw [HMK.out]
        clear e35 e36
        go_wp2_with fail
        refine (refDigits_any m _ HM16.out).mono ?_
        rintro e w1 ⟨dv, rfl, hb1, hdrow⟩
        obtain ⟨g, dc, rfl, hgb, hgl, hcells⟩ := digit_cell hdrow HM16.out
        have HC := Lib.hid hcells
        have HB1 := Lib.hid hb1
        have HGL := Lib.hid hgl
        clear hb1 hdrow hgb hgl hcells
        go_wp2
        go_loopw [8, 27] (fun v i wr => ∃ k : Nat, k ≤ 35 ∧ i = .int .i64 (k : Int) ∧ Hid (Below w1.heap.size w1 wr ∧ Row wr w1.heap.size 1 v k (stCells (fromChains m S k)))) (fun _ i _ => 35 - (intOf i).toNat)
        case atStart => exact ⟨0, by omega, rfl, Lib.hid ⟨Below.refl _ _, Row.nil _ _ _⟩⟩
        case round =>
          obtain ⟨k, hk, rfl, HU⟩ := hrel
          by_cases hlt : k < 35
          · have t0 : wr.cell? ⟨g, k, none⟩ = some (.int .i64 (((digitsOf m.data.toList).getD k 0 : Nat) : Int)) := (HU.out.1.cell HGL.out).trans (HC.out k hlt)
            obtain ⟨p, hp⟩ : ∃ p, S[k]? = some p := ⟨_, List.getElem?_eq_getElem (by omega)⟩
            obtain ⟨a, rfl, _, c0⟩ := ((HSIG.out.below HB1.out).below HU.out.1) k p hp
            have HP := Lib.hid (show S.getD k ⟨#[]⟩ = p by rw [List.getD_eq_getElem?_getD, hp]; rfl)
            have HPS := Lib.hid (marksOk_get HMK.out hp)
            have HDL := Lib.hid (digit_le HM16.out k)
            obtain ⟨D, hD⟩ : ∃ D, (digitsOf m.data.toList).getD k 0 = D := ⟨_, rfl⟩
            rw [hD] at t0 HDL
            have HD := Lib.hid hD
            have HR0 := Lib.hid ((HR.out.below HB1.out HR.out.lt).below HU.out.1 (Nat.lt_of_lt_of_le HR.out.lt HB1.out.size))
            clear hD hp
            go_wp2_with fail
            clear t0 c0
            refine (refAlong_any b p (k : Int) D 15 _ HR0.out HPS.out HDL.out (by omega)).mono ?_
            rintro e w5 ⟨rfl, hb5⟩
            have HB5 := Lib.hid (HU.out.1.trans (hb5.mono HU.out.1.size))
            have HROW := Lib.hid (HU.out.2.belowAll hb5)
            clear hb5
            go_wp2_with (at_builtin; refine wpList_append_one2 rfl (.tmp 32) (.tmp 41) 50 rfl 9 Tryz.underlying50 _ 16 infoStr rfl (by decide) w1.heap.size _ k _ rfl HROW.out HB5.out.size (by omega) _ rfl rfl 9 ?_; intro v' w6 hrow6 hgrow6 hmove6)
            go_roundw
            case rel =>
              refine ⟨k + 1, by omega, by go_num, Lib.hid ⟨HB5.out.grown hgrow6.out HB5.out.size (fun j hj => (HROW.out.lt j hj).1), ?_⟩⟩
              have e : fromChains m S (k + 1) = fromChains m S k ++ [alongFrom (k : Int) (15 - (digitsOf m.data.toList).getD k 0) ((digitsOf m.data.toList).getD k 0) (S.getD k ⟨#[]⟩)] := map_range_succ _ _
              rw [e, stCells_append, HD.out, HP.out]
              exact hrow6.out
            case measure => simp [intOf]; omega
          · obtain rfl : k = 35 := by omega
            obtain ⟨-, PA, pc, rfl, hpi⟩ := (show Row wr w1.heap.size 1 _ (fromChains m S 35).length (stCells (fromChains m S 35)) from by rw [show (fromChains m S 35).length = 35 from chains_len _ _]; exact HU.out.2).strs
            have HPI := Lib.hid hpi
            have HTOT := Lib.hid (show total (fromChains m S 35) ≤ 1073741800 by
              have h1 := total_leM _ 16 (from_size m S (marksOk_all HMK.out) H35.out 35 (Nat.le_refl _))
              rw [show (fromChains m S 35).length = 35 from chains_len _ _] at h1
              omega)
            have HLEN := Lib.hid (show (fromChains m S 35).length ≤ 1000000 by rw [show (fromChains m S 35).length = 35 from chains_len _ _]; omega)
            have HR0 := Lib.hid ((HR.out.below HB1.out HR.out.lt).below HU.out.1 (Nat.lt_of_lt_of_le HR.out.lt HB1.out.size))
            clear hpi hlt hk
            go_wp2_with fail
            refine (refMark_any b 112 (fromChains m S 35) PA pc _ HR0.out HTOT.out HLEN.out HPI.out).mono ?_
            rintro e w7 ⟨rfl, hb7⟩
            have HB7 := Lib.hid (HB1.out.trans ((HU.out.1.trans (hb7.mono HU.out.1.size)).mono HB1.out.size))
            clear hb7
            go_wp2
            refine bodyPost_ret (results_tmp2 rfl _ _ _) rfl ?_
            exact ⟨by rw [← HX.out]; rfl, HB7.out⟩
      · rw [if_neg (fun e => hmk e.2.2)] at h
        obtain ⟨rfl, rfl⟩ := Prod.mk.inj h
        have HMK := Lib.hid (show marksOk S = false by simpa using hmk)
        have e35 : ((S.length : Int) == 35) = true := by rw [beq_iff_eq]; omega
        have e36 : ((S.length : Int) != 35) = false := by simp; omega
        clear h hm16 hmk h35
        go_enter Tryz.func142, Tryz.ntmps142
        go_wp2_with fail
        refine (isMark_t _ _ HM16.out).mono ?_
        rintro e w0 ⟨rfl, rfl⟩
        go_wp2_with fail
        refine (refMarks_any S A cap _ HSIG.out hl).mono ?_
        rintro e w0 ⟨rfl, rfl⟩
        rw [HMK.out]
        go_wp2
        refine bodyPost_ret (results_tmp2 rfl _ _ _) rfl ?_
        exact ⟨rfl, Below.refl _ _⟩
    · rw [if_neg (fun e => h35 e.2.1)] at h
      obtain ⟨rfl, rfl⟩ := Prod.mk.inj h
      have e35 : ((S.length : Int) == 35) = false := by rw [beq_eq_false_iff_ne]; omega
      have e36 : ((S.length : Int) != 35) = true := by simp; omega
      clear h hm16 h35
      go_enter Tryz.func142, Tryz.ntmps142
      go_wp2_with fail
      refine (isMark_t _ _ HM16.out).mono ?_
      rintro e w0 ⟨rfl, rfl⟩
      go_wp2
      refine bodyPost_ret (results_tmp2 rfl _ _ _) rfl ?_
      exact ⟨rfl, Below.refl _ _⟩
  · rw [if_neg (fun e => hm16 e.1)] at h
    obtain ⟨rfl, rfl⟩ := Prod.mk.inj h
    have HM16 := Lib.hid hm16
    clear h hm16
    go_enter Tryz.func142, Tryz.ntmps142
    go_wp2_with fail
    refine (isMark_f _ _ HM16.out).mono ?_
    rintro e w0 ⟨rfl, rfl⟩
    go_wp2
    refine bodyPost_ret (results_tmp2 rfl _ _ _) rfl ?_
    exact ⟨rfl, Below.refl _ _⟩
end Go.Proofs.YtcfpmofmjnhonaaGreatDoor
