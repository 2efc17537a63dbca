/- Parts of the proof, one behind the other: TellErr, Of, RProof. -/
import Derived.Test.YtenlpbcembadcaaDoorM8
import Derived.Test.YtenlpbcembadcaaDoorM7
/- api.Tell, plain.Place: errors taken apart (nil, and a bare api.Errno). -/
namespace Go.Proofs.YtenlpbcembadcaaDoor
open Go.RowKit

theorem tell_nil (w : World) : Calls Tryd.prog 60 #[.nilIface] w fun e w' => e = .returned (.int .i64 0) ∧ w' = w := by
  go_enter Tryd.func60, Tryd.ntmps60
  go_wp2
  go_ret
  exact ⟨rfl, rfl⟩
theorem tell_errno (n : Int) (w : World) (hg : w.cell? ⟨0, 0, none⟩ = some (.iface 157 (.agg #[hand 35]))) :
    Calls Tryd.prog 60 #[.iface 31 (.int .i64 n)] w fun e w' => e = .returned (.int .i64 n) ∧ Below w.heap.size w w' := by
  have hgl : (0 : Nat) < w.heap.size := block_lt_of_cell hg
  have hg1 : (w.alloc (.cells #[.int .i64 0] 31)).cell? ⟨0, 0, none⟩ = some (.iface 157 (.agg #[hand 35])) := by
    rw [World.cell?_alloc_lt _ _ ⟨0, 0, none⟩ hgl]; exact hg
  have HG := Lib.hid hg1
  clear hg hg1
  go_enter Tryd.func60, Tryd.ntmps60
  go_wp2_with fail
  refine (as_hit n ⟨w.heap.size, 0, none⟩ (.int .i64 0) _ HG.out (by simp) (by simp)).mono ?_
  rintro e w' ⟨rfl, o1, o2, o3, o4, rfl⟩
  go_wp2
  go_ret
  refine ⟨rfl, ?_⟩
  exact (((((Below.refl w.heap.size w).alloc (Nat.le_refl _) _).alloc (by simp) _).alloc (by simp; omega) _).alloc (by simp; omega) _).alloc (by simp; omega) _
set_option maxRecDepth 100000 in
theorem place_nil (w : World) : Calls Tryd.prog 35 #[.nilIface] w fun e w' => e = .returned (.tuple #[.int .i64 0, .int .i64 (-1)]) ∧ w' = w := by
  go_enter Tryd.func35, Tryd.ntmps35
  go_wp2_with fail
  refine (tell_nil _).mono ?_
  rintro e w1 ⟨rfl, rfl⟩
  go_wp2
  refine wp_loop_rounds 1 ?_
  rw [rounds_succ]
  go_wp2
  refine bodyPost_ret (results_tmp2 rfl _ _ _) rfl ?_
  exact ⟨rfl, rfl⟩
theorem notAt (n : Int) (w : World) : (Instr.typeAssert (.iface 31 (.int .i64 n)) 35 94 true).run Tryd.prog w = .ok (.tuple #[.pointer none, .bool false]) w := by kernel_rfl
theorem noUnwrap (v : Value) (w : World) : (Instr.typeAssert (.iface 31 v) 35 98 true).run Tryd.prog w = .ok (.tuple #[.nilIface, .bool false]) w :=
  run_typeAssert_lacksB Tryd.underlying98 (by kernel_rfl) (by kernel_rfl) v _ w
set_option maxRecDepth 100000 in
theorem place_errno (n : Int) (w : World) (hg : w.cell? ⟨0, 0, none⟩ = some (.iface 157 (.agg #[hand 35]))) :
    Calls Tryd.prog 35 #[.iface 31 (.int .i64 n)] w fun e w' => e = .returned (.tuple #[.int .i64 n, .int .i64 (-1)]) ∧ Below w.heap.size w w' := by
  go_enter Tryd.func35, Tryd.ntmps35
  go_wp2_with fail
  refine (tell_errno n _ hg).mono ?_
  rintro e w1 ⟨rfl, hb⟩
  have HB := Lib.hid hb
  clear hb
  have a1 := notAt n
  have a2 := noUnwrap
  go_wp2
  refine wp_loop_rounds 1 ?_
  rw [rounds_succ]
  go_wp2
  refine bodyPost_ret (results_tmp2 rfl _ _ _) rfl ?_
  exact ⟨rfl, HB.out⟩
set_option maxRecDepth 100000 in
theorem bare_nil (n : Int) (w : World) : Calls Tryd.prog 10 #[.nilIface, .int .i64 n] w fun e w' => e = .returned (.bool (decide (n = 0))) ∧ w' = w := by
  go_enter Tryd.func10, Tryd.ntmps10
  go_wp2_with fail
  refine (place_nil _).mono ?_
  rintro e w1 ⟨rfl, rfl⟩
  by_cases h : n = 0
  · subst h
    go_wp2
    go_ret
    exact ⟨rfl, rfl⟩
  · go_wp2
    go_ret
    refine ⟨?_, rfl⟩
    show Ending.returned (Value.bool _) = _
    congr 2
    simp; omega
set_option maxRecDepth 100000 in
theorem bare_errno (m n : Int) (w : World) (hg : w.cell? ⟨0, 0, none⟩ = some (.iface 157 (.agg #[hand 35]))) :
    Calls Tryd.prog 10 #[.iface 31 (.int .i64 m), .int .i64 n] w fun e w' => e = .returned (.bool (decide (m = n))) ∧ Below w.heap.size w w' := by
  go_enter Tryd.func10, Tryd.ntmps10
  go_wp2_with fail
  refine (place_errno m _ hg).mono ?_
  rintro e w1 ⟨rfl, hb⟩
  have HB := Lib.hid hb
  clear hb
  by_cases h : m = n
  · subst h
    go_wp2
    go_ret
    exact ⟨by simp, HB.out⟩
  · go_wp2
    go_ret
    refine ⟨?_, HB.out⟩
    simp [h]
end Go.Proofs.YtenlpbcembadcaaDoor
/- Of, Bit and Common, of the program and of the document, each by one answer: a value and the number of an error. -/
namespace Go.Proofs.YtenlpbcembadcaaDoor
open Go.RowKit

/-- An error is this number, without a place. -/
theorem bare_any (m n : Int) (w : World) (hg : w.cell? ⟨0, 0, none⟩ = some (.iface 157 (.agg #[hand 35]))) :
    Calls Tryd.prog 10 #[errOf m, .int .i64 n] w fun e w' => e = .returned (.bool (decide (m = n))) ∧ Below w.heap.size w w' := by
  by_cases h : m = 0
  · subst h
    refine (bare_nil n w).mono ?_
    rintro e w' ⟨rfl, rfl⟩
    refine ⟨?_, Below.refl _ _⟩
    congr 2
    simp only [decide_eq_decide]
    omega
  · unfold errOf
    rw [if_neg h]
    exact bare_errno m n w hg
theorem bare_same (n : Int) (w : World) (hg : w.cell? ⟨0, 0, none⟩ = some (.iface 157 (.agg #[hand 35]))) :
    Calls Tryd.prog 10 #[errOf n, .int .i64 n] w fun e w' => e = .returned (.bool true) ∧ Below w.heap.size w w' :=
  (bare_any n n w hg).mono fun e w' ⟨he, hb⟩ => ⟨by rw [he]; simp, hb⟩

def ofAns (name : ByteArray) : ByteArray × Int := if nameOk name.data.toList then (markOf 105 [name], 0) else (⟨#[]⟩, 5)
def bitAns (ix : ByteArray) (k : Int) : Int × Int := if ix.size = 16 then (if 0 ≤ k ∧ k ≤ 127 then (((bitOf ix.data.toList k.toNat : Nat) : Int), 0) else (0, 2)) else (0, 1)
def comAns (a b : ByteArray) : Int × Int := if a.size = 16 ∧ b.size = 16 then (((commonOf a.data.toList b.data.toList : Nat) : Int), 0) else (0, 1)

theorem ixBit_is (ix : ByteArray) (k x n : Int) (w : World) (h : bitAns ix k = (x, n)) :
    Calls Tryd.prog 33 #[.string ix, .int .i64 k] w fun e w' => e = .returned (.tuple #[.int .i64 x, errOf n]) ∧ w' = w := by
  refine (ixBit_any ix k w).mono ?_
  rintro e w' ⟨rfl, rfl⟩
  refine ⟨?_, rfl⟩
  unfold bitAns at h
  by_cases h16 : ix.size = 16
  · rw [if_pos h16] at h ⊢
    by_cases hk : 0 ≤ k ∧ k ≤ 127
    · rw [if_pos hk] at h ⊢; cases h; rfl
    · rw [if_neg hk] at h ⊢; cases h; rfl
  · rw [if_neg h16] at h ⊢; cases h; rfl
theorem ixCommon_is (a b : ByteArray) (x n : Int) (w : World) (h : comAns a b = (x, n)) :
    Calls Tryd.prog 24 #[.string a, .string b] w fun e w' => e = .returned (.tuple #[.int .i64 x, errOf n]) ∧ w' = w := by
  refine (ixCommon_any a b w).mono ?_
  rintro e w' ⟨rfl, rfl⟩
  refine ⟨?_, rfl⟩
  unfold comAns at h
  by_cases h16 : a.size = 16 ∧ b.size = 16
  · rw [if_pos h16] at h ⊢; cases h; rfl
  · rw [if_neg h16] at h ⊢; cases h; rfl
theorem refCommon_is (a b : ByteArray) (x n : Int) (w : World) (h : comAns a b = (x, n)) :
    Calls Tryd.prog 40 #[.string a, .string b] w fun e w' => e = .returned (.tuple #[.int .i64 x, .int .i64 n]) ∧ w' = w := by
  refine (refCommon_any a b w).mono ?_
  rintro e w' ⟨rfl, rfl⟩
  refine ⟨?_, rfl⟩
  unfold comAns at h
  by_cases h16 : a.size = 16 ∧ b.size = 16
  · rw [if_pos h16] at h ⊢; cases h; rfl
  · rw [if_neg h16] at h ⊢; cases h; rfl

/-- One text in a block that was made just now. -/
theorem one_part (name : ByteArray) (w : World) : ∀ (i : Nat) p, ([name] : List ByteArray)[i]? = some p → ∃ a, some (⟨w.heap.size, 0, none⟩ : Addr) = some a ∧ a.block < (w.alloc (.cells #[.string name] 9)).heap.size ∧ (w.alloc (.cells #[.string name] 9)).cell? (a.add i) = some (.string p) := by
  intro i p hp
  match i, hp with
  | 0, hp =>
    simp at hp; subst hp
    refine ⟨_, rfl, by simp, ?_⟩
    rw [show (⟨w.heap.size, 0, none⟩ : Addr).add 0 = ⟨w.heap.size, 0, none⟩ by simp [Addr.add]]
    exact (Holds.new w 1 (fun _ => .string name) 9).cell 0 (by omega)
theorem nameOk_size (s : ByteArray) (h : nameOk s.data.toList = true) : s.size ≤ 12 := by
  unfold nameOk at h
  simp at h
  exact h.2.2
theorem HasK.alloc {w : World} (h : HasK w) (o : Obj) : HasK (w.alloc o) := h.below ((Below.refl w.heap.size w).alloc (Nat.le_refl _) o) h.lt
end Go.Proofs.YtenlpbcembadcaaDoor
/- The document's RightProof, ProofRoot, Verify, Commit. -/
namespace Go.Proofs.YtenlpbcembadcaaDoor
open Go.RowKit

def marksOk (L : List ByteArray) : Bool := L.all fun s => decide (s.size = 16)
def marksUpto (L : List ByteArray) (k : Nat) : Bool := marksOk (L.take k)
theorem marksUpto_next (L : List ByteArray) (k : Nat) (p : ByteArray) (h : L[k]? = some p) : marksUpto L (k + 1) = (marksUpto L k && decide (p.size = 16)) := by
  unfold marksUpto marksOk
  rw [List.take_add_one, h]; simp
theorem marksOk_false {L : List ByteArray} {k : Nat} {p : ByteArray} (h : L[k]? = some p) (hp : ¬ p.size = 16) : marksOk L = false := by
  unfold marksOk
  rw [List.all_eq_false]
  exact ⟨p, List.mem_of_getElem? h, by simpa using hp⟩
theorem marksOk_get {L : List ByteArray} (h : marksOk L = true) {k : Nat} {p : ByteArray} (hp : L[k]? = some p) : p.size = 16 := by
  unfold marksOk at h
  rw [List.all_eq_true] at h
  simpa using h p (List.mem_of_getElem? hp)
set_option maxRecDepth 100000 in
theorem refMarks_any (L : List ByteArray) (A : Option Addr) (cap : Nat) (w : World) (hm : Strs w A L) (hl : L.length ≤ 1000000) :
    Calls Tryd.prog 39 #[.slice A L.length cap] w fun e w' => e = .returned (.bool (marksOk L)) ∧ w' = w := by
  have HM := Lib.hid hm
  clear hm
  go_enter Tryd.func39, Tryd.ntmps39
  go_wp2
  go_loopw [7] (fun i wr => ∃ k : Nat, k ≤ L.length ∧ i = .int .i64 (k : Int) ∧ wr = w ∧ marksUpto L k = true) (fun i _ => L.length - (intOf i).toNat)
  case atStart => exact ⟨0, by omega, rfl, rfl, rfl⟩
  case round =>
    obtain ⟨k, hk, rfl, rfl, hall⟩ := hrel
    have HALL := Lib.hid hall
    clear hall
    by_cases hlt : k < L.length
    · obtain ⟨p, hp⟩ : ∃ p, L[k]? = some p := ⟨_, List.getElem?_eq_getElem hlt⟩
      obtain ⟨a, rfl, _, c0⟩ := HM.out k p hp
      have HP := Lib.hid hp
      clear hp
      by_cases m : p.size = 16
      · have HN := Lib.hid (show marksUpto L (k + 1) = true by rw [marksUpto_next L k p HP.out, HALL.out, decide_eq_true m]; rfl)
        have M := Lib.hid m
        clear m
        go_wp2_with fail
        refine (isMark_t _ _ M.out).mono ?_
        rintro e w1 ⟨rfl, rfl⟩
        go_wp2
        go_roundw
        case rel =>
          refine ⟨k + 1, by omega, by go_num, ?_, HN.out⟩
          first | rfl | trivial
        case measure => simp [intOf]; omega
      · have HF := Lib.hid (marksOk_false HP.out m)
        have M := Lib.hid m
        clear m
        go_wp2_with fail
        refine (isMark_f _ _ M.out).mono ?_
        rintro e w1 ⟨rfl, rfl⟩
        go_wp2
        go_ret
        exact ⟨by rw [HF.out]; rfl, rfl⟩
    · have HF := Lib.hid (show marksOk L = true by have h := HALL.out; unfold marksUpto at h; rwa [List.take_of_length_le (by omega)] at h)
      go_wp2
      go_ret
      exact ⟨by rw [HF.out]; rfl, rfl⟩

def leafOk (ix : ByteArray) (n : Nat) (x : It) : Bool := decide (x.1.size = 16) && decide (n ≤ commonOf ix.data.toList x.1.data.toList) && decide (x.2.size = 16)
def rightProof (ix : ByteArray) (P : List ByteArray) (x : It) : Bool :=
  decide (ix.size = 16) && decide (P.length ≤ 128) && marksOk P && (if x.1.size = 0 ∧ x.2.size = 0 then true else leafOk ix P.length x)
theorem empty_list {s : ByteArray} : s.toList = [] ↔ s.size = 0 := by
  rw [ByteArray.toList_eq, List.eq_nil_iff_length_eq_zero, size_len]
set_option maxHeartbeats 1000000 in
set_option maxRecDepth 100000 in
theorem refRightProof_any (ix : ByteArray) (P : List ByteArray) (A : Option Addr) (cap : Nat) (x : It) (w : World) (hm : Strs w A P) (hl : P.length ≤ 1000000) :
    Calls Tryd.prog 12 #[.string ix, .agg #[.slice A P.length cap, .string x.1, .string x.2]] w fun e w' => e = .returned (.bool (rightProof ix P x)) ∧ Below w.heap.size w w' := by
  have HM := Lib.hid hm
  have hbw := alloc_below w (.cells #[.slice A P.length cap, .string x.1, .string x.2] 26)
  have HBW := Lib.hid hbw
  clear hm hbw
  obtain ⟨T, hT⟩ : ∃ T, rightProof ix P x = T := ⟨_, rfl⟩
  rw [hT]
  have HT := Lib.hid hT
  clear hT
  by_cases h16 : ix.size = 16
  · have H16 := Lib.hid h16
    by_cases hp : 128 < P.length
    · have hF : T = false := by rw [← HT.out]; unfold rightProof; rw [decide_eq_false (show ¬ P.length ≤ 128 by omega)]; simp
      subst hF
      clear h16
      go_enter Tryd.func12, Tryd.ntmps12
      go_wp2_with fail
      refine (isMark_t _ _ H16.out).mono ?_
      rintro e w1 ⟨rfl, rfl⟩
      go_wp2
      go_ret
      exact ⟨rfl, HBW.out⟩
    · by_cases hmk : marksOk P = true
      · have HMK := Lib.hid hmk
        by_cases hz : x.1.size = 0 ∧ x.2.size = 0
        · have hF : T = true := by rw [← HT.out]; unfold rightProof; rw [decide_eq_true h16, decide_eq_true (show P.length ≤ 128 by omega), hmk, if_pos hz]; rfl
          have z1 : x.1.toList = [] := empty_list.2 hz.1
          have z2 : x.2.toList = [] := empty_list.2 hz.2
          subst hF
          clear hz hmk h16
          go_enter Tryd.func12, Tryd.ntmps12
          go_wp2_with fail
          refine (isMark_t _ _ H16.out).mono ?_
          rintro e w1 ⟨rfl, rfl⟩
          go_wp2_with fail
          refine (refMarks_any P A cap _ (HM.out.below HBW.out) hl).mono ?_
          rintro e w1 ⟨rfl, rfl⟩
          rw [HMK.out]
          go_wp2
          go_ret
          exact ⟨rfl, HBW.out⟩
        · have hL : leafOk ix P.length x = T := by rw [← HT.out]; unfold rightProof; rw [decide_eq_true h16, decide_eq_true (show P.length ≤ 128 by omega), hmk, if_neg hz]; rfl
          have HL := Lib.hid hL
          obtain ⟨y, l, h3⟩ : ∃ y l, comAns ix x.1 = (y, l) := ⟨_, _, rfl⟩
          have H3 := Lib.hid h3
          have hz' : (x.1.toList = [] ∧ ¬ x.2.toList = []) ∨ ¬ x.1.toList = [] := by
            rw [empty_list, empty_list]
            by_cases e : x.1.size = 0
            · exact .inl ⟨e, fun e2 => hz ⟨e, e2⟩⟩
            · exact .inr e
          unfold comAns at h3
          clear hz hmk hL
          by_cases c1 : x.1.size = 16
          · rw [if_pos ⟨h16, c1⟩] at h3
            obtain ⟨rfl, rfl⟩ := Prod.mk.inj h3
            clear h3
            obtain ⟨C, hC⟩ : ∃ C : Nat, commonOf ix.data.toList x.1.data.toList = C := ⟨_, rfl⟩
            rw [hC] at H3
            have HC := Lib.hid hC
            clear hC
            have z1 : ¬ x.1.toList = [] := by rw [empty_list]; omega
            by_cases c2 : P.length ≤ C
            · have e2 : decide (P.length ≤ C) = true := by simp [c2]
              have hF : T = decide (x.2.size = 16) := by rw [← HL.out]; unfold leafOk; rw [HC.out, decide_eq_true c1, e2]; rfl
              subst hF
              clear h16 hz' c1
              go_enter Tryd.func12, Tryd.ntmps12
              go_wp2_with fail
              refine (isMark_t _ _ H16.out).mono ?_
              rintro e w1 ⟨rfl, rfl⟩
              go_wp2_with fail
              refine (refMarks_any P A cap _ (HM.out.below HBW.out) hl).mono ?_
              rintro e w1 ⟨rfl, rfl⟩
              rw [HMK.out]
              go_wp2_with fail
              refine (refCommon_is ix x.1 _ _ _ H3.out).mono ?_
              rintro e w1 ⟨rfl, rfl⟩
              go_wp2_with fail
              refine (isMark_any _ _).mono ?_
              rintro e w1 ⟨rfl, rfl⟩
              go_wp2
              go_ret
              exact ⟨rfl, HBW.out⟩
            · have e2 : decide (P.length ≤ C) = false := by simp; omega
              have hF : T = false := by rw [← HL.out]; unfold leafOk; rw [HC.out, e2]; simp
              subst hF
              clear h16 hz' c1
              go_enter Tryd.func12, Tryd.ntmps12
              go_wp2_with fail
              refine (isMark_t _ _ H16.out).mono ?_
              rintro e w1 ⟨rfl, rfl⟩
              go_wp2_with fail
              refine (refMarks_any P A cap _ (HM.out.below HBW.out) hl).mono ?_
              rintro e w1 ⟨rfl, rfl⟩
              rw [HMK.out]
              go_wp2_with fail
              refine (refCommon_is ix x.1 _ _ _ H3.out).mono ?_
              rintro e w1 ⟨rfl, rfl⟩
              go_wp2
              go_ret
              exact ⟨rfl, HBW.out⟩
          · rw [if_neg (fun h => c1 h.2)] at h3
            obtain ⟨rfl, rfl⟩ := Prod.mk.inj h3
            clear h3
            have hF : T = false := by rw [← HL.out]; unfold leafOk; rw [decide_eq_false c1]; rfl
            subst hF
            clear h16 c1
            rcases hz' with ⟨z1, z2⟩ | z1
            · have z3 : x.2.toList.isEmpty = false := by simpa using z2
              go_enter Tryd.func12, Tryd.ntmps12
              go_wp2_with fail
              refine (isMark_t _ _ H16.out).mono ?_
              rintro e w1 ⟨rfl, rfl⟩
              go_wp2_with fail
              refine (refMarks_any P A cap _ (HM.out.below HBW.out) hl).mono ?_
              rintro e w1 ⟨rfl, rfl⟩
              rw [HMK.out]
              go_wp2_with fail
              refine (refCommon_is ix x.1 _ _ _ H3.out).mono ?_
              rintro e w1 ⟨rfl, rfl⟩
              go_wp2
              go_ret
              exact ⟨rfl, HBW.out⟩
            · skip
              go_enter Tryd.func12, Tryd.ntmps12
              go_wp2_with fail
              refine (isMark_t _ _ H16.out).mono ?_
              rintro e w1 ⟨rfl, rfl⟩
              go_wp2_with fail
              refine (refMarks_any P A cap _ (HM.out.below HBW.out) hl).mono ?_
              rintro e w1 ⟨rfl, rfl⟩
              rw [HMK.out]
              go_wp2_with fail
              refine (refCommon_is ix x.1 _ _ _ H3.out).mono ?_
              rintro e w1 ⟨rfl, rfl⟩
              go_wp2
              go_ret
              exact ⟨rfl, HBW.out⟩
      · have hmk' : marksOk P = false := by simpa using hmk
        have HMK := Lib.hid hmk'
        have hF : T = false := by rw [← HT.out]; unfold rightProof; rw [hmk']; simp
        subst hF
        clear h16 hmk hmk'
        go_enter Tryd.func12, Tryd.ntmps12
        go_wp2_with fail
        refine (isMark_t _ _ H16.out).mono ?_
        rintro e w1 ⟨rfl, rfl⟩
        go_wp2_with fail
        refine (refMarks_any P A cap _ (HM.out.below HBW.out) hl).mono ?_
        rintro e w1 ⟨rfl, rfl⟩
        rw [HMK.out]
        go_wp2
        go_ret
        exact ⟨rfl, HBW.out⟩
  · have H16 := Lib.hid h16
    have hF : T = false := by rw [← HT.out]; unfold rightProof; rw [decide_eq_false h16]; rfl
    subst hF
    clear h16
    go_enter Tryd.func12, Tryd.ntmps12
    go_wp2_with fail
    refine (isMark_f _ _ H16.out).mono ?_
    rintro e w1 ⟨rfl, rfl⟩
    go_wp2
    go_ret
    exact ⟨rfl, HBW.out⟩
end Go.Proofs.YtenlpbcembadcaaDoor
