/- The program's Name, Bit and Common. -/
import Derived.Test.YthbfmdgnhipobaaDoorIndex
import Derived.Test.YthbfmdgnhipobaaDoorRCommon
namespace Go.Proofs.YthbfmdgnhipobaaDoor
open Go.RowKit

theorem goodAt_is (l : List UInt8) (i : Nat) : goodAt l i = (letterB (l.getD i 0).toNat || (decide (i ≠ 0) && digitB (l.getD i 0).toNat)) := rfl
set_option maxRecDepth 100000 in
theorem name_any (s : ByteArray) (w : World) : Calls Tryd.prog 10 #[.string s] w fun e w' => e = .returned (.bool (nameOk s.data.toList)) ∧ w' = w := by
  have HL := Lib.hid (show s.data.toList.length = s.size from rfl)
  by_cases h1 : s.size < 1
  · have HF := Lib.hid (show nameOk s.data.toList = false by unfold nameOk; rw [HL.out]; simp; omega)
    go_enter Tryd.func10, Tryd.ntmps10
    go_wp2
    go_ret
    exact ⟨by rw [HF.out]; rfl, rfl⟩
  · by_cases h2 : 12 < s.size
    · have HF := Lib.hid (show nameOk s.data.toList = false by unfold nameOk; rw [HL.out]; simp; omega)
      go_enter Tryd.func10, Tryd.ntmps10
      go_wp2
      go_ret
      exact ⟨by rw [HF.out]; rfl, rfl⟩
    · have h0 : 0 < s.size := by omega
      obtain ⟨c, hc⟩ : ∃ c : Nat, s[0].toNat = c := ⟨_, rfl⟩
      have hci : ((s[0].toNat : Nat) : Int) = (c : Int) := by rw [hc]
      have HC := Lib.hid (show (s.data.toList.getD 0 0).toNat = c by
        rw [← hc, List.getD_eq_getElem?_getD, List.getElem?_eq_getElem (by rw [Array.length_toList]; exact h0)]; rfl)
      clear hc
      by_cases hl : letterB c = true
      · have HLT := Lib.hid hl
        clear hl
        go_enter Tryd.func10, Tryd.ntmps10
        go_wp2_with fail
        refine (isLetter_any c _).mono ?_
        rintro e w1 ⟨rfl, rfl⟩
        rw [HLT.out]
        clear hci
        go_wp2
        go_loopw [20] (fun i wr => ∃ k : Nat, k ≤ s.size ∧ i = .int .i64 (k : Int) ∧ wr = w1 ∧ goodUpto s.data.toList k = true) (fun i _ => s.size - (intOf i).toNat)
        case atStart => exact ⟨0, by omega, rfl, rfl, rfl⟩
        case round =>
          obtain ⟨k, hk, rfl, rfl, hall⟩ := hrel
          have HA := Lib.hid hall
          clear hall
          by_cases hlt : k < s.size
          · obtain ⟨d, hd⟩ : ∃ d : Nat, s[k].toNat = d := ⟨_, rfl⟩
            have hdi : ((s[k].toNat : Nat) : Int) = (d : Int) := by rw [hd]
            have HD := Lib.hid (show (s.data.toList.getD k 0).toNat = d by
              rw [← hd, List.getD_eq_getElem?_getD, List.getElem?_eq_getElem (by rw [Array.length_toList]; exact hlt)]; rfl)
            clear hd
            by_cases hl : letterB d = true
            · have HG := Lib.hid (show goodUpto s.data.toList (k + 1) = true by rw [goodUpto_next, HA.out, Bool.true_and, goodAt_is, HD.out, hl]; rfl)
              have HLD := Lib.hid hl
              clear hl
              go_wp2_with fail
              refine (isLetter_any d _).mono ?_
              rintro e w2 ⟨rfl, rfl⟩
              rw [HLD.out]
              go_wp2
              go_roundw
              case rel =>
                refine ⟨k + 1, by omega, by go_num, ?_, HG.out⟩
                first | rfl | trivial
              case measure => simp [intOf]; omega
            · have hl' : letterB d = false := by simpa using hl
              have HLD := Lib.hid hl'
              by_cases hg : digitB d = true
              · have hk0 : k ≠ 0 := by
                  rintro rfl
                  rw [HC.out] at HD
                  rw [← HD.out, HLT.out] at hl'
                  cases hl'
                have HG := Lib.hid (show goodUpto s.data.toList (k + 1) = true by rw [goodUpto_next, HA.out, Bool.true_and, goodAt_is, HD.out, hl', hg]; simpa using hk0)
                have HGD := Lib.hid hg
                clear hl hl' hg hk0
                go_wp2_with fail
                refine (isLetter_any d _).mono ?_
                rintro e w2 ⟨rfl, rfl⟩
                rw [HLD.out]
                go_wp2_with fail
                refine (isDigit_any d _).mono ?_
                rintro e w3 ⟨rfl, rfl⟩
                rw [HGD.out]
                go_wp2
                go_roundw
                case rel =>
                  refine ⟨k + 1, by omega, by go_num, ?_, HG.out⟩
                  first | rfl | trivial
                case measure => simp [intOf]; omega
              · have hg' : digitB d = false := by simpa using hg
                have HF := Lib.hid (show nameOk s.data.toList = false by unfold nameOk; rw [goodUpto_false (k := k) (by rw [goodAt_is, HD.out, hl', hg']; simp) (by rw [HL.out]; exact hlt)]; rfl)
                have HGD := Lib.hid hg'
                clear hl hl' hg hg'
                go_wp2_with fail
                refine (isLetter_any d _).mono ?_
                rintro e w2 ⟨rfl, rfl⟩
                rw [HLD.out]
                go_wp2_with fail
                refine (isDigit_any d _).mono ?_
                rintro e w3 ⟨rfl, rfl⟩
                rw [HGD.out]
                go_wp2
                go_ret
                exact ⟨by rw [HF.out]; rfl, rfl⟩
          · have hkn : k = s.size := by omega
            have HF := Lib.hid (show nameOk s.data.toList = true by
              unfold nameOk
              rw [HL.out, ← hkn, HA.out, Bool.true_and]; simp; omega)
            clear hkn
            go_wp2
            go_ret
            exact ⟨by rw [HF.out]; rfl, rfl⟩
      · have hl' : letterB c = false := by simpa using hl
        have HF := Lib.hid (show nameOk s.data.toList = false by unfold nameOk; rw [goodUpto_false (k := 0) (by rw [goodAt_is, HC.out, hl']; simp) (by rw [HL.out]; exact h0)]; rfl)
        have HLT := Lib.hid hl'
        clear hl hl'
        go_enter Tryd.func10, Tryd.ntmps10
        go_wp2_with fail
        refine (isLetter_any c _).mono ?_
        rintro e w1 ⟨rfl, rfl⟩
        rw [HLT.out]
        go_wp2
        go_ret
        exact ⟨by rw [HF.out]; rfl, rfl⟩

/-- The program's error of this number, or none. -/
def errOf (n : Int) : Value := if n = 0 then .nilIface else .iface 25 (.int .i64 n)
set_option maxRecDepth 100000 in
theorem ixBit_any (ix : ByteArray) (k : Int) (w : World) :
    Calls Tryd.prog 13 #[.string ix, .int .i64 k] w fun e w' => e = .returned (.tuple (if ix.size = 16 then (if 0 ≤ k ∧ k ≤ 127 then #[.int .i64 ((bitOf ix.data.toList k.toNat : Nat) : Int), .nilIface] else #[.int .i64 0, .iface 25 (.int .i64 2)]) else #[.int .i64 0, .iface 25 (.int .i64 1)])) ∧ w' = w := by
  by_cases h16 : ix.size = 16
  · rw [if_pos h16]
    have E1 := Lib.hid (show decide (ix.size = 16) = true by simp [h16])
    by_cases hk : 0 ≤ k ∧ k ≤ 127
    · rw [if_pos hk]
      obtain ⟨m, rfl⟩ : ∃ m : Nat, k = (m : Int) := ⟨k.toNat, by omega⟩
      have hm : m < 128 := by omega
      rw [Int.toNat_natCast]
      clear hk
      go_enter Tryd.func13, Tryd.ntmps13
      go_wp2_with fail
      refine (ixIsMark_any _ _).mono ?_
      rintro e w1 ⟨rfl, rfl⟩
      rw [E1.out]
      go_wp2_with fail
      refine (bit_any ix m _ h16 hm).mono ?_
      rintro e w1 ⟨rfl, rfl⟩
      go_wp2
      refine bodyPost_ret (results_tmp2 rfl _ _ _) rfl ?_
      exact ⟨rfl, rfl⟩
    · rw [if_neg hk]
      by_cases hk0 : k < 0
      · clear hk
        go_enter Tryd.func13, Tryd.ntmps13
        go_wp2_with fail
        refine (ixIsMark_any _ _).mono ?_
        rintro e w1 ⟨rfl, rfl⟩
        rw [E1.out]
        go_wp2
        refine bodyPost_ret (results_tmp2 rfl _ _ _) rfl ?_
        exact ⟨rfl, rfl⟩
      · have hk1 : 0 ≤ k := by omega
        have hk2 : 128 ≤ k := by omega
        clear hk hk0
        go_enter Tryd.func13, Tryd.ntmps13
        go_wp2_with fail
        refine (ixIsMark_any _ _).mono ?_
        rintro e w1 ⟨rfl, rfl⟩
        rw [E1.out]
        go_wp2
        refine bodyPost_ret (results_tmp2 rfl _ _ _) rfl ?_
        exact ⟨rfl, rfl⟩
  · rw [if_neg h16]
    have E1 := Lib.hid (show decide (ix.size = 16) = false by simp [h16])
    clear h16
    go_enter Tryd.func13, Tryd.ntmps13
    go_wp2_with fail
    refine (ixIsMark_any _ _).mono ?_
    rintro e w1 ⟨rfl, rfl⟩
    rw [E1.out]
    go_wp2
    refine bodyPost_ret (results_tmp2 rfl _ _ _) rfl ?_
    exact ⟨rfl, rfl⟩
set_option maxHeartbeats 400000 in
set_option maxRecDepth 100000 in
theorem ixCommon_any (a b : ByteArray) (w : World) :
    Calls Tryd.prog 15 #[.string a, .string b] w fun e w' => e = .returned (.tuple (if a.size = 16 ∧ b.size = 16 then #[.int .i64 ((commonOf a.data.toList b.data.toList : Nat) : Int), .nilIface] else #[.int .i64 0, .iface 25 (.int .i64 1)])) ∧ w' = w := by
  by_cases ha : a.size = 16
  · by_cases hb : b.size = 16
    · rw [if_pos ⟨ha, hb⟩]
      obtain ⟨T, hT⟩ : ∃ T, commonOf a.data.toList b.data.toList = T := ⟨_, rfl⟩
      rw [hT]
      have HT := Lib.hid hT
      clear hT
      have E1 := Lib.hid (show decide (a.size = 16) = true by simp [ha])
      have E2 := Lib.hid (show decide (b.size = 16) = true by simp [hb])
      go_enter Tryd.func15, Tryd.ntmps15
      go_wp2_with fail
      refine (ixIsMark_any _ _).mono ?_
      rintro e w1 ⟨rfl, rfl⟩
      rw [E1.out]
      go_wp2_with fail
      refine (ixIsMark_any _ _).mono ?_
      rintro e w1 ⟨rfl, rfl⟩
      rw [E2.out]
      go_wp2
      go_loopw [16] (fun i wr => ∃ n m : Nat, m + n = 128 ∧ i = .int .i64 (n : Int) ∧ wr = w1 ∧ commonFrom a.data.toList b.data.toList m n = T) (fun i _ => 128 - (intOf i).toNat)
      case atStart => exact ⟨0, 128, rfl, rfl, rfl, HT.out⟩
      case round =>
        obtain ⟨n, m, hn0, rfl, rfl, hc⟩ := hrel
        have hn : n ≤ 128 := by omega
        have HN := Lib.hid hn0
        clear hn0
        have HCO := Lib.hid hc
        clear hc
        by_cases hlt : n < 128
        · obtain ⟨m', rfl⟩ : ∃ m', m = m' + 1 := ⟨m - 1, by have := HN.out; omega⟩
          have hstep : commonFrom a.data.toList b.data.toList (m' + 1) n = if bitOf a.data.toList n = bitOf b.data.toList n then commonFrom a.data.toList b.data.toList m' (n + 1) else n := rfl
          have HST := Lib.hid hstep
          clear hstep
          obtain ⟨p, hp⟩ : ∃ p, bitOf a.data.toList n = p := ⟨_, rfl⟩
          obtain ⟨q, hq⟩ : ∃ q, bitOf b.data.toList n = q := ⟨_, rfl⟩
          have HP := Lib.hid hp
          have HQ := Lib.hid hq
          clear hp hq
          by_cases hpq : p = q
          · subst hpq
            go_wp2_with fail
            refine (bit_any a n _ ha hlt).mono ?_
            rintro e w2 ⟨rfl, rfl⟩
            rw [HP.out]
            go_wp2_with fail
            refine (bit_any b n _ hb hlt).mono ?_
            rintro e w3 ⟨rfl, rfl⟩
            rw [HQ.out]
            go_wp2
            go_roundw
            case rel =>
              refine ⟨n + 1, m', by have := HN.out; omega, by rw [Int.natCast_add]; rfl, ?_, ?_⟩
              · first | rfl | trivial
              · have h1 := HST.out; have h2 := HCO.out
                rw [HP.out, HQ.out, if_pos rfl] at h1
                rw [← h1, h2]
            case measure => simp [intOf]; omega
          · have hpi : ((p : Int) == (q : Int)) = false := by simp; omega
            go_wp2_with fail
            refine (bit_any a n _ ha hlt).mono ?_
            rintro e w2 ⟨rfl, rfl⟩
            rw [HP.out]
            go_wp2_with fail
            refine (bit_any b n _ hb hlt).mono ?_
            rintro e w3 ⟨rfl, rfl⟩
            rw [HQ.out]
            go_wp2
            refine bodyPost_ret (results_tmp2 rfl _ _ _) rfl ?_
            refine ⟨?_, rfl⟩
            have h1 := HST.out; have h2 := HCO.out
            rw [HP.out, HQ.out, if_neg hpq] at h1
            rw [← h2, h1]
            rfl
        · have hn8 : n = 128 := by omega
          have hm0 : m = 0 := by have := HN.out; omega
          subst hm0
          have h3 := Lib.hid (show n = T from HCO.out)
          subst hn8
          go_wp2
          refine bodyPost_ret (results_tmp2 rfl _ _ _) rfl ?_
          refine ⟨?_, rfl⟩
          rw [← h3.out]
          rfl
    · rw [if_neg (fun h => hb h.2)]
      have E1 := Lib.hid (show decide (a.size = 16) = true by simp [ha])
      have E2 := Lib.hid (show decide (b.size = 16) = false by simp [hb])
      clear ha hb
      go_enter Tryd.func15, Tryd.ntmps15
      go_wp2_with fail
      refine (ixIsMark_any _ _).mono ?_
      rintro e w1 ⟨rfl, rfl⟩
      rw [E1.out]
      go_wp2_with fail
      refine (ixIsMark_any _ _).mono ?_
      rintro e w1 ⟨rfl, rfl⟩
      rw [E2.out]
      go_wp2
      refine bodyPost_ret (results_tmp2 rfl _ _ _) rfl ?_
      exact ⟨rfl, rfl⟩
  · rw [if_neg (fun h => ha h.1)]
    have E1 := Lib.hid (show decide (a.size = 16) = false by simp [ha])
    clear ha
    go_enter Tryd.func15, Tryd.ntmps15
    go_wp2_with fail
    refine (ixIsMark_any _ _).mono ?_
    rintro e w1 ⟨rfl, rfl⟩
    rw [E1.out]
    go_wp2
    refine bodyPost_ret (results_tmp2 rfl _ _ _) rfl ?_
    exact ⟨rfl, rfl⟩
end Go.Proofs.YthbfmdgnhipobaaDoor
