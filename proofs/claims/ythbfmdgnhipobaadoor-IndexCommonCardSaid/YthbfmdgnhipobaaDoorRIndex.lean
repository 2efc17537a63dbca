/- The document's names and indexes: in, mark, at, Name, Bit, Common. -/
import Derived.Test.YthbfmdgnhipobaaDoorArr
import Derived.Test.YthbfmdgnhipobaaDoorProg
namespace Go.Proofs.YthbfmdgnhipobaaDoor
open Go.RowKit

theorem in_any (n low high : Int) (w : World) : Calls Tryd.prog 24 #[.int .i64 n, .int .i64 low, .int .i64 high] w fun e w' => e = .returned (.bool (decide (low ≤ n) && decide (n ≤ high))) ∧ w' = w := by
  by_cases h1 : low ≤ n
  · by_cases h2 : n ≤ high
    · have e : (decide (low ≤ n) && decide (n ≤ high)) = true := by simp [h1, h2]
      rw [e]
      clear e
      go_enter Tryd.func24, Tryd.ntmps24
      go_wp2
      go_ret
      exact ⟨rfl, rfl⟩
    · have e : (decide (low ≤ n) && decide (n ≤ high)) = false := by simp [h2]
      rw [e]
      clear e
      go_enter Tryd.func24, Tryd.ntmps24
      go_wp2
      go_ret
      exact ⟨rfl, rfl⟩
  · have e : (decide (low ≤ n) && decide (n ≤ high)) = false := by simp [h1]
    rw [e]
    clear e
    go_enter Tryd.func24, Tryd.ntmps24
    go_wp2
    go_ret
    exact ⟨rfl, rfl⟩
theorem isMark_any (s : ByteArray) (w : World) : Calls Tryd.prog 25 #[.string s] w fun e w' => e = .returned (.bool (decide (s.size = 16))) ∧ w' = w := by
  by_cases h : s.size = 16
  · go_enter Tryd.func25, Tryd.ntmps25
    go_wp2
    go_ret
    exact ⟨by simp [h], rfl⟩
  · go_enter Tryd.func25, Tryd.ntmps25
    go_wp2
    go_ret
    refine ⟨?_, rfl⟩
    simp [h]; omega
/-- Bit k of a byte: halved 7 - k % 8 times. -/
def bitOf (l : List UInt8) (k : Nat) : Nat := (l.getD (k / 8) 0).toNat / 2 ^ (7 - k % 8) % 2
set_option maxRecDepth 100000 in
theorem at_any (ix : ByteArray) (k : Nat) (w : World) (h16 : ix.size = 16) (hk : k < 128) :
    Calls Tryd.prog 26 #[.string ix, .int .i64 (k : Int)] w fun e w' => e = .returned (.int .i64 ((bitOf ix.data.toList k : Nat) : Int)) ∧ w' = w := by
  have hlt : k / 8 < ix.size := by omega
  obtain ⟨B, hB⟩ : ∃ B : Nat, ix[k / 8].toNat = B := ⟨_, rfl⟩
  have hB2 : B < 256 := by rw [← hB]; exact ix[k / 8].toNat_lt
  have hw : wrap64 ((ix[k / 8].toNat : Nat) : Int) = (B : Int) := by rw [hB]; simp [wrap64]; omega
  obtain ⟨D, hD⟩ : ∃ D : Nat, 7 - k % 8 = D := ⟨_, rfl⟩
  have hDi : 7 - (k : Int) % 8 = (D : Int) := by omega
  have hbit : bitOf ix.data.toList k = B / 2 ^ D % 2 := by
    unfold bitOf
    rw [hD, ← hB]
    congr 3
    rw [List.getD_eq_getElem?_getD, List.getElem?_eq_getElem (by rw [Array.length_toList]; exact hlt)]; rfl
  have HBIT := Lib.hid hbit
  clear hbit hD
  go_enter Tryd.func26, Tryd.ntmps26
  go_wp2
  go_loopw [5, 14] (fun b i wr => ∃ j d : Nat, j ≤ D ∧ d = B / 2 ^ j ∧ b = .int .i64 (d : Int) ∧ i = .int .i64 (j : Int) ∧ wr = w) (fun _ i _ => D - (intOf i).toNat)
  case atStart => exact ⟨0, B, by omega, by simp, rfl, rfl, rfl⟩
  case round =>
    obtain ⟨j, d, hj, hd, rfl, rfl, rfl⟩ := hrel
    have hdl : d < 256 := by rw [hd]; exact Nat.lt_of_le_of_lt (Nat.div_le_self _ _) hB2
    have HD := Lib.hid hd
    clear hd
    by_cases hjD : j < D
    · go_wp2
      go_roundw
      case rel =>
        refine ⟨j + 1, d / 2, by omega, ?_, by go_num, by go_num, ?_⟩
        · rw [HD.out, Nat.div_div_eq_div_mul, Nat.pow_succ]
        · first | rfl | trivial
      case measure => simp [intOf]; omega
    · have hjd : j = D := by omega
      have HJ := Lib.hid hjd
      clear hjd
      go_wp2
      go_ret
      refine ⟨?_, rfl⟩
      rw [HBIT.out, ← HJ.out, ← HD.out]
      rfl
/-- What a letter of a name may be at a place. -/
def goodAt (l : List UInt8) (i : Nat) : Bool :=
  let c := (l.getD i 0).toNat
  decide (97 ≤ c ∧ c ≤ 122) || (decide (i ≠ 0) && decide (48 ≤ c ∧ c ≤ 57))
def goodUpto (l : List UInt8) (k : Nat) : Bool := (List.range k).all (goodAt l)
def nameOk (l : List UInt8) : Bool := goodUpto l l.length && decide (1 ≤ l.length ∧ l.length ≤ 12)
theorem goodUpto_next (l : List UInt8) (k : Nat) : goodUpto l (k + 1) = (goodUpto l k && goodAt l k) := by unfold goodUpto; simp [List.range_succ]
theorem goodUpto_false {l : List UInt8} {k n : Nat} (h : goodAt l k = false) (hk : k < n) : goodUpto l n = false := by
  unfold goodUpto
  rw [List.all_eq_false]
  exact ⟨k, List.mem_range.2 hk, by simp [h]⟩
set_option maxRecDepth 100000 in
theorem refName_any (s : ByteArray) (w : World) (hs : s.size ≤ 1000000) : Calls Tryd.prog 11 #[.string s] w fun e w' => e = .returned (.bool (nameOk s.data.toList)) ∧ w' = w := by
  go_enter Tryd.func11, Tryd.ntmps11
  go_wp2
  have HL := Lib.hid (show s.data.toList.length = s.size from rfl)
  go_loopw [7] (fun i wr => ∃ k : Nat, k ≤ s.size ∧ i = .int .i64 (k : Int) ∧ wr = w ∧ goodUpto s.data.toList k = true) (fun i _ => s.size - (intOf i).toNat)
  case atStart => exact ⟨0, by omega, rfl, rfl, rfl⟩
  case round =>
    obtain ⟨k, hk, rfl, rfl, hall⟩ := hrel
    have HA := Lib.hid hall
    clear hall
    by_cases hlt : k < s.size
    · by_cases k0 : k = 0
      · subst k0
        obtain ⟨c, hc⟩ : ∃ c : Nat, s[0].toNat = c := ⟨_, rfl⟩
        have hci : ((s[0].toNat : Nat) : Int) = (c : Int) := by rw [hc]
        have HC := Lib.hid (show (s.data.toList.getD 0 0).toNat = c by
          rw [← hc, List.getD_eq_getElem?_getD, List.getElem?_eq_getElem (by rw [Array.length_toList]; exact hlt)]; rfl)
        have hc2 : c < 256 := by rw [← hc]; exact s[0].toNat_lt
        clear hc
        by_cases c1 : 97 ≤ c
        · by_cases c2 : c ≤ 122
          · have ec1 : decide ((97 : Int) ≤ (c : Int)) = true := by simp; omega
            have ec2 : decide ((c : Int) ≤ 122) = true := by simp; omega
            have HG := Lib.hid (show goodUpto s.data.toList (0 + 1) = true by rw [goodUpto_next, HA.out, Bool.true_and]; unfold goodAt; rw [HC.out]; simp; omega)
            go_wp2
            go_roundw
            case rel =>
              refine ⟨0 + 1, by omega, by go_num, ?_, HG.out⟩
              first | rfl | trivial
            case measure => simp [intOf]; omega
          · have ec1 : decide ((97 : Int) ≤ (c : Int)) = true := by simp; omega
            have ec2 : decide ((c : Int) ≤ 122) = false := by simp; omega
            have HF := Lib.hid (show nameOk s.data.toList = false by unfold nameOk; rw [goodUpto_false (k := 0) (by unfold goodAt; rw [HC.out]; simp; omega) (by rw [HL.out]; exact hlt)]; rfl)
            go_wp2
            go_ret
            exact ⟨by rw [HF.out]; rfl, rfl⟩
        · have ec1 : decide ((97 : Int) ≤ (c : Int)) = false := by simp; omega
          have HF := Lib.hid (show nameOk s.data.toList = false by unfold nameOk; rw [goodUpto_false (k := 0) (by unfold goodAt; rw [HC.out]; simp; omega) (by rw [HL.out]; exact hlt)]; rfl)
          go_wp2
          go_ret
          exact ⟨by rw [HF.out]; rfl, rfl⟩
      · have k1 : 0 < k := by omega
        have kz : ((k : Int) == 0) = false := by simp; omega
        clear k0
        obtain ⟨c, hc⟩ : ∃ c : Nat, s[k].toNat = c := ⟨_, rfl⟩
        have hci : ((s[k].toNat : Nat) : Int) = (c : Int) := by rw [hc]
        have HC := Lib.hid (show (s.data.toList.getD k 0).toNat = c by
          rw [← hc, List.getD_eq_getElem?_getD, List.getElem?_eq_getElem (by rw [Array.length_toList]; exact hlt)]; rfl)
        have hc2 : c < 256 := by rw [← hc]; exact s[k].toNat_lt
        clear hc
        by_cases c1 : 97 ≤ c
        · by_cases c2 : c ≤ 122
          · have ec1 : decide ((97 : Int) ≤ (c : Int)) = true := by simp; omega
            have ec2 : decide ((c : Int) ≤ 122) = true := by simp; omega
            have HG := Lib.hid (show goodUpto s.data.toList (k + 1) = true by rw [goodUpto_next, HA.out, Bool.true_and]; unfold goodAt; rw [HC.out]; simp; omega)
            go_wp2
            go_roundw
            case rel =>
              refine ⟨k + 1, by omega, by go_num, ?_, HG.out⟩
              first | rfl | trivial
            case measure => simp [intOf]; omega
          · have ec1 : decide ((97 : Int) ≤ (c : Int)) = true := by simp; omega
            have ec2 : decide ((c : Int) ≤ 122) = false := by simp; omega
            have ec4 : decide ((c : Int) ≤ 57) = false := by simp; omega
            have HF := Lib.hid (show nameOk s.data.toList = false by unfold nameOk; rw [goodUpto_false (k := k) (by unfold goodAt; rw [HC.out]; simp; omega) (by rw [HL.out]; exact hlt)]; rfl)
            go_wp2
            go_ret
            exact ⟨by rw [HF.out]; rfl, rfl⟩
        · by_cases c3 : 48 ≤ c
          · by_cases c4 : c ≤ 57
            · have ec1 : decide ((97 : Int) ≤ (c : Int)) = false := by simp; omega
              have ec3 : decide ((48 : Int) ≤ (c : Int)) = true := by simp; omega
              have ec4 : decide ((c : Int) ≤ 57) = true := by simp; omega
              have HG := Lib.hid (show goodUpto s.data.toList (k + 1) = true by rw [goodUpto_next, HA.out, Bool.true_and]; unfold goodAt; rw [HC.out]; simp; omega)
              go_wp2
              go_roundw
              case rel =>
                refine ⟨k + 1, by omega, by go_num, ?_, HG.out⟩
                first | rfl | trivial
              case measure => simp [intOf]; omega
            · have ec1 : decide ((97 : Int) ≤ (c : Int)) = false := by simp; omega
              have ec3 : decide ((48 : Int) ≤ (c : Int)) = true := by simp; omega
              have ec4 : decide ((c : Int) ≤ 57) = false := by simp; omega
              have HF := Lib.hid (show nameOk s.data.toList = false by unfold nameOk; rw [goodUpto_false (k := k) (by unfold goodAt; rw [HC.out]; simp; omega) (by rw [HL.out]; exact hlt)]; rfl)
              go_wp2
              go_ret
              exact ⟨by rw [HF.out]; rfl, rfl⟩
          · have ec1 : decide ((97 : Int) ≤ (c : Int)) = false := by simp; omega
            have ec3 : decide ((48 : Int) ≤ (c : Int)) = false := by simp; omega
            have HF := Lib.hid (show nameOk s.data.toList = false by unfold nameOk; rw [goodUpto_false (k := k) (by unfold goodAt; rw [HC.out]; simp; omega) (by rw [HL.out]; exact hlt)]; rfl)
            go_wp2
            go_ret
            exact ⟨by rw [HF.out]; rfl, rfl⟩
    · have hkn : k = s.size := by omega
      have HF := Lib.hid (show nameOk s.data.toList = (decide ((1 : Int) ≤ s.size) && decide ((s.size : Int) ≤ 12)) by
        unfold nameOk
        rw [HL.out, ← hkn, HA.out, Bool.true_and, Bool.eq_iff_iff]; simp; omega)
      have HK := Lib.hid hkn
      clear hkn
      go_wp2_with fail
      refine (in_any _ _ _ _).mono ?_
      rintro e w1 ⟨rfl, rfl⟩
      rw [← HF.out]
      go_wp2
      go_ret
      exact ⟨rfl, rfl⟩
set_option maxRecDepth 100000 in
theorem refBit_any (ix : ByteArray) (k : Int) (w : World) :
    Calls Tryd.prog 12 #[.string ix, .int .i64 k] w fun e w' => e = .returned (.tuple (if ix.size = 16 then (if 0 ≤ k ∧ k ≤ 127 then #[.int .i64 ((bitOf ix.data.toList k.toNat : Nat) : Int), .int .i64 0] else #[.int .i64 0, .int .i64 2]) else #[.int .i64 0, .int .i64 1])) ∧ w' = w := by
  by_cases h16 : ix.size = 16
  · rw [if_pos h16]
    by_cases hk : 0 ≤ k ∧ k ≤ 127
    · rw [if_pos hk]
      obtain ⟨m, rfl⟩ : ∃ m : Nat, k = (m : Int) := ⟨k.toNat, by omega⟩
      have hm : m < 128 := by omega
      rw [Int.toNat_natCast]
      have e1 : decide (ix.size = 16) = true := by simp [h16]
      have e2 : (decide ((0 : Int) ≤ (m : Int)) && decide ((m : Int) ≤ 127)) = true := by simp; omega
      have E1 := Lib.hid e1
      have E2 := Lib.hid e2
      clear e1 e2 hk
      go_enter Tryd.func12, Tryd.ntmps12
      go_wp2_with fail
      refine (isMark_any _ _).mono ?_
      rintro e w1 ⟨rfl, rfl⟩
      rw [E1.out]
      go_wp2_with fail
      refine (in_any _ _ _ _).mono ?_
      rintro e w1 ⟨rfl, rfl⟩
      rw [E2.out]
      go_wp2_with fail
      refine (at_any ix m _ h16 hm).mono ?_
      rintro e w1 ⟨rfl, rfl⟩
      go_wp2
      refine bodyPost_ret (results_tmp2 rfl _ _ _) rfl ?_
      exact ⟨rfl, rfl⟩
    · rw [if_neg hk]
      have e1 : decide (ix.size = 16) = true := by simp [h16]
      have e2 : (decide ((0 : Int) ≤ k) && decide (k ≤ 127)) = false := by simp; omega
      have E1 := Lib.hid e1
      have E2 := Lib.hid e2
      clear e1 e2 hk
      go_enter Tryd.func12, Tryd.ntmps12
      go_wp2_with fail
      refine (isMark_any _ _).mono ?_
      rintro e w1 ⟨rfl, rfl⟩
      rw [E1.out]
      go_wp2_with fail
      refine (in_any _ _ _ _).mono ?_
      rintro e w1 ⟨rfl, rfl⟩
      rw [E2.out]
      go_wp2
      refine bodyPost_ret (results_tmp2 rfl _ _ _) rfl ?_
      exact ⟨rfl, rfl⟩
  · rw [if_neg h16]
    have e1 : decide (ix.size = 16) = false := by simp [h16]
    have E1 := Lib.hid e1
    clear e1 h16
    go_enter Tryd.func12, Tryd.ntmps12
    go_wp2_with fail
    refine (isMark_any _ _).mono ?_
    rintro e w1 ⟨rfl, rfl⟩
    rw [E1.out]
    go_wp2
    refine bodyPost_ret (results_tmp2 rfl _ _ _) rfl ?_
    exact ⟨rfl, rfl⟩
end Go.Proofs.YthbfmdgnhipobaaDoor
