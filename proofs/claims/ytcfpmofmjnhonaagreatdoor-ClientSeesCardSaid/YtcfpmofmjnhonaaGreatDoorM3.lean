/- Parts of the proof, one behind the other: RIndex, RCommon, Com, Bits, Rot, Words. -/
import Derived.Test.YtcfpmofmjnhonaaGreatDoorM1
import Derived.Test.YtcfpmofmjnhonaaGreatDoorProg
import Derived.WalkKit
import Derived.Laws.BitsAllLaws
import Derived.WalkLawsBesides
import Derived.Lib.Hide
import Derived.Outline
import Derived.Deep.QuietTactic
import Derived.BigQuiet
import Derived.Laws.CopyOwn
/- The document's names and indexes: in, mark, at, Name, Bit, Common. -/
namespace Go.Proofs.YtcfpmofmjnhonaaGreatDoor
open Go.RowKit

theorem in_any (n low high : Int) (w : World) : Calls Tryz.prog 61 #[.int .i64 n, .int .i64 low, .int .i64 high] w fun e w' => e = .returned (.bool (decide (low ≤ n) && decide (n ≤ high))) ∧ w' = w := by
  by_cases h1 : low ≤ n
  · by_cases h2 : n ≤ high
    · have e : (decide (low ≤ n) && decide (n ≤ high)) = true := by simp [h1, h2]
      rw [e]
      clear e
      go_enter Tryz.func61, Tryz.ntmps61
      go_wp2
      go_ret
      exact ⟨rfl, rfl⟩
    · have e : (decide (low ≤ n) && decide (n ≤ high)) = false := by simp [h2]
      rw [e]
      clear e
      go_enter Tryz.func61, Tryz.ntmps61
      go_wp2
      go_ret
      exact ⟨rfl, rfl⟩
  · have e : (decide (low ≤ n) && decide (n ≤ high)) = false := by simp [h1]
    rw [e]
    clear e
    go_enter Tryz.func61, Tryz.ntmps61
    go_wp2
    go_ret
    exact ⟨rfl, rfl⟩
theorem isMark_any (s : ByteArray) (w : World) : Calls Tryz.prog 51 #[.string s] w fun e w' => e = .returned (.bool (decide (s.size = 16))) ∧ w' = w := by
  by_cases h : s.size = 16
  · go_enter Tryz.func51, Tryz.ntmps51
    go_wp2
    go_ret
    exact ⟨by simp [h], rfl⟩
  · go_enter Tryz.func51, Tryz.ntmps51
    go_wp2
    go_ret
    refine ⟨?_, rfl⟩
    simp [h]; omega
/-- Bit k of a byte: halved 7 - k % 8 times. -/
def bitOf (l : List UInt8) (k : Nat) : Nat := (l.getD (k / 8) 0).toNat / 2 ^ (7 - k % 8) % 2
set_option maxRecDepth 100000 in
theorem at_any (ix : ByteArray) (k : Nat) (w : World) (h16 : ix.size = 16) (hk : k < 128) :
    Calls Tryz.prog 124 #[.string ix, .int .i64 (k : Int)] w fun e w' => e = .returned (.int .i64 ((bitOf ix.data.toList k : Nat) : Int)) ∧ w' = w := by
  have hlt : k / 8 < ix.size := by omega
  obtain ⟨B, hB⟩ : ∃ B : Nat, ix[k / 8].toNat = B := ⟨_, rfl⟩
  have hB2 : B < 256 := by rw [← hB]; exact ix[k / 8].toNat_lt
  have hw : wrap64 ((ix[k / 8].toNat : Nat) : Int) = (B : Int) := by rw [hB]; simp [wrap64]; omega
  obtain ⟨D, hD⟩ : ∃ D : Nat, 7 - k % 8 = D := ⟨_, rfl⟩
  have hDi : 7 - (k : Int) % 8 = (D : Int) := by omega
  have hbit : bitOf ix.data.toList k = B / 2 ^ D % 2 := by
    unfold bitOf
    rw [hD, ← hB]
    congr 3
    rw [List.getD_eq_getElem?_getD, List.getElem?_eq_getElem (by rw [Array.length_toList]; exact hlt)]; rfl
  have HBIT := Lib.hid hbit
  clear hbit hD
  go_enter Tryz.func124, Tryz.ntmps124
  go_wp2
  go_loopw [5, 14] (fun b i wr => ∃ j d : Nat, j ≤ D ∧ d = B / 2 ^ j ∧ b = .int .i64 (d : Int) ∧ i = .int .i64 (j : Int) ∧ wr = w) (fun _ i _ => D - (intOf i).toNat)
  case atStart => exact ⟨0, B, by omega, by simp, rfl, rfl, rfl⟩
  case round =>
    obtain ⟨j, d, hj, hd, rfl, rfl, rfl⟩ := hrel
    have hdl : d < 256 := by rw [hd]; exact Nat.lt_of_le_of_lt (Nat.div_le_self _ _) hB2
    have HD := Lib.hid hd
    clear hd
    by_cases hjD : j < D
    · go_wp2
      go_roundw
      case rel =>
        refine ⟨j + 1, d / 2, by omega, ?_, by go_num, by go_num, ?_⟩
        · rw [HD.out, Nat.div_div_eq_div_mul, Nat.pow_succ]
        · first | rfl | trivial
      case measure => simp [intOf]; omega
    · have hjd : j = D := by omega
      have HJ := Lib.hid hjd
      clear hjd
      go_wp2
      go_ret
      refine ⟨?_, rfl⟩
      rw [HBIT.out, ← HJ.out, ← HD.out]
      rfl
/-- What a letter of a name may be at a place. -/
def goodAt (l : List UInt8) (i : Nat) : Bool :=
  let c := (l.getD i 0).toNat
  decide (97 ≤ c ∧ c ≤ 122) || (decide (i ≠ 0) && decide (48 ≤ c ∧ c ≤ 57))
def goodUpto (l : List UInt8) (k : Nat) : Bool := (List.range k).all (goodAt l)
def nameOk (l : List UInt8) : Bool := goodUpto l l.length && decide (1 ≤ l.length ∧ l.length ≤ 12)
theorem goodUpto_next (l : List UInt8) (k : Nat) : goodUpto l (k + 1) = (goodUpto l k && goodAt l k) := by unfold goodUpto; simp [List.range_succ]
theorem goodUpto_false {l : List UInt8} {k n : Nat} (h : goodAt l k = false) (hk : k < n) : goodUpto l n = false := by
  unfold goodUpto
  rw [List.all_eq_false]
  exact ⟨k, List.mem_range.2 hk, by simp [h]⟩
set_option maxRecDepth 100000 in
theorem refName_any (s : ByteArray) (w : World) (hs : s.size ≤ 1000000) : Calls Tryz.prog 60 #[.string s] w fun e w' => e = .returned (.bool (nameOk s.data.toList)) ∧ w' = w := by
  go_enter Tryz.func60, Tryz.ntmps60
  go_wp2
  have HL := Lib.hid (show s.data.toList.length = s.size from rfl)
  go_loopw [7] (fun i wr => ∃ k : Nat, k ≤ s.size ∧ i = .int .i64 (k : Int) ∧ wr = w ∧ goodUpto s.data.toList k = true) (fun i _ => s.size - (intOf i).toNat)
  case atStart => exact ⟨0, by omega, rfl, rfl, rfl⟩
  case round =>
    obtain ⟨k, hk, rfl, rfl, hall⟩ := hrel
    have HA := Lib.hid hall
    clear hall
    by_cases hlt : k < s.size
    · by_cases k0 : k = 0
      · subst k0
        obtain ⟨c, hc⟩ : ∃ c : Nat, s[0].toNat = c := ⟨_, rfl⟩
        have hci : ((s[0].toNat : Nat) : Int) = (c : Int) := by rw [hc]
        have HC := Lib.hid (show (s.data.toList.getD 0 0).toNat = c by
          rw [← hc, List.getD_eq_getElem?_getD, List.getElem?_eq_getElem (by rw [Array.length_toList]; exact hlt)]; rfl)
        have hc2 : c < 256 := by rw [← hc]; exact s[0].toNat_lt
        clear hc
        by_cases c1 : 97 ≤ c
        · by_cases c2 : c ≤ 122
          · have ec1 : decide ((97 : Int) ≤ (c : Int)) = true := by simp; omega
            have ec2 : decide ((c : Int) ≤ 122) = true := by simp; omega
            have HG := Lib.hid (show goodUpto s.data.toList (0 + 1) = true by rw [goodUpto_next, HA.out, Bool.true_and]; unfold goodAt; rw [HC.out]; simp; omega)
            go_wp2
            go_roundw
            case rel =>
              refine ⟨0 + 1, by omega, by go_num, ?_, HG.out⟩
              first | rfl | trivial
            case measure => simp [intOf]; omega
          · have ec1 : decide ((97 : Int) ≤ (c : Int)) = true := by simp; omega
            have ec2 : decide ((c : Int) ≤ 122) = false := by simp; omega
            have HF := Lib.hid (show nameOk s.data.toList = false by unfold nameOk; rw [goodUpto_false (k := 0) (by unfold goodAt; rw [HC.out]; simp; omega) (by rw [HL.out]; exact hlt)]; rfl)
            go_wp2
            go_ret
            exact ⟨by rw [HF.out]; rfl, rfl⟩
        · have ec1 : decide ((97 : Int) ≤ (c : Int)) = false := by simp; omega
          have HF := Lib.hid (show nameOk s.data.toList = false by unfold nameOk; rw [goodUpto_false (k := 0) (by unfold goodAt; rw [HC.out]; simp; omega) (by rw [HL.out]; exact hlt)]; rfl)
          go_wp2
          go_ret
          exact ⟨by rw [HF.out]; rfl, rfl⟩
      · have k1 : 0 < k := by omega
        have kz : ((k : Int) == 0) = false := by simp; omega
        clear k0
        obtain ⟨c, hc⟩ : ∃ c : Nat, s[k].toNat = c := ⟨_, rfl⟩
        have hci : ((s[k].toNat : Nat) : Int) = (c : Int) := by rw [hc]
        have HC := Lib.hid (show (s.data.toList.getD k 0).toNat = c by
          rw [← hc, List.getD_eq_getElem?_getD, List.getElem?_eq_getElem (by rw [Array.length_toList]; exact hlt)]; rfl)
        have hc2 : c < 256 := by rw [← hc]; exact s[k].toNat_lt
        clear hc
        by_cases c1 : 97 ≤ c
        · by_cases c2 : c ≤ 122
          · have ec1 : decide ((97 : Int) ≤ (c : Int)) = true := by simp; omega
            have ec2 : decide ((c : Int) ≤ 122) = true := by simp; omega
            have HG := Lib.hid (show goodUpto s.data.toList (k + 1) = true by rw [goodUpto_next, HA.out, Bool.true_and]; unfold goodAt; rw [HC.out]; simp; omega)
            go_wp2
            go_roundw
            case rel =>
              refine ⟨k + 1, by omega, by go_num, ?_, HG.out⟩
              first | rfl | trivial
            case measure => simp [intOf]; omega
          · have ec1 : decide ((97 : Int) ≤ (c : Int)) = true := by simp; omega
            have ec2 : decide ((c : Int) ≤ 122) = false := by simp; omega
            have ec4 : decide ((c : Int) ≤ 57) = false := by simp; omega
            have HF := Lib.hid (show nameOk s.data.toList = false by unfold nameOk; rw [goodUpto_false (k := k) (by unfold goodAt; rw [HC.out]; simp; omega) (by rw [HL.out]; exact hlt)]; rfl)
            go_wp2
            go_ret
            exact ⟨by rw [HF.out]; rfl, rfl⟩
        · by_cases c3 : 48 ≤ c
          · by_cases c4 : c ≤ 57
            · have ec1 : decide ((97 : Int) ≤ (c : Int)) = false := by simp; omega
              have ec3 : decide ((48 : Int) ≤ (c : Int)) = true := by simp; omega
              have ec4 : decide ((c : Int) ≤ 57) = true := by simp; omega
              have HG := Lib.hid (show goodUpto s.data.toList (k + 1) = true by rw [goodUpto_next, HA.out, Bool.true_and]; unfold goodAt; rw [HC.out]; simp; omega)
              go_wp2
              go_roundw
              case rel =>
                refine ⟨k + 1, by omega, by go_num, ?_, HG.out⟩
                first | rfl | trivial
              case measure => simp [intOf]; omega
            · have ec1 : decide ((97 : Int) ≤ (c : Int)) = false := by simp; omega
              have ec3 : decide ((48 : Int) ≤ (c : Int)) = true := by simp; omega
              have ec4 : decide ((c : Int) ≤ 57) = false := by simp; omega
              have HF := Lib.hid (show nameOk s.data.toList = false by unfold nameOk; rw [goodUpto_false (k := k) (by unfold goodAt; rw [HC.out]; simp; omega) (by rw [HL.out]; exact hlt)]; rfl)
              go_wp2
              go_ret
              exact ⟨by rw [HF.out]; rfl, rfl⟩
          · have ec1 : decide ((97 : Int) ≤ (c : Int)) = false := by simp; omega
            have ec3 : decide ((48 : Int) ≤ (c : Int)) = false := by simp; omega
            have HF := Lib.hid (show nameOk s.data.toList = false by unfold nameOk; rw [goodUpto_false (k := k) (by unfold goodAt; rw [HC.out]; simp; omega) (by rw [HL.out]; exact hlt)]; rfl)
            go_wp2
            go_ret
            exact ⟨by rw [HF.out]; rfl, rfl⟩
    · have hkn : k = s.size := by omega
      have HF := Lib.hid (show nameOk s.data.toList = (decide ((1 : Int) ≤ s.size) && decide ((s.size : Int) ≤ 12)) by
        unfold nameOk
        rw [HL.out, ← hkn, HA.out, Bool.true_and, Bool.eq_iff_iff]; simp; omega)
      have HK := Lib.hid hkn
      clear hkn
      go_wp2_with fail
      refine (in_any _ _ _ _).mono ?_
      rintro e w1 ⟨rfl, rfl⟩
      rw [← HF.out]
      go_wp2
      go_ret
      exact ⟨rfl, rfl⟩
end Go.Proofs.YtcfpmofmjnhonaaGreatDoor
/- The document's Common. -/
namespace Go.Proofs.YtcfpmofmjnhonaaGreatDoor
open Go.RowKit

def commonFrom (A B : List UInt8) : Nat → Nat → Nat
  | 0, n => n
  | f + 1, n => if bitOf A n = bitOf B n then commonFrom A B f (n + 1) else n
def commonOf (A B : List UInt8) : Nat := commonFrom A B 128 0
set_option maxHeartbeats 400000 in
set_option maxRecDepth 100000 in
theorem refCommon_any (a b : ByteArray) (w : World) :
    Calls Tryz.prog 233 #[.string a, .string b] w fun e w' => e = .returned (.tuple (if a.size = 16 ∧ b.size = 16 then #[.int .i64 ((commonOf a.data.toList b.data.toList : Nat) : Int), .int .i64 0] else #[.int .i64 0, .int .i64 1])) ∧ w' = w := by
  by_cases ha : a.size = 16
  · by_cases hb : b.size = 16
    · rw [if_pos ⟨ha, hb⟩]
      obtain ⟨T, hT⟩ : ∃ T, commonOf a.data.toList b.data.toList = T := ⟨_, rfl⟩
      rw [hT]
      have HT := Lib.hid hT
      clear hT
      have E1 := Lib.hid (show decide (a.size = 16) = true by simp [ha])
      have E2 := Lib.hid (show decide (b.size = 16) = true by simp [hb])
      go_enter Tryz.func233, Tryz.ntmps233
      go_wp2_with fail
      refine (isMark_any _ _).mono ?_
      rintro e w1 ⟨rfl, rfl⟩
      rw [E1.out]
      go_wp2_with fail
      refine (isMark_any _ _).mono ?_
      rintro e w1 ⟨rfl, rfl⟩
      rw [E2.out]
      go_wp2
      go_loopw [6] (fun i wr => ∃ n m : Nat, m + n = 128 ∧ i = .int .i64 (n : Int) ∧ wr = w1 ∧ commonFrom a.data.toList b.data.toList m n = T) (fun i _ => 128 - (intOf i).toNat)
      case atStart => exact ⟨0, 128, rfl, rfl, rfl, HT.out⟩
      case round =>
        obtain ⟨n, m, hn0, rfl, rfl, hc⟩ := hrel
        have hn : n ≤ 128 := by omega
        have HN := Lib.hid hn0
        clear hn0
        have HCO := Lib.hid hc
        clear hc
        by_cases hlt : n < 128
        · obtain ⟨m', rfl⟩ : ∃ m', m = m' + 1 := ⟨m - 1, by have := HN.out; omega⟩
          have hstep : commonFrom a.data.toList b.data.toList (m' + 1) n = if bitOf a.data.toList n = bitOf b.data.toList n then commonFrom a.data.toList b.data.toList m' (n + 1) else n := rfl
          have HST := Lib.hid hstep
          clear hstep
          obtain ⟨p, hp⟩ : ∃ p, bitOf a.data.toList n = p := ⟨_, rfl⟩
          obtain ⟨q, hq⟩ : ∃ q, bitOf b.data.toList n = q := ⟨_, rfl⟩
          have HP := Lib.hid hp
          have HQ := Lib.hid hq
          clear hp hq
          by_cases hpq : p = q
          · subst hpq
            go_wp2_with fail
            refine (at_any a n _ ha hlt).mono ?_
            rintro e w2 ⟨rfl, rfl⟩
            rw [HP.out]
            go_wp2_with fail
            refine (at_any b n _ hb hlt).mono ?_
            rintro e w3 ⟨rfl, rfl⟩
            rw [HQ.out]
            go_wp2
            go_roundw
            case rel =>
              refine ⟨n + 1, m', by have := HN.out; omega, by rw [Int.natCast_add]; rfl, ?_, ?_⟩
              · first | rfl | trivial
              · have h1 := HST.out; have h2 := HCO.out
                rw [HP.out, HQ.out, if_pos rfl] at h1
                rw [← h1, h2]
            case measure => simp [intOf]; omega
          · have hpi : ((p : Int) == (q : Int)) = false := by simp; omega
            go_wp2_with fail
            refine (at_any a n _ ha hlt).mono ?_
            rintro e w2 ⟨rfl, rfl⟩
            rw [HP.out]
            go_wp2_with fail
            refine (at_any b n _ hb hlt).mono ?_
            rintro e w3 ⟨rfl, rfl⟩
            rw [HQ.out]
            go_wp2
            refine bodyPost_ret (results_tmp2 rfl _ _ _) rfl ?_
            refine ⟨?_, rfl⟩
            have h1 := HST.out; have h2 := HCO.out
            rw [HP.out, HQ.out, if_neg hpq] at h1
            rw [← h2, h1]
            rfl
        · have hn8 : n = 128 := by omega
          have hm0 : m = 0 := by have := HN.out; omega
          subst hm0
          have h3 := Lib.hid (show n = T from HCO.out)
          subst hn8
          go_wp2
          refine bodyPost_ret (results_tmp2 rfl _ _ _) rfl ?_
          refine ⟨?_, rfl⟩
          rw [← h3.out]
          rfl
    · rw [if_neg (fun h => hb h.2)]
      have E1 := Lib.hid (show decide (a.size = 16) = true by simp [ha])
      have E2 := Lib.hid (show decide (b.size = 16) = false by simp [hb])
      clear ha hb
      go_enter Tryz.func233, Tryz.ntmps233
      go_wp2_with fail
      refine (isMark_any _ _).mono ?_
      rintro e w1 ⟨rfl, rfl⟩
      rw [E1.out]
      go_wp2_with fail
      refine (isMark_any _ _).mono ?_
      rintro e w1 ⟨rfl, rfl⟩
      rw [E2.out]
      go_wp2
      refine bodyPost_ret (results_tmp2 rfl _ _ _) rfl ?_
      exact ⟨rfl, rfl⟩
  · rw [if_neg (fun h => ha h.1)]
    have E1 := Lib.hid (show decide (a.size = 16) = false by simp [ha])
    clear ha
    go_enter Tryz.func233, Tryz.ntmps233
    go_wp2_with fail
    refine (isMark_any _ _).mono ?_
    rintro e w1 ⟨rfl, rfl⟩
    rw [E1.out]
    go_wp2
    refine bodyPost_ret (results_tmp2 rfl _ _ _) rfl ?_
    exact ⟨rfl, rfl⟩
end Go.Proofs.YtcfpmofmjnhonaaGreatDoor
/- How far two indexes are alike: plain facts of commonOf. -/
namespace Go.Proofs.YtcfpmofmjnhonaaGreatDoor

theorem bitOf_lt (l : List UInt8) (k : Nat) : bitOf l k < 2 := by unfold bitOf; exact Nat.mod_lt _ (by decide)
theorem commonFrom_le (A B : List UInt8) : ∀ f n, commonFrom A B f n ≤ n + f
  | 0, n => Nat.le_refl _
  | f + 1, n => by
    unfold commonFrom
    split
    · have := commonFrom_le A B f (n + 1); omega
    · omega
theorem commonFrom_ge (A B : List UInt8) : ∀ f n, n ≤ commonFrom A B f n
  | 0, n => Nat.le_refl _
  | f + 1, n => by
    unfold commonFrom
    split
    · have := commonFrom_ge A B f (n + 1); omega
    · omega
theorem commonFrom_same (A B : List UInt8) : ∀ f n k, n ≤ k → k < commonFrom A B f n → bitOf A k = bitOf B k
  | 0, n, k, h1, h2 => by unfold commonFrom at h2; omega
  | f + 1, n, k, h1, h2 => by
    unfold commonFrom at h2
    split at h2
    · rename_i h
      by_cases e : k = n
      · rw [e]; exact h
      · exact commonFrom_same A B f (n + 1) k (by omega) h2
    · omega
theorem commonFrom_other (A B : List UInt8) : ∀ f n, commonFrom A B f n < n + f → bitOf A (commonFrom A B f n) ≠ bitOf B (commonFrom A B f n)
  | 0, n, h => by unfold commonFrom at h; omega
  | f + 1, n, h => by
    by_cases e : bitOf A n = bitOf B n
    · have e1 : commonFrom A B (f + 1) n = commonFrom A B f (n + 1) := by rw [commonFrom, if_pos e]
      rw [e1] at h ⊢
      exact commonFrom_other A B f (n + 1) (by omega)
    · have e1 : commonFrom A B (f + 1) n = n := by rw [commonFrom, if_neg e]
      rw [e1]; exact e
theorem commonOf_le (A B : List UInt8) : commonOf A B ≤ 128 := by have := commonFrom_le A B 128 0; unfold commonOf; omega
theorem commonOf_same (A B : List UInt8) (k : Nat) (h : k < commonOf A B) : bitOf A k = bitOf B k := commonFrom_same A B 128 0 k (Nat.zero_le _) h
theorem commonOf_other (A B : List UInt8) (h : commonOf A B < 128) : bitOf A (commonOf A B) ≠ bitOf B (commonOf A B) := commonFrom_other A B 128 0 (by unfold commonOf at h; omega)
/-- Just so many, and no other number. -/
theorem commonOf_is (A B : List UInt8) (n : Nat) (hn : n ≤ 128) (h : ∀ k, k < n → bitOf A k = bitOf B k) (ho : n < 128 → bitOf A n ≠ bitOf B n) : commonOf A B = n := by
  rcases Nat.lt_trichotomy (commonOf A B) n with hl | he | hg
  · exact absurd (h _ hl) (commonOf_other A B (by omega))
  · exact he
  · exact absurd (commonOf_same A B n hg) (ho (by have := commonOf_le A B; omega))
theorem commonOf_ge (A B : List UInt8) (n : Nat) (hn : n ≤ 128) (h : ∀ k, k < n → bitOf A k = bitOf B k) : n ≤ commonOf A B := by
  rcases Nat.lt_or_ge (commonOf A B) n with hl | hg
  · exact absurd (h _ hl) (commonOf_other A B (by omega))
  · exact hg
/-- Of three two are as far alike as the two others, or farther than both. -/
theorem commonOf_three (A B C : List UInt8) : min (commonOf A B) (commonOf B C) ≤ commonOf A C ∧ (commonOf A B = commonOf B C ∨ commonOf A C = min (commonOf A B) (commonOf B C)) := by
  have l1 := commonOf_le A B
  have l2 := commonOf_le B C
  constructor
  · exact commonOf_ge A C _ (by omega) (fun k hk => (commonOf_same A B k (by omega)).trans (commonOf_same B C k (by omega)))
  · rcases Nat.lt_trichotomy (commonOf A B) (commonOf B C) with hl | he | hg
    · right
      rw [Nat.min_eq_left (by omega)]
      refine commonOf_is A C _ l1 (fun k hk => (commonOf_same A B k hk).trans (commonOf_same B C k (by omega))) (fun h e => ?_)
      exact commonOf_other A B h (e.trans (commonOf_same B C _ hl).symm)
    · exact .inl he
    · right
      rw [Nat.min_eq_right (by omega)]
      refine commonOf_is A C _ l2 (fun k hk => (commonOf_same A B k (by omega)).trans (commonOf_same B C k hk)) (fun h e => ?_)
      exact commonOf_other B C h ((commonOf_same A B _ hg).symm.trans e)
theorem byte_of_bits (x y : Nat) (hx : x < 256) (hy : y < 256) (h : ∀ j, j < 8 → x / 2 ^ (7 - j) % 2 = y / 2 ^ (7 - j) % 2) : x = y := by
  have h0 := h 0 (by omega); have h1 := h 1 (by omega); have h2 := h 2 (by omega); have h3 := h 3 (by omega)
  have h4 := h 4 (by omega); have h5 := h 5 (by omega); have h6 := h 6 (by omega); have h7 := h 7 (by omega)
  simp at h0 h1 h2 h3 h4 h5 h6 h7
  omega
theorem commonOf_all (A B : List UInt8) (ha : A.length = 16) (hb : B.length = 16) : commonOf A B = 128 ↔ A = B := by
  constructor
  · intro h
    apply List.ext_getElem (by omega)
    intro i hi hi'
    apply UInt8.toNat_inj.1
    refine byte_of_bits _ _ (UInt8.toNat_lt _) (UInt8.toNat_lt _) (fun j hj => ?_)
    have e := commonOf_same A B (8 * i + j) (by omega)
    unfold bitOf at e
    rw [show (8 * i + j) / 8 = i by omega, show (8 * i + j) % 8 = j by omega] at e
    simpa [List.getD_eq_getElem?_getD, hi, hi'] using e
  · rintro rfl
    exact commonOf_is A A 128 (Nat.le_refl _) (fun _ _ => rfl) (fun h => by omega)
/-- Where only the first byte is told. -/
theorem bitOf_head (x : UInt8) (l : List UInt8) (k : Nat) (hk : k < 8) : bitOf (x :: l) k = x.toNat / 2 ^ (7 - k) % 2 := by
  unfold bitOf
  rw [show k / 8 = 0 by omega, show k % 8 = k by omega]; rfl
theorem common_three (l : List UInt8) : commonOf (0x80 :: l) (0x90 :: l) = 3 := by
  refine commonOf_is _ _ 3 (by omega) (fun k hk => ?_) (fun _ => ?_)
  · rw [bitOf_head _ _ _ (by omega), bitOf_head _ _ _ (by omega)]
    match k, hk with
    | 0, _ => decide
    | 1, _ => decide
    | 2, _ => decide
  · rw [bitOf_head _ _ _ (by omega), bitOf_head _ _ _ (by omega)]; decide
end Go.Proofs.YtcfpmofmjnhonaaGreatDoor
/- Plain words of 32 bits as the walk shows them. No program is imported. -/
namespace Go.Proofs.YtcfpmofmjnhonaaGreatDoor
open Go.RowKit

/-- A word as a number of the model. -/
def W32 (x : BitVec 32) : Int := (x.toNat : Int)
theorem W32_nonneg (x : BitVec 32) : 0 ≤ W32 x := Int.natCast_nonneg _
theorem W32_lt (x : BitVec 32) : W32 x < 4294967296 := by unfold W32; have := x.isLt; omega
theorem W32_inj {x y : BitVec 32} (h : W32 x = W32 y) : x = y := by unfold W32 at h; apply BitVec.eq_of_toNat_eq; omega
theorem W32_of (n : Int) (h0 : 0 ≤ n) (h1 : n < 4294967296) : W32 (BitVec.ofNat 32 n.toNat) = n := by
  unfold W32; rw [BitVec.toNat_ofNat]; omega
theorem W32_ofNat (n : Nat) (h1 : n < 4294967296) : W32 (BitVec.ofNat 32 n) = (n : Int) := by
  unfold W32; rw [BitVec.toNat_ofNat]; omega

theorem w_add (a b : BitVec 32) : (W32 a + W32 b) % 4294967296 = W32 (a + b) := by
  unfold W32; rw [BitVec.toNat_add]; omega
theorem w_mul (a b : BitVec 32) : (W32 a * W32 b) % 4294967296 = W32 (a * b) := by
  unfold W32; rw [BitVec.toNat_mul]; simp
theorem w_xor (a b : BitVec 32) : bits BinOp.xor IntKind.u32 (W32 a) (W32 b) = W32 (a ^^^ b) := by
  unfold W32; rw [u32_xor_nat _ _ a.isLt b.isLt, BitVec.toNat_xor]
theorem w_and (a b : BitVec 32) : bits BinOp.and IntKind.u32 (W32 a) (W32 b) = W32 (a &&& b) := by
  unfold W32; rw [u32_and_nat _ _ a.isLt b.isLt, BitVec.toNat_and]
theorem w_or (a b : BitVec 32) : bits BinOp.or IntKind.u32 (W32 a) (W32 b) = W32 (a ||| b) := by
  unfold W32; rw [u32_or_nat _ _ a.isLt b.isLt, BitVec.toNat_or]
theorem w_andNot (a b : BitVec 32) : bits BinOp.andNot IntKind.u32 (W32 a) (W32 b) = W32 (a &&& ~~~b) := by
  unfold W32; rw [u32_andNot_nat _ _ a.isLt b.isLt, BitVec.toNat_and, BitVec.toNat_not]
theorem w_shl (a : BitVec 32) (n : Nat) : (W32 a * 2 ^ n) % 4294967296 = W32 (a <<< n) := by
  unfold W32; rw [BitVec.toNat_shiftLeft, Nat.shiftLeft_eq]; simp [Int.natCast_emod]
theorem w_shr (a : BitVec 32) (n : Nat) : W32 a / 2 ^ n = W32 (a >>> n) := by
  unfold W32; rw [BitVec.toNat_ushiftRight, Nat.shiftRight_eq_div_pow]; simp

theorem w_shr3 (a : BitVec 32) : W32 a / (8 : Int) = W32 (a >>> 3) := w_shr a 3
theorem w_shr10 (a : BitVec 32) : W32 a / (1024 : Int) = W32 (a >>> 10) := w_shr a 10
theorem w_sum3 (a b c : BitVec 32) : (W32 a + W32 b + W32 c) % (4294967296 : Int) = W32 (a + b + c) := by
  rw [← w_add, ← w_add]; omega
theorem w_sum4 (a b c d : BitVec 32) : (W32 a + W32 b + W32 c + W32 d) % (4294967296 : Int) = W32 (a + b + c + d) := by
  rw [← w_add, ← w_sum3]; omega
theorem w_sum5 (a b c d e : BitVec 32) : (W32 a + W32 b + W32 c + W32 d + W32 e) % (4294967296 : Int) = W32 (a + b + c + d + e) := by
  rw [← w_add, ← w_sum4]; omega
theorem w_t1 (a b c d e : BitVec 32) : (W32 a + W32 b + (W32 c + W32 d + W32 e)) % (4294967296 : Int) = W32 ((a + b) + ((c + d) + e)) := by
  rw [← w_add (a + b), ← w_sum3 c, ← w_add a]; omega
/-- A rotation, as both texts mean it: by n to the right. -/
def ror (x : BitVec 32) (n : Nat) : BitVec 32 := (x >>> n) ||| (x <<< (32 - n))
theorem ror_or (x : BitVec 32) (n m : Nat) (h : n + m = 32) : (x <<< m) ||| (x >>> n) = ror x n := by
  unfold ror; rw [show 32 - n = m from by omega, BitVec.or_comm]
theorem ror_add (x : BitVec 32) (n m : Nat) (h : n + m = 32) : (x >>> n) + (x <<< m) = ror x n := by
  unfold ror; rw [show 32 - n = m from by omega]
  apply BitVec.add_eq_or_of_and_eq_zero
  ext i hi
  simp
  intro h1 h2
  exfalso
  rcases Nat.lt_or_ge (n + i) 32 with h3 | h3
  · omega
  · rw [BitVec.getLsbD_of_ge x _ h3] at h1; cases h1

def ch (e f g : BitVec 32) : BitVec 32 := (e &&& f) ^^^ (g &&& ~~~e)
def maj (a b c : BitVec 32) : BitVec 32 := ((a &&& b) ^^^ (a &&& c)) ^^^ (b &&& c)
theorem ch_alt (e f g : BitVec 32) : g ^^^ (e &&& (f ^^^ g)) = ch e f g := by
  unfold ch; ext i hi; simp; cases e[i] <;> cases f[i] <;> cases g[i] <;> rfl
theorem maj_alt (a b c : BitVec 32) : (a &&& b) ||| (c &&& (a ||| b)) = maj a b c := by
  unfold maj; ext i hi; simp; cases a[i] <;> cases b[i] <;> cases c[i] <;> rfl
def S0 (x : BitVec 32) : BitVec 32 := (ror x 2 ^^^ ror x 13) ^^^ ror x 22
def S1 (x : BitVec 32) : BitVec 32 := (ror x 6 ^^^ ror x 11) ^^^ ror x 25
def s0 (x : BitVec 32) : BitVec 32 := (ror x 7 ^^^ ror x 18) ^^^ (x >>> 3)
def s1 (x : BitVec 32) : BitVec 32 := (ror x 17 ^^^ ror x 19) ^^^ (x >>> 10)
end Go.Proofs.YtcfpmofmjnhonaaGreatDoor
/- The program's words: rotations, and the bytes of a number. -/
namespace Go.Proofs.YtcfpmofmjnhonaaGreatDoor
open Go.RowKit

theorem rot_bits_all : ∀ n : Fin 32, 0 < n.val → bits BinOp.and IntKind.u64 (IntKind.u64.wrap (-(n.val : Int))) 31 = ((32 - n.val : Nat) : Int) := by decide
theorem rot_core (x : BitVec 32) (k : Int) (m : Nat) (hk : bits BinOp.and IntKind.u64 (IntKind.u64.wrap k) 31 = (m : Int)) (h0 : 0 < m) (h1 : m < 32) (w : World) :
    Calls Tryz.prog 201 #[.int .u32 (W32 x), .int .i64 k] w fun e w' => e = .returned (.int .u32 (W32 (ror x (32 - m)))) ∧ w = w' := by
  have fin : bits BinOp.or IntKind.u32 (W32 x * 2 ^ m % 4294967296) (W32 x / 2 ^ (32 - m)) = W32 (ror x (32 - m)) := by
    rw [w_shl, w_shr, w_or, ror_or _ _ _ (by omega)]
  have F := Lib.hid fin; clear fin
  go_enter Tryz.func201, Tryz.ntmps201
  go_wp2
  go_ret
  refine ⟨?_, rfl⟩
  rw [← F.out]
  rfl
/-- bits.RotateLeft32 by -k, 0 < k < 32. -/
theorem rot_any (x : BitVec 32) (k : Int) (h0 : -32 < k) (h1 : k < 0) (w : World) :
    Calls Tryz.prog 201 #[.int .u32 (W32 x), .int .i64 k] w fun e w' => e = .returned (.int .u32 (W32 (ror x (-k).toNat))) ∧ w = w' := by
  have e := rot_bits_all ⟨(-k).toNat, by omega⟩ (by show 0 < (-k).toNat; omega)
  simp only at e
  rw [show (-(((-k).toNat : Nat) : Int)) = k from by omega] at e
  have h := rot_core x k (32 - (-k).toNat) e (by omega) (by omega) w
  rwa [show 32 - (32 - (-k).toNat) = (-k).toNat from by omega] at h

end Go.Proofs.YtcfpmofmjnhonaaGreatDoor
/- (*running).words: the sixteen words of a block, and those made of them. -/
namespace Go.Proofs.YtcfpmofmjnhonaaGreatDoor
open Go.RowKit

def V32 (x : BitVec 32) : Value := .int .u32 (W32 x)
/-- The first j bytes of word k of a block. -/
def wordOf (blk : Nat → Nat) (k : Nat) : Nat → BitVec 32
  | 0 => 0
  | j + 1 => (wordOf blk k j <<< 8) ||| BitVec.ofNat 32 (blk (4 * k + j))
def wfill (blk : Nat → Nat) (k j : Nat) : Nat → BitVec 32 := fun i => if i < k then wordOf blk i 4 else if i = k then wordOf blk k j else 0

theorem w_nat (n : Nat) : (n : Int) % (4294967296 : Int) = W32 (BitVec.ofNat 32 n) := by unfold W32; rw [BitVec.toNat_ofNat]; omega
theorem w_shl8 (x : BitVec 32) : W32 x * (256 : Int) % (4294967296 : Int) = W32 (x <<< 8) := by rw [← w_shl]; rfl
theorem wfill_step (blk : Nat → Nat) (k j : Nat) : upd (wfill blk k j) k (wordOf blk k (j + 1)) = wfill blk k (j + 1) := by
  funext i; unfold upd wfill
  by_cases h : i = k
  · simp [h]
  · simp [h]
theorem wfill_next (blk : Nat → Nat) (k : Nat) : wfill blk k 4 = wfill blk (k + 1) 0 := by
  funext i; unfold wfill
  by_cases h : i < k
  · rw [if_pos h, if_pos (by omega)]
  · by_cases h2 : i = k
    · subst h2; simp
    · rw [if_neg h, if_neg h2, if_neg (by omega)]; simp [wordOf]
theorem wfill_self (blk : Nat → Nat) (k j : Nat) : wfill blk k j k = wordOf blk k j := by simp [wfill]
/-- The words behind n of those that are made. -/
def wext (blk : Nat → Nat) : Nat → Nat → BitVec 32
  | 0 => wfill blk 16 0
  | n + 1 => upd (wext blk n) (n + 16) (((wext blk n n + s0 (wext blk n (n + 1))) + wext blk n (n + 9)) + s1 (wext blk n (n + 14)))

structure WRel (N : Nat) (w wr : World) (g : Nat → BitVec 32) : Prop where
  below : Below N w wr
  size : wr.heap.size = N + 2
  res : Holds wr N 64 (fun _ => .int .u32 0) 119
  own : Holds wr (N + 1) 64 (fun i => V32 (g i)) 119
theorem WRel.store {N : Nat} {w wr : World} {g : Nat → BitVec 32} (h : WRel N w wr g) (k : Nat) (x : BitVec 32) : WRel N w (wr.setCell ⟨N + 1, k, none⟩ (.int .u32 (W32 x))) (upd g k x) :=
  ⟨h.below.setCell (by show N ≤ N + 1; omega) _, by simp [World.setCell]; exact h.size, h.res.other (by show N ≠ N + 1; omega) _, (h.own.set k _).congr fun i _ => by unfold upd; split <;> rfl⟩
theorem WRel.drew {N : Nat} {w wr : World} {g : Nat → BitVec 32} (h : WRel N w wr g) : WRel N w wr.drew g := ⟨h.below.drew, h.size, h.res, h.own⟩

theorem size1 (w : World) : (Go.sizeOf 5).run Tryz.prog w = .ok 1 w := by kernel_rfl
theorem words_any (B : Nat) (blk : Nat → Nat) (w : World) (hB : B < w.heap.size)
    (hblk : ∀ i, i < 64 → w.cell? ⟨B, 8 + i, none⟩ = some (.int .u8 (blk i : Int))) :
    Calls Tryz.prog 200 #[.pointer (some ⟨B, 0, none⟩)] w fun e w' => e = .returned (.agg (arr 64 fun i => V32 (wext blk 48 i))) ∧ Below w.heap.size w w' := by
  have H := Lib.hid hblk; clear hblk
  go_enter Tryz.func200, Tryz.ntmps200
  go_wp2
  go_loopw [10] (fun i wr => ∃ k : Nat, k ≤ 16 ∧ i = .int .i64 k ∧ WRel w.heap.size w wr (wfill blk k 0)) (fun i _ => 16 - (intOf i).toNat)
  case atStart =>
    refine ⟨0, by omega, rfl, ⟨(((Below.refl _ _).alloc (Nat.le_refl _) _).alloc (by simp) _), by simp, ?_, ?_⟩⟩
    · exact (Holds.new w 64 (fun _ => .int .u32 0) 119).alloc _
    · have hz := Holds.new (w.alloc (.cells (arr 64 (fun _ => .int .u32 0)) 119)) 64 (fun _ => .int .u32 0) 119
      rw [World.size_alloc] at hz
      exact hz
  case round =>
    obtain ⟨k, hk, rfl, hr⟩ := hrel
    by_cases hlt : k < 16
    · have hsl := fun wx => sliceAt_lh (P := Tryz.prog) 198 5 64 Tryz.underlying198 size1 B 8 (4 * k) (4 * k + 4) (by omega) (by omega) (by omega) (4 * (k : Int)) (4 * (k : Int) + 4) (by omega) (by omega) wx
      simp only [show 4 * k + 4 - 4 * k = 4 from by omega] at hsl
      go_wp2
      clear hsl
      go_loopw [23] (fun j wj => ∃ i : Nat, i ≤ 4 ∧ j = .int .i64 i ∧ WRel w.heap.size w wj (wfill blk k i)) (fun j _ => 4 - (intOf j).toNat)
      case atStart => exact ⟨0, by omega, rfl, hr⟩
      case round =>
        clear hr
        obtain ⟨j, hj, rfl, hr⟩ := hrel
        by_cases hlj : j < 4
        · have hc1 : wr.cell? ⟨B, 8 + 4 * k + j, none⟩ = some (.int .u8 (blk (4 * k + j) : Int)) := by
            have := H.out (4 * k + j) (by omega)
            rw [show 8 + (4 * k + j) = 8 + 4 * k + j from by omega] at this
            rw [← this]; exact hr.below.cell hB
          have hc2 : wr.cell? ⟨w.heap.size + 1, k, none⟩ = some (.int .u32 (W32 (wfill blk k j k))) := hr.own.cell k (by omega)
          have hf2 : wr.frozen? ⟨w.heap.size + 1, k, none⟩ = false := hr.own.free k
          go_wp2
          go_roundw
          case rel =>
            refine ⟨j + 1, by omega, by go_num, ?_⟩
            rw [wfill_self, w_shl8, w_nat, w_or, ← wfill_step]
            exact hr.store k _
          case measure => simp [intOf]; omega
        · obtain rfl : j = 4 := by omega
          go_wp2
          go_roundw
          case rel => exact ⟨k + 1, by omega, by go_num, by rw [← wfill_next]; exact hr⟩
          case measure => simp [intOf]; omega
    · have HK := Lib.hid (show k = 16 by omega)
      go_wp2
      clear hk hlt H
      go_loopw [38] (fun i wi => ∃ n : Nat, n ≤ 48 ∧ i = .int .i64 n ∧ WRel w.heap.size w wi (wext blk n)) (fun i _ => 48 - (intOf i).toNat)
      case atStart => exact ⟨0, by omega, rfl, by rw [HK.out] at hr; exact hr⟩
      case round =>
        clear hr
        obtain ⟨n, hn, rfl, hr⟩ := hrel
        by_cases hlt : n < 48
        · have hc : ∀ i, i < 64 → wr.cell? ⟨w.heap.size + 1, i, none⟩ = some (.int .u32 (W32 (wext blk n i))) := fun i hi => hr.own.cell i hi
          have h0 := hc n (by omega)
          have h1 := hc (n + 1) (by omega)
          have h9 := hc (n + 9) (by omega)
          have h14 := hc (n + 14) (by omega)
          have hf := hr.own.free (n + 16)
          have h16 := hc (n + 16) (by omega)
          clear hc
          go_wp2
          go_quiet (fail)
          go_wp2_with (go_at_call 201; refine (rot_any _ _ (by decide) (by decide) _).mono ?_; rintro e w' ⟨rfl, rfl⟩)
          go_region
          all_goals go_wp2
          go_roundw
          case rel =>
            refine ⟨n + 1, by omega, by go_num, ?_⟩
            rw [w_shr3, w_shr10, w_xor, w_xor, w_xor, w_xor, w_sum4]
            have hd : WRel w.heap.size w (wr.drewN (nq + 1)) (wext blk n) := ⟨below_drewN hr.below _, hr.size, hr.res, hr.own⟩
            exact hd.store (n + 16) _
          case measure => simp [intOf]; omega
        · obtain rfl : n = 48 := by omega
          clear hn hlt
          have hi : (Tryz.prog.info? 119).map (·.size) = some (arr 64 fun i => V32 (wext blk 48 i)).size := by rw [arr_size]; kernel_rfl
          have hz : (arr 64 fun _ => Value.int .u32 0).size = (arr 64 fun i => V32 (wext blk 48 i)).size := by rw [arr_size, arr_size]
          have h1 := arr_one 64 (fun i => V32 (wext blk 48 i)) (fun _ => rfl)
          obtain ⟨z, ez⟩ : ∃ z, z = arr 64 fun i => V32 (wext blk 48 i) := ⟨_, rfl⟩
          have Hr := hr
          have Hown : wr.heap[w.heap.size + 1]? = some (.cells z 119 (0, 0)) := by rw [ez]; exact hr.own
          have Hres : wr.heap[w.heap.size]? = some (.cells (arr 64 fun _ => Value.int .u32 0) 119 (0, 0)) := hr.res
          rw [← ez] at hi hz h1
          have EZ := Lib.hid ez
          have HR := Lib.hid Hr
          have HI := Lib.hid hi
          have HZ := Lib.hid hz
          have H1 := Lib.hid h1
          have HO := Lib.hid Hown
          have HE := Lib.hid Hres
          clear ez Hr hr hi hz h1 Hown Hres
          go_wp2_with (first | (refine wpList_load_row rfl 119 (.tmp 3) rfl (w.heap.size + 1) rfl 119 z (0, 0) _ HO.out Tryz.underlying119 rfl HI.out ?_) | (refine wpList_store_row rfl 119 (.tmp 2) (.tmp 81) rfl w.heap.size z rfl rfl 119 _ HE.out HI.out HZ.out H1.out ?_))
          have hp : Holds (wr.setRow w.heap.size z) w.heap.size 64 (fun i => V32 (wext blk 48 i)) 119 := by
            rw [EZ.out]; exact HR.out.res.row _
          have hrun : ∀ tmps : Array Value, tmps.getD 2 undef = .pointer (some ⟨w.heap.size, 0, none⟩) → (results Tryz.f200 tmps).run Tryz.prog (wr.setRow w.heap.size z) = .ok (.agg z) (wr.setRow w.heap.size z) := fun tmps ht =>
            results_cell_row (by rfl) tmps _ w.heap.size 119 z (0, 0) _ ht (by rw [EZ.out] at hp ⊢; exact hp) Tryz.underlying119 rfl HI.out
          exact bodyPost_ret (hrun _ rfl) rfl ⟨by rw [EZ.out], below_setRow HR.out.below (Nat.le_refl _) _⟩
end Go.Proofs.YtcfpmofmjnhonaaGreatDoor
