/- The document's Common. -/
import Derived.Test.YthbfmdgnhipobaaDoorRIndex
namespace Go.Proofs.YthbfmdgnhipobaaDoor
open Go.RowKit

def commonFrom (A B : List UInt8) : Nat → Nat → Nat
  | 0, n => n
  | f + 1, n => if bitOf A n = bitOf B n then commonFrom A B f (n + 1) else n
def commonOf (A B : List UInt8) : Nat := commonFrom A B 128 0
set_option maxHeartbeats 400000 in
set_option maxRecDepth 100000 in
theorem refCommon_any (a b : ByteArray) (w : World) :
    Calls Tryd.prog 14 #[.string a, .string b] w fun e w' => e = .returned (.tuple (if a.size = 16 ∧ b.size = 16 then #[.int .i64 ((commonOf a.data.toList b.data.toList : Nat) : Int), .int .i64 0] else #[.int .i64 0, .int .i64 1])) ∧ w' = w := by
  by_cases ha : a.size = 16
  · by_cases hb : b.size = 16
    · rw [if_pos ⟨ha, hb⟩]
      obtain ⟨T, hT⟩ : ∃ T, commonOf a.data.toList b.data.toList = T := ⟨_, rfl⟩
      rw [hT]
      have HT := Lib.hid hT
      clear hT
      have E1 := Lib.hid (show decide (a.size = 16) = true by simp [ha])
      have E2 := Lib.hid (show decide (b.size = 16) = true by simp [hb])
      go_enter Tryd.func14, Tryd.ntmps14
      go_wp2_with fail
      refine (isMark_any _ _).mono ?_
      rintro e w1 ⟨rfl, rfl⟩
      rw [E1.out]
      go_wp2_with fail
      refine (isMark_any _ _).mono ?_
      rintro e w1 ⟨rfl, rfl⟩
      rw [E2.out]
      go_wp2
      go_loopw [6] (fun i wr => ∃ n m : Nat, m + n = 128 ∧ i = .int .i64 (n : Int) ∧ wr = w1 ∧ commonFrom a.data.toList b.data.toList m n = T) (fun i _ => 128 - (intOf i).toNat)
      case atStart => exact ⟨0, 128, rfl, rfl, rfl, HT.out⟩
      case round =>
        obtain ⟨n, m, hn0, rfl, rfl, hc⟩ := hrel
        have hn : n ≤ 128 := by omega
        have HN := Lib.hid hn0
        clear hn0
        have HCO := Lib.hid hc
        clear hc
        by_cases hlt : n < 128
        · obtain ⟨m', rfl⟩ : ∃ m', m = m' + 1 := ⟨m - 1, by have := HN.out; omega⟩
          have hstep : commonFrom a.data.toList b.data.toList (m' + 1) n = if bitOf a.data.toList n = bitOf b.data.toList n then commonFrom a.data.toList b.data.toList m' (n + 1) else n := rfl
          have HST := Lib.hid hstep
          clear hstep
          obtain ⟨p, hp⟩ : ∃ p, bitOf a.data.toList n = p := ⟨_, rfl⟩
          obtain ⟨q, hq⟩ : ∃ q, bitOf b.data.toList n = q := ⟨_, rfl⟩
          have HP := Lib.hid hp
          have HQ := Lib.hid hq
          clear hp hq
          by_cases hpq : p = q
          · subst hpq
            go_wp2_with fail
            refine (at_any a n _ ha hlt).mono ?_
            rintro e w2 ⟨rfl, rfl⟩
            rw [HP.out]
            go_wp2_with fail
            refine (at_any b n _ hb hlt).mono ?_
            rintro e w3 ⟨rfl, rfl⟩
            rw [HQ.out]
            go_wp2
            go_roundw
            case rel =>
              refine ⟨n + 1, m', by have := HN.out; omega, by rw [Int.natCast_add]; rfl, ?_, ?_⟩
              · first | rfl | trivial
              · have h1 := HST.out; have h2 := HCO.out
                rw [HP.out, HQ.out, if_pos rfl] at h1
                rw [← h1, h2]
            case measure => simp [intOf]; omega
          · have hpi : ((p : Int) == (q : Int)) = false := by simp; omega
            go_wp2_with fail
            refine (at_any a n _ ha hlt).mono ?_
            rintro e w2 ⟨rfl, rfl⟩
            rw [HP.out]
            go_wp2_with fail
            refine (at_any b n _ hb hlt).mono ?_
            rintro e w3 ⟨rfl, rfl⟩
            rw [HQ.out]
            go_wp2
            refine bodyPost_ret (results_tmp2 rfl _ _ _) rfl ?_
            refine ⟨?_, rfl⟩
            have h1 := HST.out; have h2 := HCO.out
            rw [HP.out, HQ.out, if_neg hpq] at h1
            rw [← h2, h1]
            rfl
        · have hn8 : n = 128 := by omega
          have hm0 : m = 0 := by have := HN.out; omega
          subst hm0
          have h3 := Lib.hid (show n = T from HCO.out)
          subst hn8
          go_wp2
          refine bodyPost_ret (results_tmp2 rfl _ _ _) rfl ?_
          refine ⟨?_, rfl⟩
          rw [← h3.out]
          rfl
    · rw [if_neg (fun h => hb h.2)]
      have E1 := Lib.hid (show decide (a.size = 16) = true by simp [ha])
      have E2 := Lib.hid (show decide (b.size = 16) = false by simp [hb])
      clear ha hb
      go_enter Tryd.func14, Tryd.ntmps14
      go_wp2_with fail
      refine (isMark_any _ _).mono ?_
      rintro e w1 ⟨rfl, rfl⟩
      rw [E1.out]
      go_wp2_with fail
      refine (isMark_any _ _).mono ?_
      rintro e w1 ⟨rfl, rfl⟩
      rw [E2.out]
      go_wp2
      refine bodyPost_ret (results_tmp2 rfl _ _ _) rfl ?_
      exact ⟨rfl, rfl⟩
  · rw [if_neg (fun h => ha h.1)]
    have E1 := Lib.hid (show decide (a.size = 16) = false by simp [ha])
    clear ha
    go_enter Tryd.func14, Tryd.ntmps14
    go_wp2_with fail
    refine (isMark_any _ _).mono ?_
    rintro e w1 ⟨rfl, rfl⟩
    rw [E1.out]
    go_wp2
    refine bodyPost_ret (results_tmp2 rfl _ _ _) rfl ?_
    exact ⟨rfl, rfl⟩
end Go.Proofs.YthbfmdgnhipobaaDoor
