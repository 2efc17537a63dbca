/- IndexCommon, the walk. -/
import Derived.Test.YthbfmdgnhipobaaDoorLain
namespace Go.Proofs.YthbfmdgnhipobaaDoor
open Go.RowKit

theorem bitAns_in (s : ByteArray) (k : Nat) (h : s.size = 16) (hk : k < 128) : bitAns s (k : Int) = (((bitOf s.data.toList k : Nat) : Int), 0) := by
  unfold bitAns
  rw [if_pos h, if_pos (by omega), Int.toNat_natCast]
theorem same_text (a b : ByteArray) : a.toList = b.toList ↔ a = b := by
  rw [ByteArray.toList_eq, ByteArray.toList_eq]
  exact ⟨fun h => by rw [← txt_of a, ← txt_of b, h], fun h => by rw [h]⟩
theorem data_of (a b : ByteArray) (h : a.data.toList = b.data.toList) : a = b := by
  rw [← txt_of a, ← txt_of b, h]
set_option maxHeartbeats 8000000 in
set_option maxRecDepth 100000 in
theorem alike_any (a b c x y : ByteArray) (w : World) (hk : HasK w) :
    Calls Tryd.prog 4 #[.string a, .string b, .string c, .string x, .string y] w fun e w' => e = .returned (.bool true) ∧ Below w.heap.size w w' := by
  have HK := Lib.hid hk
  clear hk
  by_cases n1 : 40 < x.size
  · go_enter Tryd.func4, Tryd.ntmps4
    go_wp2
    go_ret
    exact ⟨rfl, Below.refl _ _⟩
  · by_cases n2 : 40 < y.size
    · go_enter Tryd.func4, Tryd.ntmps4
      go_wp2
      go_ret
      exact ⟨rfl, Below.refl _ _⟩
    · have hAB : ∃ (i j : ByteArray) (p q : Int), ofAns x = (i, p) ∧ ofAns y = (j, q) ∧ (x = y → i = j) := ⟨_, _, _, _, rfl, rfl, fun h => by rw [h]⟩
      obtain ⟨i, j, p, q, hi, hj, hij⟩ := hAB
      have hp : p = 0 ∨ p = 5 := by
        unfold ofAns at hi; split at hi <;> cases hi
        · exact .inl rfl
        · exact .inr rfl
      have hq : q = 0 ∨ q = 5 := by
        unfold ofAns at hj; split at hj <;> cases hj
        · exact .inl rfl
        · exact .inr rfl
      have HI := Lib.hid hi
      have HJ := Lib.hid hj
      clear hi hj
      have h4 : (p = 5) ∨ (p = 0 ∧ q = 5) ∨ (p = 0 ∧ q = 0 ∧ x = y) ∨ (p = 0 ∧ q = 0 ∧ x ≠ y) := by
        rcases hp with hp | hp
        · rcases hq with hq | hq
          · by_cases h : x = y
            · exact .inr (.inr (.inl ⟨hp, hq, h⟩))
            · exact .inr (.inr (.inr ⟨hp, hq, h⟩))
          · exact .inr (.inl ⟨hp, hq⟩)
        · exact .inl hp
      clear hp hq
      go_enter Tryd.func4, Tryd.ntmps4
      go_wp2_with fail
      refine (lain_any _ HK.out).mono ?_
      rintro e w1 ⟨rfl, hb1⟩
      have HB1 := Lib.hid hb1
      clear hb1
      go_wp2_with fail
      refine (of_is x i p _ (HK.out.below HB1.out HK.out.lt) HI.out).mono ?_
      rintro e w2 ⟨rfl, hb2⟩
      have HB2 := Lib.hid (HB1.out.trans (hb2.mono HB1.out.size))
      clear hb2
      go_wp2_with fail
      refine (of_is y j q _ (HK.out.below HB2.out HK.out.lt) HJ.out).mono ?_
      rintro e w3 ⟨rfl, hb3⟩
      have HB3 := Lib.hid (HB2.out.trans (hb3.mono HB2.out.size))
      clear hb3
      by_cases h16 : a.size = 16 ∧ b.size = 16
      · obtain ⟨ha, hb⟩ := h16
        obtain ⟨N, hN⟩ : ∃ N, commonOf a.data.toList b.data.toList = N := ⟨_, rfl⟩
        have hN128 : N ≤ 128 := by rw [← hN]; exact commonOf_le _ _
        have HN := Lib.hid (show comAns a b = ((N : Int), 0) by unfold comAns; rw [if_pos ⟨ha, hb⟩, hN])
        have HS := Lib.hid (show ∀ k : Nat, k < N → ∃ v : Int, bitAns a (k : Int) = (v, 0) ∧ bitAns b (k : Int) = (v, 0) from fun k hk =>
          ⟨_, bitAns_in a k ha (by omega), by rw [bitAns_in b k hb (by omega), commonOf_same a.data.toList b.data.toList k (by omega)]⟩)
        have HO := Lib.hid (show N < 128 → ∃ u v : Nat, bitAns a (N : Int) = ((u : Int), 0) ∧ bitAns b (N : Int) = ((v : Int), 0) ∧ u ≠ v from fun h =>
          ⟨_, _, bitAns_in a N ha h, bitAns_in b N hb h, by have := commonOf_other a.data.toList b.data.toList (by omega); rwa [hN] at this⟩)
        have HE := Lib.hid (show N = 128 ↔ a = b from by
          rw [← hN, commonOf_all _ _ (by rw [size_len]; exact ha) (by rw [size_len]; exact hb)]
          exact ⟨fun h => data_of a b h, fun h => by rw [h]⟩)
        have H3 := Lib.hid (show ∀ c : ByteArray, c.size ≠ 16 ∧ comAns b c = (0, 1) ∨ c.size = 16 ∧ ∃ M K : Nat, comAns b c = ((M : Int), 0) ∧ comAns a c = ((K : Int), 0) ∧ min N M ≤ K ∧ (N = M ∨ K = min N M) from fun c => by
          have := commonOf_three a.data.toList b.data.toList c.data.toList
          rw [hN] at this
          by_cases hc : c.size = 16
          · refine .inr ⟨hc, _, _, by unfold comAns; rw [if_pos ⟨hb, hc⟩], by unfold comAns; rw [if_pos ⟨ha, hc⟩], this.1, this.2⟩
          · exact .inl ⟨hc, by unfold comAns; rw [if_neg (fun h => hc h.2)]⟩)
        clear hN ha hb
        have h5 : (p = 5) ∨ (p = 0 ∧ q = 5) ∨ (p = 0 ∧ q = 0 ∧ x = y) ∨ (p = 0 ∧ q = 0 ∧ ¬ x.toList = y.toList) := by
          rw [same_text]; exact h4
        clear h4
        rcases h5 with rfl | ⟨rfl, rfl⟩ | ⟨rfl, rfl, hxy⟩ | ⟨rfl, rfl, hxy⟩
        case' inr.inr.inl => (obtain rfl := hij hxy; clear hij; subst hxy)
        all_goals
          (try rw [show errOf 5 = .iface 25 (.int .i64 5) from rfl])
          (try rw [show errOf 0 = .nilIface from rfl])
          go_wp2_with fail
          refine (ixCommon_is a b (N : Int) 0 _ HN.out).mono ?_
          rintro e w4 ⟨rfl, rfl⟩
          rw [show errOf 0 = .nilIface from rfl]
          go_wp2
          go_loopw [17] (fun t wr => ∃ k : Nat, k ≤ N ∧ t = .int .i64 (k : Int) ∧ wr = w4) (fun t _ => N - (intOf t).toNat)
          case atStart => exact ⟨0, by omega, rfl, rfl⟩
          case round =>
            obtain ⟨k, hk, rfl, rfl⟩ := hrel
            by_cases hlt : k < N
            · obtain ⟨v, hv1, hv2⟩ := HS.out k hlt
              have HV1 := Lib.hid hv1
              have HV2 := Lib.hid hv2
              clear hv1 hv2
              go_wp2_with fail
              refine (ixBit_is a k v 0 _ HV1.out).mono ?_
              rintro e w5 ⟨rfl, rfl⟩
              rw [show errOf 0 = .nilIface from rfl]
              go_wp2_with fail
              refine (ixBit_is b k v 0 _ HV2.out).mono ?_
              rintro e w6 ⟨rfl, rfl⟩
              rw [show errOf 0 = .nilIface from rfl]
              go_wp2
              go_roundw
              case rel =>
                refine ⟨k + 1, by omega, by go_num, ?_⟩
                first | rfl | trivial
              case measure => simp [intOf]; omega
            · by_cases hN8 : N < 128
              · obtain ⟨u, v, hu, hv, huv⟩ := HO.out hN8
                have huvi : ((u : Int) == (v : Int)) = false := by simp; omega
                have HV1 := Lib.hid hu
                have HV2 := Lib.hid hv
                have hab : (a.toList == b.toList) = false := by
                  rw [beq_eq_false_iff_ne]
                  intro h
                  have := HE.out.2 ((same_text a b).1 h)
                  omega
                have hn8 : ((N : Int) == 128) = false := by simp; omega
                clear hu hv huv
                go_wp2_with fail
                refine (ixBit_is a N u 0 _ HV1.out).mono ?_
                rintro e w5 ⟨rfl, rfl⟩
                rw [show errOf 0 = .nilIface from rfl]
                go_wp2_with fail
                refine (ixBit_is b N v 0 _ HV2.out).mono ?_
                rintro e w6 ⟨rfl, rfl⟩
                rw [show errOf 0 = .nilIface from rfl]
                rcases H3.out c with ⟨hc, hbc⟩ | ⟨hc, M, K, hbc, hac, hmin, hor⟩
                · have HBC := Lib.hid hbc
                  have HCN := Lib.hid (show ((c.size : Int) != 16) = true by simp; omega)
                  clear hbc
                  go_wp2_with fail
                  clear huvi
                  refine (ixCommon_is b c 0 1 _ HBC.out).mono ?_
                  rintro e w7 ⟨rfl, rfl⟩
                  rw [show errOf 1 = .iface 25 (.int .i64 1) from rfl]
                  go_wp2
                  go_ret
                  refine ⟨?_, HB3.out⟩
                  show Ending.returned (Value.bool ((c.size : Int) != 16)) = _
                  rw [HCN.out]
                · have HBC := Lib.hid hbc
                  have HAC := Lib.hid hac
                  have h6 : (N = M ∧ N ≤ K) ∨ (N < M ∧ K = N ∧ ((N : Int) == (M : Int)) = false) ∨ (M < N ∧ K = M ∧ ((N : Int) == (M : Int)) = false) := by
                    rcases Nat.lt_trichotomy N M with h | h | h
                    · exact .inr (.inl ⟨h, by omega, by simp; omega⟩)
                    · exact .inl ⟨h, by omega⟩
                    · exact .inr (.inr ⟨h, by omega, by simp; omega⟩)
                  clear hbc hac hor hmin hc
                  rcases h6 with ⟨rfl, hNK⟩ | ⟨hNM, rfl, hnm⟩ | ⟨hNM, rfl, hnm⟩
                  all_goals
                    go_wp2_with fail
                    clear huvi
                    refine (ixCommon_is b c _ 0 _ HBC.out).mono ?_
                    rintro e w7 ⟨rfl, rfl⟩
                    rw [show errOf 0 = .nilIface from rfl]
                    go_wp2_with fail
                    refine (ixCommon_is a c _ 0 _ HAC.out).mono ?_
                    rintro e w8 ⟨rfl, rfl⟩
                    rw [show errOf 0 = .nilIface from rfl]
                    go_wp2
                    go_ret
                    exact ⟨rfl, HB3.out⟩
              · have hN9 : N = 128 := by omega
                have hab := HE.out.1 hN9
                subst hab
                have hbb : (a.toList == a.toList) = true := by simp
                have hn8 : ((N : Int) == 128) = true := by simp; omega
                have hnn : decide ((N : Int) < 128) = false := by simp; omega
                clear hN9
                rcases H3.out c with ⟨hc, hbc⟩ | ⟨hc, M, K, hbc, hac, hmin, hor⟩
                · have HBC := Lib.hid hbc
                  have HCN := Lib.hid (show ((c.size : Int) != 16) = true by simp; omega)
                  clear hbc
                  go_wp2_with fail
                  refine (ixCommon_is a c 0 1 _ HBC.out).mono ?_
                  rintro e w7 ⟨rfl, rfl⟩
                  rw [show errOf 1 = .iface 25 (.int .i64 1) from rfl]
                  go_wp2
                  go_ret
                  refine ⟨?_, HB3.out⟩
                  show Ending.returned (Value.bool ((c.size : Int) != 16)) = _
                  rw [HCN.out]
                · have HBC := Lib.hid hbc
                  have HAC := Lib.hid hac
                  have h6 : (N = M ∧ N ≤ K) ∨ (N < M ∧ K = N ∧ ((N : Int) == (M : Int)) = false) ∨ (M < N ∧ K = M ∧ ((N : Int) == (M : Int)) = false) := by
                    rcases Nat.lt_trichotomy N M with h | h | h
                    · exact .inr (.inl ⟨h, by omega, by simp; omega⟩)
                    · exact .inl ⟨h, by omega⟩
                    · exact .inr (.inr ⟨h, by omega, by simp; omega⟩)
                  clear hbc hac hor hmin hc
                  rcases h6 with ⟨rfl, hNK⟩ | ⟨hNM, rfl, hnm⟩ | ⟨hNM, rfl, hnm⟩
                  all_goals
                    go_wp2_with fail
                    refine (ixCommon_is a c _ 0 _ HBC.out).mono ?_
                    rintro e w7 ⟨rfl, rfl⟩
                    rw [show errOf 0 = .nilIface from rfl]
                    go_wp2_with fail
                    refine (ixCommon_is a c _ 0 _ HAC.out).mono ?_
                    rintro e w8 ⟨rfl, rfl⟩
                    rw [show errOf 0 = .nilIface from rfl]
                    go_wp2
                    go_ret
                    exact ⟨rfl, HB3.out⟩
      · have HN := Lib.hid (show comAns a b = (0, 1) by unfold comAns; rw [if_neg h16])
        have h5 : (p = 5) ∨ (p = 0 ∧ q = 5) ∨ (p = 0 ∧ q = 0 ∧ x = y) ∨ (p = 0 ∧ q = 0 ∧ ¬ x.toList = y.toList) := by
          rw [same_text]; exact h4
        clear h4
        have h7 : ((a.size : Int) != 16) = true ∨ (((a.size : Int) != 16) = false ∧ ((b.size : Int) != 16) = true) := by
          by_cases ha : a.size = 16
          · refine .inr ⟨by simp; omega, ?_⟩
            have : b.size ≠ 16 := fun h => h16 ⟨ha, h⟩
            simp; omega
          · exact .inl (by simp; omega)
        clear h16
        rcases h5 with rfl | ⟨rfl, rfl⟩ | ⟨rfl, rfl, hxy⟩ | ⟨rfl, rfl, hxy⟩
        case' inr.inr.inl => (obtain rfl := hij hxy; clear hij; subst hxy)
        all_goals
          (try rw [show errOf 5 = .iface 25 (.int .i64 5) from rfl])
          (try rw [show errOf 0 = .nilIface from rfl])
          rcases h7 with h7 | ⟨h7, h8⟩
          all_goals
            go_wp2_with fail
            refine (ixCommon_is a b 0 1 _ HN.out).mono ?_
            rintro e w4 ⟨rfl, rfl⟩
            rw [show errOf 1 = .iface 25 (.int .i64 1) from rfl]
            go_wp2
            go_ret
            exact ⟨rfl, HB3.out⟩
end Go.Proofs.YthbfmdgnhipobaaDoor
