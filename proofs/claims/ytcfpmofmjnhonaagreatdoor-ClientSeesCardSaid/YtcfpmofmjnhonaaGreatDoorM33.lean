/- Parts of the proof, one behind the other: QSign, QFrom, VVerify, PSealed. -/
import Derived.Test.YtcfpmofmjnhonaaGreatDoorM32
import Derived.Test.YtcfpmofmjnhonaaGreatDoorM31
import Derived.Test.YtcfpmofmjnhonaaGreatDoorM19
import Derived.Test.YtcfpmofmjnhonaaGreatDoorM25
/- The program's once: Sign. -/
namespace Go.Proofs.YtcfpmofmjnhonaaGreatDoor
open Go.RowKit

theorem twoMarks {s m : ByteArray} {b : Bool} (h : (decide (s.size = 16) && decide (m.size = 16)) = b) : marksOk [s, m] = b := by
  rw [← h]; unfold marksOk; simp

theorem run_index_arr {P : Program} (w : World) (t e n : Nat) (cs : Array Value) (v : Value) (i : Nat) (h : P.underlying t = some (.array n e)) (h1 : ∀ w, (Go.sizeOf e).run P w = .ok 1 w) (h2 : ∀ w, (isAgg e).run P w = .ok false w) (hi : i < n) (hv : cs[i]? = some v) :
    (Instr.index t (.agg cs) (.int .i64 (i : Int))).run P w = .ok v w := by
  have hn : (0 : Int) ≤ (i : Int) ∧ (i : Int) < (n : Int) := by omega
  simp [Instr.index, run_underlying h, asIntOf, hn, h1, h2, hi, hv, Result.andThen, go_sem]
theorem sizeInt (w : World) : (Go.sizeOf 3).run Tryz.prog w = .ok 1 w := by kernel_rfl
theorem aggInt (w : World) : (isAgg 3).run Tryz.prog w = .ok false w := by kernel_rfl
theorem make35 (w : World) : (Instr.makeSlice 50 (.int .i64 35) (.int .i64 35)).run Tryz.prog w = .ok (.slice (some ⟨w.heap.size, 0, none⟩) 35 35) (w.alloc (.cells (arr 35 fun _ => .string ⟨#[]⟩) 9)) := by kernel_rfl
set_option maxRecDepth 100000 in
theorem qSign_at (seed : ByteArray) (key : Int) (m : ByteArray) (T : List ByteArray) (n : Int) (w : World) (hk : HasK w) (h : signAns seed key m = (T, n)) :
    Calls Tryz.prog 176 #[.string seed, .int .i64 key, .string m] w fun e w' => ∃ A cap, e = .returned (.tuple #[.slice A T.length cap, errOf n]) ∧ Below w.heap.size w w' ∧ Strs w' A T ∧ ∀ a, A = some a → 0 < T.length → w.heap.size ≤ a.block := by
  have HK := Lib.hid hk
  clear hk
  have HB0 := Lib.hid (alloc_below w (.cells #[.string seed, .string m] 9))
  have HS0 := Lib.hid (strs_new w [seed, m] 9)
  unfold signAns at h
  by_cases h16 : seed.size = 16 ∧ m.size = 16
  · rw [if_pos h16] at h
    obtain ⟨hx, rfl⟩ := Prod.mk.inj h
    have HX := Lib.hid hx
    have H16 := Lib.hid h16.1
    have HM16 := Lib.hid h16.2
    have HM := Lib.hid (twoMarks (s := seed) (m := m) (b := true) (by rw [decide_eq_true h16.1, decide_eq_true h16.2]; rfl))
    clear h hx h16
    go_enter Tryz.func176, Tryz.ntmps176
    go_wp2_with fail
    refine (qAre_any [seed, m] _ 2 _ (by simp) HS0.out).mono ?_
    rintro e w1 ⟨rfl, rfl⟩
    rw [HM.out]
    have hmk := make35
    go_wp2_with fail
    refine (qDigits_any m _ HM16.out).mono ?_
    rintro e w2 ⟨rfl, hb2⟩
    clear hmk
    have HB1 := Lib.hid (HB0.out.trans ((alloc_below _ (.cells (arr 35 fun _ => .string ⟨#[]⟩) 9)).mono HB0.out.size))
    have HN1 := Lib.hid (Holds.new (w.alloc (.cells (stCells [seed, m]).toArray 9)) 35 (fun _ => .string ⟨#[]⟩) 9)
    rw [World.size_alloc] at HN1
    have HH2 := Lib.hid (HN1.out.below hb2 HN1.out.lt)
    have HB2 := Lib.hid (HB1.out.trans (hb2.mono HB1.out.size))
    clear hb2
    have HZ := Lib.hid (show ∀ k, k < 35 → (arr 35 fun i => Value.int .i64 (((digitsOf m.data.toList).getD i 0 : Nat) : Int))[k]? = some (Value.int .i64 (((digitsOf m.data.toList).getD k 0 : Nat) : Int)) from fun k hk => arr_get 35 _ k hk)
    generalize (arr 35 fun i => Value.int .i64 (((digitsOf m.data.toList).getD i 0 : Nat) : Int)) = Z at HZ ⊢
    go_wp2
    go_loopw [20] (fun i wr => ∃ k : Nat, k ≤ 35 ∧ i = .int .i64 (k : Int) ∧ Hid (Below w.heap.size w wr ∧ Holds wr (w.heap.size + 1) 35 (sfill (signChains seed key m 35) k) 9)) (fun i _ => 35 - (intOf i).toNat)
    case atStart =>
      refine ⟨0, by omega, rfl, Lib.hid ⟨HB2.out, HH2.out.congr fun i hi => by unfold sfill; rw [if_neg (by omega)]⟩⟩
    case round =>
      obtain ⟨k, hk, rfl, HU⟩ := hrel
      by_cases hlt : k < 35
      · have HN := Lib.hid HU.out.2.lt
        obtain ⟨D, hD⟩ : ∃ D, (digitsOf m.data.toList).getD k 0 = D := ⟨_, rfl⟩
        have HXK := Lib.hid (show (signChains seed key m 35)[k]? = some (alongFrom (k : Int) D 0 (seedOf seed key k)) by rw [← hD]; exact map_range_at _ 35 k hlt)
        have HDL := Lib.hid (digit_le HM16.out k)
        have hz := HZ.out k hlt
        rw [hD] at HDL hz
        have hix := fun wx => run_index_arr (P := Tryz.prog) wx 330 3 35 Z _ k Tryz.underlying330 sizeInt aggInt hlt hz
        clear hD hz
        go_wp2_with fail
        refine (qFirst_any seed key k _ (HK.out.below HU.out.1 HK.out.lt) H16.out).mono ?_
        rintro e w3 ⟨rfl, hb3⟩
        have HB3 := Lib.hid (HU.out.1.trans (hb3.mono HU.out.1.size))
        have HH3 := Lib.hid (HU.out.2.below hb3 HN.out)
        have HL3 := Lib.hid (Nat.lt_of_lt_of_le HN.out hb3.size)
        clear hb3 hix
        go_wp2_with fail
        refine (qWalk_any (seedOf seed key k) (k : Int) 0 D _ (HK.out.below HB3.out HK.out.lt) (seedOf_size _ _ _) (by omega) HDL.out).mono ?_
        rintro e w4 ⟨rfl, hb4⟩
        have HB4 := Lib.hid (HB3.out.trans (hb4.mono HB3.out.size))
        have HH4 := Lib.hid (HH3.out.below hb4 HL3.out)
        clear hb4
        have c0 := HH4.out.cell k hlt
        have f0 := HH4.out.free k
        rw [show sfill (signChains seed key m 35) k k = .string ⟨#[]⟩ by unfold sfill; rw [if_neg (by omega)]] at c0
        go_wp2
        go_roundw
        case rel =>
          refine ⟨k + 1, by omega, by go_num, Lib.hid ⟨HB4.out.setCell (by show w.heap.size ≤ w.heap.size + 1; omega) _, ?_⟩⟩
          rw [← sfill_succ _ k _ HXK.out]
          exact HH4.out.set k _
        case measure => simp [intOf]; omega
      · obtain rfl : k = 35 := by omega
        have HLEN := Lib.hid (show (signChains seed key m 35).length = 35 from chains_len _ _)
        have HST := Lib.hid (strs_of_holds HU.out.2 HLEN.out)
        clear hlt hk
        go_wp2
        refine bodyPost_ret (results_tmp2 rfl _ _ _) rfl ?_
        refine ⟨some ⟨w.heap.size + 1, 0, none⟩, 35, ?_, HU.out.1, ?_, fun a ha _ => by cases ha; show w.heap.size ≤ w.heap.size + 1; omega⟩
        · rw [← HX.out, HLEN.out]; rfl
        · rw [← HX.out]; exact HST.out
  · rw [if_neg h16] at h
    obtain ⟨rfl, rfl⟩ := Prod.mk.inj h
    have HM := Lib.hid (twoMarks (s := seed) (m := m) (b := false) (by
      rw [Bool.and_eq_false_iff, decide_eq_false_iff_not, decide_eq_false_iff_not]
      rcases Classical.em (seed.size = 16) with e | e
      · exact .inr fun f => h16 ⟨e, f⟩
      · exact .inl e))
    clear h h16
    go_enter Tryz.func176, Tryz.ntmps176
    go_wp2_with fail
    refine (qAre_any [seed, m] _ 2 _ (by simp) HS0.out).mono ?_
    rintro e w1 ⟨rfl, rfl⟩
    rw [HM.out]
    go_wp2
    refine bodyPost_ret (results_tmp2 rfl _ _ _) rfl ?_
    exact ⟨_, _, rfl, HB0.out, Strs.nil _ _, fun _ _ h => absurd h (Nat.lt_irrefl 0)⟩
theorem qSign_is (seed : ByteArray) (key : Int) (m : ByteArray) (T : List ByteArray) (n : Int) (w : World) (hk : HasK w) (h : signAns seed key m = (T, n)) :
    Calls Tryz.prog 176 #[.string seed, .int .i64 key, .string m] w fun e w' => ∃ A cap, e = .returned (.tuple #[.slice A T.length cap, errOf n]) ∧ Below w.heap.size w w' ∧ Strs w' A T :=
  (qSign_at seed key m T n w hk h).mono fun _ _ ⟨A, cap, h1, h2, h3, _⟩ => ⟨A, cap, h1, h2, h3⟩
end Go.Proofs.YtcfpmofmjnhonaaGreatDoor
/- The program's once: From. -/
namespace Go.Proofs.YtcfpmofmjnhonaaGreatDoor
open Go.RowKit

set_option maxRecDepth 100000 in
theorem qFrom_is (m : ByteArray) (S : List ByteArray) (A : Option Addr) (cap : Nat) (x : ByteArray) (n : Int) (w : World) (hk : HasK w) (hl : S.length ≤ 1000000) (hs : Strs w A S) (h : fromAns m S = (x, n)) :
    Calls Tryz.prog 188 #[.string m, .slice A S.length cap] w fun e w' => e = .returned (.tuple #[.string x, errOf n]) ∧ Below w.heap.size w w' := by
  have HK := Lib.hid hk
  have HS := Lib.hid hs
  clear hk hs
  have HB0 := Lib.hid (alloc_below w (.cells #[.string m] 9))
  have HS0 := Lib.hid (strs_new w [m] 9)
  unfold fromAns at h
  by_cases h16 : m.size = 16
  · have HM := Lib.hid (oneMark (decide_eq_true h16))
    have HM16 := Lib.hid h16
    by_cases h35 : S.length = 35
    · have HL35 := Lib.hid h35
      have e35 : ((S.length : Int) == 35) = true := by rw [beq_iff_eq]; omega
      have e36 : ((S.length : Int) != 35) = false := by simp; omega
      by_cases hmk : marksOk S = true
      · rw [if_pos ⟨h16, h35, hmk⟩] at h
        obtain ⟨hx, rfl⟩ := Prod.mk.inj h
        have HX := Lib.hid hx
        have HMK := Lib.hid hmk
        have hs1 : S.length ≤ 35 := by omega
        have hs2 : 35 ≤ S.length := by omega
        clear h hx h16 h35 hmk
        go_enter Tryz.func188, Tryz.ntmps188
        go_wp2_with fail
        refine (qAre_any [m] _ 1 _ (by simp) HS0.out).mono ?_
        rintro e w1 ⟨rfl, rfl⟩
        rw [HM.out]
        go_wp2_with fail
        refine (qAre_any S A cap _ hl (HS.out.below HB0.out)).mono ?_
        rintro e w1 ⟨rfl, rfl⟩
        rw [HMK.out]
        clear e35 e36
        go_wp2_with fail
        refine (qDigits_any m _ HM16.out).mono ?_
        rintro e w2 ⟨rfl, hb2⟩
        have HB1 := Lib.hid (HB0.out.trans ((alloc_below _ (.cells (arr 35 fun _ => .string ⟨#[]⟩) 309)).mono HB0.out.size))
        have HN1 := Lib.hid (Holds.new (w.alloc (.cells (stCells [m]).toArray 9)) 35 (fun _ => .string ⟨#[]⟩) 309)
        rw [World.size_alloc] at HN1
        have HH2 := Lib.hid (HN1.out.below hb2 HN1.out.lt)
        have HB2 := Lib.hid (HB1.out.trans (hb2.mono HB1.out.size))
        clear hb2
        have HZ := Lib.hid (show ∀ k, k < 35 → (arr 35 fun i => Value.int .i64 (((digitsOf m.data.toList).getD i 0 : Nat) : Int))[k]? = some (Value.int .i64 (((digitsOf m.data.toList).getD k 0 : Nat) : Int)) from fun k hk => arr_get 35 _ k hk)
        generalize (arr 35 fun i => Value.int .i64 (((digitsOf m.data.toList).getD i 0 : Nat) : Int)) = Z at HZ ⊢
        go_wp2
        go_loopw [26] (fun i wr => ∃ k : Nat, k ≤ 35 ∧ i = .int .i64 (k : Int) ∧ Hid (Below w.heap.size w wr ∧ Holds wr (w.heap.size + 1) 35 (sfill (fromChains m S 35) k) 309)) (fun i _ => 35 - (intOf i).toNat)
        case atStart =>
          refine ⟨0, by omega, rfl, Lib.hid ⟨HB2.out, HH2.out.congr fun i hi => by unfold sfill; rw [if_neg (by omega)]⟩⟩
        case round =>
          obtain ⟨k, hk, rfl, HU⟩ := hrel
          by_cases hlt : k < 35
          · have HN := Lib.hid HU.out.2.lt
            obtain ⟨D, hD⟩ : ∃ D, (digitsOf m.data.toList).getD k 0 = D := ⟨_, rfl⟩
            obtain ⟨p, hp⟩ : ∃ p, S[k]? = some p := ⟨_, List.getElem?_eq_getElem (by omega)⟩
            obtain ⟨a, rfl, _, c0⟩ := (HS.out.below HU.out.1) k p hp
            have HXK := Lib.hid (show (fromChains m S 35)[k]? = some (alongFrom (k : Int) (15 - D) D p) by
              have e := map_range_at (fun c : Nat => alongFrom (c : Int) (15 - (digitsOf m.data.toList).getD c 0) ((digitsOf m.data.toList).getD c 0) (S.getD c ⟨#[]⟩)) 35 k hlt
              rw [hD, List.getD_eq_getElem?_getD, hp] at e
              exact e)
            have HPS := Lib.hid (marksOk_get HMK.out hp)
            have HDL := Lib.hid (digit_le HM16.out k)
            have hz := HZ.out k hlt
            rw [hD] at HDL hz
            have hix := fun wx => run_index_arr (P := Tryz.prog) wx 330 3 35 Z _ k Tryz.underlying330 sizeInt aggInt hlt hz
            clear hD hz hp
            go_wp2_with fail
            clear hix c0
            refine (qWalk_any p (k : Int) D 15 _ (HK.out.below HU.out.1 HK.out.lt) HPS.out HDL.out (by omega)).mono ?_
            rintro e w4 ⟨rfl, hb4⟩
            have HB4 := Lib.hid (HU.out.1.trans (hb4.mono HU.out.1.size))
            have HH4 := Lib.hid (HU.out.2.below hb4 HN.out)
            clear hb4
            have c0 := HH4.out.cell k hlt
            have f0 := HH4.out.free k
            rw [show sfill (fromChains m S 35) k k = .string ⟨#[]⟩ by unfold sfill; rw [if_neg (by omega)]] at c0
            go_wp2
            go_roundw
            case rel =>
              refine ⟨k + 1, by omega, by go_num, Lib.hid ⟨HB4.out.setCell (by show w.heap.size ≤ w.heap.size + 1; omega) _, ?_⟩⟩
              rw [← sfill_succ _ k _ HXK.out]
              exact HH4.out.set k _
            case measure => simp [intOf]; omega
          · obtain rfl : k = 35 := by omega
            have HLEN := Lib.hid (show (fromChains m S 35).length = 35 from chains_len _ _)
            have HST := Lib.hid (strs_of_holds HU.out.2 HLEN.out)
            have HTOT := Lib.hid (show total (fromChains m S 35) ≤ 1073741800 by have := total_leM _ 16 (from_size m S (marksOk_all HMK.out) HL35.out 35 (Nat.le_refl _)); rw [HLEN.out] at this; omega)
            have HKW := Lib.hid (HK.out.below HU.out.1 HK.out.lt)
            have HMA := Lib.hid (mark_any 112 (fromChains m S 35) (some ⟨w.heap.size + 1, 0, none⟩) 35 wr HKW.out HTOT.out (by rw [HLEN.out]; omega) HST.out)
            rw [HLEN.out] at HMA
            clear hlt hk
            go_wp2_with fail
            refine HMA.out.mono ?_
            rintro e w7 ⟨rfl, hb7⟩
            have HB7 := Lib.hid (HU.out.1.trans (hb7.mono HU.out.1.size))
            clear hb7 HMA
            go_wp2
            refine bodyPost_ret (results_tmp2 rfl _ _ _) rfl ?_
            exact ⟨by rw [← HX.out]; rfl, HB7.out⟩
      · rw [if_neg (fun e => hmk e.2.2)] at h
        obtain ⟨rfl, rfl⟩ := Prod.mk.inj h
        have HMK := Lib.hid (show marksOk S = false by simpa using hmk)
        clear h h16 h35 hmk
        go_enter Tryz.func188, Tryz.ntmps188
        go_wp2_with fail
        refine (qAre_any [m] _ 1 _ (by simp) HS0.out).mono ?_
        rintro e w1 ⟨rfl, rfl⟩
        rw [HM.out]
        go_wp2_with fail
        refine (qAre_any S A cap _ hl (HS.out.below HB0.out)).mono ?_
        rintro e w1 ⟨rfl, rfl⟩
        rw [HMK.out]
        go_wp2
        refine bodyPost_ret (results_tmp2 rfl _ _ _) rfl ?_
        exact ⟨rfl, HB0.out⟩
    · rw [if_neg (fun e => h35 e.2.1)] at h
      obtain ⟨rfl, rfl⟩ := Prod.mk.inj h
      have e35 : ((S.length : Int) == 35) = false := by rw [beq_eq_false_iff_ne]; omega
      have e36 : ((S.length : Int) != 35) = true := by simp; omega
      clear h h16 h35
      go_enter Tryz.func188, Tryz.ntmps188
      go_wp2_with fail
      refine (qAre_any [m] _ 1 _ (by simp) HS0.out).mono ?_
      rintro e w1 ⟨rfl, rfl⟩
      rw [HM.out]
      go_wp2
      refine bodyPost_ret (results_tmp2 rfl _ _ _) rfl ?_
      exact ⟨rfl, HB0.out⟩
  · rw [if_neg (fun e => h16 e.1)] at h
    obtain ⟨rfl, rfl⟩ := Prod.mk.inj h
    have HM := Lib.hid (oneMark (decide_eq_false h16))
    clear h h16
    go_enter Tryz.func188, Tryz.ntmps188
    go_wp2_with fail
    refine (qAre_any [m] _ 1 _ (by simp) HS0.out).mono ?_
    rintro e w1 ⟨rfl, rfl⟩
    rw [HM.out]
    go_wp2
    refine bodyPost_ret (results_tmp2 rfl _ _ _) rfl ?_
    exact ⟨rfl, HB0.out⟩
end Go.Proofs.YtcfpmofmjnhonaaGreatDoor
/- The program's seal: Verify. -/
namespace Go.Proofs.YtcfpmofmjnhonaaGreatDoor
open Go.RowKit

set_option maxHeartbeats 2000000 in
set_option maxRecDepth 100000 in
theorem vVerify_any (pub m : ByteArray) (key : Int) (S P : List ByteArray) (A B : Option Addr) (ca cb : Nat) (w : World) (hk : HasK w) (hls : S.length ≤ 1000000) (hlp : P.length ≤ 1000000) (hs : Strs w A S) (hp : Strs w B P) :
    Calls Tryz.prog 137 #[.string pub, .string m, .agg #[.int .i64 key, .slice A S.length ca, .slice B P.length cb]] w fun e w' => e = .returned (.bool (sealOk pub m key S P)) ∧ Below w.heap.size w w' := by
  have HB0 := Lib.hid (alloc_below w (.cells #[.int .i64 key, .slice A S.length ca, .slice B P.length cb] 52))
  have HH0 := Lib.hid (show Holds (w.alloc (.cells #[.int .i64 key, .slice A S.length ca, .slice B P.length cb] 52)) w.heap.size 3 (slF key (.slice A S.length ca) (.slice B P.length cb)) 52 from Holds.new w 3 (slF key (.slice A S.length ca) (.slice B P.length cb)) 52)
  have HK := Lib.hid (hk.below HB0.out hk.lt)
  have HSS := Lib.hid (hs.below HB0.out)
  have HPP := Lib.hid (hp.below HB0.out)
  have HE0 := Lib.hid (show errOf 0 = Value.nilIface from rfl)
  clear hk hs hp
  obtain ⟨T, hT⟩ : ∃ T, sealOk pub m key S P = T := ⟨_, rfl⟩
  rw [hT]
  have HT := Lib.hid hT
  clear hT
  go_enter Tryz.func137, Tryz.ntmps137
  have c0 : (w.alloc (.cells #[.int .i64 key, .slice A S.length ca, .slice B P.length cb] 52)).cell? ⟨w.heap.size, 0, none⟩ = some (.int .i64 key) := HH0.out.cell 0 (by omega)
  have c1 : (w.alloc (.cells #[.int .i64 key, .slice A S.length ca, .slice B P.length cb] 52)).cell? ⟨w.heap.size, 1, none⟩ = some (.slice A S.length ca) := HH0.out.cell 1 (by omega)
  have c2 : (w.alloc (.cells #[.int .i64 key, .slice A S.length ca, .slice B P.length cb] 52)).cell? ⟨w.heap.size, 2, none⟩ = some (.slice B P.length cb) := HH0.out.cell 2 (by omega)
  by_cases hkey : 0 ≤ key ∧ key ≤ 7
  · by_cases h3 : P.length = 3
    · have e2 : ((P.length : Int) != 3) = false := by simp; omega
      have e3 : ((P.length : Int) == 3) = true := by rw [beq_iff_eq]; omega
      have H3 := Lib.hid h3
      clear h3
      go_wp2_with fail
      generalize w.alloc (.cells #[.int .i64 key, .slice A S.length ca, .slice B P.length cb] 52) = w0 at HB0 HH0 HK HSS HPP c0 c1 c2
      refine (vKey_any key _).mono ?_
      rintro e w1 ⟨rfl, rfl⟩
      rw [decide_eq_true hkey]
      go_wp2_with fail
      refine (vAre_any P B cb _ hlp HPP.out).mono ?_
      rintro e w1 ⟨rfl, rfl⟩
      clear e2 e3
      obtain ⟨mk, hmk⟩ : ∃ mk, marksOk P = mk := ⟨_, rfl⟩
      rw [hmk]
      cases mk
      · have HF := Lib.hid (show T = false by rw [← HT.out]; unfold sealOk; rw [hmk]; simp)
        clear hmk hkey
        go_wp2
        go_ret
        exact ⟨by rw [HF.out]; rfl, HB0.out⟩
      · have HMK := Lib.hid hmk
        clear hmk
        obtain ⟨x, n, hx⟩ : ∃ x n, fromAns m S = (x, n) := ⟨_, _, rfl⟩
        have HX := Lib.hid hx
        clear hx
        go_wp2_with fail
        refine (qFrom_is m S A ca x n _ HK.out hls HSS.out HX.out).mono ?_
        rintro e w2 ⟨rfl, hb2⟩
        have HB2 := Lib.hid (HB0.out.trans (hb2.mono HB0.out.size))
        have HK2 := Lib.hid (HK.out.below hb2 HK.out.lt)
        have HPP2 := Lib.hid (HPP.out.below hb2)
        have HH2 := Lib.hid (HH0.out.below hb2 HH0.out.lt)
        clear hb2 c0 c1 c2
        by_cases hn : n = 0
        · subst hn
          rw [HE0.out]
          have HXS := Lib.hid (fromAns_size HX.out)
          have HTT := Lib.hid (show decide (upFrom P (sLeaf key x) key.toNat = pub) = T by
            rw [← HT.out]; unfold sealOk sLeaf; rw [HX.out, HMK.out, H3.out]; simp [hkey])
          obtain ⟨kk, rfl⟩ : ∃ kk : Nat, key = (kk : Int) := ⟨key.toNat, by omega⟩
          have hkk : kk ≤ 7 := by omega
          rw [Int.toNat_natCast] at HTT
          have c0 : w2.cell? ⟨w.heap.size, 0, none⟩ = some (.int .i64 (kk : Int)) := HH2.out.cell 0 (by omega)
          have c2 : w2.cell? ⟨w.heap.size, 2, none⟩ = some (.slice B P.length cb) := HH2.out.cell 2 (by omega)
          clear hkey
          go_wp2_with fail
          refine (vClimb_any kk x P B cb _ HK2.out hkk HXS.out H3.out HMK.out HPP2.out).mono ?_
          rintro e w3 ⟨rfl, hb3⟩
          have HB3 := Lib.hid (HB2.out.trans (hb3.mono HB2.out.size))
          clear hb3 c0 c2
          generalize upFrom P (sLeaf (kk : Int) x) kk = t at HTT ⊢
          have HEQ := Lib.hid (show (t.toList == pub.toList) = T by
            rw [← HTT.out, Bool.eq_iff_iff, beq_iff_eq, decide_eq_true_eq, ByteArray.toList_eq, ByteArray.toList_eq]
            exact ⟨text_of, fun h => by rw [h]⟩)
          go_wp2
          go_ret
          exact ⟨by rw [← HEQ.out]; rfl, HB3.out⟩
        · have HEL := Lib.hid (show errOf n = Value.iface 28 (.int .i64 n) by unfold errOf; rw [if_neg hn])
          have HF := Lib.hid (show T = false by rw [← HT.out]; unfold sealOk; rw [HX.out]; simp [hn])
          rw [HEL.out]
          clear hn hkey
          go_wp2
          go_ret
          exact ⟨by rw [HF.out]; rfl, HB2.out⟩
    · have e2 : ((P.length : Int) != 3) = true := by simp; omega
      have e3 : ((P.length : Int) == 3) = false := by rw [beq_eq_false_iff_ne]; omega
      have HF := Lib.hid (show T = false by rw [← HT.out]; unfold sealOk; rw [decide_eq_false h3]; simp)
      clear h3
      go_wp2_with fail
      generalize w.alloc (.cells #[.int .i64 key, .slice A S.length ca, .slice B P.length cb] 52) = w0 at HB0 HH0 HK HSS HPP c0 c1 c2
      refine (vKey_any key _).mono ?_
      rintro e w1 ⟨rfl, rfl⟩
      rw [decide_eq_true hkey]
      clear hkey
      go_wp2
      go_ret
      exact ⟨by rw [HF.out]; rfl, HB0.out⟩
  · have HF := Lib.hid (show T = false by rw [← HT.out]; unfold sealOk; rw [decide_eq_false hkey]; simp)
    go_wp2_with fail
    generalize w.alloc (.cells #[.int .i64 key, .slice A S.length ca, .slice B P.length cb] 52) = w0 at HB0 HH0 HK HSS HPP c0 c1 c2
    refine (vKey_any key _).mono ?_
    rintro e w1 ⟨rfl, rfl⟩
    rw [decide_eq_false hkey]
    clear hkey
    go_wp2
    go_ret
    exact ⟨by rw [HF.out]; rfl, HB0.out⟩
end Go.Proofs.YtcfpmofmjnhonaaGreatDoor
/- The program's client: whether a head has its own epoch's seal. -/
namespace Go.Proofs.YtcfpmofmjnhonaaGreatDoor
open Go.RowKit

def sealedOk (pub : ByteArray) (h : Hd) (key : Int) (S P : List ByteArray) : Bool := rightHead h && (decide (key = h.epoch - 1) && sealOk pub (headMark h) key S P)
set_option maxHeartbeats 2000000 in
set_option maxRecDepth 100000 in
theorem pSealed_is (F : Nat → Prop) (p : Nat) (c : Cl) (h : Hd) (key : Int) (S P : List ByteArray) (A B : Option Addr) (ca cb : Nat) (T : Bool) (w : World) (hc : PCl F w p c) (hk : HasK w)
    (hls : S.length ≤ 1000000) (hlp : P.length ≤ 1000000) (he : h.epoch < 9223372036854775808) (hs : Strs w A S) (hp : Strs w B P) (ht : sealedOk c.pub h key S P = T) :
    Calls Tryz.prog 84 #[.pointer (some ⟨p, 0, none⟩), .agg #[.int .i64 h.epoch, .string h.root, .string h.prev, .int .i64 key, .slice A S.length ca, .slice B P.length cb]] w fun e w' => e = .returned (.bool T) ∧ Below w.heap.size w w' := by
  obtain ⟨v, hc⟩ := hc
  have HB0 := Lib.hid (alloc_below w (.cells #[.int .i64 h.epoch, .string h.root, .string h.prev, .int .i64 key, .slice A S.length ca, .slice B P.length cb] 54))
  have HX0 := Lib.hid (show Holds (w.alloc (.cells #[.int .i64 h.epoch, .string h.root, .string h.prev, .int .i64 key, .slice A S.length ca, .slice B P.length cb] 54)) w.heap.size 6 (sgF h key (.slice A S.length ca) (.slice B P.length cb)) 54 from Holds.new w 6 (sgF h key (.slice A S.length ca) (.slice B P.length cb)) 54)
  have HK0 := Lib.hid (hk.below HB0.out hk.lt)
  have HC0 := Lib.hid (hc.same (same_of_below HB0.out hc.lt))
  have HS0 := Lib.hid (hs.below HB0.out)
  have HP0 := Lib.hid (hp.below HB0.out)
  have HE := Lib.hid he
  have HT := Lib.hid ht
  clear hc hk hs hp he ht
  obtain ⟨mk, m, hmk⟩ : ∃ mk m, headMarkAns h = (mk, m) := ⟨_, _, rfl⟩
  have HMK := Lib.hid hmk
  go_enter Tryz.func84, Tryz.ntmps84
  go_wp2_with fail
  generalize w.alloc (.cells #[.int .i64 h.epoch, .string h.root, .string h.prev, .int .i64 key, .slice A S.length ca, .slice B P.length cb] 54) = w0 at HB0 HX0 HK0 HC0 HS0 HP0 ⊢
  refine (pHdMark_is h mk m _ HK0.out HMK.out).mono ?_
  rintro e w1 ⟨rfl, hb1⟩
  have HB1 := Lib.hid (HB0.out.trans (hb1.mono HB0.out.size))
  have HK1 := Lib.hid (HK0.out.below hb1 HK0.out.lt)
  have HC1 := Lib.hid (HC0.out.same (same_of_below hb1 HC0.out.lt))
  have HX1 := Lib.hid (HX0.out.below hb1 HX0.out.lt)
  have HS1 := Lib.hid (HS0.out.below hb1)
  have HP1 := Lib.hid (HP0.out.below hb1)
  have HP1L := Lib.hid (show p < w1.heap.size from HC1.out.own.lt)
  have HQ1L := Lib.hid (show w.heap.size < w1.heap.size from HX1.out.lt)
  clear hb1 HK0 HC0 HX0 HS0 HP0 HB0
  have HF2 := Lib.hid (show ∀ z : Later w1.heap.size w1, z.at'.cell? ⟨p, 0, none⟩ = some (.string c.pub) ∧ (z.at'.cell? ⟨w.heap.size, 0, none⟩ = some (.int .i64 h.epoch) ∧ z.at'.cell? ⟨w.heap.size, 3, none⟩ = some (.int .i64 key)) ∧ z.at'.cell? ⟨w.heap.size, 4, none⟩ = some (.slice A S.length ca) ∧ z.at'.cell? ⟨w.heap.size, 5, none⟩ = some (.slice B P.length cb) from fun z =>
    ⟨(z.below.cell (p := ⟨p, 0, none⟩) HP1L.out).trans (HC1.out.own.cell 0 (by omega)), ⟨(z.below.cell (p := ⟨w.heap.size, 0, none⟩) HQ1L.out).trans (HX1.out.cell 0 (by omega)), (z.below.cell (p := ⟨w.heap.size, 3, none⟩) HQ1L.out).trans (HX1.out.cell 3 (by omega))⟩, (z.below.cell (p := ⟨w.heap.size, 4, none⟩) HQ1L.out).trans (HX1.out.cell 4 (by omega)), (z.below.cell (p := ⟨w.heap.size, 5, none⟩) HQ1L.out).trans (HX1.out.cell 5 (by omega))⟩)
  have z1 : ∀ z : Later w1.heap.size w1, z.at'.cell? ⟨p, 0, none⟩ = some (.string c.pub) := fun z => (HF2.out z).1
  have z2 : ∀ z : Later w1.heap.size w1, z.at'.cell? ⟨w.heap.size, 0, none⟩ = some (.int .i64 h.epoch) := fun z => (HF2.out z).2.1.1
  have z3 : ∀ z : Later w1.heap.size w1, z.at'.cell? ⟨w.heap.size, 3, none⟩ = some (.int .i64 key) := fun z => (HF2.out z).2.1.2
  have z4 : ∀ z : Later w1.heap.size w1, z.at'.cell? ⟨w.heap.size, 4, none⟩ = some (.slice A S.length ca) := fun z => (HF2.out z).2.2.1
  have z5 : ∀ z : Later w1.heap.size w1, z.at'.cell? ⟨w.heap.size, 5, none⟩ = some (.slice B P.length cb) := fun z => (HF2.out z).2.2.2
  unfold headMarkAns at hmk
  by_cases hrt : rightHead h = true
  · rw [if_pos hrt] at hmk
    obtain ⟨rfl, rfl⟩ := Prod.mk.inj hmk
    rw [show errOf 0 = .nilIface from rfl]
    obtain ⟨k, hk⟩ : ∃ k : Nat, h.epoch = (k : Int) + 1 := ⟨(h.epoch - 1).toNat, by have := (rightHead_facts hrt).1; omega⟩
    have HK := Lib.hid hk
    have hwk : wrap64 (h.epoch - 1) = (k : Int) := by have := HE.out; unfold wrap64; omega
    have HRT := Lib.hid hrt
    clear hrt hmk hk
    by_cases hkey : key = (k : Int)
    · have e1 : (key == (k : Int)) = true := by rw [beq_iff_eq]; exact hkey
      have HKEY := Lib.hid hkey
      clear hkey
      have HT2 := Lib.hid (show sealOk c.pub (headMark h) key S P = T from by
        have := HT.out
        unfold sealedOk at this
        rw [HRT.out, show decide (key = h.epoch - 1) = true from decide_eq_true (by rw [HK.out, HKEY.out]; omega)] at this
        simpa using this)
      have HVZ := Lib.hid (show ∀ z : Later w1.heap.size w1, Calls Tryz.prog 137 #[.string c.pub, .string (headMark h), .agg #[.int .i64 key, .slice A S.length ca, .slice B P.length cb]] z.at' fun e w' => e = .returned (.bool T) ∧ Below z.at'.heap.size z.at' w' from fun z => by
        rw [← HT2.out]
        exact vVerify_any c.pub (headMark h) key S P A B ca cb z.at' (HK1.out.below z.below HK1.out.lt) hls hlp (HS1.out.below z.below) (HP1.out.below z.below))
      go_wp2
      refine wp_region_later (by kernel_rfl) (by kernel_rfl) ?_
      repeat (go_big_quiet_step ((first | (go_at_call 137; refine later_of (HVZ.out _)))))
      refine wpQuiet_nil ?_
      rintro w2 ⟨⟨w2, hb2⟩, rfl⟩
      have HB2 := Lib.hid (HB1.out.trans (hb2.mono HB1.out.size))
      clear z1 z2 z3 z4 z5 hb2 HF2 HVZ
      go_wp2
      go_ret
      exact ⟨rfl, HB2.out⟩
    · have e1 : (key == (k : Int)) = false := by rw [beq_eq_false_iff_ne]; exact hkey
      have HT2 := Lib.hid (show T = false from by
        have := HT.out
        unfold sealedOk at this
        rw [HRT.out, show decide (key = h.epoch - 1) = false from decide_eq_false (by rw [HK.out]; intro e; exact hkey (by rw [e]; omega))] at this
        simpa using this.symm)
      clear hkey
      go_wp2
      refine wp_region_later (by kernel_rfl) (by kernel_rfl) ?_
      repeat (go_big_quiet_step (fail))
      refine wpQuiet_nil ?_
      rintro w2 ⟨⟨w2, hb2⟩, rfl⟩
      have HB2 := Lib.hid (HB1.out.trans (hb2.mono HB1.out.size))
      clear z1 z2 z3 z4 z5 hb2 HF2
      go_wp2
      go_ret
      exact ⟨by rw [HT2.out]; rfl, HB2.out⟩
  · rw [if_neg hrt] at hmk
    obtain ⟨rfl, rfl⟩ := Prod.mk.inj hmk
    rw [show errOf 1 = .iface 28 (.int .i64 1) from rfl]
    have HT2 := Lib.hid (show T = false from by
      have := HT.out
      unfold sealedOk at this
      rw [show rightHead h = false from by simpa using hrt] at this
      simpa using this.symm)
    clear hmk hrt
    go_wp2
    refine wp_region_later (by kernel_rfl) (by kernel_rfl) ?_
    repeat (go_big_quiet_step (fail))
    refine wpQuiet_nil ?_
    rintro w2 ⟨⟨w2, hb2⟩, rfl⟩
    have HB2 := Lib.hid (HB1.out.trans (hb2.mono HB1.out.size))
    clear z1 z2 z3 z4 z5 hb2 HF2
    go_wp2
    go_ret
    exact ⟨by rw [HT2.out]; rfl, HB2.out⟩
end Go.Proofs.YtcfpmofmjnhonaaGreatDoor
