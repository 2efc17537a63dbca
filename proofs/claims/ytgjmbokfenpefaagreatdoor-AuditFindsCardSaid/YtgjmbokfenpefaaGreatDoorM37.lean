/- Parts of the proof, one behind the other: Once, OnceFrom, Box, SealS, Lead, SetM, Dst. -/
import Derived.WalkKit
import Derived.Lib.Hide
import Derived.WalkLawsBesides
import Derived.Deep.QuietTactic
import Derived.Deep.WholeRow
import Derived.ArgAppend
import Derived.Laws.AppendOwnNone
import Derived.Laws.CopyRow
import Derived.Deep.RegionLaw
import Derived.Laws.BytesString
import Derived.Laws.IdiomStrings
import Derived.Test.YtgjmbokfenpefaaGreatDoorProg
import Derived.Laws.BitsAllLaws
import Derived.Outline
import Derived.BigQuiet
import Derived.Laws.CopyOwn
import Derived.RegionTactic
import Derived.StillTail
import Derived.Deep.Quiet
import Derived.Deep.RegionHeld3
import Derived.Deep.DeepCutAuto
import Derived.IntWalk
import Derived.Sort.Walk0
import Derived.Tactics
import Derived.Orders
import Derived.Laws.ResultCell
import Derived.LaidEql
import Derived.Stop.Asserts
import Derived.RowKitTokens
import Derived.OrdersHeld
import Derived.Sort.LotA
import Derived.Lib.SortBridge
import Derived.StringKeys
import Derived.Maps.Own
import Derived.Maps.Views
import Derived.Maps.OwnSet
import Derived.Maps.OwnOps
import Derived.Maps.RangeWalk
import Derived.Sort.KeysCollected
import Derived.Test.YtgjmbokfenpefaaGreatDoorM1
import Derived.Test.YtgjmbokfenpefaaGreatDoorM2
import Derived.Test.YtgjmbokfenpefaaGreatDoorM3
import Derived.Test.YtgjmbokfenpefaaGreatDoorM4
import Derived.Test.YtgjmbokfenpefaaGreatDoorM5
import Derived.Test.YtgjmbokfenpefaaGreatDoorM6
import Derived.Test.YtgjmbokfenpefaaGreatDoorM16
import Derived.Test.YtgjmbokfenpefaaGreatDoorM33
import Derived.Test.YtgjmbokfenpefaaGreatDoorM34
import Derived.Test.YtgjmbokfenpefaaGreatDoorM35
import Derived.Test.YtgjmbokfenpefaaGreatDoorM36
/- The document's OncePublic, OnceSign, OnceFrom. -/
namespace Go.Proofs.YtgjmbokfenpefaaGreatDoor
open Go.RowKit

theorem map_range_succ {α : Type} (f : Nat → α) (k : Nat) : (List.range (k + 1)).map f = (List.range k).map f ++ [f k] := by rw [List.range_succ, List.map_append]; rfl
set_option maxRecDepth 100000 in
theorem refOncePublic_is (b : Nat) (seed : ByteArray) (key : Int) (x : ByteArray) (n : Int) (w : World) (hr : Holds w b 72 refCells 97) (h : publicAns seed key = (x, n)) :
    Calls Tryz.prog 62 #[.pointer (some ⟨b, 0, none⟩), .string seed, .int .i64 key] w fun e w' => e = .returned (.tuple #[.string x, .int .i64 n]) ∧ Below w.heap.size w w' := by
  have HR := Lib.hid hr
  clear hr
  unfold publicAns at h
  by_cases h16 : seed.size = 16
  · rw [if_pos h16] at h
    obtain ⟨hx, rfl⟩ := Prod.mk.inj h
    have HX := Lib.hid hx
    have H16 := Lib.hid h16
    clear h hx h16
    go_enter Tryz.func62, Tryz.ntmps62
    go_wp2_with fail
    refine (isMark_t _ _ H16.out).mono ?_
    rintro e w0 ⟨rfl, rfl⟩
    go_wp2
    go_loopw [8, 13] (fun v i wr => ∃ k : Nat, k ≤ 35 ∧ i = .int .i64 (k : Int) ∧ Hid (Below w0.heap.size w0 wr ∧ Row wr w0.heap.size 1 v k (stCells (pubChains seed key k)))) (fun _ i _ => 35 - (intOf i).toNat)
    case atStart => exact ⟨0, by omega, rfl, Lib.hid ⟨Below.refl _ _, Row.nil _ _ _⟩⟩
    case round =>
      obtain ⟨k, hk, rfl, HU⟩ := hrel
      by_cases hlt : k < 35
      · go_wp2_with fail
        refine (refNum_any key _).mono ?_
        rintro e w1 ⟨rfl, hb1⟩
        have HS1 := Lib.hid hb1
        have HB1 := Lib.hid (HU.out.1.trans (hb1.mono HU.out.1.size))
        clear hb1
        go_wp2_with fail
        refine (refNum_any (k : Int) _).mono ?_
        rintro e w2 ⟨rfl, hb2⟩
        have HS2 := Lib.hid (HS1.out.trans (hb2.mono HS1.out.size))
        have HB2 := Lib.hid (HB1.out.trans (hb2.mono HB1.out.size))
        clear hb2
        go_wp2_with fail
        refine (refMark_any b 115 [seed, txt (num8 key), txt (num8 (k : Int))] (some ⟨w2.heap.size, 0, none⟩) 3 _ ((HR.out.below HB2.out HR.out.lt).alloc _) (by have := H16.out; simp [total, num_size]; omega) (by simp) (strs_new w2 [seed, txt (num8 key), txt (num8 (k : Int))] 9)).mono ?_
        rintro e w3 ⟨rfl, hb3⟩
        have HS3 := Lib.hid ((HS2.out.trans ((alloc_below w2 (.cells #[.string seed, .string (txt (num8 key)), .string (txt (num8 (k : Int)))] 9)).mono HS2.out.size)).trans (hb3.mono (Nat.le_trans HS2.out.size (by simp))))
        have HB3 := Lib.hid (HU.out.1.trans (HS3.out.mono HU.out.1.size))
        clear hb3
        go_wp2_with fail
        refine (refAlong_any b (seedOf seed key k) (k : Int) 0 15 _ (HR.out.below HB3.out HR.out.lt) (seedOf_size _ _ _) (by omega) (by omega)).mono ?_
        rintro e w4 ⟨rfl, hb4⟩
        have HS4 := Lib.hid (HS3.out.trans (hb4.mono HS3.out.size))
        have HB4 := Lib.hid (HB3.out.trans (hb4.mono HB3.out.size))
        have HROW := Lib.hid (HU.out.2.belowAll HS4.out)
        clear hb4
        go_wp2_with (at_builtin; refine wpList_append_one2 rfl (.tmp 16) (.tmp 28) 53 rfl 9 Tryz.underlying53 _ 16 infoStr rfl (by decide) w0.heap.size _ k _ rfl HROW.out HB4.out.size (by omega) _ rfl rfl 9 ?_; intro v' w6 hrow6 hgrow6 hmove6)
        go_roundw
        case rel =>
          refine ⟨k + 1, by omega, by go_num, Lib.hid ⟨HB4.out.grown hgrow6.out HB4.out.size (fun j hj => (HROW.out.lt j hj).1), ?_⟩⟩
          have e : pubChains seed key (k + 1) = pubChains seed key k ++ [alongFrom (k : Int) 15 0 (seedOf seed key k)] := map_range_succ _ _
          rw [e, stCells_append]
          exact hrow6.out
        case measure => simp [intOf]; omega
      · obtain rfl : k = 35 := by omega
        obtain ⟨-, PA, pc, rfl, hpi⟩ := (show Row wr w0.heap.size 1 _ (pubChains seed key 35).length (stCells (pubChains seed key 35)) from by unfold pubChains; rw [List.length_map, List.length_range]; exact HU.out.2).strs
        have HPI := Lib.hid hpi
        have HTOT := Lib.hid (show total (pubChains seed key 35) ≤ 1073741800 by have := total_leM _ 16 (pub_size seed key 35); have e : (pubChains seed key 35).length = 35 := by unfold pubChains; simp
                                                                                 omega)
        have HLEN := Lib.hid (show (pubChains seed key 35).length ≤ 1000000 by unfold pubChains; simp)
        clear hpi hlt hk
        go_wp2_with fail
        refine (refMark_any b 112 (pubChains seed key 35) PA pc _ (HR.out.below HU.out.1 HR.out.lt) HTOT.out HLEN.out HPI.out).mono ?_
        rintro e w7 ⟨rfl, hb7⟩
        have HB7 := Lib.hid (HU.out.1.trans (hb7.mono HU.out.1.size))
        clear hb7
        go_wp2
        refine bodyPost_ret (results_tmp2 rfl _ _ _) rfl ?_
        exact ⟨by rw [← HX.out]; rfl, HB7.out⟩
  · rw [if_neg h16] at h
    obtain ⟨rfl, rfl⟩ := Prod.mk.inj h
    have H16 := Lib.hid h16
    clear h h16
    go_enter Tryz.func62, Tryz.ntmps62
    go_wp2_with fail
    refine (isMark_f _ _ H16.out).mono ?_
    rintro e w0 ⟨rfl, rfl⟩
    go_wp2
    refine bodyPost_ret (results_tmp2 rfl _ _ _) rfl ?_
    exact ⟨rfl, Below.refl _ _⟩
/-- The digits, read. -/
theorem digit_cell {w : World} {base : Nat} {v : Value} {m : ByteArray} (h : Row w base 1 v 35 (i64s (digitsOf m.data.toList))) (h16 : m.size = 16) :
    ∃ g cap, v = .slice (some ⟨g, 0, none⟩) 35 cap ∧ base ≤ g ∧ g < w.heap.size ∧ ∀ k, k < 35 → w.cell? ⟨g, k, none⟩ = some (.int .i64 (((digitsOf m.data.toList).getD k 0 : Nat) : Int)) := by
  obtain ⟨g, cap, rfl, hb, hg, _, hc, _⟩ := h.shape (by omega)
  refine ⟨g, cap, rfl, hb, hg, fun k hk => hc k _ (i64s_get _ k ?_)⟩
  rw [digitsOf_length (by rw [size_len]; exact h16)]; exact hk
set_option maxRecDepth 100000 in
theorem refOnceSign_is (b : Nat) (seed : ByteArray) (key : Int) (m : ByteArray) (T : List ByteArray) (n : Int) (w : World) (hr : Holds w b 72 refCells 97) (h : signAns seed key m = (T, n)) :
    Calls Tryz.prog 114 #[.pointer (some ⟨b, 0, none⟩), .string seed, .int .i64 key, .string m] w fun e w' => ∃ v, e = .returned (.tuple #[v, .int .i64 n]) ∧ Below w.heap.size w w' ∧ Row w' w.heap.size 1 v T.length (stCells T) := by
  have HR := Lib.hid hr
  clear hr
  unfold signAns at h
  by_cases h16 : seed.size = 16
  · have H16 := Lib.hid h16
    by_cases hm16 : m.size = 16
    · rw [if_pos ⟨h16, hm16⟩] at h
      obtain ⟨hx, rfl⟩ := Prod.mk.inj h
      have HX := Lib.hid hx
      have HM16 := Lib.hid hm16
      clear h hx h16 hm16
      go_enter Tryz.func114, Tryz.ntmps114
      go_wp2_with fail
      refine (isMark_t _ _ H16.out).mono ?_
      rintro e w0 ⟨rfl, rfl⟩
      go_wp2_with fail
      refine (isMark_t _ _ HM16.out).mono ?_
      rintro e w0 ⟨rfl, rfl⟩
      go_wp2_with fail
      refine (refDigits_any m _ HM16.out).mono ?_
      rintro e w1 ⟨dv, rfl, hb1, hdrow⟩
      obtain ⟨g, dc, rfl, hgb, hgl, hcells⟩ := digit_cell hdrow HM16.out
      have HC := Lib.hid hcells
      have HB1 := Lib.hid hb1
      have HGL := Lib.hid hgl
      clear hb1 hdrow hgb hgl hcells
      go_wp2
      go_loopw [10, 24] (fun v i wr => ∃ k : Nat, k ≤ 35 ∧ i = .int .i64 (k : Int) ∧ Hid (Below w1.heap.size w1 wr ∧ Row wr w1.heap.size 1 v k (stCells (signChains seed key m k)))) (fun _ i _ => 35 - (intOf i).toNat)
      case atStart => exact ⟨0, by omega, rfl, Lib.hid ⟨Below.refl _ _, Row.nil _ _ _⟩⟩
      case round =>
        obtain ⟨k, hk, rfl, HU⟩ := hrel
        by_cases hlt : k < 35
        · have t0 : wr.cell? ⟨g, k, none⟩ = some (.int .i64 (((digitsOf m.data.toList).getD k 0 : Nat) : Int)) := (HU.out.1.cell HGL.out).trans (HC.out k hlt)
          have HDL := Lib.hid (digit_le HM16.out k)
          obtain ⟨D, hD⟩ : ∃ D, (digitsOf m.data.toList).getD k 0 = D := ⟨_, rfl⟩
          rw [hD] at t0 HDL
          have HD := Lib.hid hD
          have HR0 := Lib.hid ((HR.out.below HB1.out HR.out.lt).below HU.out.1 (Nat.lt_of_lt_of_le HR.out.lt HB1.out.size))
          clear hD
          go_wp2_with fail
          clear t0
          refine (refNum_any key _).mono ?_
          rintro e w2 ⟨rfl, hb2⟩
          have HS2 := Lib.hid hb2
          clear hb2
          go_wp2_with fail
          refine (refNum_any (k : Int) _).mono ?_
          rintro e w3 ⟨rfl, hb3⟩
          have HS3 := Lib.hid (HS2.out.trans (hb3.mono HS2.out.size))
          clear hb3
          go_wp2_with fail
          refine (refMark_any b 115 [seed, txt (num8 key), txt (num8 (k : Int))] (some ⟨w3.heap.size, 0, none⟩) 3 _ ((HR0.out.below HS3.out HR0.out.lt).alloc _) (by have := H16.out; simp [total, num_size]; omega) (by simp) (strs_new w3 [seed, txt (num8 key), txt (num8 (k : Int))] 9)).mono ?_
          rintro e w4 ⟨rfl, hb4⟩
          have HS4 := Lib.hid ((HS3.out.trans ((alloc_below w3 (.cells #[.string seed, .string (txt (num8 key)), .string (txt (num8 (k : Int)))] 9)).mono HS3.out.size)).trans (hb4.mono (Nat.le_trans HS3.out.size (by simp))))
          clear hb4
          go_wp2_with fail
          refine (refAlong_any b (seedOf seed key k) (k : Int) 0 D _ (HR0.out.below HS4.out HR0.out.lt) (seedOf_size _ _ _) (by omega) HDL.out).mono ?_
          rintro e w5 ⟨rfl, hb5⟩
          have HS5 := Lib.hid (HS4.out.trans (hb5.mono HS4.out.size))
          have HB5 := Lib.hid (HU.out.1.trans (HS5.out.mono HU.out.1.size))
          have HROW := Lib.hid (HU.out.2.belowAll HS5.out)
          clear hb5
          go_wp2_with (at_builtin; refine wpList_append_one2 rfl (.tmp 29) (.tmp 42) 53 rfl 9 Tryz.underlying53 _ 16 infoStr rfl (by decide) w1.heap.size _ k _ rfl HROW.out HB5.out.size (by omega) _ rfl rfl 9 ?_; intro v' w6 hrow6 hgrow6 hmove6)
          go_roundw
          case rel =>
            refine ⟨k + 1, by omega, by go_num, Lib.hid ⟨HB5.out.grown hgrow6.out HB5.out.size (fun j hj => (HROW.out.lt j hj).1), ?_⟩⟩
            have e : signChains seed key m (k + 1) = signChains seed key m k ++ [alongFrom (k : Int) ((digitsOf m.data.toList).getD k 0) 0 (seedOf seed key k)] := map_range_succ _ _
            rw [e, stCells_append, HD.out]
            exact hrow6.out
          case measure => simp [intOf]; omega
        · obtain rfl : k = 35 := by omega
          go_wp2
          refine bodyPost_ret (results_tmp2 rfl _ _ _) rfl ?_
          refine ⟨_, rfl, HB1.out.trans (HU.out.1.mono HB1.out.size), ?_⟩
          rw [← HX.out, show (signChains seed key m 35).length = 35 from chains_len _ _]
          exact HU.out.2.mono HB1.out.size
    · rw [if_neg (fun e => hm16 e.2)] at h
      obtain ⟨rfl, rfl⟩ := Prod.mk.inj h
      have HM16 := Lib.hid hm16
      clear h h16 hm16
      go_enter Tryz.func114, Tryz.ntmps114
      go_wp2_with fail
      refine (isMark_t _ _ H16.out).mono ?_
      rintro e w0 ⟨rfl, rfl⟩
      go_wp2_with fail
      refine (isMark_f _ _ HM16.out).mono ?_
      rintro e w0 ⟨rfl, rfl⟩
      go_wp2
      refine bodyPost_ret (results_tmp2 rfl _ _ _) rfl ?_
      exact ⟨_, rfl, Below.refl _ _, Row.nil _ _ _⟩
  · rw [if_neg (fun e => h16 e.1)] at h
    obtain ⟨rfl, rfl⟩ := Prod.mk.inj h
    have H16 := Lib.hid h16
    clear h h16
    go_enter Tryz.func114, Tryz.ntmps114
    go_wp2_with fail
    refine (isMark_f _ _ H16.out).mono ?_
    rintro e w0 ⟨rfl, rfl⟩
    go_wp2
    refine bodyPost_ret (results_tmp2 rfl _ _ _) rfl ?_
    exact ⟨_, rfl, Below.refl _ _, Row.nil _ _ _⟩
end Go.Proofs.YtgjmbokfenpefaaGreatDoor
/- The document's OnceFrom. -/
namespace Go.Proofs.YtgjmbokfenpefaaGreatDoor
open Go.RowKit

set_option maxHeartbeats 1000000 in
set_option maxRecDepth 100000 in
theorem refOnceFrom_is (b : Nat) (m : ByteArray) (S : List ByteArray) (A : Option Addr) (cap : Nat) (x : ByteArray) (n : Int) (w : World) (hl : S.length ≤ 1000000) (hr : Holds w b 72 refCells 97) (hsig : Strs w A S) (h : fromAns m S = (x, n)) :
    Calls Tryz.prog 119 #[.pointer (some ⟨b, 0, none⟩), .string m, .slice A S.length cap] w fun e w' => e = .returned (.tuple #[.string x, .int .i64 n]) ∧ Below w.heap.size w w' := by
  have HR := Lib.hid hr
  have HSIG := Lib.hid hsig
  clear hr hsig
  unfold fromAns at h
  by_cases hm16 : m.size = 16
  · have HM16 := Lib.hid hm16
    by_cases h35 : S.length = 35
    · by_cases hmk : marksOk S = true
      · rw [if_pos ⟨hm16, h35, hmk⟩] at h
        obtain ⟨hx, rfl⟩ := Prod.mk.inj h
        have HX := Lib.hid hx
        have HMK := Lib.hid hmk
        have H35 := Lib.hid h35
        have e35 : ((S.length : Int) == 35) = true := by rw [beq_iff_eq]; omega
        have e36 : ((S.length : Int) != 35) = false := by simp; omega
        have hs35 : S.length ≤ 35 := by omega
        have hs36 : 35 ≤ S.length := by omega
        clear h hx hm16 hmk h35
        go_enter Tryz.func119, Tryz.ntmps119
        go_wp2_with fail
        refine (isMark_t _ _ HM16.out).mono ?_
        rintro e w0 ⟨rfl, rfl⟩
        go_wp2_with fail
        refine (refMarks_any S A cap _ HSIG.out hl).mono ?_
        rintro e w0 ⟨rfl, rfl⟩
        rw [HMK.out]
        clear e35 e36
        go_wp2_with fail
        refine (refDigits_any m _ HM16.out).mono ?_
        rintro e w1 ⟨dv, rfl, hb1, hdrow⟩
        obtain ⟨g, dc, rfl, hgb, hgl, hcells⟩ := digit_cell hdrow HM16.out
        have HC := Lib.hid hcells
        have HB1 := Lib.hid hb1
        have HGL := Lib.hid hgl
        clear hb1 hdrow hgb hgl hcells
        go_wp2
        go_loopw [8, 27] (fun v i wr => ∃ k : Nat, k ≤ 35 ∧ i = .int .i64 (k : Int) ∧ Hid (Below w1.heap.size w1 wr ∧ Row wr w1.heap.size 1 v k (stCells (fromChains m S k)))) (fun _ i _ => 35 - (intOf i).toNat)
        case atStart => exact ⟨0, by omega, rfl, Lib.hid ⟨Below.refl _ _, Row.nil _ _ _⟩⟩
        case round =>
          obtain ⟨k, hk, rfl, HU⟩ := hrel
          by_cases hlt : k < 35
          · have t0 : wr.cell? ⟨g, k, none⟩ = some (.int .i64 (((digitsOf m.data.toList).getD k 0 : Nat) : Int)) := (HU.out.1.cell HGL.out).trans (HC.out k hlt)
            obtain ⟨p, hp⟩ : ∃ p, S[k]? = some p := ⟨_, List.getElem?_eq_getElem (by omega)⟩
            obtain ⟨a, rfl, _, c0⟩ := ((HSIG.out.below HB1.out).below HU.out.1) k p hp
            have HP := Lib.hid (show S.getD k ⟨#[]⟩ = p by rw [List.getD_eq_getElem?_getD, hp]; rfl)
            have HPS := Lib.hid (marksOk_get HMK.out hp)
            have HDL := Lib.hid (digit_le HM16.out k)
            obtain ⟨D, hD⟩ : ∃ D, (digitsOf m.data.toList).getD k 0 = D := ⟨_, rfl⟩
            rw [hD] at t0 HDL
            have HD := Lib.hid hD
            have HR0 := Lib.hid ((HR.out.below HB1.out HR.out.lt).below HU.out.1 (Nat.lt_of_lt_of_le HR.out.lt HB1.out.size))
            clear hD hp
            go_wp2_with fail
            clear t0 c0
            refine (refAlong_any b p (k : Int) D 15 _ HR0.out HPS.out HDL.out (by omega)).mono ?_
            rintro e w5 ⟨rfl, hb5⟩
            have HB5 := Lib.hid (HU.out.1.trans (hb5.mono HU.out.1.size))
            have HROW := Lib.hid (HU.out.2.belowAll hb5)
            clear hb5
            go_wp2_with (at_builtin; refine wpList_append_one2 rfl (.tmp 32) (.tmp 41) 53 rfl 9 Tryz.underlying53 _ 16 infoStr rfl (by decide) w1.heap.size _ k _ rfl HROW.out HB5.out.size (by omega) _ rfl rfl 9 ?_; intro v' w6 hrow6 hgrow6 hmove6)
            go_roundw
            case rel =>
              refine ⟨k + 1, by omega, by go_num, Lib.hid ⟨HB5.out.grown hgrow6.out HB5.out.size (fun j hj => (HROW.out.lt j hj).1), ?_⟩⟩
              have e : fromChains m S (k + 1) = fromChains m S k ++ [alongFrom (k : Int) (15 - (digitsOf m.data.toList).getD k 0) ((digitsOf m.data.toList).getD k 0) (S.getD k ⟨#[]⟩)] := map_range_succ _ _
              rw [e, stCells_append, HD.out, HP.out]
              exact hrow6.out
            case measure => simp [intOf]; omega
          · obtain rfl : k = 35 := by omega
            obtain ⟨-, PA, pc, rfl, hpi⟩ := (show Row wr w1.heap.size 1 _ (fromChains m S 35).length (stCells (fromChains m S 35)) from by rw [show (fromChains m S 35).length = 35 from chains_len _ _]; exact HU.out.2).strs
            have HPI := Lib.hid hpi
            have HTOT := Lib.hid (show total (fromChains m S 35) ≤ 1073741800 by
              have h1 := total_leM _ 16 (from_size m S (marksOk_all HMK.out) H35.out 35 (Nat.le_refl _))
              rw [show (fromChains m S 35).length = 35 from chains_len _ _] at h1
              omega)
            have HLEN := Lib.hid (show (fromChains m S 35).length ≤ 1000000 by rw [show (fromChains m S 35).length = 35 from chains_len _ _]; omega)
            have HR0 := Lib.hid ((HR.out.below HB1.out HR.out.lt).below HU.out.1 (Nat.lt_of_lt_of_le HR.out.lt HB1.out.size))
            clear hpi hlt hk
            go_wp2_with fail
            refine (refMark_any b 112 (fromChains m S 35) PA pc _ HR0.out HTOT.out HLEN.out HPI.out).mono ?_
            rintro e w7 ⟨rfl, hb7⟩
            have HB7 := Lib.hid (HB1.out.trans ((HU.out.1.trans (hb7.mono HU.out.1.size)).mono HB1.out.size))
            clear hb7
            go_wp2
            refine bodyPost_ret (results_tmp2 rfl _ _ _) rfl ?_
            exact ⟨by rw [← HX.out]; rfl, HB7.out⟩
      · rw [if_neg (fun e => hmk e.2.2)] at h
        obtain ⟨rfl, rfl⟩ := Prod.mk.inj h
        have HMK := Lib.hid (show marksOk S = false by simpa using hmk)
        have e35 : ((S.length : Int) == 35) = true := by rw [beq_iff_eq]; omega
        have e36 : ((S.length : Int) != 35) = false := by simp; omega
        clear h hm16 hmk h35
        go_enter Tryz.func119, Tryz.ntmps119
        go_wp2_with fail
        refine (isMark_t _ _ HM16.out).mono ?_
        rintro e w0 ⟨rfl, rfl⟩
        go_wp2_with fail
        refine (refMarks_any S A cap _ HSIG.out hl).mono ?_
        rintro e w0 ⟨rfl, rfl⟩
        rw [HMK.out]
        go_wp2
        refine bodyPost_ret (results_tmp2 rfl _ _ _) rfl ?_
        exact ⟨rfl, Below.refl _ _⟩
    · rw [if_neg (fun e => h35 e.2.1)] at h
      obtain ⟨rfl, rfl⟩ := Prod.mk.inj h
      have e35 : ((S.length : Int) == 35) = false := by rw [beq_eq_false_iff_ne]; omega
      have e36 : ((S.length : Int) != 35) = true := by simp; omega
      clear h hm16 h35
      go_enter Tryz.func119, Tryz.ntmps119
      go_wp2_with fail
      refine (isMark_t _ _ HM16.out).mono ?_
      rintro e w0 ⟨rfl, rfl⟩
      go_wp2
      refine bodyPost_ret (results_tmp2 rfl _ _ _) rfl ?_
      exact ⟨rfl, Below.refl _ _⟩
  · rw [if_neg (fun e => hm16 e.1)] at h
    obtain ⟨rfl, rfl⟩ := Prod.mk.inj h
    have HM16 := Lib.hid hm16
    clear h hm16
    go_enter Tryz.func119, Tryz.ntmps119
    go_wp2_with fail
    refine (isMark_f _ _ HM16.out).mono ?_
    rintro e w0 ⟨rfl, rfl⟩
    go_wp2
    refine bodyPost_ret (results_tmp2 rfl _ _ _) rfl ?_
    exact ⟨rfl, Below.refl _ _⟩
end Go.Proofs.YtgjmbokfenpefaaGreatDoor
/- The document's NewBox, Public. -/
namespace Go.Proofs.YtgjmbokfenpefaaGreatDoor
open Go.RowKit

set_option maxHeartbeats 1000000 in
set_option maxRecDepth 100000 in
theorem refNewBox_t (b : Nat) (seed : ByteArray) (w : World) (hr : Holds w b 72 refCells 97) (h16 : seed.size = 16) :
    Calls Tryz.prog 33 #[.pointer (some ⟨b, 0, none⟩), .string seed] w fun e w' => ∃ bb v, e = .returned (.tuple #[.pointer (some ⟨bb, 0, none⟩), .int .i64 0]) ∧ BoxRel bb w w' seed (rowsOf seed) v := by
  have HR := Lib.hid hr
  have H16 := Lib.hid h16
  clear hr h16
  go_enter Tryz.func33, Tryz.ntmps33
  go_wp2_with fail
  refine (isMark_t _ _ H16.out).mono ?_
  rintro e w0 ⟨rfl, rfl⟩
  have HREL := Lib.hid (show BoxRel w0.heap.size w0 (w0.alloc (.cells #[.string seed, .slice none 0 0] 112)) seed (rows0 seed 0) (.slice none 0 0) from
    ⟨alloc_below _ _, Nat.le_refl _, Holds.new w0 2 (bxF seed (.slice none 0 0)) 112, Row.nil _ _ _⟩)
  go_wp2
  generalize w0.alloc (.cells #[.string seed, .slice none 0 0] 112) = w1 at HREL ⊢
  generalize hbb : w0.heap.size = bb at HREL
  clear hbb
  go_loopw [17] (fun i wr => ∃ (k : Nat) (v : Value), k ≤ 8 ∧ i = .int .i64 (k : Int) ∧ Hid (BoxRel bb w0 wr seed (rows0 seed k) v)) (fun i _ => 8 - (intOf i).toNat)
  case atStart => exact ⟨0, _, by omega, rfl, HREL⟩
  case round =>
    obtain ⟨k, v, hk, rfl, HU⟩ := hrel
    by_cases hlt : k < 8
    · have HPUB := Lib.hid (show publicAns seed (k : Int) = (publicOf seed (k : Int), 0) by unfold publicAns; rw [if_pos H16.out])
      go_wp2_with fail
      refine (refOncePublic_is b seed (k : Int) _ _ _ (HR.out.below HU.out.below HR.out.lt) HPUB.out).mono ?_
      rintro e w2 ⟨rfl, hb2⟩
      have HB2 := Lib.hid hb2
      have HR2 := Lib.hid ((HR.out.below HU.out.below HR.out.lt).below hb2 (Nat.lt_of_lt_of_le HR.out.lt HU.out.below.size))
      have HOWN := Lib.hid (HU.out.own.below hb2 HU.out.own.lt)
      have hps : (publicOf seed (k : Int)).size = 16 := markOf_len _ _
      obtain ⟨P, hP⟩ : ∃ P, publicOf seed (k : Int) = P := ⟨_, rfl⟩
      rw [hP] at hps ⊢
      have HP := Lib.hid hP
      have HPS := Lib.hid hps
      clear hb2 hP hps
      have HS := Lib.hid (show ∀ u : World, Below (bb + 1) w2 u → (u.cell? ⟨bb, 1, none⟩ = some v ∧ u.frozen? ⟨bb, 1, none⟩ = false ∧ Below (bb + 1) w2 u) from
        fun u hu => ⟨(hu.cell (p := ⟨bb, 1, none⟩) (Nat.lt_succ_self bb)).trans (HOWN.out.cell 1 (by omega)), (hu.frozen (p := ⟨bb, 1, none⟩) (Nat.lt_succ_self bb)).trans (HOWN.out.free 1), hu⟩)
      have HLT2 := Lib.hid (show bb + 1 ≤ w2.heap.size from HOWN.out.lt)
      go_wp2
      have q0 : w2.cell? ⟨bb, 1, none⟩ = some v := HOWN.out.cell 1 (by omega)
      go_region_law (first
          | (go_simp; go_at_call 63; refine (refNum_any (k : Int) _).mono ?_; rintro e w3 ⟨rfl, hb3⟩
             have c3 := (HS.out _ ((Below.refl _ _).drew.trans (hb3.mono HLT2.out))).1
             have c3' := fun o => (HS.out _ (((Below.refl _ _).drew.trans (hb3.mono HLT2.out)).alloc (Nat.le_trans HLT2.out hb3.size) o)).1)
          | (go_simp; go_at_call 34
             refine (refMark_any b 116 [txt (num8 (k : Int)), P] (some ⟨w3.heap.size, 0, none⟩) 2 _ ((HR2.out.below ((Below.refl _ _).drew.trans hb3) HR2.out.lt).alloc _) (by have := HPS.out; simp [total, num_size]; omega) (by simp) (strs_new w3 [txt (num8 (k : Int)), P] 9)).mono ?_
             rintro e w4 ⟨rfl, hb4⟩
             have HM4 := Lib.hid (show Below w2.heap.size w2 w4 from (((Below.refl _ _).drew.trans hb3).alloc hb3.size _).trans (hb4.mono (Nat.le_trans hb3.size (by simp))))
             have HROW := Lib.hid (HU.out.row.belowAll (HB2.out.trans (HM4.out.mono HB2.out.size)))
             have c4 := (HS.out _ (HM4.out.mono HLT2.out)).1
             have c4' := fun o => (HS.out _ ((HM4.out.mono HLT2.out).alloc (Nat.le_trans HLT2.out HM4.out.size) o)).1)
          | (refine step_of_list rfl ?_; refine wpList_append_one2 rfl (.tmp 31) (.tmp 38) 53 rfl 9 Tryz.underlying53 _ 16 infoStr rfl (by decide) (bb + 1) v (rows0 seed k).length (stCells (rows0 seed k)) rfl HROW.out (Nat.le_trans HLT2.out HM4.out.size) (by rw [rows0_length]; omega) (.string _) rfl rfl 9 ?_
             intro v' w6 hrow6 hgrow6 hmove6
             have HG6 := Lib.hid ((HM4.out.mono HLT2.out).grown hgrow6.out (Nat.le_trans HLT2.out HM4.out.size) (fun j hj => (HROW.out.lt j hj).1))
             obtain ⟨p6, cap6, rfl⟩ := hrow6.out.any
             have t0 := (HS.out _ HG6.out).1
             have t1 := (HS.out _ HG6.out).2.1
             refine then1 ?_))
      all_goals
        go_wp2
        go_roundw
        case rel =>
          refine ⟨k + 1, .slice p6 ((rows0 seed k).length + 1) cap6, by omega, by go_num, Lib.hid ?_⟩
          have e : rows0 seed (k + 1) = rows0 seed k ++ [markOf 116 [txt (num8 (k : Int)), P]] := by rw [← HP.out]; exact map_range_succ _ _
          rw [e]
          exact BoxRel.next HU.out (HB2.out.trans (HM4.out.mono HB2.out.size)) hrow6.out hgrow6.out
        case measure => simp [intOf]; omega
    · have HK8 := Lib.hid (show k = 8 by omega)
      go_wp2
      go_loopw [10] (fun i w' => ∃ (j : Nat) (v : Value), j ≤ 7 ∧ i = .int .i64 ((2 * j : Nat) : Int) ∧ Hid (BoxRel bb w0 w' seed (rowsUpto seed j) v)) (fun i _ => 14 - (intOf i).toNat)
      case atStart =>
        have h := HU.out
        rw [HK8.out] at h
        exact ⟨0, _, by omega, rfl, Lib.hid h⟩
      case round =>
        clear HU
        obtain ⟨j, v, hj, rfl, HU⟩ := hrel
        by_cases hlt2 : j < 7
        · have HRL := Lib.hid (rowsUpto_length seed j)
          obtain ⟨R, hR⟩ : ∃ R, rowsUpto seed j = R := ⟨_, rfl⟩
          have HNX := Lib.hid (show rowsUpto seed (j + 1) = R ++ [markOf 117 [R.getD (2 * j) ⟨#[]⟩, R.getD (2 * j + 1) ⟨#[]⟩]] by rw [rowsUpto, hR])
          have HSZ := Lib.hid (rowsUpto_size seed j)
          rw [hR] at HU HRL HSZ
          clear hR
          have hrl1 : R.length ≤ 14 := by have := HRL.out; omega
          have hrl2 : 2 * j + 2 ≤ R.length := by have := HRL.out; omega
          obtain ⟨g, rc, rfl, hgb, hgl, -, hcells, -⟩ := HU.out.row.shape (by omega)
          have r1 : _ := hcells (2 * j) (.string (R.getD (2 * j) ⟨#[]⟩)) (by unfold stCells; rw [List.getElem?_map, List.getD_eq_getElem?_getD, List.getElem?_eq_getElem (by omega)]; rfl)
          have r2 : _ := hcells (2 * j + 1) (.string (R.getD (2 * j + 1) ⟨#[]⟩)) (by unfold stCells; rw [List.getElem?_map, List.getD_eq_getElem?_getD, List.getElem?_eq_getElem (by omega)]; rfl)
          have HX1 := Lib.hid (show (R.getD (2 * j) ⟨#[]⟩).size = 16 by rw [List.getD_eq_getElem?_getD, List.getElem?_eq_getElem (by omega)]; exact HSZ.out _ (List.getElem_mem _))
          have HX2 := Lib.hid (show (R.getD (2 * j + 1) ⟨#[]⟩).size = 16 by rw [List.getD_eq_getElem?_getD, List.getElem?_eq_getElem (by omega)]; exact HSZ.out _ (List.getElem_mem _))
          generalize R.getD (2 * j) ⟨#[]⟩ = x1 at r1 HX1 HNX
          generalize R.getD (2 * j + 1) ⟨#[]⟩ = x2 at r2 HX2 HNX
          obtain ⟨i2, hi2⟩ : ∃ i2 : Nat, 2 * j = i2 := ⟨_, rfl⟩
          rw [hi2] at r1 r2 hrl2 ⊢
          have HI2 := Lib.hid hi2
          clear hi2 hcells hgb
          have HLT2 := Lib.hid (show bb + 1 ≤ wr.heap.size from HU.out.own.lt)
          have hbbl : bb < wr.heap.size := HU.out.own.lt
          have HR2 := Lib.hid (HR.out.below HU.out.below HR.out.lt)
          have HS := Lib.hid (show ∀ u : World, Below (bb + 1) wr u → (u.cell? ⟨bb, 1, none⟩ = some (.slice (some ⟨g, 0, none⟩) R.length rc) ∧ u.frozen? ⟨bb, 1, none⟩ = false) from
            fun u hu => ⟨(hu.cell (p := ⟨bb, 1, none⟩) (Nat.lt_succ_self bb)).trans (HU.out.own.cell 1 (by omega)), (hu.frozen (p := ⟨bb, 1, none⟩) (Nat.lt_succ_self bb)).trans (HU.out.own.free 1)⟩)
          have q0 : wr.cell? ⟨bb, 1, none⟩ = some (.slice (some ⟨g, 0, none⟩) R.length rc) := HU.out.own.cell 1 (by omega)
          have e14 : decide ((i2 : Int) < 14) = true := by have := HI2.out; simp; omega
          have k1 : (0 : Int) ≤ (i2 : Int) := by omega
          have k2 : (i2 : Int) < (R.length : Int) := by omega
          have k3 : IntKind.i64.wrap ((i2 : Int) + 1) = (i2 : Int) + 1 := IntWalk.i64_in _ (by omega)
          have k4 : (i2 : Int) + 1 < (R.length : Int) := by omega
          have k5 : ((i2 : Int) + 1).toNat = i2 + 1 := by omega
          have k6 : (0 : Int) ≤ (i2 : Int) + 1 := by omega
          have z0 : ∀ z : BoxZ bb g i2 (.slice (some ⟨g, 0, none⟩) R.length rc) x1 x2, z.at'.cell? ⟨bb, 1, none⟩ = some (.slice (some ⟨g, 0, none⟩) R.length rc) := fun z => z.h0
          have z1 : ∀ z : BoxZ bb g i2 (.slice (some ⟨g, 0, none⟩) R.length rc) x1 x2, z.at'.cell? ⟨g, i2, none⟩ = some (.string x1) := fun z => z.h1
          have z2 : ∀ z : BoxZ bb g i2 (.slice (some ⟨g, 0, none⟩) R.length rc) x1 x2, z.at'.cell? ⟨g, i2 + 1, none⟩ = some (.string x2) := fun z => z.h2
          have : Nonempty (BoxZ bb g i2 (.slice (some ⟨g, 0, none⟩) R.length rc) x1 x2) := ⟨⟨wr.drew, q0, r1, r2⟩⟩
          go_wp2
          refine wp_region_taken (fun w' => ∃ z : BoxZ bb g i2 (.slice (some ⟨g, 0, none⟩) R.length rc) x1 x2, w' = z.at') [0, 1, 2, 3, 4, 5, 6, 7, 8, 9, 10, 11, 12, 13, 14, 15, 16, 17, 18, 19, 20] [21, 22, 23, 24, 25, 26, 27] (by kernel_rfl) (by kernel_rfl) (by intro c d v a w h; cases d <;> exact h) ⟨⟨wr.drew, q0, r1, r2⟩, rfl⟩ ?_
          simp only [pickOps, List.filterMap_cons, List.filterMap_nil, List.getElem?_cons_zero, List.getElem?_cons_succ]
          repeat (first | go_big_quiet_step (fail) | quiet_step (fail))
          refine wpQuiet_nil ?_
          have HZ := Lib.hid (show ∀ u : World, Below wr.heap.size wr u → ∃ z : BoxZ bb g i2 (.slice (some ⟨g, 0, none⟩) R.length rc) x1 x2, u = z.at' from
            fun u hu => ⟨⟨u, (hu.cell (p := ⟨bb, 1, none⟩) hbbl).trans q0, (hu.cell (p := ⟨g, i2, none⟩) hgl).trans r1, (hu.cell (p := ⟨g, i2 + 1, none⟩) hgl).trans r2⟩, rfl⟩)
          clear z0 z1 z2 this
          refine wpSeq_one rfl (fun K hK => ?_)
          go_wp2
          refine hK _ _ (HZ.out _ ((Below.refl _ _).alloc (Nat.le_refl _) _).drew) ?_
          clear hK K
          refine wpSeq_one rfl (fun K hK => ?_)
          go_wp2_with fail
          refine (refMark_any b 117 [x1, x2] (some ⟨wr.heap.size, 0, none⟩) 2 _ (HR2.out.alloc _).drew (by have := HX1.out; have := HX2.out; simp [total]; omega) (by simp) (strs_new wr [x1, x2] 9).drew).mono ?_
          rintro e w4 ⟨rfl, hb4⟩
          have HM4 := Lib.hid (show Below wr.heap.size wr w4 from ((Below.refl _ _).alloc (Nat.le_refl _) _).drew.trans (hb4.mono (by simp)))
          have HROW := Lib.hid (HU.out.row.belowAll HM4.out)
          clear hb4
          go_wp2
          refine hK _ _ (HZ.out _ HM4.out) ?_
          clear hK K
          refine wpSeq_one rfl (fun K hK => ?_)
          go_wp2
          refine hK _ _ (HZ.out _ (HM4.out.alloc HM4.out.size _)) ?_
          clear hK K
          refine wpSeq_one rfl (fun K hK => ?_)
          refine wpList_append_one3 rfl (.tmp 51) (.tmp 70) 53 rfl 9 Tryz.underlying53 _ 16 infoStr rfl (by decide) (bb + 1) _ R.length (stCells R) rfl HROW.out (Nat.le_trans HLT2.out HM4.out.size) (by omega) (.string _) rfl rfl 9 ?_
          intro v' w6 hrow6 hgrow6 hmove6 hkeep6
          have HG6 := Lib.hid ((HM4.out.mono HLT2.out).grown hgrow6.out (Nat.le_trans HLT2.out HM4.out.size) (fun j hj => (HROW.out.lt j hj).1))
          obtain ⟨p6, cap6, rfl⟩ := hrow6.out.any
          have t0 := (HS.out _ HG6.out).1
          have t1 := (HS.out _ HG6.out).2
          have hsl : (stCells R).length = R.length := by unfold stCells; simp
          have HZ6 := Lib.hid (show ∃ z : BoxZ bb g i2 (.slice (some ⟨g, 0, none⟩) R.length rc) x1 x2, w6 = z.at' from
            ⟨⟨w6, t0, (hkeep6.out g rc rfl i2 (by rw [hsl]; omega)).trans ((HM4.out.cell (p := ⟨g, i2, none⟩) hgl).trans r1), (hkeep6.out g rc rfl (i2 + 1) (by rw [hsl]; omega)).trans ((HM4.out.cell (p := ⟨g, i2 + 1, none⟩) hgl).trans r2)⟩, rfl⟩)
          clear hsl
          refine hK _ _ HZ6.out ?_
          clear hK K
          refine wpSeq_one rfl (fun K hK => ?_)
          go_wp2
          refine hK _ _ HZ6.out ?_
          clear hK K
          refine wpSeq_one rfl (fun K hK => ?_)
          go_wp2
          refine hK _ _ HZ6.out ?_
          clear hK K
          refine wpSeq_last rfl (fun K hK => ?_)
          go_wp2
          refine hK _ _ ?_
          clear hK K
          go_wp2
          go_roundw
          case rel =>
            have HB := Lib.hid (show BoxRel bb w0 (w6.setCell ⟨bb, 1, none⟩ (.slice p6 (R.length + 1) cap6)) seed (rowsUpto seed (j + 1)) (.slice p6 (R.length + 1) cap6) by rw [HNX.out]; exact BoxRel.next HU.out HM4.out hrow6.out hgrow6.out)
            have he : (2 * (j + 1) : Nat) = i2 + 2 := by have := HI2.out; omega
            exact ⟨j + 1, _, by omega, by rw [he]; go_num, HB⟩
          case measure => have := HI2.out; simp [intOf]; omega
        · obtain rfl : j = 7 := by omega
          go_wp2
          refine bodyPost_ret (results_tmp2 rfl _ _ _) rfl ?_
          exact ⟨bb, v, rfl, HU.out⟩
end Go.Proofs.YtgjmbokfenpefaaGreatDoor
/- The document's NewBox of no mark, Public, SealSign. -/
namespace Go.Proofs.YtgjmbokfenpefaaGreatDoor
open Go.RowKit

set_option maxRecDepth 100000 in
theorem refPublic_any (bb : Nat) (seed : ByteArray) (w : World) (h : BoxIs w bb seed) :
    Calls Tryz.prog 11 #[.pointer (some ⟨bb, 0, none⟩)] w fun e w' => e = .returned (.string (boxPub seed)) ∧ w' = w := by
  obtain ⟨g, rc, hg, h1, h2⟩ := h.rows
  have h3 : w.cell? ⟨g, 14, none⟩ = some (.string (boxPub seed)) := h2 14 (by omega)
  clear h2 h
  go_enter Tryz.func11, Tryz.ntmps11
  go_wp2
  go_ret
  exact ⟨rfl, rfl⟩
end Go.Proofs.YtgjmbokfenpefaaGreatDoor
/- The document's ProofRoot, Verify and Commit. -/
namespace Go.Proofs.YtgjmbokfenpefaaGreatDoor
open Go.RowKit

set_option maxRecDepth 100000 in
theorem refCommit_is (b : Nat) (o v c : ByteArray) (n : Int) (w : World) (hr : Holds w b 72 refCells 97) (h : commitAns o v = (c, n)) :
    Calls Tryz.prog 109 #[.pointer (some ⟨b, 0, none⟩), .string o, .string v] w fun e w' => e = .returned (.tuple #[.string c, .int .i64 n]) ∧ Below w.heap.size w w' := by
  have HR := Lib.hid hr
  clear hr
  unfold commitAns at h
  by_cases h16 : o.size = 16
  · have H16 := Lib.hid h16
    by_cases hv : 1 ≤ v.size ∧ v.size ≤ 24
    · rw [if_pos ⟨h16, hv⟩] at h
      obtain ⟨rfl, rfl⟩ := Prod.mk.inj h
      have E := Lib.hid (show (decide ((1 : Int) ≤ (v.size : Int)) && decide ((v.size : Int) ≤ 24)) = true by simp; omega)
      have HTOT := Lib.hid (show total [o, v] ≤ 1073741800 by simp [total]; omega)
      clear h h16 hv
      go_enter Tryz.func109, Tryz.ntmps109
      go_wp2_with fail
      refine (isMark_t _ _ H16.out).mono ?_
      rintro e w1 ⟨rfl, rfl⟩
      go_wp2_with fail
      refine (in_any _ _ _ _).mono ?_
      rintro e w1 ⟨rfl, rfl⟩
      rw [E.out]
      go_wp2_with fail
      refine (refMark_any b 99 [o, v] (some ⟨w1.heap.size, 0, none⟩) 2 _ (HR.out.alloc _) HTOT.out (by simp) (strs_new w1 [o, v] 9)).mono ?_
      rintro e w2 ⟨rfl, hb2⟩
      have HB2 := Lib.hid ((alloc_below w1 (.cells #[.string o, .string v] 9)).trans (hb2.mono (by simp)))
      clear hb2
      go_wp2
      refine bodyPost_ret (results_tmp2 rfl _ _ _) rfl ?_
      exact ⟨rfl, HB2.out⟩
    · rw [if_neg (fun e => hv e.2)] at h
      obtain ⟨rfl, rfl⟩ := Prod.mk.inj h
      have E := Lib.hid (show (decide ((1 : Int) ≤ (v.size : Int)) && decide ((v.size : Int) ≤ 24)) = false by simp; omega)
      clear h h16 hv
      go_enter Tryz.func109, Tryz.ntmps109
      go_wp2_with fail
      refine (isMark_t _ _ H16.out).mono ?_
      rintro e w1 ⟨rfl, rfl⟩
      go_wp2_with fail
      refine (in_any _ _ _ _).mono ?_
      rintro e w1 ⟨rfl, rfl⟩
      rw [E.out]
      go_wp2
      refine bodyPost_ret (results_tmp2 rfl _ _ _) rfl ?_
      exact ⟨rfl, Below.refl _ _⟩
  · rw [if_neg (fun e => h16 e.1)] at h
    obtain ⟨rfl, rfl⟩ := Prod.mk.inj h
    have H16 := Lib.hid h16
    clear h h16
    go_enter Tryz.func109, Tryz.ntmps109
    go_wp2_with fail
    refine (isMark_f _ _ H16.out).mono ?_
    rintro e w1 ⟨rfl, rfl⟩
    go_wp2
    refine bodyPost_ret (results_tmp2 rfl _ _ _) rfl ?_
    exact ⟨rfl, Below.refl _ _⟩
end Go.Proofs.YtgjmbokfenpefaaGreatDoor
/- One item more: plain lists. -/
namespace Go.Proofs.YtgjmbokfenpefaaGreatDoor

def ltIB (x y : It) : Bool := Sort.ltStr x.1.data.toList y.1.data.toList
end Go.Proofs.YtgjmbokfenpefaaGreatDoor
/- The document's directory: what it knows, and what it answers. -/
namespace Go.Proofs.YtgjmbokfenpefaaGreatDoor
open Go.RowKit

/-- Sorted lists of the same items: one list, or neither is right. -/
theorem sorted_same {L M : List It} (p : L.Perm M) (hL : L.Pairwise leI) (hM : M.Pairwise leI) : L = M ∨ (rightItems L = false ∧ rightItems M = false) := by
  by_cases h : L.Pairwise fun x y => x.1 ≠ y.1
  · have h' : M.Pairwise fun x y => x.1 ≠ y.1 := (p.pairwise_iff (fun h e => h e.symm)).1 h
    have up : ∀ {L : List It}, L.Pairwise leI → (L.Pairwise fun x y => x.1 ≠ y.1) → L.Pairwise ltI := fun h1 h2 => (h1.and h2).imp fun h => by
      rename_i x y
      by_cases e : ltI x y
      · exact e
      · exact absurd (ltI_total e h.2) h.1
    exact .inl (sorted_one p (up hL h) (up hM h'))
  · have no : ∀ {L : List It}, (¬ L.Pairwise fun x y => x.1 ≠ y.1) → rightItems L = false := fun {L} h => by
      cases e : rightItems L with
      | false => rfl
      | true => exact absurd (right_apart e).2.1 h
    exact .inr ⟨no h, no (fun h' => h ((p.pairwise_iff (fun h e => h e.symm)).2 h'))⟩
theorem sorted_root {L M : List It} (p : L.Perm M) (hL : L.Pairwise leI) (hM : M.Pairwise leI) : rootAns L = rootAns M := by
  rcases sorted_same p hL hM with rfl | ⟨h1, h2⟩
  · rfl
  · unfold rootAns; rw [if_neg (by simp [h1]), if_neg (by simp [h2])]
end Go.Proofs.YtgjmbokfenpefaaGreatDoor
