/- Parts of the proof, one behind the other: QFrom, VVerify, SealF, Open, OpenS, Laid. -/
import Derived.Test.YtedmgfompaoeoaaDoorM17
import Derived.Test.YtedmgfompaoeoaaDoorM15
import Derived.Test.YtedmgfompaoeoaaDoorM14
import Derived.Test.YtedmgfompaoeoaaDoorM4
import Derived.Deep.Slices
import Derived.Deep.Fields
import Derived.ChangeSame
import Derived.Lib.SmallJoins
import Derived.SliceStrings
import Derived.OpenShut
import Derived.Deep.Strs
import Derived.Test.YtedmgfompaoeoaaDoorRows
import Derived.Test.YtedmgfompaoeoaaDoorM13
import Derived.Test.YtedmgfompaoeoaaDoorM2
import Derived.Test.YtedmgfompaoeoaaDoorM8
import Derived.WalkKit
import Derived.ProofKit
import Derived.Deep.DeepHandedRow
import Derived.Lib.LaidTab
import Derived.LaidHandle
/- The program's once: From. -/
namespace Go.Proofs.YtedmgfompaoeoaaDoor
open Go.RowKit

set_option maxRecDepth 100000 in
theorem qFrom_is (m : ByteArray) (S : List ByteArray) (A : Option Addr) (cap : Nat) (x : ByteArray) (n : Int) (w : World) (hk : HasK w) (hl : S.length ≤ 1000000) (hs : Strs w A S) (h : fromAns m S = (x, n)) :
    Calls Tryd.prog 34 #[.string m, .slice A S.length cap] w fun e w' => e = .returned (.tuple #[.string x, errOf n]) ∧ Below w.heap.size w w' := by
  have HK := Lib.hid hk
  have HS := Lib.hid hs
  clear hk hs
  have HB0 := Lib.hid (alloc_below w (.cells #[.string m] 9))
  have HS0 := Lib.hid (strs_new w [m] 9)
  unfold fromAns at h
  by_cases h16 : m.size = 16
  · have HM := Lib.hid (oneMark (decide_eq_true h16))
    have HM16 := Lib.hid h16
    by_cases h35 : S.length = 35
    · have HL35 := Lib.hid h35
      have e35 : ((S.length : Int) == 35) = true := by rw [beq_iff_eq]; omega
      have e36 : ((S.length : Int) != 35) = false := by simp; omega
      by_cases hmk : marksOk S = true
      · rw [if_pos ⟨h16, h35, hmk⟩] at h
        obtain ⟨hx, rfl⟩ := Prod.mk.inj h
        have HX := Lib.hid hx
        have HMK := Lib.hid hmk
        have hs1 : S.length ≤ 35 := by omega
        have hs2 : 35 ≤ S.length := by omega
        clear h hx h16 h35 hmk
        go_enter Tryd.func34, Tryd.ntmps34
        go_wp2_with fail
        refine (qAre_any [m] _ 1 _ (by simp) HS0.out).mono ?_
        rintro e w1 ⟨rfl, rfl⟩
        rw [HM.out]
        go_wp2_with fail
        refine (qAre_any S A cap _ hl (HS.out.below HB0.out)).mono ?_
        rintro e w1 ⟨rfl, rfl⟩
        rw [HMK.out]
        clear e35 e36
        go_wp2_with fail
        refine (qDigits_any m _ HM16.out).mono ?_
        rintro e w2 ⟨rfl, hb2⟩
        have HB1 := Lib.hid (HB0.out.trans ((alloc_below _ (.cells (arr 35 fun _ => .string ⟨#[]⟩) 107)).mono HB0.out.size))
        have HN1 := Lib.hid (Holds.new (w.alloc (.cells (stCells [m]).toArray 9)) 35 (fun _ => .string ⟨#[]⟩) 107)
        rw [World.size_alloc] at HN1
        have HH2 := Lib.hid (HN1.out.below hb2 HN1.out.lt)
        have HB2 := Lib.hid (HB1.out.trans (hb2.mono HB1.out.size))
        clear hb2
        have HZ := Lib.hid (show ∀ k, k < 35 → (arr 35 fun i => Value.int .i64 (((digitsOf m.data.toList).getD i 0 : Nat) : Int))[k]? = some (Value.int .i64 (((digitsOf m.data.toList).getD k 0 : Nat) : Int)) from fun k hk => arr_get 35 _ k hk)
        generalize (arr 35 fun i => Value.int .i64 (((digitsOf m.data.toList).getD i 0 : Nat) : Int)) = Z at HZ ⊢
        go_wp2
        go_loopw [26] (fun i wr => ∃ k : Nat, k ≤ 35 ∧ i = .int .i64 (k : Int) ∧ Hid (Below w.heap.size w wr ∧ Holds wr (w.heap.size + 1) 35 (sfill (fromChains m S 35) k) 107)) (fun i _ => 35 - (intOf i).toNat)
        case atStart =>
          refine ⟨0, by omega, rfl, Lib.hid ⟨HB2.out, HH2.out.congr fun i hi => by unfold sfill; rw [if_neg (by omega)]⟩⟩
        case round =>
          obtain ⟨k, hk, rfl, HU⟩ := hrel
          by_cases hlt : k < 35
          · have HN := Lib.hid HU.out.2.lt
            obtain ⟨D, hD⟩ : ∃ D, (digitsOf m.data.toList).getD k 0 = D := ⟨_, rfl⟩
            obtain ⟨p, hp⟩ : ∃ p, S[k]? = some p := ⟨_, List.getElem?_eq_getElem (by omega)⟩
            obtain ⟨a, rfl, _, c0⟩ := (HS.out.below HU.out.1) k p hp
            have HXK := Lib.hid (show (fromChains m S 35)[k]? = some (alongFrom (k : Int) (15 - D) D p) by
              have e := map_range_at (fun c : Nat => alongFrom (c : Int) (15 - (digitsOf m.data.toList).getD c 0) ((digitsOf m.data.toList).getD c 0) (S.getD c ⟨#[]⟩)) 35 k hlt
              rw [hD, List.getD_eq_getElem?_getD, hp] at e
              exact e)
            have HPS := Lib.hid (marksOk_get HMK.out hp)
            have HDL := Lib.hid (digit_le HM16.out k)
            have hz := HZ.out k hlt
            rw [hD] at HDL hz
            have hix := fun wx => run_index_arr (P := Tryd.prog) wx 103 3 35 Z _ k Tryd.underlying103 sizeInt aggInt hlt hz
            clear hD hz hp
            go_wp2_with fail
            clear hix c0
            refine (qWalk_any p (k : Int) D 15 _ (HK.out.below HU.out.1 HK.out.lt) HPS.out HDL.out (by omega)).mono ?_
            rintro e w4 ⟨rfl, hb4⟩
            have HB4 := Lib.hid (HU.out.1.trans (hb4.mono HU.out.1.size))
            have HH4 := Lib.hid (HU.out.2.below hb4 HN.out)
            clear hb4
            have c0 := HH4.out.cell k hlt
            have f0 := HH4.out.free k
            rw [show sfill (fromChains m S 35) k k = .string ⟨#[]⟩ by unfold sfill; rw [if_neg (by omega)]] at c0
            go_wp2
            go_roundw
            case rel =>
              refine ⟨k + 1, by omega, by go_num, Lib.hid ⟨HB4.out.setCell (by show w.heap.size ≤ w.heap.size + 1; omega) _, ?_⟩⟩
              rw [← sfill_succ _ k _ HXK.out]
              exact HH4.out.set k _
            case measure => simp [intOf]; omega
          · obtain rfl : k = 35 := by omega
            have HLEN := Lib.hid (show (fromChains m S 35).length = 35 from chains_len _ _)
            have HST := Lib.hid (strs_of_holds HU.out.2 HLEN.out)
            have HTOT := Lib.hid (show total (fromChains m S 35) ≤ 1073741800 by have := total_leM _ 16 (from_size m S (marksOk_all HMK.out) HL35.out 35 (Nat.le_refl _)); rw [HLEN.out] at this; omega)
            have HKW := Lib.hid (HK.out.below HU.out.1 HK.out.lt)
            have HMA := Lib.hid (mark_any 112 (fromChains m S 35) (some ⟨w.heap.size + 1, 0, none⟩) 35 wr HKW.out HTOT.out (by rw [HLEN.out]; omega) HST.out)
            rw [HLEN.out] at HMA
            clear hlt hk
            go_wp2_with fail
            refine HMA.out.mono ?_
            rintro e w7 ⟨rfl, hb7⟩
            have HB7 := Lib.hid (HU.out.1.trans (hb7.mono HU.out.1.size))
            clear hb7 HMA
            go_wp2
            refine bodyPost_ret (results_tmp2 rfl _ _ _) rfl ?_
            exact ⟨by rw [← HX.out]; rfl, HB7.out⟩
      · rw [if_neg (fun e => hmk e.2.2)] at h
        obtain ⟨rfl, rfl⟩ := Prod.mk.inj h
        have HMK := Lib.hid (show marksOk S = false by simpa using hmk)
        clear h h16 h35 hmk
        go_enter Tryd.func34, Tryd.ntmps34
        go_wp2_with fail
        refine (qAre_any [m] _ 1 _ (by simp) HS0.out).mono ?_
        rintro e w1 ⟨rfl, rfl⟩
        rw [HM.out]
        go_wp2_with fail
        refine (qAre_any S A cap _ hl (HS.out.below HB0.out)).mono ?_
        rintro e w1 ⟨rfl, rfl⟩
        rw [HMK.out]
        go_wp2
        refine bodyPost_ret (results_tmp2 rfl _ _ _) rfl ?_
        exact ⟨rfl, HB0.out⟩
    · rw [if_neg (fun e => h35 e.2.1)] at h
      obtain ⟨rfl, rfl⟩ := Prod.mk.inj h
      have e35 : ((S.length : Int) == 35) = false := by rw [beq_eq_false_iff_ne]; omega
      have e36 : ((S.length : Int) != 35) = true := by simp; omega
      clear h h16 h35
      go_enter Tryd.func34, Tryd.ntmps34
      go_wp2_with fail
      refine (qAre_any [m] _ 1 _ (by simp) HS0.out).mono ?_
      rintro e w1 ⟨rfl, rfl⟩
      rw [HM.out]
      go_wp2
      refine bodyPost_ret (results_tmp2 rfl _ _ _) rfl ?_
      exact ⟨rfl, HB0.out⟩
  · rw [if_neg (fun e => h16 e.1)] at h
    obtain ⟨rfl, rfl⟩ := Prod.mk.inj h
    have HM := Lib.hid (oneMark (decide_eq_false h16))
    clear h h16
    go_enter Tryd.func34, Tryd.ntmps34
    go_wp2_with fail
    refine (qAre_any [m] _ 1 _ (by simp) HS0.out).mono ?_
    rintro e w1 ⟨rfl, rfl⟩
    rw [HM.out]
    go_wp2
    refine bodyPost_ret (results_tmp2 rfl _ _ _) rfl ?_
    exact ⟨rfl, HB0.out⟩
end Go.Proofs.YtedmgfompaoeoaaDoor
/- The program's seal: Verify. -/
namespace Go.Proofs.YtedmgfompaoeoaaDoor
open Go.RowKit

set_option maxHeartbeats 2000000 in
set_option maxRecDepth 100000 in
theorem vVerify_any (pub m : ByteArray) (key : Int) (S P : List ByteArray) (A B : Option Addr) (ca cb : Nat) (w : World) (hk : HasK w) (hls : S.length ≤ 1000000) (hlp : P.length ≤ 1000000) (hs : Strs w A S) (hp : Strs w B P) :
    Calls Tryd.prog 15 #[.string pub, .string m, .agg #[.int .i64 key, .slice A S.length ca, .slice B P.length cb]] w fun e w' => e = .returned (.bool (sealOk pub m key S P)) ∧ Below w.heap.size w w' := by
  have HB0 := Lib.hid (alloc_below w (.cells #[.int .i64 key, .slice A S.length ca, .slice B P.length cb] 24))
  have HH0 := Lib.hid (show Holds (w.alloc (.cells #[.int .i64 key, .slice A S.length ca, .slice B P.length cb] 24)) w.heap.size 3 (slF key (.slice A S.length ca) (.slice B P.length cb)) 24 from Holds.new w 3 (slF key (.slice A S.length ca) (.slice B P.length cb)) 24)
  have HK := Lib.hid (hk.below HB0.out hk.lt)
  have HSS := Lib.hid (hs.below HB0.out)
  have HPP := Lib.hid (hp.below HB0.out)
  have HE0 := Lib.hid (show errOf 0 = Value.nilIface from rfl)
  clear hk hs hp
  obtain ⟨T, hT⟩ : ∃ T, sealOk pub m key S P = T := ⟨_, rfl⟩
  rw [hT]
  have HT := Lib.hid hT
  clear hT
  go_enter Tryd.func15, Tryd.ntmps15
  have c0 : (w.alloc (.cells #[.int .i64 key, .slice A S.length ca, .slice B P.length cb] 24)).cell? ⟨w.heap.size, 0, none⟩ = some (.int .i64 key) := HH0.out.cell 0 (by omega)
  have c1 : (w.alloc (.cells #[.int .i64 key, .slice A S.length ca, .slice B P.length cb] 24)).cell? ⟨w.heap.size, 1, none⟩ = some (.slice A S.length ca) := HH0.out.cell 1 (by omega)
  have c2 : (w.alloc (.cells #[.int .i64 key, .slice A S.length ca, .slice B P.length cb] 24)).cell? ⟨w.heap.size, 2, none⟩ = some (.slice B P.length cb) := HH0.out.cell 2 (by omega)
  by_cases hkey : 0 ≤ key ∧ key ≤ 7
  · by_cases h3 : P.length = 3
    · have e2 : ((P.length : Int) != 3) = false := by simp; omega
      have e3 : ((P.length : Int) == 3) = true := by rw [beq_iff_eq]; omega
      have H3 := Lib.hid h3
      clear h3
      go_wp2_with fail
      generalize w.alloc (.cells #[.int .i64 key, .slice A S.length ca, .slice B P.length cb] 24) = w0 at HB0 HH0 HK HSS HPP c0 c1 c2
      refine (vKey_any key _).mono ?_
      rintro e w1 ⟨rfl, rfl⟩
      rw [decide_eq_true hkey]
      go_wp2_with fail
      refine (vAre_any P B cb _ hlp HPP.out).mono ?_
      rintro e w1 ⟨rfl, rfl⟩
      clear e2 e3
      obtain ⟨mk, hmk⟩ : ∃ mk, marksOk P = mk := ⟨_, rfl⟩
      rw [hmk]
      cases mk
      · have HF := Lib.hid (show T = false by rw [← HT.out]; unfold sealOk; rw [hmk]; simp)
        clear hmk hkey
        go_wp2
        go_ret
        exact ⟨by rw [HF.out]; rfl, HB0.out⟩
      · have HMK := Lib.hid hmk
        clear hmk
        obtain ⟨x, n, hx⟩ : ∃ x n, fromAns m S = (x, n) := ⟨_, _, rfl⟩
        have HX := Lib.hid hx
        clear hx
        go_wp2_with fail
        refine (qFrom_is m S A ca x n _ HK.out hls HSS.out HX.out).mono ?_
        rintro e w2 ⟨rfl, hb2⟩
        have HB2 := Lib.hid (HB0.out.trans (hb2.mono HB0.out.size))
        have HK2 := Lib.hid (HK.out.below hb2 HK.out.lt)
        have HPP2 := Lib.hid (HPP.out.below hb2)
        have HH2 := Lib.hid (HH0.out.below hb2 HH0.out.lt)
        clear hb2 c0 c1 c2
        by_cases hn : n = 0
        · subst hn
          rw [HE0.out]
          have HXS := Lib.hid (fromAns_size HX.out)
          have HTT := Lib.hid (show decide (upFrom P (sLeaf key x) key.toNat = pub) = T by
            rw [← HT.out]; unfold sealOk sLeaf; rw [HX.out, HMK.out, H3.out]; simp [hkey])
          obtain ⟨kk, rfl⟩ : ∃ kk : Nat, key = (kk : Int) := ⟨key.toNat, by omega⟩
          have hkk : kk ≤ 7 := by omega
          rw [Int.toNat_natCast] at HTT
          have c0 : w2.cell? ⟨w.heap.size, 0, none⟩ = some (.int .i64 (kk : Int)) := HH2.out.cell 0 (by omega)
          have c2 : w2.cell? ⟨w.heap.size, 2, none⟩ = some (.slice B P.length cb) := HH2.out.cell 2 (by omega)
          clear hkey
          go_wp2_with fail
          refine (vClimb_any kk x P B cb _ HK2.out hkk HXS.out H3.out HMK.out HPP2.out).mono ?_
          rintro e w3 ⟨rfl, hb3⟩
          have HB3 := Lib.hid (HB2.out.trans (hb3.mono HB2.out.size))
          clear hb3 c0 c2
          generalize upFrom P (sLeaf (kk : Int) x) kk = t at HTT ⊢
          have HEQ := Lib.hid (show (t.toList == pub.toList) = T by
            rw [← HTT.out, Bool.eq_iff_iff, beq_iff_eq, decide_eq_true_eq, ByteArray.toList_eq, ByteArray.toList_eq]
            exact ⟨text_of, fun h => by rw [h]⟩)
          go_wp2
          go_ret
          exact ⟨by rw [← HEQ.out]; rfl, HB3.out⟩
        · have HEL := Lib.hid (show errOf n = Value.iface 30 (.int .i64 n) by unfold errOf; rw [if_neg hn])
          have HF := Lib.hid (show T = false by rw [← HT.out]; unfold sealOk; rw [HX.out]; simp [hn])
          rw [HEL.out]
          clear hn hkey
          go_wp2
          go_ret
          exact ⟨by rw [HF.out]; rfl, HB2.out⟩
    · have e2 : ((P.length : Int) != 3) = true := by simp; omega
      have e3 : ((P.length : Int) == 3) = false := by rw [beq_eq_false_iff_ne]; omega
      have HF := Lib.hid (show T = false by rw [← HT.out]; unfold sealOk; rw [decide_eq_false h3]; simp)
      clear h3
      go_wp2_with fail
      generalize w.alloc (.cells #[.int .i64 key, .slice A S.length ca, .slice B P.length cb] 24) = w0 at HB0 HH0 HK HSS HPP c0 c1 c2
      refine (vKey_any key _).mono ?_
      rintro e w1 ⟨rfl, rfl⟩
      rw [decide_eq_true hkey]
      clear hkey
      go_wp2
      go_ret
      exact ⟨by rw [HF.out]; rfl, HB0.out⟩
  · have HF := Lib.hid (show T = false by rw [← HT.out]; unfold sealOk; rw [decide_eq_false hkey]; simp)
    go_wp2_with fail
    generalize w.alloc (.cells #[.int .i64 key, .slice A S.length ca, .slice B P.length cb] 24) = w0 at HB0 HH0 HK HSS HPP c0 c1 c2
    refine (vKey_any key _).mono ?_
    rintro e w1 ⟨rfl, rfl⟩
    rw [decide_eq_false hkey]
    clear hkey
    go_wp2
    go_ret
    exact ⟨by rw [HF.out]; rfl, HB0.out⟩
end Go.Proofs.YtedmgfompaoeoaaDoor
/- What the program's seals answer: all contracts of the Face. -/
namespace Go.Proofs.YtedmgfompaoeoaaDoor
open Go.RowKit

def sealFace : SealFace where
  Is := SealIs
  keep := fun _ _ _ _ h hb => h.below hb
  new_t := fun seed w hk h16 => vNew_t seed w hk h16
  new_f := fun seed w hk _ h16 => vNew_f seed w hk h16
  pub := fun p seed w h => vPublic_any p seed w h
  sign := fun p seed key m kk S P n w hk hb _ h => vSign_is p seed key m kk S P n w hk hb h
  verify := fun pub m key S P A B ca cb w hk _ hls hlp hs hp => vVerify_any pub m key S P A B ca cb w hk hls hlp hs hp
end Go.Proofs.YtedmgfompaoeoaaDoor
/- Arguments opened: lists of items, of texts; an item. -/
namespace Go.Proofs.YtedmgfompaoeoaaDoor
open Go.ChangeShapes Go.WideShapes Go.Deep Go.RowKit

section
variable {H : Type} {enc : TypeId × Value → H} {P : Program} {w : World} {base : Nat} {spare : Nat → Bool} {held : Bool}
theorem open_slice_fields {t e : TypeId} {fs : Array Field} {fuel : Nat} {cs : List Value} {x : DataW H × List MemPlace} (ht : P.underlying t = some (.slice e)) (he : P.underlying e = some (.struct fs))
    (hone : oneCellFields P fs = true) (hC : P.cellsOf e = fs.size) (h : DataW.trod enc P w base spare held fuel t cs = some x) :
    (cs = [.slice none 0 0] ∧ x = (.nil, [])) ∨
    ∃ (a : Addr) (len cap m : Nat), cs = [.slice (some a) len cap] ∧ len ≤ cap ∧ m = (if spare a.block then cap else len) ∧
      ∀ i, i < m → ∃ (ys : List (DataW H × List MemPlace)) (n : Nat), ys.length = fs.size ∧
        ∀ (j : Nat) (f : Field), fs[j]? = some f → ∃ (v : Value) (y : DataW H × List MemPlace), w.cell? (a.add (i * fs.size + j)) = some v ∧ ys[j]? = some y ∧ DataW.trod enc P w base spare held n f.type [v] = some y := by
  rcases open_slice ht h with h0 | ⟨a, len, cap, m, n, D, Pl, hcs, hb, hl, hm, hmm, hx, hi⟩
  · exact .inl h0
  · refine .inr ⟨a, len, cap, m, hcs, hl, hmm, fun i him => ?_⟩
    obtain ⟨cs', hc, ht'⟩ := hi i him
    rw [hC] at hc
    obtain ⟨ys, n', hn', hy, hlen, hyl, hf⟩ := DataW.trod_struct he ht'
    obtain ⟨_, hcl, hat⟩ := World.cells?_some hc
    refine ⟨ys, n', hyl, fun j f hj => ?_⟩
    obtain ⟨ho, hk⟩ := hone_of hone j f hj
    have hjl : j < fs.size := (Array.getElem?_eq_some_iff.1 hj).1
    have hcell := hat j hjl
    have hv : cs'[j]? = some (cs'[j]'(by omega)) := List.getElem?_eq_getElem (by omega)
    have h1 := hf j f hj
    rw [ho, hk] at h1
    have hone' : (cs'.drop j).take 1 = [cs'[j]'(by omega)] := by
      rw [List.drop_eq_getElem_cons (by omega)]
      rfl
    rw [hone'] at h1
    have hys : ys[j]? = some (ys[j]'(by omega)) := List.getElem?_eq_getElem (by omega)
    refine ⟨_, _, ?_, hys, h1.trans hys⟩
    rw [← Go.Deep.add_add, hcell, hv]
/-- A list of structs of two texts, as items. -/
theorem open_items {t e : TypeId} {f0 f1 : Field} {a0 : Option Addr} {len cap : Nat} {d : DataW H} {p : List MemPlace} (ht : P.underlying t = some (.slice e)) (he : P.underlying e = some (.struct #[f0, f1]))
    (hone : oneCellFields P #[f0, f1] = true) (hC : P.cellsOf e = 2) (h0 : P.underlying f0.type = some .string) (h1 : P.underlying f1.type = some .string) (h : DataW.Trod enc P w base spare held t (.slice a0 len cap) d p) :
    ∃ L : List It, L.length = len ∧ len ≤ cap ∧ Itms w a0 L := by
  obtain ⟨fuel, hf⟩ := h
  rcases open_slice_fields ht he hone hC hf with ⟨hcs, _⟩ | ⟨a, len', cap', m, hcs, hl, hm, hi⟩
  · simp [Value.cells] at hcs
    obtain ⟨rfl, rfl, rfl⟩ := hcs
    exact ⟨[], rfl, Nat.le_refl 0, Itms.nil _ _⟩
  · simp [Value.cells] at hcs
    obtain ⟨rfl, rfl, rfl⟩ := hcs
    have hlm : len ≤ m := by rw [hm]; split <;> omega
    have key : ∀ i, i < len → ∃ x : It, w.cell? (a.add (i * 2)) = some (.string x.1) ∧ w.cell? ((a.add (i * 2)).add 1) = some (.string x.2) := by
      intro i hil
      obtain ⟨ys, n, _, hj⟩ := hi i (by omega)
      obtain ⟨v, y, hc, _, hy⟩ := hj 0 f0 rfl
      obtain ⟨v', y', hc', _, hy'⟩ := hj 1 f1 rfl
      obtain ⟨s, e0, _, _⟩ := DataW.trod_string h0 hy
      obtain ⟨s', e1, _, _⟩ := DataW.trod_string h1 hy'
      obtain rfl := List.singleton_inj.1 e0
      obtain rfl := List.singleton_inj.1 e1
      exact ⟨(s, s'), hc, by rw [add_add']; exact hc'⟩
    refine ⟨(List.range len).map fun i => if hi : i < len then (key i hi).choose else (⟨#[]⟩, ⟨#[]⟩), by simp, hl, ?_⟩
    intro i x hx
    have hil : i < len := by have := (List.getElem?_eq_some_iff.1 hx).1; simpa using this
    have hk := (key i hil).choose_spec
    rw [List.getElem?_map, List.getElem?_range hil, Option.map_some, dif_pos hil] at hx
    rw [Option.some.inj hx] at hk
    exact ⟨a, rfl, by have := block_lt_of_cell hk.1; rwa [block_add] at this, hk.1, hk.2⟩
theorem open_texts {t e : TypeId} {a0 : Option Addr} {len cap : Nat} {d : DataW H} {p : List MemPlace} (ht : P.underlying t = some (.slice e)) (he : P.underlying e = some .string) (hc : P.cellsOf e = 1)
    (h : DataW.Trod enc P w base spare held t (.slice a0 len cap) d p) : ∃ L : List ByteArray, L.length = len ∧ Strs w a0 L := by
  obtain ⟨fuel, hf⟩ := h
  rcases open_strings ht he hc hf with ⟨hcs, hx⟩ | ⟨a, len', cap', ss, hcs, _, hl, hm, hz, hx, hcell, hws⟩
  · simp [Value.cells] at hcs
    obtain ⟨rfl, rfl, rfl⟩ := hcs
    exact ⟨[], rfl, Strs.nil _ _⟩
  · simp [Value.cells] at hcs
    obtain ⟨rfl, rfl, rfl⟩ := hcs
    have hle : len ≤ ss.length := by rw [hz]; split <;> omega
    refine ⟨ss.take len, by rw [List.length_take]; omega, fun i p hp => ?_⟩
    have hi : i < len := by have := (List.getElem?_eq_some_iff.1 hp).1; rw [List.length_take] at this; omega
    have hcl := hcell i (by omega)
    have hp' : ss.getD i ByteArray.empty = p := by
      rw [List.getElem?_take_of_lt hi] at hp
      rw [List.getD_eq_getElem?_getD, hp]; rfl
    rw [hp'] at hcl
    exact ⟨a, rfl, by have := block_lt_of_cell hcl; rwa [block_add] at this, hcl⟩
/-- A struct of two texts. -/
theorem open_item {r : Reach} {b0 : Nat} {t : TypeId} {f0 f1 : Field} {v : Value} {d : DataW H} {p : List MemPlace} (hs : P.underlying t = some (.struct #[f0, f1])) (hone : oneCellFields P #[f0, f1] = true) (hC : P.cellsOf t = 2) (h0 : P.underlying f0.type = some .string) (h1 : P.underlying f1.type = some .string)
    (hv : Value.okWide P w r b0 t v) (h : DataW.Trod enc P w base spare held t v d p) : ∃ x : It, v = .agg #[.string x.1, .string x.2] := by
  obtain ⟨v0, v1, y0, y1, n, rfl, _, _, hy0, hy1⟩ := Go.Joins.open_agg2 hs hone hC hv h
  obtain ⟨s, e0, _, _⟩ := DataW.trod_string h0 hy0
  obtain ⟨s', e1, _, _⟩ := DataW.trod_string h1 hy1
  simp at e0 e1
  subst e0 e1
  exact ⟨(s, s'), rfl⟩
theorem open_texts_cell {t e : TypeId} {fuel : Nat} {v : Value} {x : DataW H × List MemPlace} (ht : P.underlying t = some (.slice e)) (he : P.underlying e = some .string) (hc : P.cellsOf e = 1)
    (h : DataW.trod enc P w base spare held fuel t [v] = some x) : ∃ A cap, ∃ L : List ByteArray, v = .slice A L.length cap ∧ Strs w A L := by
  rcases open_strings ht he hc h with ⟨hcs, _⟩ | ⟨a, len, cap, ss, hcs, hb, hl, hm, hz, hx, hcell, hws⟩
  · obtain rfl := List.singleton_inj.1 hcs
    exact ⟨none, 0, [], rfl, Strs.nil _ _⟩
  · obtain rfl := List.singleton_inj.1 hcs
    have h' : DataW.Trod enc P w base spare held t (.slice (some a) len cap) x.1 x.2 := ⟨fuel, by simpa [Value.cells] using h⟩
    obtain ⟨L, rfl, hL⟩ := open_texts ht he hc h'
    exact ⟨some a, cap, L, rfl, hL⟩
/-- A proof: a list of texts and an item. -/
theorem open_proof {r : Reach} {b0 : Nat} {t ts te ti : TypeId} {f0 f1 g0 g1 : Field} {v : Value} {d : DataW H} {p : List MemPlace} (hs : P.underlying t = some (.struct #[f0, f1])) (hC : P.cellsOf t = 3)
    (o0 : f0.offset = 0) (o1 : f1.offset = 1) (e0 : f0.type = ts) (e1 : f1.type = ti) (hts : P.underlying ts = some (.slice te)) (hte : P.underlying te = some .string) (hce : P.cellsOf te = 1) (hcs : P.cellsOf ts = 1)
    (hti : P.underlying ti = some (.struct #[g0, g1])) (hone : oneCellFields P #[g0, g1] = true) (hci : P.cellsOf ti = 2) (k0 : P.underlying g0.type = some .string) (k1 : P.underlying g1.type = some .string)
    (hv : Value.okWide P w r b0 t v) (h : DataW.Trod enc P w base spare held t v d p) : ∃ A cap, ∃ L : List ByteArray, ∃ x : It, v = .agg #[.slice A L.length cap, .string x.1, .string x.2] ∧ Strs w A L := by
  obtain ⟨cs, rfl, hsz⟩ := okWide_struct hs hv
  obtain ⟨l⟩ := cs
  match l, hsz.trans hC with
  | [c0, c1, c2], _ =>
    obtain ⟨fuel, hf⟩ := h
    obtain ⟨y0, y1, n, hx, _, h0, h1⟩ := trod_struct2 hs hf
    subst e0 e1
    rw [o0, hcs] at h0
    rw [o1, hci] at h1
    obtain ⟨A, cap, L, rfl, hL⟩ := open_texts_cell hts hte hce (by simpa [Value.cells] using h0)
    obtain ⟨z0, z1, m, hz, _, i0, i1⟩ := trod_struct2 hti h1
    obtain ⟨p0, q0⟩ := hone_of hone 0 g0 rfl
    obtain ⟨p1, q1⟩ := hone_of hone 1 g1 rfl
    rw [p0, q0] at i0
    rw [p1, q1] at i1
    obtain ⟨s, es, _, _⟩ := DataW.trod_string k0 (show DataW.trod enc P w base spare held m g0.type [c1] = some z0 by simpa [Value.cells] using i0)
    obtain ⟨s', es', _, _⟩ := DataW.trod_string k1 (show DataW.trod enc P w base spare held m g1.type [c2] = some z1 by simpa [Value.cells] using i1)
    obtain rfl := List.singleton_inj.1 es
    obtain rfl := List.singleton_inj.1 es'
    exact ⟨A, cap, L, (s, s'), rfl, hL⟩
end
end Go.Proofs.YtedmgfompaoeoaaDoor
/- Arguments opened: a seal. -/
namespace Go.Proofs.YtedmgfompaoeoaaDoor
open Go.ChangeShapes Go.WideShapes Go.Deep Go.RowKit

section
variable {H : Type} {enc : TypeId × Value → H} {P : Program} {w : World} {base : Nat} {spare : Nat → Bool} {held : Bool}
/-- A seal: a number and two lists of texts. -/
theorem open_seal {r : Reach} {b0 : Nat} {t ts te : TypeId} {f0 f1 f2 : Field} {v : Value} {d : DataW H} {p : List MemPlace} (hs : P.underlying t = some (.struct #[f0, f1, f2])) (hC : P.cellsOf t = 3)
    (o0 : f0.offset = 0) (o1 : f1.offset = 1) (o2 : f2.offset = 2) (k0 : P.underlying f0.type = some (.int .i64)) (c0 : P.cellsOf f0.type = 1) (e1 : f1.type = ts) (e2 : f2.type = ts) (hts : P.underlying ts = some (.slice te)) (hte : P.underlying te = some .string) (hce : P.cellsOf te = 1) (hcs : P.cellsOf ts = 1)
    (hv : Value.okWide P w r b0 t v) (h : DataW.Trod enc P w base spare held t v d p) : ∃ k A ca B cb, ∃ S L : List ByteArray, v = .agg #[.int .i64 k, .slice A S.length ca, .slice B L.length cb] ∧ Strs w A S ∧ Strs w B L := by
  obtain ⟨cs, rfl, hsz⟩ := okWide_struct hs hv
  obtain ⟨l⟩ := cs
  match l, hsz.trans hC with
  | [x0, x1, x2], _ =>
    obtain ⟨fuel, hf⟩ := h
    obtain ⟨y0, y1, y2, n, hx, _, h0, h1, h2⟩ := trod_struct3 hs hf
    subst e1
    rw [o0, c0] at h0
    rw [o1, hcs] at h1
    rw [o2, e2, hcs] at h2
    obtain ⟨z, ez, _, _⟩ := DataW.trod_int k0 (show DataW.trod enc P w base spare held n f0.type [x0] = some y0 by simpa [Value.cells] using h0)
    obtain rfl := List.singleton_inj.1 ez
    obtain ⟨A, ca, S, rfl, hS⟩ := open_texts_cell hts hte hce (by simpa [Value.cells] using h1)
    obtain ⟨B, cb, L, rfl, hL⟩ := open_texts_cell hts hte hce (by simpa [Value.cells] using h2)
    exact ⟨z, A, ca, B, cb, S, L, rfl, hS, hL⟩
end
end Go.Proofs.YtedmgfompaoeoaaDoor
/- What a row's listed variables give a walk: the round numbers, the handle of errors.errorType, any table on the list; a world for the witness. -/
namespace Go.Proofs.YtedmgfompaoeoaaDoor
open Go.ChangeShapes Go.WideShapes Go.ChangeAt Go.RowKit

theorem sumOwn : ownKnob Tryd.prog.godebug = none := by kernel_rfl
theorem sumLaidOut : laidOutB Tryd.prog = true := by kernel_rfl
theorem gK : Tryd.prog.globalNamed "rollkeeper/sum.roundNumbers" = some 1 := by kernel_rfl
theorem gKType : (Tryd.prog.globals[1]?).map (·.type) = some 51 := by kernel_rfl
theorem cellsA32 : Tryd.prog.cellsOf 51 = 64 := by kernel_rfl
theorem cellsU32 : Tryd.prog.cellsOf 49 = 1 := by kernel_rfl
theorem cellsStr : Tryd.prog.cellsOf 9 = 1 := by kernel_rfl

/-- A table that stands somewhere on the row's list. -/
theorem tab_of_vars {P : Program} {W : World} {name : String} {k : IntKind} {zs : List Int} {rest : List (String × DataW Unit)} {ps : List MemPlace} {g : Nat} {t e : TypeId} {n : Nat}
    (hg : P.globalNamed name = some g) (hty : (P.globals[g]?).map (·.type) = some t) (ht : P.underlying t = some (.array n e)) (he : P.underlying e = some (.int k)) (hce : P.cellsOf e = 1) (hct : P.cellsOf t = n)
    (h : DataW.LaidVars P W ((name, Lib.tabData k zs) :: rest) ps) : Lib.TabIs P W name k zs := by
  obtain ⟨g', t', cs, fuel, p, q, hg', ht', hvar, hd, _, _⟩ := h
  obtain rfl := Option.some.inj (hg.symm.trans hg')
  obtain rfl := Option.some.inj (hty.symm.trans ht')
  unfold Lib.TabIs
  rw [hvar, ← Lib.cells_of_tab ht he hce hct hd]
theorem vars_tail {P : Program} {W : World} {x : String × DataW Unit} {rest : List (String × DataW Unit)} {ps : List MemPlace} (h : DataW.LaidVars P W (x :: rest) ps) : ∃ q, DataW.LaidVars P W rest q := by
  obtain ⟨n, d⟩ := x
  obtain ⟨_, _, _, _, _, q, _, _, _, _, h, _⟩ := h
  exact ⟨q, h⟩
/-- The round numbers as a row lists them. -/
def kData : DataW Unit := Lib.tabData .u32 (kTab.map fun n : Nat => (n : Int))
theorem hasK_of_vars {W : World} {rest : List (String × DataW Unit)} {ps : List MemPlace} (h : DataW.LaidVars Tryd.prog W (("rollkeeper/sum.roundNumbers", kData) :: rest) ps) : HasK W := by
  have t0 := tab_of_vars gK gKType Tryd.underlying51 Tryd.underlying49 cellsU32 cellsA32 h
  intro i hi
  rw [t0.cell gK i (by rw [List.length_map]; exact hi)]
  have hlt : kTab.getD i 0 < 4294967296 := by rw [← k_root i hi]; exact Nat.mod_lt _ (by decide)
  have e1 : (kTab.map fun n : Nat => (n : Int)).getD i 0 = ((kTab.getD i 0 : Nat) : Int) := by
    rw [List.getD_eq_getElem?_getD, List.getD_eq_getElem?_getD, List.getElem?_map]
    cases kTab[i]? <;> rfl
  rw [e1]
  unfold W32 kOf
  rw [BitVec.toNat_ofNat, Nat.mod_eq_of_lt (by omega)]

theorem gErrType : Tryd.prog.globalNamed "errors.errorType" = some 0 := by kernel_rfl
theorem rtErr : (Tryd.prog.cutTypes.find? (·.1 == "internal/reflectlite.rtype")).map (·.2) = some 138 := by kernel_rfl
theorem oneRowErr : ((List.range Tryd.prog.types.size).filter fun t => Tryd.prog.rowNamed t [101, 114, 114, 111, 114]) = [35] := by kernel_rfl
def errData : DataW Unit := .iface "internal/reflectlite.rtype" (.agg [.ptr (.lit (.string [101, 114, 114, 111, 114]))])
theorem handle_of_laid {W : World} {l : List (String × DataW Unit)} (h : handlesMet Tryd.prog l W) (hm : ("errors.errorType", errData) ∈ l) :
    W.cell? ⟨0, 0, none⟩ = some (.iface 138 (.agg #[hand 35])) := by
  obtain ⟨name, u, ty, e1, e2, e3, e4, e5⟩ := h _ hm
  have en : name = [101, 114, 114, 111, 114] := (Option.some.inj e1).symm
  subst en
  obtain rfl := Option.some.inj (rtErr.symm.trans e2)
  have hm : ty ∈ (List.range Tryd.prog.types.size).filter fun t => Tryd.prog.rowNamed t [101, 114, 114, 111, 114] := List.mem_filter.2 ⟨List.mem_range.2 e3, e4⟩
  rw [oneRowErr] at hm
  obtain rfl := List.mem_singleton.1 hm
  have hh : typeHandle Tryd.prog 35 = hand 35 := by kernel_rfl
  rw [hh] at e5
  simpa using World.var?_cell gErrType e5 0

/-- A world for the witness: variables laid, one after the other. -/
def laidCells : DataW Unit → Array Value
  | .agg l => (l.map fun
    | .lit (.int k z) => Value.int k z
    | _ => .bool false).toArray
  | _ => #[]
noncomputable def laidBy (g : Nat) (cs : Array Value) (w : World) : World :=
  { w with heap := w.heap.modify g fun
      | .cells _ t frozen => .cells cs t frozen
      | o => o }
noncomputable def laidAt (g : Nat) (d : DataW Unit) (w : World) : World := laidBy g (laidCells d) w
noncomputable def laidErr (w : World) : World := laidBy 0 #[.iface 138 (.agg #[hand 35])] w
noncomputable def laidK (w : World) : World := laidAt 1 kData w
end Go.Proofs.YtedmgfompaoeoaaDoor
