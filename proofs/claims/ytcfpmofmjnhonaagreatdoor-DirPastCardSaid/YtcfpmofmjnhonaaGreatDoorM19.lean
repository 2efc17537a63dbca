/- Parts of the proof, one behind the other: VSign, PSign, Back, PMarks, PEnd. -/
import Derived.Test.YtcfpmofmjnhonaaGreatDoorM15
import Derived.Test.YtcfpmofmjnhonaaGreatDoorM18
import Derived.Test.YtcfpmofmjnhonaaGreatDoorM17
import Derived.Test.YtcfpmofmjnhonaaGreatDoorM11
import Derived.RangeFuncNested
import Derived.RangeFuncBound
import Derived.RangeFuncCalls
import Derived.RangeFuncLeaves
import Derived.Shelf.Abstract
import Derived.Shelf.RegionOpen
import Derived.WalkKit
import Derived.OwnWalkIn
import Derived.TacticsInMore
import Derived.LoopNIn
import Derived.LoopIn
import Derived.Test.YtcfpmofmjnhonaaGreatDoorM5
import Derived.Test.YtcfpmofmjnhonaaGreatDoorM7
import Derived.Test.YtcfpmofmjnhonaaGreatDoorM13
import Derived.Test.YtcfpmofmjnhonaaGreatDoorM8
import Derived.Test.YtcfpmofmjnhonaaGreatDoorM16
/- The program's boxes: Sign. -/
namespace Go.Proofs.YtcfpmofmjnhonaaGreatDoor
open Go.RowKit

/-- The block of the result: a seal that is none yet; what it is in the end. -/
structure SgRes (w wr : World) : Prop where
  below : Below w.heap.size w wr
  res : Holds wr w.heap.size 3 (slF 0 (.slice none 0 0) (.slice none 0 0)) 52
theorem SgRes.fin {w wr : World} (h : SgRes w wr) (k : Int) (u v : Value) :
    Holds (((wr.setCell ⟨w.heap.size, 0, none⟩ (.int .i64 k)).setCell ⟨w.heap.size, 1, none⟩ u).setCell ⟨w.heap.size, 2, none⟩ v) w.heap.size 3 (slF k u v) 52 ∧
    Below w.heap.size w (((wr.setCell ⟨w.heap.size, 0, none⟩ (.int .i64 k)).setCell ⟨w.heap.size, 1, none⟩ u).setCell ⟨w.heap.size, 2, none⟩ v) :=
  ⟨(((h.res.set 0 _).set 1 _).set 2 _).congr fun i hi => by
      rcases (show i = 0 ∨ i = 1 ∨ i = 2 by omega) with rfl | rfl | rfl <;> simp [upd, slF],
    ((h.below.setCell (Nat.le_refl _) _).setCell (Nat.le_refl _) _).setCell (Nat.le_refl _) _⟩
theorem SgRes.after {w wr wz : World} (h : SgRes w wr) (hb : Below wr.heap.size wr wz) : SgRes w wz := ⟨h.below.trans (hb.mono h.below.size), h.res.below hb h.res.lt⟩

set_option maxHeartbeats 2000000 in
set_option maxRecDepth 100000 in
theorem vSign_in (p : Addr) (seed : ByteArray) (key : Int) (m : ByteArray) (kk : Int) (S P : List ByteArray) (n : Int) (w : World) (hk : HasK w) (hb : SealIs w p seed) (h : sealAns seed key m = (kk, S, P, n)) :
    Calls Tryz.prog 120 #[.pointer (some p), .int .i64 key, .string m] w fun e w' => ∃ A ca B cb, e = .returned (.tuple #[.agg #[.int .i64 kk, .slice A S.length ca, .slice B P.length cb], errOf n]) ∧ Below w.heap.size w w' ∧ Strs w' A S ∧ Strs w' B P ∧ (∀ a, A = some a → 0 < S.length → w.heap.size < a.block) ∧ ∀ a, B = some a → 0 < P.length → w.heap.size < a.block := by
  have HR0 := Lib.hid (show SgRes w (w.alloc (.cells #[.int .i64 0, .slice none 0 0, .slice none 0 0] 52)) from ⟨alloc_below w _, Holds.new w 3 (slF 0 (.slice none 0 0) (.slice none 0 0)) 52⟩)
  have HK := Lib.hid (hk.below HR0.out.below hk.lt)
  have HB := Lib.hid (hb.below HR0.out.below)
  have HE2 := Lib.hid (show errOf 2 = Value.iface 28 (.int .i64 2) from rfl)
  have HE0 := Lib.hid (show errOf 0 = Value.nilIface from rfl)
  clear hk hb
  unfold sealAns at h
  by_cases hkey : 0 ≤ key ∧ key ≤ 7
  · rw [if_pos hkey] at h
    obtain ⟨U, l, hu⟩ : ∃ U l, signAns seed key m = (U, l) := ⟨_, _, rfl⟩
    rw [hu] at h
    have HU0 := Lib.hid hu
    clear hu
    go_enter Tryz.func120, Tryz.ntmps120
    go_wp2_with fail
    generalize w.alloc (.cells #[.int .i64 0, .slice none 0 0, .slice none 0 0] 52) = w0 at HR0 HK HB
    refine (vKey_any key _).mono ?_
    rintro e w1 ⟨rfl, rfl⟩
    rw [decide_eq_true hkey]
    obtain ⟨bb, gr, rc, rfl, -, -, c0, -, -, -⟩ := HB.out
    go_wp2_with fail
    clear c0
    refine (qSign_at seed key m U l _ HK.out HU0.out).mono ?_
    rintro e w2 ⟨A, ca, rfl, hb2, hti, hal⟩
    have HR2 := Lib.hid (HR0.out.after hb2)
    have HB2 := Lib.hid (HB.out.below hb2)
    have HAL := Lib.hid (show ∀ a, A = some a → 0 < U.length → w.heap.size < a.block from fun a ha hn => Nat.lt_of_lt_of_le HR0.out.res.lt (hal a ha hn))
    have HTI := Lib.hid hti
    clear hb2 hti hal
    by_cases hl : l = 0
    · subst hl
      rw [if_pos rfl] at h
      simp only [Prod.mk.injEq] at h
      obtain ⟨rfl, rfl, hP, rfl⟩ := h
      obtain ⟨kk, rfl⟩ : ∃ kk : Nat, key = (kk : Int) := ⟨key.toNat, by omega⟩
      have hkk : kk ≤ 7 := by omega
      rw [Int.toNat_natCast] at hP
      have HPL := Lib.hid (show P.length = 3 by rw [← hP]; exact sealPath_length _ _ _)
      have HP := Lib.hid hP
      rw [HE0.out]
      clear hP hkey
      go_wp2_with fail
      refine (vPath_any ⟨bb, 0, none⟩ seed kk _ HB2.out hkk).mono ?_
      rintro e w3 ⟨g, rfl, hg, hb3, hpt⟩
      have HR3 := Lib.hid (HR2.out.after hb3)
      have HTI3 := Lib.hid (HTI.out.below hb3)
      have HG := Lib.hid (show w.heap.size < g from Nat.lt_of_lt_of_le HR2.out.res.lt hg)
      rw [HP.out] at hpt
      have HPT := Lib.hid hpt
      clear hb3 hpt hg
      have p0 : w3.cell? ⟨w.heap.size, 0, none⟩ = some (.int .i64 0) := HR3.out.res.cell 0 (by omega)
      have p1 : w3.cell? ⟨w.heap.size, 1, none⟩ = some (.slice none 0 0) := HR3.out.res.cell 1 (by omega)
      have p2 : w3.cell? ⟨w.heap.size, 2, none⟩ = some (.slice none 0 0) := HR3.out.res.cell 2 (by omega)
      have f0 : w3.frozen? ⟨w.heap.size, 0, none⟩ = false := HR3.out.res.free 0
      have f1 : w3.frozen? ⟨w.heap.size, 1, none⟩ = false := HR3.out.res.free 1
      have f2 : w3.frozen? ⟨w.heap.size, 2, none⟩ = false := HR3.out.res.free 2
      have HFIN := Lib.hid (HR3.out.fin (kk : Int) (.slice A U.length ca) (.slice (some ⟨g, 0, none⟩) 3 3))
      go_wp2
      refine bodyPost_ret (results_row2 rfl _ _ w.heap.size 52 (arr 3 (slF (kk : Int) (.slice A U.length ca) (.slice (some ⟨g, 0, none⟩) 3 3))) (0, 0) _ rfl HFIN.out.1 Tryz.underlying52 rfl (by rw [arr_size]; exact infoSeal)) rfl ?_
      rw [HPL.out]
      exact ⟨A, ca, some ⟨g, 0, none⟩, 3, rfl, HFIN.out.2, ((HTI3.out.keep _ _ HAL.out).keep _ _ HAL.out).keep _ _ HAL.out,
        ((HPT.out.keep _ _ (fun a ha _ => by cases ha; exact HG.out)).keep _ _ (fun a ha _ => by cases ha; exact HG.out)).keep _ _ (fun a ha _ => by cases ha; exact HG.out), HAL.out, fun a ha _ => by cases ha; exact HG.out⟩
    · rw [if_neg hl] at h
      simp only [Prod.mk.injEq] at h
      obtain ⟨rfl, rfl, rfl, rfl⟩ := h
      have HEL := Lib.hid (show errOf l = Value.iface 28 (.int .i64 l) by unfold errOf; rw [if_neg hl])
      rw [HEL.out]
      have p0 : w2.cell? ⟨w.heap.size, 0, none⟩ = some (.int .i64 0) := HR2.out.res.cell 0 (by omega)
      have p1 : w2.cell? ⟨w.heap.size, 1, none⟩ = some (.slice none 0 0) := HR2.out.res.cell 1 (by omega)
      have p2 : w2.cell? ⟨w.heap.size, 2, none⟩ = some (.slice none 0 0) := HR2.out.res.cell 2 (by omega)
      have f0 : w2.frozen? ⟨w.heap.size, 0, none⟩ = false := HR2.out.res.free 0
      have f1 : w2.frozen? ⟨w.heap.size, 1, none⟩ = false := HR2.out.res.free 1
      have f2 : w2.frozen? ⟨w.heap.size, 2, none⟩ = false := HR2.out.res.free 2
      have HFIN := Lib.hid (HR2.out.fin 0 (.slice none 0 0) (.slice none 0 0))
      clear hl hkey
      go_wp2
      refine bodyPost_ret (results_row2 rfl _ _ w.heap.size 52 (arr 3 (slF 0 (.slice none 0 0) (.slice none 0 0))) (0, 0) _ rfl HFIN.out.1 Tryz.underlying52 rfl (by rw [arr_size]; exact infoSeal)) rfl ?_
      exact ⟨none, 0, none, 0, by rw [HEL.out]; rfl, HFIN.out.2, Strs.nil _ _, Strs.nil _ _, (fun a e => by cases e), fun a e => by cases e⟩
  · rw [if_neg hkey] at h
    simp only [Prod.mk.injEq] at h
    obtain ⟨rfl, rfl, rfl, rfl⟩ := h
    rw [HE2.out]
    go_enter Tryz.func120, Tryz.ntmps120
    go_wp2_with fail
    generalize w.alloc (.cells #[.int .i64 0, .slice none 0 0, .slice none 0 0] 52) = w0 at HR0 HK HB
    refine (vKey_any key _).mono ?_
    rintro e w1 ⟨rfl, rfl⟩
    rw [decide_eq_false hkey]
    have p0 : w1.cell? ⟨w.heap.size, 0, none⟩ = some (.int .i64 0) := HR0.out.res.cell 0 (by omega)
    have p1 : w1.cell? ⟨w.heap.size, 1, none⟩ = some (.slice none 0 0) := HR0.out.res.cell 1 (by omega)
    have p2 : w1.cell? ⟨w.heap.size, 2, none⟩ = some (.slice none 0 0) := HR0.out.res.cell 2 (by omega)
    have f0 : w1.frozen? ⟨w.heap.size, 0, none⟩ = false := HR0.out.res.free 0
    have f1 : w1.frozen? ⟨w.heap.size, 1, none⟩ = false := HR0.out.res.free 1
    have f2 : w1.frozen? ⟨w.heap.size, 2, none⟩ = false := HR0.out.res.free 2
    have HFIN := Lib.hid (HR0.out.fin 0 (.slice none 0 0) (.slice none 0 0))
    clear hkey
    go_wp2
    refine bodyPost_ret (results_row2 rfl _ _ w.heap.size 52 (arr 3 (slF 0 (.slice none 0 0) (.slice none 0 0))) (0, 0) _ rfl HFIN.out.1 Tryz.underlying52 rfl (by rw [arr_size]; exact infoSeal)) rfl ?_
    exact ⟨none, 0, none, 0, rfl, HFIN.out.2, Strs.nil _ _, Strs.nil _ _, (fun a e => by cases e), fun a e => by cases e⟩
end Go.Proofs.YtcfpmofmjnhonaaGreatDoor
/- The program's directory: the head of items, and its seal. -/
namespace Go.Proofs.YtcfpmofmjnhonaaGreatDoor
open Go.RowKit Go.Maps

set_option maxHeartbeats 4000000 in
set_option maxRecDepth 100000 in
theorem pSignDir_is (F : Nat → Prop) (p : Nat) (secret : ByteArray) (bb : Addr) (mh mw : Nat) (vi ve : Value) (H : List (ByteArray × (ByteArray × ByteArray))) (W : List (ByteArray × ByteArray)) (I J : List It) (M : List SgM) (A : Option Addr) (c : Nat) (w : World)
    (h : DMem F w p secret bb mh mw vi ve H W I M) (hk : HasK w) (h8 : M.length < 8) (hj : Itms w A J) (hjc : J.length ≤ c) (hr : rightItems J = true) {y : Hd} (hy : nextAns (M.map (·.s.head)) (rootOf J) = (y, 0)) (hyr : rightHead y = true) :
    Calls Tryz.prog 69 #[.pointer (some ⟨p, 0, none⟩), .int .i64 ((M.length : Int) + 1), .slice A J.length c] w fun e w' => ∃ m : SgM, m.s = signOf secret M.length y ∧ e = .returned (.tuple #[.agg #[.int .i64 m.s.head.epoch, .string m.s.head.root, .string m.s.head.prev, .int .i64 m.s.key, .slice m.A m.s.sig.length m.ca, .slice m.B m.s.path.length m.cb], .nilIface]) ∧ Below w.heap.size w w' ∧ SgLie (fun k => w.heap.size ≤ k) w' m := by
  have HD := Lib.hid h
  have HK := Lib.hid hk
  have HJ := Lib.hid hj
  have HJC := Lib.hid hjc
  have HY := Lib.hid hy
  have HYR := Lib.hid hyr
  have HRT := Lib.hid (show rootAns J = (rootOf J, 0) from by unfold rootAns; rw [if_pos hr])
  have HJL := Lib.hid (right_length hr)
  have HM8 := Lib.hid h8
  have HB0 := Lib.hid (alloc_below w (.cells #[.int .i64 0, .string ⟨#[]⟩, .string ⟨#[]⟩, .int .i64 0, .slice none 0 0, .slice none 0 0] 54))
  have HZ0 := Lib.hid (show Holds (w.alloc (.cells #[.int .i64 0, .string ⟨#[]⟩, .string ⟨#[]⟩, .int .i64 0, .slice none 0 0, .slice none 0 0] 54)) w.heap.size 6 (sgF noHd 0 (.slice none 0 0) (.slice none 0 0)) 54 from Holds.new w 6 (sgF noHd 0 (.slice none 0 0) (.slice none 0 0)) 54)
  clear h hk hj hjc hy hr h8 hyr
  go_enter Tryz.func69, Tryz.ntmps69
  go_wp2_with fail
  generalize w.alloc (.cells #[.int .i64 0, .string ⟨#[]⟩, .string ⟨#[]⟩, .int .i64 0, .slice none 0 0, .slice none 0 0] 54) = w0 at HB0 HZ0 ⊢
  refine (tRoot_is J A c (rootOf J) 0 _ (HK.out.below HB0.out HK.out.lt) (by have := HJL.out; omega) HJC.out (HJ.out.below HB0.out) HRT.out).mono ?_
  rintro e w1 ⟨rfl, hb1⟩
  rw [show errOf 0 = .nilIface from rfl]
  have HB1 := Lib.hid (HB0.out.trans (hb1.mono HB0.out.size))
  have HZ1 := Lib.hid (HZ0.out.below hb1 HZ0.out.lt)
  have HD1 := Lib.hid (HD.out.same (same_of_below HB1.out HD.out.lt))
  clear hb1 HB0 HZ0
  obtain ⟨AE, cE, hve, hce, hsix⟩ := HD1.out.row.sixes
  have c5 : w1.cell? ⟨p, 5, none⟩ = some (.slice AE M.length cE) := by rw [← hve]; exact HD1.out.own.cell 5 (by omega)
  have HSX := Lib.hid hsix
  clear hsix hve hce
  go_wp2_with fail
  refine (pDirHeads_any p M AE cE _ (by have := HM8.out; omega) c5 HSX.out).mono ?_
  rintro e w2 ⟨A2, c2, rfl, hb2, hh2, hc2⟩
  have HB2 := Lib.hid (HB1.out.trans (hb2.mono HB1.out.size))
  have HZ2 := Lib.hid (HZ1.out.below hb2 HZ1.out.lt)
  have HK2 := Lib.hid (HK.out.below HB2.out HK.out.lt)
  have HH2 := Lib.hid hh2
  clear hb2 c5 HZ1 HB1 HD1 HSX hh2
  go_wp2_with fail
  have HNX := Lib.hid (show Calls Tryz.prog 85 #[.slice A2 M.length c2, .string (rootOf J)] w2 fun e w' => e = .returned (.tuple #[.agg #[.int .i64 y.epoch, .string y.root, .string y.prev], errOf 0]) ∧ Below w2.heap.size w2 w' from by
    have := pNext_is (M.map (·.s.head)) A2 c2 (rootOf J) y 0 w2 HK2.out (by rw [List.length_map]; have := HM8.out; omega) HH2.out HY.out
    rwa [List.length_map] at this)
  refine HNX.out.mono ?_
  rintro e w3 ⟨rfl, hb3⟩
  rw [show errOf 0 = .nilIface from rfl]
  have HB3 := Lib.hid (HB2.out.trans (hb3.mono HB2.out.size))
  have HZ3 := Lib.hid (HZ2.out.below hb3 HZ2.out.lt)
  clear hb3 HNX HZ2 HB2 HK2 HH2 hc2
  have hb4 := alloc_below w3 (.cells #[.int .i64 y.epoch, .string y.root, .string y.prev] 49)
  have HB4 := Lib.hid (HB3.out.trans (hb4.mono HB3.out.size))
  have HZ4 := Lib.hid (HZ3.out.below hb4 HZ3.out.lt)
  have HY4 := Lib.hid (show Holds (w3.alloc (.cells #[.int .i64 y.epoch, .string y.root, .string y.prev] 49)) w3.heap.size 3 (hdF y) 49 from Holds.new w3 3 (hdF y) 49)
  have HYB := Lib.hid (show w.heap.size < w3.heap.size from HZ3.out.lt)
  clear hb4
  go_wp2_with fail
  generalize w3.alloc (.cells #[.int .i64 y.epoch, .string y.root, .string y.prev] 49) = w4 at HB4 HZ4 HY4 ⊢
  obtain ⟨yb, hyb⟩ : ∃ yb, w3.heap.size = yb := ⟨_, rfl⟩
  rw [hyb] at HY4 HYB ⊢
  clear hyb HZ3 HB3
  have HMK := Lib.hid (show headMarkAns y = (headMark y, 0) from by unfold headMarkAns; rw [if_pos HYR.out])
  refine (pHdMark_is y (headMark y) 0 _ (HK.out.below HB4.out HK.out.lt) HMK.out).mono ?_
  rintro e w5 ⟨rfl, hb5⟩
  rw [show errOf 0 = .nilIface from rfl]
  have HB5 := Lib.hid (HB4.out.trans (hb5.mono HB4.out.size))
  have HZ5 := Lib.hid (HZ4.out.below hb5 HZ4.out.lt)
  have HY5 := Lib.hid (HY4.out.below hb5 HY4.out.lt)
  have HD5 := Lib.hid (HD.out.same (same_of_below HB5.out HD.out.lt))
  clear hb5 HZ4 HY4 HB4 HMK
  have c1 : w5.cell? ⟨p, 1, none⟩ = some (.pointer (some bb)) := HD5.out.own.cell 1 (by omega)
  have HSL := Lib.hid (show sealAns (dirSeed secret) (M.length : Int) (headMarkAns y).1 = ((sealAns (dirSeed secret) (M.length : Int) (headMark y)).1, (sealAns (dirSeed secret) (M.length : Int) (headMark y)).2.1, (sealAns (dirSeed secret) (M.length : Int) (headMark y)).2.2.1, 0) from by
    have hm : (headMarkAns y).1 = headMark y := by unfold headMarkAns; rw [if_pos HYR.out]
    have := (sealAns_ok (seed := dirSeed secret) (key := (M.length : Int)) (m := headMark y) (dirSeed_size _) (by omega) (by have := HM8.out; omega) (markOf_len _ _)).2.1
    rw [hm]
    exact Prod.ext rfl (Prod.ext rfl (Prod.ext rfl this)))
  obtain ⟨kk, S1, P1, hs1⟩ : ∃ kk S1 P1, sealAns (dirSeed secret) (M.length : Int) (headMark y) = (kk, S1, P1, 0) := by
    have hm : (headMarkAns y).1 = headMark y := by unfold headMarkAns; rw [if_pos HYR.out]
    have := HSL.out
    rw [hm] at this
    exact ⟨_, _, _, this⟩
  have HS1 := Lib.hid hs1
  have HSO := Lib.hid (show signOf secret M.length y = ⟨y, kk, S1, P1⟩ from by
    have hm : (headMarkAns y).1 = headMark y := by unfold headMarkAns; rw [if_pos HYR.out]
    unfold signOf
    rw [hm, hs1])
  clear hs1 HSL
  have hw1 : wrap64 (M.length : Int) = (M.length : Int) := by have := HM8.out; unfold wrap64; omega
  go_wp2_with fail
  clear hw1 c1
  refine (vSign_in bb (dirSeed secret) (M.length : Int) (headMark y) kk S1 P1 0 _ (HK.out.below HB5.out HK.out.lt) HD5.out.box.is HS1.out).mono ?_
  rintro e w6 ⟨A6, ca, B6, cb, rfl, hb6, hs6, hp6, ha6, hbb6⟩
  rw [show errOf 0 = .nilIface from rfl]
  have HB6 := Lib.hid (HB5.out.trans (hb6.mono HB5.out.size))
  have hb7 := alloc_below w6 (.cells #[.int .i64 kk, .slice A6 S1.length ca, .slice B6 P1.length cb] 52)
  have HB7 := Lib.hid (HB6.out.trans (hb7.mono HB6.out.size))
  have HZ7 := Lib.hid ((HZ5.out.below hb6 HZ5.out.lt).below hb7 (by have := HZ5.out.lt; have := hb6.size; omega))
  have HY7 := Lib.hid ((HY5.out.below hb6 HY5.out.lt).below hb7 (by have := HY5.out.lt; have := hb6.size; omega))
  have HX7 := Lib.hid (show Holds (w6.alloc (.cells #[.int .i64 kk, .slice A6 S1.length ca, .slice B6 P1.length cb] 52)) w6.heap.size 3 (slF kk (.slice A6 S1.length ca) (.slice B6 P1.length cb)) 52 from Holds.new w6 3 (slF kk (.slice A6 S1.length ca) (.slice B6 P1.length cb)) 52)
  have HS7 := Lib.hid (hs6.below hb7)
  have HP7 := Lib.hid (hp6.below hb7)
  have HA6 := Lib.hid (show (∀ a, A6 = some a → 0 < S1.length → w.heap.size < a.block) ∧ ∀ a, B6 = some a → 0 < P1.length → w.heap.size < a.block from
    ⟨fun a e l => by have := ha6 a e l; have := HB5.out.size; omega, fun a e l => by have := hbb6 a e l; have := HB5.out.size; omega⟩)
  have HSB := Lib.hid (show w.heap.size < w6.heap.size from by have := HZ5.out.lt; have := hb6.size; omega)
  clear hb6 hs6 hp6 ha6 hbb6 hb7 HB5 HZ5 HY5 HD5 HB6
  go_upto_region 13 with (fail)
  generalize w6.alloc (.cells #[.int .i64 kk, .slice A6 S1.length ca, .slice B6 P1.length cb] 52) = w7 at HB7 HZ7 HY7 HX7 HS7 HP7 ⊢
  obtain ⟨sb, hsb⟩ : ∃ sb, w6.heap.size = sb := ⟨_, rfl⟩
  rw [hsb] at HX7 HSB ⊢
  clear hsb
  have y0 : w7.cell? ⟨yb, 0, none⟩ = some (.int .i64 y.epoch) := HY7.out.cell 0 (by omega)
  have y1 : w7.cell? ⟨yb, 1, none⟩ = some (.string y.root) := HY7.out.cell 1 (by omega)
  have y2 : w7.cell? ⟨yb, 2, none⟩ = some (.string y.prev) := HY7.out.cell 2 (by omega)
  have x0 : w7.cell? ⟨sb, 0, none⟩ = some (.int .i64 kk) := HX7.out.cell 0 (by omega)
  have x1 : w7.cell? ⟨sb, 1, none⟩ = some (.slice A6 S1.length ca) := HX7.out.cell 1 (by omega)
  have x2 : w7.cell? ⟨sb, 2, none⟩ = some (.slice B6 P1.length cb) := HX7.out.cell 2 (by omega)
  obtain ⟨z0, z1, z2, z3, z4, z5⟩ := sg_cells HZ7.out
  have q0 : w7.frozen? ⟨w.heap.size, 0, none⟩ = false := HZ7.out.free 0
  have q1 : w7.frozen? ⟨w.heap.size, 1, none⟩ = false := HZ7.out.free 1
  have q2 : w7.frozen? ⟨w.heap.size, 2, none⟩ = false := HZ7.out.free 2
  have q3 : w7.frozen? ⟨w.heap.size, 3, none⟩ = false := HZ7.out.free 3
  have q4 : w7.frozen? ⟨w.heap.size, 4, none⟩ = false := HZ7.out.free 4
  have q5 : w7.frozen? ⟨w.heap.size, 5, none⟩ = false := HZ7.out.free 5
  have HFIN := Lib.hid (put6_holds HZ7.out y kk (.slice A6 S1.length ca) (.slice B6 P1.length cb))
  have HFB := Lib.hid (put6_below HB7.out (Nat.le_refl _) y kk (.slice A6 S1.length ca) (.slice B6 P1.length cb))
  have HFS := Lib.hid (put6_strs HS7.out HA6.out.1 y kk (.slice A6 S1.length ca) (.slice B6 P1.length cb))
  have HFP := Lib.hid (put6_strs HP7.out HA6.out.2 y kk (.slice A6 S1.length ca) (.slice B6 P1.length cb))
  go_wp2
  refine bodyPost_ret (results_row2 rfl _ _ w.heap.size 54 (arr 6 (sgF y kk (.slice A6 S1.length ca) (.slice B6 P1.length cb))) (0, 0) _ rfl HFIN.out Tryz.underlying54 rfl (by rw [arr_size]; exact infoSg6)) rfl ?_
  exact ⟨⟨⟨y, kk, S1, P1⟩, A6, ca, B6, cb⟩, HSO.out.symm, rfl, HFB.out, HFS.out, HFP.out, fun a e l => Nat.le_of_lt (HA6.out.1 a e l), fun a e l => Nat.le_of_lt (HA6.out.2 a e l)⟩
end Go.Proofs.YtcfpmofmjnhonaaGreatDoor
/- slices.Backward over strings: what its rounds are handed, in what order. -/
namespace Go.Proofs.YtcfpmofmjnhonaaGreatDoor
open Go.RowKit Go.Shelf
attribute [local go_sem] Oper.semAt_some

/-- What has come when k rounds are over: the last places first. -/
def backTo (n k : Nat) : List Nat := (List.range k).map fun j => n - 1 - j
theorem backTo_succ (n k : Nat) : backTo n (k + 1) = backTo n k ++ [n - 1 - k] := by simp [backTo, List.range_succ]
theorem backTo_length (n k : Nat) : (backTo n k).length = k := by simp [backTo]
def back (P : List ByteArray) (ys : List (Fin P.length)) (k : Nat) : Prop := ys.map (·.val) = backTo P.length k
theorem back_snoc {P : List ByteArray} {ys : List (Fin P.length)} {k : Nat} (h : back P ys k) (x : Fin P.length) (hx : x.val = P.length - 1 - k) : back P (ys ++ [x]) (k + 1) := by
  unfold back at h ⊢
  rw [backTo_succ, List.map_append, h, List.map_singleton, hx]
theorem back_len {P : List ByteArray} {ys : List (Fin P.length)} {k : Nat} (h : back P ys k) : ys.length = k := by
  have := congrArg List.length h
  rwa [List.length_map, backTo_length] at this
def placed (P : List ByteArray) (x : Fin P.length) : ByteArray := P.getD x.val ⟨#[]⟩
/-- The texts lie below n₀. -/
def StrsAt (n₀ : Nat) (w : World) (A : Option Addr) (L : List ByteArray) : Prop := ∀ (i : Nat) p, L[i]? = some p → ∃ a, A = some a ∧ a.block < n₀ ∧ w.cell? (a.add i) = some (.string p)
theorem StrsAt.below {n₀ : Nat} {w w' : World} {A : Option Addr} {L : List ByteArray} (h : StrsAt n₀ w A L) (hb : Below n₀ w w') : StrsAt n₀ w' A L := fun i p hp => by
  obtain ⟨a, ha, hl, hc⟩ := h i p hp
  exact ⟨a, ha, hl, (hb.cell (by rw [block_add]; exact hl)).trans hc⟩

/-- What a round that goes on keeps: what lies below n₀, and the box with the slice. -/
def KeepBox (n₀ Bs : Nat) (v : Value) (W W' : World) : Prop := Below n₀ W W' ∧ (W.cell? ⟨Bs, 0, none⟩ = some v → W'.cell? ⟨Bs, 0, none⟩ = some v)
theorem keepBox_t {n₀ Bs : Nat} {v : Value} {A B C : World} (h : KeepBox n₀ Bs v A B) (k : KeepBox n₀ Bs v B C) : KeepBox n₀ Bs v A C := ⟨h.1.trans k.1, fun e => k.2 (h.2 e)⟩
theorem keepBox_b {n₀ Bs : Nat} {v : Value} {w : World} (hn : n₀ ≤ w.heap.size) (W : World) (l : Nat) (o o' : Obj) (hl : w.heap.size ≤ l) (h : W.heap[l]? = some o) (hc : o.isCells = false) (hw : o.isWalk = false) : KeepBox n₀ Bs v W (W.putObj l o') :=
  ⟨belowK_b hn W l o o' hl h hc hw, fun e => cell_kept e (grownBy_putObj' W l o') (fun r e => by cases e; exact ⟨_, h, hc⟩)⟩

set_option maxRecDepth 100000 in
set_option maxHeartbeats 2000000 in
theorem back1_in (F : Fence) (n : Nat) (h8 : F.fn 232) (hro : F.round = none) (hn : 1 ≤ n) (l Bs n₀ cap : Nat) (A : Option Addr) (P : List ByteArray) (hlen : P.length ≤ 1000000) (J Jx : List (Fin P.length) → World → Prop)
    (hY : ∀ pre x W, J pre W → pre.length < P.length → YieldAt F (n - 1) Tryz.prog l #[.int .i64 (x.val : Int), .string (placed P x)] W fun e W' =>
      (e = .returned (.bool true) ∧ J (pre ++ [x]) W' ∧ KeepBox n₀ Bs (.slice A P.length cap) W W') ∨ (e = .returned (.bool false) ∧ Jx (pre ++ [x]) W'))
    (W : World) (hBs : W.cell? ⟨Bs, 0, none⟩ = some (.slice A P.length cap)) (hc : StrsAt n₀ W A P) (h0 : J [] W) :
    CallsIn F n Tryz.prog 232 #[.func (.yield l) #[] #[], .pointer (some ⟨Bs, 0, none⟩)] W fun e W' => (∃ v, e = .returned v) ∧
      ((∃ ys, back P ys P.length ∧ J ys W') ∨ (∃ pre, (∃ k, k ≤ P.length ∧ back P pre k) ∧ Jx pre W')) := by
  refine callsIn_of_wp Tryz.func232 rfl h8 ?_ hro
  simp only [Tryz.ntmps232, List.size_toArray, List.length_cons, List.length_nil, Nat.reduceAdd, Nat.reduceSub, Array.replicate_succ, Array.replicate_zero, List.push_toArray, List.append_toArray, List.nil_append, List.cons_append]
  have hw0 : IntKind.i64.wrap ((P.length : Int) - 1) = (P.length : Int) - 1 := IntWalk.i64_in _ (by omega)
  gi_wp2
  gi_loopw [3] (fun i wr => ∃ k : Nat, k ≤ P.length ∧ i = .int .i64 ((P.length : Int) - 1 - k) ∧ (∃ ys, back P ys k ∧ J ys wr) ∧ Below n₀ W wr ∧ wr.cell? ⟨Bs, 0, none⟩ = some (.slice A P.length cap))
    (fun i _ => (intOf i + 1).toNat)
  case atStart => exact ⟨0, Nat.zero_le _, by simp, ⟨[], rfl, h0⟩, Below.refl _ _, hBs⟩
  case round =>
    obtain ⟨k, hk, rfl, ⟨ys, hys, hJs⟩, hnx, hcs⟩ := hrel
    by_cases hlt : k < P.length
    · obtain ⟨m, hm⟩ : ∃ m : Nat, P.length - 1 - k = m := ⟨_, rfl⟩
      have hmi : (P.length : Int) - 1 - k = (m : Int) := by omega
      have hml : (m : Int) < (P.length : Int) := by omega
      have hw1 : IntKind.i64.wrap ((m : Int) - 1) = (m : Int) - 1 := IntWalk.i64_in _ (by omega)
      obtain ⟨a, rfl, hal, hcc⟩ := hc m (P.getD m ⟨#[]⟩) (by rw [List.getD_eq_getElem?_getD, List.getElem?_eq_getElem (by omega)]; rfl)
      have hcx : wr.cell? (a.add m) = some (.string (P.getD m ⟨#[]⟩)) := (hnx.cell (by rw [block_add]; exact hal)).trans hcc
      obtain ⟨fn, tmps, assign, body, hy, hR⟩ := hY ys ⟨m, by omega⟩ wr hJs (by rw [back_len hys]; exact hlt)
      dsimp only [placed] at hy
      have hbs := back_snoc hys ⟨m, by omega⟩ hm.symm
      rw [hmi]
      generalize P.getD m ⟨#[]⟩ = p at hcx hy
      gi_wp2
      refine hR.mono ?_
      rintro e W3 (⟨rfl, hJ3, hk3⟩ | ⟨rfl, hJx3⟩)
      · gi_wp2
        go_roundw
        case rel => exact ⟨k + 1, by omega, by congr 1; omega, ⟨_, hbs, hJ3⟩, hnx.trans hk3.1, hk3.2 hcs⟩
        case measure => simp only [intOf]; omega
      · gi_wp2
        refine bodyPost_ret (results_none rfl _ _ _) rfl ?_
        exact ⟨⟨_, rfl⟩, .inr ⟨_, ⟨k + 1, by omega, hbs⟩, hJx3⟩⟩
    · obtain rfl : k = P.length := by omega
      rw [show (P.length : Int) - 1 - P.length = -1 by omega]
      gi_wp2
      go_end0
      exact ⟨⟨_, rfl⟩, .inl ⟨_, hys, hJs⟩⟩

set_option maxHeartbeats 1000000 in
theorem back_in (F : Fence) (n : Nat) (h6 : F.fn 193) (hro : F.round = none) (a : Option Addr) (len cap : Nat) (w : World) :
    CallsIn F n Tryz.prog 193 #[.slice a len cap] w fun e w' => e = .returned (.func (.func 232) #[] #[.pointer (some ⟨w.heap.size, 0, none⟩)]) ∧ w' = w.alloc (.cells #[.slice a len cap] 50) := by
  refine callsIn_of_wp Tryz.func193 rfl h6 ?_ hro
  simp only [Tryz.ntmps193, List.size_toArray, List.length_cons, List.length_nil, Nat.reduceAdd, Nat.reduceSub, Array.replicate_succ, Array.replicate_zero, List.push_toArray, List.append_toArray, List.nil_append, List.cons_append]
  gi_wp2
  go_ret
  exact ⟨rfl, rfl⟩

/-- What slices.Backward hands back stops after all the texts, the last first; or a round said no more. -/
theorem back_stops (F : Fence) (n : Nat) (h8 : F.fn 232) (hro : F.round = none) (hn : 1 ≤ n) (Bs n₀ cap : Nat) (A : Option Addr) (P : List ByteArray) (hlen : P.length ≤ 1000000) (w : World) (hBs : Bs < w.heap.size) (hn₀ : n₀ ≤ w.heap.size)
    (hc : w.cell? ⟨Bs, 0, none⟩ = some (.slice A P.length cap)) (hI : StrsAt n₀ w A P) :
    SeqStopsK F n Tryz.prog 232 #[.pointer (some ⟨Bs, 0, none⟩)] (fun x : Fin P.length => #[Value.int .i64 (x.val : Int), Value.string (placed P x)]) (KeepBox n₀ Bs (.slice A P.length cap)) (fun ys => back P ys P.length)
      (fun pre => ∃ k, k ≤ P.length ∧ back P pre k) P.length w := fun l J Jx W hW _ _ hY h0 =>
  back1_in F n h8 hro hn l Bs n₀ cap A P hlen J Jx hY W ((hW.cell (p := ⟨Bs, 0, none⟩) hBs).trans hc) (hI.below (hW.mono hn₀)) h0
end Go.Proofs.YtcfpmofmjnhonaaGreatDoor
/- Whether some text is no mark, by slices.ContainsFunc. -/
namespace Go.Proofs.YtcfpmofmjnhonaaGreatDoor
open Go.RowKit

theorem pNoMark_any (s : ByteArray) (w : World) : Calls Tryz.prog 144 #[.string s] w fun e w' => e = .returned (.bool (!decide (s.size = 16))) ∧ w' = w := by
  by_cases h : s.size = 16
  · rw [decide_eq_true h]
    have hi : ((s.size : Int) == 16) = true := by rw [beq_iff_eq]; omega
    have hj : ((s.size : Int) != 16) = false := by simp [bne, hi]
    go_enter Tryz.func144, Tryz.ntmps144
    go_wp2
    go_ret
    exact ⟨rfl, rfl⟩
  · rw [decide_eq_false h]
    have hi : ((s.size : Int) == 16) = false := by rw [beq_eq_false_iff_ne]; omega
    have hj : ((s.size : Int) != 16) = true := by simp [bne, hi]
    go_enter Tryz.func144, Tryz.ntmps144
    go_wp2
    go_ret
    exact ⟨rfl, rfl⟩
set_option maxRecDepth 100000 in
theorem pMarksIx_any (P : List ByteArray) (A : Option Addr) (cap : Nat) (w : World) (hl : P.length ≤ 1000000) (hm : Strs w A P) :
    Calls Tryz.prog 195 #[.slice A P.length cap, .func (.func 144) #[] #[]] w fun e w' => w' = w ∧ ∃ n : Int, e = .returned (.int .i64 n) ∧ ((0 ≤ n ∧ marksOk P = false) ∨ (n = -1 ∧ marksOk P = true)) := by
  have HM := Lib.hid hm
  clear hm
  go_enter Tryz.func195, Tryz.ntmps195
  go_wp2
  go_loopw [8] (fun t wr => ∃ j : Nat, j ≤ P.length ∧ t = .int .i64 (j : Int) ∧ wr = w ∧ marksUpto P j = true) (fun t _ => P.length - (intOf t).toNat)
  case atStart => exact ⟨0, by omega, rfl, rfl, rfl⟩
  case round =>
    obtain ⟨j, hj, rfl, rfl, hall⟩ := hrel
    have HALL := Lib.hid hall
    clear hall
    by_cases hlt : j < P.length
    · obtain ⟨p, hp⟩ : ∃ p, P[j]? = some p := ⟨_, List.getElem?_eq_getElem hlt⟩
      obtain ⟨a, rfl, hal, c0⟩ := HM.out j p hp
      have HP := Lib.hid hp
      clear hp
      go_wp2_with fail
      refine (pNoMark_any p _).mono ?_
      rintro e w1 ⟨rfl, rfl⟩
      by_cases he : p.size = 16
      · rw [decide_eq_true he]
        have HE := Lib.hid he
        clear he
        go_wp2
        go_roundw
        case rel =>
          refine ⟨j + 1, by omega, by go_num, ?_, ?_⟩
          · first | rfl | trivial
          · have := HALL.out
            unfold marksUpto marksOk at this ⊢
            rw [List.take_add_one, HP.out, List.all_append, this]
            simp [HE.out]
        case measure => simp [intOf]; omega
      · rw [decide_eq_false he]
        have HE := Lib.hid he
        clear he
        go_wp2
        go_ret
        exact ⟨rfl, j, rfl, .inl ⟨by omega, marksOk_false HP.out HE.out⟩⟩
    · go_wp2
      go_ret
      exact ⟨rfl, -1, rfl, .inr ⟨rfl, by have h := HALL.out; unfold marksUpto at h; rwa [List.take_of_length_le (by omega)] at h⟩⟩
theorem pMarks_any (P : List ByteArray) (A : Option Addr) (cap : Nat) (w : World) (hl : P.length ≤ 1000000) (hm : Strs w A P) :
    Calls Tryz.prog 143 #[.slice A P.length cap, .func (.func 144) #[] #[]] w fun e w' => e = .returned (.bool (!marksOk P)) ∧ w' = w := by
  go_enter Tryz.func143, Tryz.ntmps143
  go_wp2_with fail
  refine (pMarksIx_any P A cap _ hl hm).mono ?_
  rintro e w1 ⟨rfl, n, rfl, ⟨h0, hf⟩ | ⟨rfl, hf⟩⟩
  · have HF := Lib.hid hf
    clear hf
    go_wp2
    go_ret
    exact ⟨by rw [HF.out]; rfl, rfl⟩
  · have HF := Lib.hid hf
    clear hf
    go_wp2
    go_ret
    exact ⟨by rw [HF.out]; rfl, rfl⟩
theorem pAre_any (P : List ByteArray) (A : Option Addr) (cap : Nat) (w : World) (hl : P.length ≤ 1000000) (hm : Strs w A P) :
    Calls Tryz.prog 95 #[.slice A P.length cap] w fun e w' => e = .returned (.bool (marksOk P)) ∧ w' = w := by
  obtain ⟨M, hM⟩ : ∃ M, marksOk P = M := ⟨_, rfl⟩
  have HM := Lib.hid hM
  rw [hM]
  clear hM
  go_enter Tryz.func95, Tryz.ntmps95
  go_wp2_with fail
  refine (pMarks_any P A cap _ hl hm).mono ?_
  rintro e w1 ⟨rfl, rfl⟩
  rw [HM.out]
  go_wp2
  go_ret
  exact ⟨rfl, rfl⟩
theorem pAreOne_any (s : ByteArray) (a : Nat) (w : World) (hm : Strs w (some ⟨a, 0, none⟩) [s]) :
    Calls Tryz.prog 95 #[.slice (some ⟨a, 0, none⟩) 1 1] w fun e w' => e = .returned (.bool (decide (s.size = 16))) ∧ w' = w :=
  (pAre_any [s] (some ⟨a, 0, none⟩) 1 w (by simp) hm).mono fun e w' h => ⟨h.1.trans (by simp [marksOk]), h.2⟩
theorem empty_of {s : ByteArray} (h : s.size = 0) : s = ⟨#[]⟩ := by
  obtain ⟨d⟩ := s
  congr 1
  exact Array.eq_empty_of_size_eq_zero h
theorem pEmpty_any (x : It) (w : World) : Calls Tryz.prog 231 #[.agg #[.string x.1, .string x.2]] w fun e w' => e = .returned (.bool (decide (x.1.size = 0 ∧ x.2.size = 0))) ∧ Below w.heap.size w w' := by
  have HBW := Lib.hid (alloc_below w (.cells #[.string x.1, .string x.2] 61))
  have he : decide (x.1.size = 0 ∧ x.2.size = 0) = decide (x = (⟨#[]⟩, ⟨#[]⟩)) := by
    by_cases h : x.1.size = 0 ∧ x.2.size = 0
    · rw [decide_eq_true h, decide_eq_true (Prod.ext (empty_of h.1) (empty_of h.2))]
    · rw [decide_eq_false h, decide_eq_false (fun e => h (by subst e; exact ⟨rfl, rfl⟩))]
  obtain ⟨T, hT⟩ : ∃ T, decide (x.1.size = 0 ∧ x.2.size = 0) = T := ⟨_, rfl⟩
  have hne : ∀ u : World, (binOp .eql 61 (.agg #[.string x.1, .string x.2]) (.agg #[.string ⟨#[]⟩, .string ⟨#[]⟩])).run Tryz.prog u = .ok (.bool T) u := fun u => by rw [← hT, he]; exact run_eql_items x (⟨#[]⟩, ⟨#[]⟩) u
  rw [hT]
  clear hT he
  go_enter Tryz.func231, Tryz.ntmps231
  go_wp2
  go_ret
  exact ⟨rfl, HBW.out⟩
end Go.Proofs.YtcfpmofmjnhonaaGreatDoor
/- The program's mark of what lies at a way's end. -/
namespace Go.Proofs.YtcfpmofmjnhonaaGreatDoor
open Go.RowKit

set_option maxRecDepth 100000 in
theorem pEnd_any (P : List ByteArray) (A : Option Addr) (cap : Nat) (x : It) (w : World) (hk : HasK w) (hx : x.1.size ≤ 1000000) (hy : x.2.size ≤ 1000000) (hxx : x.1.size = 0 → x.2.size = 0) :
    Calls Tryz.prog 192 #[.agg #[.slice A P.length cap, .string x.1, .string x.2]] w fun e w' => e = .returned (.string (startOf P x)) ∧ Below w.heap.size w w' := by
  have HB0 := Lib.hid (alloc_below w (.cells #[.slice A P.length cap, .string x.1, .string x.2] 63))
  have HH0 := Lib.hid (show Holds (w.alloc (.cells #[.slice A P.length cap, .string x.1, .string x.2] 63)) w.heap.size 3 (pCells (.slice A P.length cap) x) 63 from Holds.new w 3 (pCells (.slice A P.length cap) x) 63)
  have HK := Lib.hid hk
  clear hk
  obtain ⟨S, hS⟩ : ∃ S, startOf P x = S := ⟨_, rfl⟩
  rw [hS]
  have HS := Lib.hid hS
  clear hS
  go_enter Tryz.func192, Tryz.ntmps192
  go_wp2_with fail
  generalize w.alloc (.cells #[.slice A P.length cap, .string x.1, .string x.2] 63) = w0 at HB0 HH0
  refine (pEmpty_any x _).mono ?_
  rintro e w1 ⟨rfl, hb1⟩
  have HB1 := Lib.hid (HB0.out.trans (hb1.mono HB0.out.size))
  have HH1 := Lib.hid (HH0.out.below hb1 HH0.out.lt)
  clear hb1 HB0 HH0
  have p0 : w1.cell? ⟨w.heap.size, 0, none⟩ = some (.slice A P.length cap) := HH1.out.cell 0 (by omega)
  have p1 : w1.cell? ⟨w.heap.size, 1, none⟩ = some (.string x.1) := HH1.out.cell 1 (by omega)
  have p2 : w1.cell? ⟨w.heap.size, 2, none⟩ = some (.string x.2) := HH1.out.cell 2 (by omega)
  by_cases hz : x.1.size = 0
  · have hF : S = emptyM P.length := by rw [← HS.out]; unfold startOf; rw [if_pos hz]
    subst hF
    rw [decide_eq_true ⟨hz, hxx hz⟩]
    clear hz hxx
    go_wp2_with fail
    refine (tEmpty_any P.length _ (HK.out.below HB1.out HK.out.lt)).mono ?_
    rintro e w2 ⟨rfl, hb2⟩
    have HB2 := Lib.hid (HB1.out.trans (hb2.mono HB1.out.size))
    clear hb2
    go_wp2
    go_ret
    exact ⟨rfl, HB2.out⟩
  · have hF : S = leafM x P.length := by rw [← HS.out]; unfold startOf; rw [if_neg hz]
    subst hF
    rw [decide_eq_false (fun e => hz e.1)]
    clear hz hxx
    go_wp2_with fail
    refine (tLeaf_any x P.length _ (HK.out.below HB1.out HK.out.lt) hx hy).mono ?_
    rintro e w2 ⟨rfl, hb2⟩
    have HB2 := Lib.hid (HB1.out.trans (hb2.mono HB1.out.size))
    clear hb2
    go_wp2
    go_ret
    exact ⟨rfl, HB2.out⟩
end Go.Proofs.YtcfpmofmjnhonaaGreatDoor
