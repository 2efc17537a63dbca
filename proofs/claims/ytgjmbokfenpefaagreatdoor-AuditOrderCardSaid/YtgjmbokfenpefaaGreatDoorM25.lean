/- Parts of the proof, one behind the other: PNode, VSign, PSign, PLay2. -/
import Derived.WalkKit
import Derived.Lib.Hide
import Derived.WalkLawsBesides
import Derived.Deep.QuietTactic
import Derived.Deep.WholeRow
import Derived.ArgAppend
import Derived.Laws.AppendOwnNone
import Derived.Laws.CopyRow
import Derived.Deep.RegionLaw
import Derived.Laws.BytesString
import Derived.Laws.IdiomStrings
import Derived.Test.YtgjmbokfenpefaaGreatDoorProg
import Derived.Laws.BitsAllLaws
import Derived.Outline
import Derived.BigQuiet
import Derived.Laws.CopyOwn
import Derived.RegionTactic
import Derived.StillTail
import Derived.Deep.Quiet
import Derived.Deep.RegionHeld3
import Derived.Deep.DeepCutAuto
import Derived.IntWalk
import Derived.Sort.Walk0
import Derived.Tactics
import Derived.Orders
import Derived.LaidEql
import Derived.Stop.Asserts
import Derived.RowKitTokens
import Derived.Sort.LotA
import Derived.Lib.SortBridge
import Derived.Deep.AppendSrc
import Derived.Laws.ResultCell
import Derived.OrdersHeld
import Derived.Laws.StructEq
import Derived.RangeFuncNested
import Derived.RangeFuncBound
import Derived.RangeFuncCalls
import Derived.RangeFuncLeaves
import Derived.Shelf.Abstract
import Derived.Shelf.RegionOpen
import Derived.OwnWalkIn
import Derived.TacticsInMore
import Derived.LoopNIn
import Derived.LoopIn
import Derived.OrdersIn
import Derived.TacticsIn
import Derived.StringKeys
import Derived.Maps.Own
import Derived.Maps.Views
import Derived.Maps.OwnSet
import Derived.Maps.OwnOps
import Derived.Maps.RangeWalk
import Derived.Sort.KeysCollected
import Derived.Shelf.SlSortFuncK.WholeK
import Derived.Ground.GgsProg
import Derived.Shelf.GgSortFunc.Tiny
import Derived.Shelf.Strings.Repeat
import Derived.KernelRfl
import Derived.WideKeyEntry
import Derived.Deep.CutRange
import Derived.Shelf.SlGeneric
import Derived.Shelf.SlIter.Nil
import Derived.Shelf.SortM.Plain
import Derived.Shelf.SortM.SortNone
import Derived.Ground.GgzProg
import Derived.Ground.SlgmProg
import Derived.Shelf.Small.Strs
import Derived.Test.YtgjmbokfenpefaaGreatDoorM1
import Derived.Test.YtgjmbokfenpefaaGreatDoorM2
import Derived.Test.YtgjmbokfenpefaaGreatDoorM3
import Derived.Test.YtgjmbokfenpefaaGreatDoorM4
import Derived.Test.YtgjmbokfenpefaaGreatDoorM5
import Derived.Test.YtgjmbokfenpefaaGreatDoorM6
import Derived.Test.YtgjmbokfenpefaaGreatDoorM7
import Derived.Test.YtgjmbokfenpefaaGreatDoorM8
import Derived.Test.YtgjmbokfenpefaaGreatDoorM9
import Derived.Test.YtgjmbokfenpefaaGreatDoorM10
import Derived.Test.YtgjmbokfenpefaaGreatDoorM11
import Derived.Test.YtgjmbokfenpefaaGreatDoorM12
import Derived.Test.YtgjmbokfenpefaaGreatDoorM13
import Derived.Test.YtgjmbokfenpefaaGreatDoorM17
import Derived.Test.YtgjmbokfenpefaaGreatDoorM18
import Derived.Test.YtgjmbokfenpefaaGreatDoorM19
import Derived.Test.YtgjmbokfenpefaaGreatDoorM20
import Derived.Test.YtgjmbokfenpefaaGreatDoorM21
import Derived.Test.YtgjmbokfenpefaaGreatDoorM22
import Derived.Test.YtgjmbokfenpefaaGreatDoorM23
import Derived.Test.YtgjmbokfenpefaaGreatDoorM24
/- The program's NODE and Root. -/
namespace Go.Proofs.YtgjmbokfenpefaaGreatDoor
open Go.RowKit

set_option maxRecDepth 100000 in
theorem tNode_few (f d : Nat) (L : List It) (A : Option Addr) (cap : Nat) (w : World) (h2 : L.length < 2) (hap : Apart L d) (hcm : ∀ x ∈ L, x.2.size ≤ 1000000) (hk : HasK w) (hm : Itms w A L) :
    Calls Tryz.prog 159 #[.slice A L.length cap, .int .i64 (d : Int)] w fun e w' => e = .returned (.string (nodeOf f L d)) ∧ Below w.heap.size w w' := by
  have HK := Lib.hid hk
  have HM := Lib.hid hm
  have HAP := Lib.hid hap
  have HCM := Lib.hid hcm
  clear hk hm hap hcm
  rcases (show L.length = 0 ∨ L.length = 1 by omega) with h | h
  · have HT := Lib.hid (nodeOf_nil f L d h)
    have h0 : ((L.length : Int) == 0) = true := by rw [beq_iff_eq]; omega
    clear h h2
    go_enter Tryz.func159, Tryz.ntmps159
    go_wp2_with fail
    refine (tEmpty_any d _ HK.out).mono ?_
    rintro e w1 ⟨rfl, hb1⟩
    have HB1 := Lib.hid hb1
    clear hb1 h0
    go_wp2
    go_ret
    exact ⟨by rw [HT.out]; rfl, HB1.out⟩
  · have HT := Lib.hid (nodeOf_one f L d h)
    have h0 : ((L.length : Int) == 0) = false := by rw [beq_eq_false_iff_ne]; omega
    have h1 : ((L.length : Int) == 1) = true := by rw [beq_iff_eq]; omega
    have hlt : (0 : Int) < (L.length : Int) := by omega
    obtain ⟨a, rfl, hal, c0, c1⟩ := HM.out.at_ (show 0 < L.length by omega)
    have hx : itAt L 0 ∈ L := by rw [itAt_of (show 0 < L.length by omega)]; exact List.getElem_mem _
    have hx1 := HAP.out.1 _ hx
    have hx2 := HCM.out _ hx
    rw [Nat.zero_mul, add_zero'] at c0 c1
    have d2 : w.cell? ⟨a.block, a.off + 1, none⟩ = some (.string (itAt L 0).2) := c1
    generalize itAt L 0 = x at c0 d2 hx1 hx2 HT
    have HX1 := Lib.hid hx1
    have HX2 := Lib.hid hx2
    clear c1 hx1 hx2 hx h h2
    go_enter Tryz.func159, Tryz.ntmps159
    go_wp2_with fail
    refine (tLeaf_any x d _ HK.out (by have := HX1.out; omega) HX2.out).mono ?_
    rintro e w1 ⟨rfl, hb1⟩
    have HB1 := Lib.hid hb1
    clear hb1 h0 h1
    go_wp2
    go_ret
    exact ⟨by rw [HT.out]; rfl, HB1.out⟩
set_option maxRecDepth 100000 in
theorem tNode_any : ∀ (f d : Nat) (L : List It) (A : Option Addr) (cap : Nat) (w : World), d + f = 128 → Apart L d → L.Pairwise ltI → L.length ≤ 1000000 → L.length ≤ cap → (∀ x ∈ L, x.2.size ≤ 1000000) → HasK w → Itms w A L →
    Calls Tryz.prog 159 #[.slice A L.length cap, .int .i64 (d : Int)] w fun e w' => e = .returned (.string (nodeOf f L d)) ∧ Below w.heap.size w w' := by
  intro f
  induction f with
  | zero =>
    intro d L A cap w hdf hap hs hl hc hcm hk hm
    refine tNode_few 0 d L A cap w ?_ hap hcm hk hm
    rcases Nat.lt_or_ge L.length 2 with h | h
    · exact h
    · have := hap.lt h; omega
  | succ f ih =>
    intro d L A cap w hdf hap hs hl hc hcm hk hm
    rcases Nat.lt_or_ge L.length 2 with h | h
    · exact tNode_few (f + 1) d L A cap w h hap hcm hk hm
    · have IH := Lib.hid ih
      have HK := Lib.hid hk
      have HM := Lib.hid hm
      have HAP := Lib.hid hap
      have HS := Lib.hid hs
      have HCM := Lib.hid hcm
      have HDF := Lib.hid hdf
      have HCAP := Lib.hid hc
      clear ih hk hm hap hs hcm hdf hc
      have hd : d < 128 := HAP.out.lt h
      have HT := Lib.hid (nodeOf_two f L d h)
      have ED := Lib.hid (show ((d : Int) + 1) = ((d + 1 : Nat) : Int) by omega)
      have h0 : ((L.length : Int) == 0) = false := by rw [beq_eq_false_iff_ne]; omega
      have h1 : ((L.length : Int) == 1) = false := by rw [beq_eq_false_iff_ne]; omega
      go_enter Tryz.func159, Tryz.ntmps159
      go_wp2_with fail
      refine (tHalves_any L A cap d _ hl HCAP.out HM.out HS.out HAP.out hd).mono ?_
      rintro e w1 ⟨A0, c0, A1, c1, rfl, hb1, hi0, hi1, hc0, hc1⟩
      have HB1 := Lib.hid hb1
      have HI0 := Lib.hid hi0
      have HI1 := Lib.hid hi1
      have HC0 := Lib.hid hc0
      have HC1 := Lib.hid hc1
      clear hb1 hi0 hi1 hc0 hc1 h0 h1
      go_wp2_with fail
      rw [ED.out]
      refine (IH.out (d + 1) (half L d 0) A0 c0 _ (by have := HDF.out; omega) (HAP.out.half 0) (half_rise HS.out d 0) (Nat.le_trans (half_le _ _ _) hl) HC0.out (fun x hx => HCM.out x (List.mem_filter.1 hx).1) (HK.out.below HB1.out HK.out.lt) HI0.out).mono ?_
      rintro e w2 ⟨rfl, hb2⟩
      have HI1' := Lib.hid (HI1.out.below hb2)
      have HB2 := Lib.hid (HB1.out.trans (hb2.mono HB1.out.size))
      have hs1 := nodeOf_size f (half L d 0) (d + 1)
      generalize nodeOf f (half L d 0) (d + 1) = n0 at hs1 HT
      have HS1 := Lib.hid hs1
      clear hb2 hs1
      go_wp2_with fail
      rw [ED.out]
      refine (IH.out (d + 1) (half L d 1) A1 c1 _ (by have := HDF.out; omega) (HAP.out.half 1) (half_rise HS.out d 1) (Nat.le_trans (half_le _ _ _) hl) HC1.out (fun x hx => HCM.out x (List.mem_filter.1 hx).1) (HK.out.below HB2.out HK.out.lt) HI1'.out).mono ?_
      rintro e w3 ⟨rfl, hb3⟩
      have HB3 := Lib.hid (HB2.out.trans (hb3.mono HB2.out.size))
      have hs2 := nodeOf_size f (half L d 1) (d + 1)
      generalize nodeOf f (half L d 1) (d + 1) = n1 at hs2 HT
      have HS2 := Lib.hid hs2
      clear hb3 hs2
      go_wp2_with fail
      refine (tJoin_any n0 n1 _ (HK.out.below HB3.out HK.out.lt) (by have := HS1.out; omega) (by have := HS2.out; omega)).mono ?_
      rintro e w4 ⟨rfl, hb4⟩
      have HB4 := Lib.hid (HB3.out.trans (hb4.mono HB3.out.size))
      clear hb4
      go_wp2
      go_ret
      exact ⟨by rw [HT.out]; rfl, HB4.out⟩
set_option maxRecDepth 100000 in
theorem tRoot_is (L : List It) (A : Option Addr) (cap : Nat) (x : ByteArray) (n : Int) (w : World) (hk : HasK w) (hl : L.length ≤ 1000000) (hc : L.length ≤ cap) (hm : Itms w A L) (h : rootAns L = (x, n)) :
    Calls Tryz.prog 152 #[.slice A L.length cap] w fun e w' => e = .returned (.tuple #[.string x, errOf n]) ∧ Below w.heap.size w w' := by
  have HK := Lib.hid hk
  have HM := Lib.hid hm
  have HCAP := Lib.hid hc
  clear hk hm hc
  unfold rootAns at h
  by_cases hk : rightItems L = true
  · rw [if_pos hk] at h
    cases h
    have HAP := Lib.hid (right_apart hk)
    have HCM := Lib.hid (right_cm hk)
    have HS := Lib.hid (right_sorted hk)
    have HR := Lib.hid hk
    clear hk
    go_enter Tryz.func152, Tryz.ntmps152
    go_wp2_with fail
    refine (tRight_any L A cap _ hl HM.out).mono ?_
    rintro e w1 ⟨rfl, hb1⟩
    rw [HR.out]
    have HB1 := Lib.hid hb1
    have HM1 := Lib.hid (HM.out.below hb1)
    clear hb1
    go_wp2_with fail
    refine (tNode_any 128 0 L A cap _ rfl HAP.out HS.out hl HCAP.out HCM.out (HK.out.below HB1.out HK.out.lt) HM1.out).mono ?_
    rintro e w2 ⟨rfl, hb2⟩
    have HB2 := Lib.hid (HB1.out.trans (hb2.mono HB1.out.size))
    clear hb2
    go_wp2
    refine bodyPost_ret (results_tmp2 rfl _ _ _) rfl ?_
    exact ⟨rfl, HB2.out⟩
  · rw [if_neg hk] at h
    cases h
    have HR := Lib.hid (show rightItems L = false by simpa using hk)
    clear hk
    go_enter Tryz.func152, Tryz.ntmps152
    go_wp2_with fail
    refine (tRight_any L A cap _ hl HM.out).mono ?_
    rintro e w1 ⟨rfl, hb1⟩
    rw [HR.out]
    have HB1 := Lib.hid hb1
    clear hb1
    go_wp2
    refine bodyPost_ret (results_tmp2 rfl _ _ _) rfl ?_
    exact ⟨rfl, HB1.out⟩
end Go.Proofs.YtgjmbokfenpefaaGreatDoor
/- The program's boxes: Sign. -/
namespace Go.Proofs.YtgjmbokfenpefaaGreatDoor
open Go.RowKit

/-- The block of the result: a seal that is none yet; what it is in the end. -/
structure SgRes (w wr : World) : Prop where
  below : Below w.heap.size w wr
  res : Holds wr w.heap.size 3 (slF 0 (.slice none 0 0) (.slice none 0 0)) 55
theorem SgRes.fin {w wr : World} (h : SgRes w wr) (k : Int) (u v : Value) :
    Holds (((wr.setCell ⟨w.heap.size, 0, none⟩ (.int .i64 k)).setCell ⟨w.heap.size, 1, none⟩ u).setCell ⟨w.heap.size, 2, none⟩ v) w.heap.size 3 (slF k u v) 55 ∧
    Below w.heap.size w (((wr.setCell ⟨w.heap.size, 0, none⟩ (.int .i64 k)).setCell ⟨w.heap.size, 1, none⟩ u).setCell ⟨w.heap.size, 2, none⟩ v) :=
  ⟨(((h.res.set 0 _).set 1 _).set 2 _).congr fun i hi => by
      rcases (show i = 0 ∨ i = 1 ∨ i = 2 by omega) with rfl | rfl | rfl <;> simp [upd, slF],
    ((h.below.setCell (Nat.le_refl _) _).setCell (Nat.le_refl _) _).setCell (Nat.le_refl _) _⟩
theorem SgRes.after {w wr wz : World} (h : SgRes w wr) (hb : Below wr.heap.size wr wz) : SgRes w wz := ⟨h.below.trans (hb.mono h.below.size), h.res.below hb h.res.lt⟩

set_option maxHeartbeats 2000000 in
set_option maxRecDepth 100000 in
theorem vSign_in (p : Addr) (seed : ByteArray) (key : Int) (m : ByteArray) (kk : Int) (S P : List ByteArray) (n : Int) (w : World) (hk : HasK w) (hb : SealIs w p seed) (h : sealAns seed key m = (kk, S, P, n)) :
    Calls Tryz.prog 154 #[.pointer (some p), .int .i64 key, .string m] w fun e w' => ∃ A ca B cb, e = .returned (.tuple #[.agg #[.int .i64 kk, .slice A S.length ca, .slice B P.length cb], errOf n]) ∧ Below w.heap.size w w' ∧ Strs w' A S ∧ Strs w' B P ∧ (∀ a, A = some a → 0 < S.length → w.heap.size < a.block) ∧ ∀ a, B = some a → 0 < P.length → w.heap.size < a.block := by
  have HR0 := Lib.hid (show SgRes w (w.alloc (.cells #[.int .i64 0, .slice none 0 0, .slice none 0 0] 55)) from ⟨alloc_below w _, Holds.new w 3 (slF 0 (.slice none 0 0) (.slice none 0 0)) 55⟩)
  have HK := Lib.hid (hk.below HR0.out.below hk.lt)
  have HB := Lib.hid (hb.below HR0.out.below)
  have HE2 := Lib.hid (show errOf 2 = Value.iface 28 (.int .i64 2) from rfl)
  have HE0 := Lib.hid (show errOf 0 = Value.nilIface from rfl)
  clear hk hb
  unfold sealAns at h
  by_cases hkey : 0 ≤ key ∧ key ≤ 7
  · rw [if_pos hkey] at h
    obtain ⟨U, l, hu⟩ : ∃ U l, signAns seed key m = (U, l) := ⟨_, _, rfl⟩
    rw [hu] at h
    have HU0 := Lib.hid hu
    clear hu
    go_enter Tryz.func154, Tryz.ntmps154
    go_wp2_with fail
    generalize w.alloc (.cells #[.int .i64 0, .slice none 0 0, .slice none 0 0] 55) = w0 at HR0 HK HB
    refine (vKey_any key _).mono ?_
    rintro e w1 ⟨rfl, rfl⟩
    rw [decide_eq_true hkey]
    obtain ⟨bb, gr, rc, rfl, -, -, c0, -, -, -⟩ := HB.out
    go_wp2_with fail
    clear c0
    refine (qSign_at seed key m U l _ HK.out HU0.out).mono ?_
    rintro e w2 ⟨A, ca, rfl, hb2, hti, hal⟩
    have HR2 := Lib.hid (HR0.out.after hb2)
    have HB2 := Lib.hid (HB.out.below hb2)
    have HAL := Lib.hid (show ∀ a, A = some a → 0 < U.length → w.heap.size < a.block from fun a ha hn => Nat.lt_of_lt_of_le HR0.out.res.lt (hal a ha hn))
    have HTI := Lib.hid hti
    clear hb2 hti hal
    by_cases hl : l = 0
    · subst hl
      rw [if_pos rfl] at h
      simp only [Prod.mk.injEq] at h
      obtain ⟨rfl, rfl, hP, rfl⟩ := h
      obtain ⟨kk, rfl⟩ : ∃ kk : Nat, key = (kk : Int) := ⟨key.toNat, by omega⟩
      have hkk : kk ≤ 7 := by omega
      rw [Int.toNat_natCast] at hP
      have HPL := Lib.hid (show P.length = 3 by rw [← hP]; exact sealPath_length _ _ _)
      have HP := Lib.hid hP
      rw [HE0.out]
      clear hP hkey
      go_wp2_with fail
      refine (vPath_any ⟨bb, 0, none⟩ seed kk _ HB2.out hkk).mono ?_
      rintro e w3 ⟨g, rfl, hg, hb3, hpt⟩
      have HR3 := Lib.hid (HR2.out.after hb3)
      have HTI3 := Lib.hid (HTI.out.below hb3)
      have HG := Lib.hid (show w.heap.size < g from Nat.lt_of_lt_of_le HR2.out.res.lt hg)
      rw [HP.out] at hpt
      have HPT := Lib.hid hpt
      clear hb3 hpt hg
      have p0 : w3.cell? ⟨w.heap.size, 0, none⟩ = some (.int .i64 0) := HR3.out.res.cell 0 (by omega)
      have p1 : w3.cell? ⟨w.heap.size, 1, none⟩ = some (.slice none 0 0) := HR3.out.res.cell 1 (by omega)
      have p2 : w3.cell? ⟨w.heap.size, 2, none⟩ = some (.slice none 0 0) := HR3.out.res.cell 2 (by omega)
      have f0 : w3.frozen? ⟨w.heap.size, 0, none⟩ = false := HR3.out.res.free 0
      have f1 : w3.frozen? ⟨w.heap.size, 1, none⟩ = false := HR3.out.res.free 1
      have f2 : w3.frozen? ⟨w.heap.size, 2, none⟩ = false := HR3.out.res.free 2
      have HFIN := Lib.hid (HR3.out.fin (kk : Int) (.slice A U.length ca) (.slice (some ⟨g, 0, none⟩) 3 3))
      go_wp2
      refine bodyPost_ret (results_row2 rfl _ _ w.heap.size 55 (arr 3 (slF (kk : Int) (.slice A U.length ca) (.slice (some ⟨g, 0, none⟩) 3 3))) (0, 0) _ rfl HFIN.out.1 Tryz.underlying55 rfl (by rw [arr_size]; exact infoSeal)) rfl ?_
      rw [HPL.out]
      exact ⟨A, ca, some ⟨g, 0, none⟩, 3, rfl, HFIN.out.2, ((HTI3.out.keep _ _ HAL.out).keep _ _ HAL.out).keep _ _ HAL.out,
        ((HPT.out.keep _ _ (fun a ha _ => by cases ha; exact HG.out)).keep _ _ (fun a ha _ => by cases ha; exact HG.out)).keep _ _ (fun a ha _ => by cases ha; exact HG.out), HAL.out, fun a ha _ => by cases ha; exact HG.out⟩
    · rw [if_neg hl] at h
      simp only [Prod.mk.injEq] at h
      obtain ⟨rfl, rfl, rfl, rfl⟩ := h
      have HEL := Lib.hid (show errOf l = Value.iface 28 (.int .i64 l) by unfold errOf; rw [if_neg hl])
      rw [HEL.out]
      have p0 : w2.cell? ⟨w.heap.size, 0, none⟩ = some (.int .i64 0) := HR2.out.res.cell 0 (by omega)
      have p1 : w2.cell? ⟨w.heap.size, 1, none⟩ = some (.slice none 0 0) := HR2.out.res.cell 1 (by omega)
      have p2 : w2.cell? ⟨w.heap.size, 2, none⟩ = some (.slice none 0 0) := HR2.out.res.cell 2 (by omega)
      have f0 : w2.frozen? ⟨w.heap.size, 0, none⟩ = false := HR2.out.res.free 0
      have f1 : w2.frozen? ⟨w.heap.size, 1, none⟩ = false := HR2.out.res.free 1
      have f2 : w2.frozen? ⟨w.heap.size, 2, none⟩ = false := HR2.out.res.free 2
      have HFIN := Lib.hid (HR2.out.fin 0 (.slice none 0 0) (.slice none 0 0))
      clear hl hkey
      go_wp2
      refine bodyPost_ret (results_row2 rfl _ _ w.heap.size 55 (arr 3 (slF 0 (.slice none 0 0) (.slice none 0 0))) (0, 0) _ rfl HFIN.out.1 Tryz.underlying55 rfl (by rw [arr_size]; exact infoSeal)) rfl ?_
      exact ⟨none, 0, none, 0, by rw [HEL.out]; rfl, HFIN.out.2, Strs.nil _ _, Strs.nil _ _, (fun a e => by cases e), fun a e => by cases e⟩
  · rw [if_neg hkey] at h
    simp only [Prod.mk.injEq] at h
    obtain ⟨rfl, rfl, rfl, rfl⟩ := h
    rw [HE2.out]
    go_enter Tryz.func154, Tryz.ntmps154
    go_wp2_with fail
    generalize w.alloc (.cells #[.int .i64 0, .slice none 0 0, .slice none 0 0] 55) = w0 at HR0 HK HB
    refine (vKey_any key _).mono ?_
    rintro e w1 ⟨rfl, rfl⟩
    rw [decide_eq_false hkey]
    have p0 : w1.cell? ⟨w.heap.size, 0, none⟩ = some (.int .i64 0) := HR0.out.res.cell 0 (by omega)
    have p1 : w1.cell? ⟨w.heap.size, 1, none⟩ = some (.slice none 0 0) := HR0.out.res.cell 1 (by omega)
    have p2 : w1.cell? ⟨w.heap.size, 2, none⟩ = some (.slice none 0 0) := HR0.out.res.cell 2 (by omega)
    have f0 : w1.frozen? ⟨w.heap.size, 0, none⟩ = false := HR0.out.res.free 0
    have f1 : w1.frozen? ⟨w.heap.size, 1, none⟩ = false := HR0.out.res.free 1
    have f2 : w1.frozen? ⟨w.heap.size, 2, none⟩ = false := HR0.out.res.free 2
    have HFIN := Lib.hid (HR0.out.fin 0 (.slice none 0 0) (.slice none 0 0))
    clear hkey
    go_wp2
    refine bodyPost_ret (results_row2 rfl _ _ w.heap.size 55 (arr 3 (slF 0 (.slice none 0 0) (.slice none 0 0))) (0, 0) _ rfl HFIN.out.1 Tryz.underlying55 rfl (by rw [arr_size]; exact infoSeal)) rfl ?_
    exact ⟨none, 0, none, 0, rfl, HFIN.out.2, Strs.nil _ _, Strs.nil _ _, (fun a e => by cases e), fun a e => by cases e⟩
end Go.Proofs.YtgjmbokfenpefaaGreatDoor
/- The program's directory: the head of items, and its seal. -/
namespace Go.Proofs.YtgjmbokfenpefaaGreatDoor
open Go.RowKit Go.Maps

set_option maxHeartbeats 4000000 in
set_option maxRecDepth 100000 in
theorem pSignDir_is (F : Nat → Prop) (p : Nat) (secret : ByteArray) (bb : Addr) (mh mw : Nat) (vi ve : Value) (H : List (ByteArray × (ByteArray × ByteArray))) (W : List (ByteArray × ByteArray)) (I J : List It) (M : List SgM) (A : Option Addr) (c : Nat) (w : World)
    (h : DMem F w p secret bb mh mw vi ve H W I M) (hk : HasK w) (h8 : M.length < 8) (hj : Itms w A J) (hjc : J.length ≤ c) (hr : rightItems J = true) {y : Hd} (hy : nextAns (M.map (·.s.head)) (rootOf J) = (y, 0)) (hyr : rightHead y = true) :
    Calls Tryz.prog 93 #[.pointer (some ⟨p, 0, none⟩), .int .i64 ((M.length : Int) + 1), .slice A J.length c] w fun e w' => ∃ m : SgM, m.s = signOf secret M.length y ∧ e = .returned (.tuple #[.agg #[.int .i64 m.s.head.epoch, .string m.s.head.root, .string m.s.head.prev, .int .i64 m.s.key, .slice m.A m.s.sig.length m.ca, .slice m.B m.s.path.length m.cb], .nilIface]) ∧ Below w.heap.size w w' ∧ SgLie (fun k => w.heap.size ≤ k) w' m := by
  have HD := Lib.hid h
  have HK := Lib.hid hk
  have HJ := Lib.hid hj
  have HJC := Lib.hid hjc
  have HY := Lib.hid hy
  have HYR := Lib.hid hyr
  have HRT := Lib.hid (show rootAns J = (rootOf J, 0) from by unfold rootAns; rw [if_pos hr])
  have HJL := Lib.hid (right_length hr)
  have HM8 := Lib.hid h8
  have HB0 := Lib.hid (alloc_below w (.cells #[.int .i64 0, .string ⟨#[]⟩, .string ⟨#[]⟩, .int .i64 0, .slice none 0 0, .slice none 0 0] 57))
  have HZ0 := Lib.hid (show Holds (w.alloc (.cells #[.int .i64 0, .string ⟨#[]⟩, .string ⟨#[]⟩, .int .i64 0, .slice none 0 0, .slice none 0 0] 57)) w.heap.size 6 (sgF noHd 0 (.slice none 0 0) (.slice none 0 0)) 57 from Holds.new w 6 (sgF noHd 0 (.slice none 0 0) (.slice none 0 0)) 57)
  clear h hk hj hjc hy hr h8 hyr
  go_enter Tryz.func93, Tryz.ntmps93
  go_wp2_with fail
  generalize w.alloc (.cells #[.int .i64 0, .string ⟨#[]⟩, .string ⟨#[]⟩, .int .i64 0, .slice none 0 0, .slice none 0 0] 57) = w0 at HB0 HZ0 ⊢
  refine (tRoot_is J A c (rootOf J) 0 _ (HK.out.below HB0.out HK.out.lt) (by have := HJL.out; omega) HJC.out (HJ.out.below HB0.out) HRT.out).mono ?_
  rintro e w1 ⟨rfl, hb1⟩
  rw [show errOf 0 = .nilIface from rfl]
  have HB1 := Lib.hid (HB0.out.trans (hb1.mono HB0.out.size))
  have HZ1 := Lib.hid (HZ0.out.below hb1 HZ0.out.lt)
  have HD1 := Lib.hid (HD.out.same (same_of_below HB1.out HD.out.lt))
  clear hb1 HB0 HZ0
  obtain ⟨AE, cE, hve, hce, hsix⟩ := HD1.out.row.sixes
  have c5 : w1.cell? ⟨p, 5, none⟩ = some (.slice AE M.length cE) := by rw [← hve]; exact HD1.out.own.cell 5 (by omega)
  have HSX := Lib.hid hsix
  clear hsix hve hce
  go_wp2_with fail
  refine (pDirHeads_any p M AE cE _ (by have := HM8.out; omega) c5 HSX.out).mono ?_
  rintro e w2 ⟨A2, c2, rfl, hb2, hh2, hc2⟩
  have HB2 := Lib.hid (HB1.out.trans (hb2.mono HB1.out.size))
  have HZ2 := Lib.hid (HZ1.out.below hb2 HZ1.out.lt)
  have HK2 := Lib.hid (HK.out.below HB2.out HK.out.lt)
  have HH2 := Lib.hid hh2
  clear hb2 c5 HZ1 HB1 HD1 HSX hh2
  go_wp2_with fail
  have HNX := Lib.hid (show Calls Tryz.prog 73 #[.slice A2 M.length c2, .string (rootOf J)] w2 fun e w' => e = .returned (.tuple #[.agg #[.int .i64 y.epoch, .string y.root, .string y.prev], errOf 0]) ∧ Below w2.heap.size w2 w' from by
    have := pNext_is (M.map (·.s.head)) A2 c2 (rootOf J) y 0 w2 HK2.out (by rw [List.length_map]; have := HM8.out; omega) HH2.out HY.out
    rwa [List.length_map] at this)
  refine HNX.out.mono ?_
  rintro e w3 ⟨rfl, hb3⟩
  rw [show errOf 0 = .nilIface from rfl]
  have HB3 := Lib.hid (HB2.out.trans (hb3.mono HB2.out.size))
  have HZ3 := Lib.hid (HZ2.out.below hb3 HZ2.out.lt)
  clear hb3 HNX HZ2 HB2 HK2 HH2 hc2
  have hb4 := alloc_below w3 (.cells #[.int .i64 y.epoch, .string y.root, .string y.prev] 52)
  have HB4 := Lib.hid (HB3.out.trans (hb4.mono HB3.out.size))
  have HZ4 := Lib.hid (HZ3.out.below hb4 HZ3.out.lt)
  have HY4 := Lib.hid (show Holds (w3.alloc (.cells #[.int .i64 y.epoch, .string y.root, .string y.prev] 52)) w3.heap.size 3 (hdF y) 52 from Holds.new w3 3 (hdF y) 52)
  have HYB := Lib.hid (show w.heap.size < w3.heap.size from HZ3.out.lt)
  clear hb4
  go_wp2_with fail
  generalize w3.alloc (.cells #[.int .i64 y.epoch, .string y.root, .string y.prev] 52) = w4 at HB4 HZ4 HY4 ⊢
  obtain ⟨yb, hyb⟩ : ∃ yb, w3.heap.size = yb := ⟨_, rfl⟩
  rw [hyb] at HY4 HYB ⊢
  clear hyb HZ3 HB3
  have HMK := Lib.hid (show headMarkAns y = (headMark y, 0) from by unfold headMarkAns; rw [if_pos HYR.out])
  refine (pHdMark_is y (headMark y) 0 _ (HK.out.below HB4.out HK.out.lt) HMK.out).mono ?_
  rintro e w5 ⟨rfl, hb5⟩
  rw [show errOf 0 = .nilIface from rfl]
  have HB5 := Lib.hid (HB4.out.trans (hb5.mono HB4.out.size))
  have HZ5 := Lib.hid (HZ4.out.below hb5 HZ4.out.lt)
  have HY5 := Lib.hid (HY4.out.below hb5 HY4.out.lt)
  have HD5 := Lib.hid (HD.out.same (same_of_below HB5.out HD.out.lt))
  clear hb5 HZ4 HY4 HB4 HMK
  have c1 : w5.cell? ⟨p, 1, none⟩ = some (.pointer (some bb)) := HD5.out.own.cell 1 (by omega)
  have HSL := Lib.hid (show sealAns (dirSeed secret) (M.length : Int) (headMarkAns y).1 = ((sealAns (dirSeed secret) (M.length : Int) (headMark y)).1, (sealAns (dirSeed secret) (M.length : Int) (headMark y)).2.1, (sealAns (dirSeed secret) (M.length : Int) (headMark y)).2.2.1, 0) from by
    have hm : (headMarkAns y).1 = headMark y := by unfold headMarkAns; rw [if_pos HYR.out]
    have := (sealAns_ok (seed := dirSeed secret) (key := (M.length : Int)) (m := headMark y) (dirSeed_size _) (by omega) (by have := HM8.out; omega) (markOf_len _ _)).2.1
    rw [hm]
    exact Prod.ext rfl (Prod.ext rfl (Prod.ext rfl this)))
  obtain ⟨kk, S1, P1, hs1⟩ : ∃ kk S1 P1, sealAns (dirSeed secret) (M.length : Int) (headMark y) = (kk, S1, P1, 0) := by
    have hm : (headMarkAns y).1 = headMark y := by unfold headMarkAns; rw [if_pos HYR.out]
    have := HSL.out
    rw [hm] at this
    exact ⟨_, _, _, this⟩
  have HS1 := Lib.hid hs1
  have HSO := Lib.hid (show signOf secret M.length y = ⟨y, kk, S1, P1⟩ from by
    have hm : (headMarkAns y).1 = headMark y := by unfold headMarkAns; rw [if_pos HYR.out]
    unfold signOf
    rw [hm, hs1])
  clear hs1 HSL
  have hw1 : wrap64 (M.length : Int) = (M.length : Int) := by have := HM8.out; unfold wrap64; omega
  go_wp2_with fail
  clear hw1 c1
  refine (vSign_in bb (dirSeed secret) (M.length : Int) (headMark y) kk S1 P1 0 _ (HK.out.below HB5.out HK.out.lt) HD5.out.box.is HS1.out).mono ?_
  rintro e w6 ⟨A6, ca, B6, cb, rfl, hb6, hs6, hp6, ha6, hbb6⟩
  rw [show errOf 0 = .nilIface from rfl]
  have HB6 := Lib.hid (HB5.out.trans (hb6.mono HB5.out.size))
  have hb7 := alloc_below w6 (.cells #[.int .i64 kk, .slice A6 S1.length ca, .slice B6 P1.length cb] 55)
  have HB7 := Lib.hid (HB6.out.trans (hb7.mono HB6.out.size))
  have HZ7 := Lib.hid ((HZ5.out.below hb6 HZ5.out.lt).below hb7 (by have := HZ5.out.lt; have := hb6.size; omega))
  have HY7 := Lib.hid ((HY5.out.below hb6 HY5.out.lt).below hb7 (by have := HY5.out.lt; have := hb6.size; omega))
  have HX7 := Lib.hid (show Holds (w6.alloc (.cells #[.int .i64 kk, .slice A6 S1.length ca, .slice B6 P1.length cb] 55)) w6.heap.size 3 (slF kk (.slice A6 S1.length ca) (.slice B6 P1.length cb)) 55 from Holds.new w6 3 (slF kk (.slice A6 S1.length ca) (.slice B6 P1.length cb)) 55)
  have HS7 := Lib.hid (hs6.below hb7)
  have HP7 := Lib.hid (hp6.below hb7)
  have HA6 := Lib.hid (show (∀ a, A6 = some a → 0 < S1.length → w.heap.size < a.block) ∧ ∀ a, B6 = some a → 0 < P1.length → w.heap.size < a.block from
    ⟨fun a e l => by have := ha6 a e l; have := HB5.out.size; omega, fun a e l => by have := hbb6 a e l; have := HB5.out.size; omega⟩)
  have HSB := Lib.hid (show w.heap.size < w6.heap.size from by have := HZ5.out.lt; have := hb6.size; omega)
  clear hb6 hs6 hp6 ha6 hbb6 hb7 HB5 HZ5 HY5 HD5 HB6
  go_upto_region 13 with (fail)
  generalize w6.alloc (.cells #[.int .i64 kk, .slice A6 S1.length ca, .slice B6 P1.length cb] 55) = w7 at HB7 HZ7 HY7 HX7 HS7 HP7 ⊢
  obtain ⟨sb, hsb⟩ : ∃ sb, w6.heap.size = sb := ⟨_, rfl⟩
  rw [hsb] at HX7 HSB ⊢
  clear hsb
  have y0 : w7.cell? ⟨yb, 0, none⟩ = some (.int .i64 y.epoch) := HY7.out.cell 0 (by omega)
  have y1 : w7.cell? ⟨yb, 1, none⟩ = some (.string y.root) := HY7.out.cell 1 (by omega)
  have y2 : w7.cell? ⟨yb, 2, none⟩ = some (.string y.prev) := HY7.out.cell 2 (by omega)
  have x0 : w7.cell? ⟨sb, 0, none⟩ = some (.int .i64 kk) := HX7.out.cell 0 (by omega)
  have x1 : w7.cell? ⟨sb, 1, none⟩ = some (.slice A6 S1.length ca) := HX7.out.cell 1 (by omega)
  have x2 : w7.cell? ⟨sb, 2, none⟩ = some (.slice B6 P1.length cb) := HX7.out.cell 2 (by omega)
  obtain ⟨z0, z1, z2, z3, z4, z5⟩ := sg_cells HZ7.out
  have q0 : w7.frozen? ⟨w.heap.size, 0, none⟩ = false := HZ7.out.free 0
  have q1 : w7.frozen? ⟨w.heap.size, 1, none⟩ = false := HZ7.out.free 1
  have q2 : w7.frozen? ⟨w.heap.size, 2, none⟩ = false := HZ7.out.free 2
  have q3 : w7.frozen? ⟨w.heap.size, 3, none⟩ = false := HZ7.out.free 3
  have q4 : w7.frozen? ⟨w.heap.size, 4, none⟩ = false := HZ7.out.free 4
  have q5 : w7.frozen? ⟨w.heap.size, 5, none⟩ = false := HZ7.out.free 5
  have HFIN := Lib.hid (put6_holds HZ7.out y kk (.slice A6 S1.length ca) (.slice B6 P1.length cb))
  have HFB := Lib.hid (put6_below HB7.out (Nat.le_refl _) y kk (.slice A6 S1.length ca) (.slice B6 P1.length cb))
  have HFS := Lib.hid (put6_strs HS7.out HA6.out.1 y kk (.slice A6 S1.length ca) (.slice B6 P1.length cb))
  have HFP := Lib.hid (put6_strs HP7.out HA6.out.2 y kk (.slice A6 S1.length ca) (.slice B6 P1.length cb))
  go_wp2
  refine bodyPost_ret (results_row2 rfl _ _ w.heap.size 57 (arr 6 (sgF y kk (.slice A6 S1.length ca) (.slice B6 P1.length cb))) (0, 0) _ rfl HFIN.out Tryz.underlying57 rfl (by rw [arr_size]; exact infoSg6)) rfl ?_
  exact ⟨⟨⟨y, kk, S1, P1⟩, A6, ca, B6, cb⟩, HSO.out.symm, rfl, HFB.out, HFS.out, HFP.out, fun a e l => Nat.le_of_lt (HA6.out.1 a e l), fun a e l => Nat.le_of_lt (HA6.out.2 a e l)⟩
end Go.Proofs.YtgjmbokfenpefaaGreatDoor
/- The program's directory: what waits laid over what is there. -/
namespace Go.Proofs.YtgjmbokfenpefaaGreatDoor
open Go.RowKit Go.Maps

/-- What waits, with its openings. -/
def Fresh (d : Dst) (Fr : List (ByteArray × (ByteArray × ByteArray))) : Prop := ∀ s, look Fr s = (look d.wait s).map fun v => (openOf (settled d) s, v)
theorem fresh_item {d : Dst} (h : DOk d) {s v : ByteArray} (hw : look d.wait s = some v) : ofAns s = ((freshIt d s).1, 0) ∧ commitAns (openOf (settled d) s) v = ((freshIt d s).2, 0) := by
  obtain ⟨h1, h2, h3⟩ := h.wn (s, v) (look_mem hw)
  have hf : freshIt d s = ((ofAns s).1, (commitAns (openOf (settled d) s) v).1) := by unfold freshIt itemOf; rw [hw]; rfl
  rw [hf]
  refine ⟨?_, ?_⟩
  · unfold ofAns; rw [if_pos h1]
  · rw [commit_ok (open_size _ _) h2 h3]
set_option maxHeartbeats 2000000 in
set_option maxRecDepth 100000 in
theorem pLay_is (d : Dst) (hok : DOk d) (h8 : d.eps.length < 8) (A : Option Addr) (c mf : Nat) (Fr : List (ByteArray × (ByteArray × ByteArray))) (w : World) (hk : HasK w) (hI : Itms w A (overIts d)) (hc : (overIts d).length ≤ c) (hf : MapIs kH w mf Fr) (hfl : Fr.length ≤ 100000) (hs : Fresh d Fr) :
    Calls Tryz.prog 92 #[.slice A (overIts d).length c, .map (some mf)] w fun e w' => ∃ A' c', e = .returned (.tuple #[.slice A' (overIts (settled d)).length c', .nilIface]) ∧ Below w.heap.size w w' ∧ Itms w' A' (overIts (settled d)) ∧ (overIts (settled d)).length ≤ c' ∧ ((A' = A ∧ overIts (settled d) = overIts d) ∨ ∀ a, A' = some a → 0 < (overIts (settled d)).length → w.heap.size ≤ a.block) := by
  have HK := Lib.hid hk
  have HI := Lib.hid hI
  have HC := Lib.hid hc
  have HF := Lib.hid hf
  have HFL := Lib.hid hfl
  have HFR := Lib.hid hs
  have HOK := Lib.hid hok
  have H8 := Lib.hid h8
  clear hk hI hc hf hfl hs hok h8
  go_enter Tryz.func92, Tryz.ntmps92
  go_wp2_with fail
  refine (Tryz.keysHas_any (some mf) _).mono ?_
  rintro e w1 ⟨rfl, rfl⟩
  go_wp2_with fail
  refine (sortedKeys_any mf Fr w HF.out HFL.out).mono ?_
  rintro e w2 ⟨S, AS, cS, rfl, hb2, hst2, hperm, hrise⟩
  have HB2 := Lib.hid hb2
  have HST := Lib.hid hst2
  have HWT := Lib.hid (show Waits d S from ⟨fun s => by rw [hperm.mem_iff, ← look_isSome, HFR.out s]; cases look d.wait s <;> simp, hrise⟩)
  have HSL := Lib.hid (show S.length ≤ 100000 from by have := hperm.length_eq; rw [keysL_length] at this; have := HFL.out; omega)
  have HOV := Lib.hid (over_settled HOK.out H8.out HWT.out)
  clear hb2 hst2 hperm hrise
  go_wp2
  go_loopw [0, 14] (fun o i wr => ∃ (k : Nat) (B : Option Addr) (cb : Nat), k ≤ S.length ∧ i = .int .i64 (k : Int) ∧ o = .slice B (layOf (freshIt d) (S.take k) (overIts d)).length cb ∧ Hid (Below w.heap.size w wr ∧ Below w2.heap.size w2 wr ∧ Itms wr B (layOf (freshIt d) (S.take k) (overIts d)) ∧ (layOf (freshIt d) (S.take k) (overIts d)).length ≤ cb ∧ ((B = A ∧ layOf (freshIt d) (S.take k) (overIts d) = overIts d) ∨ ∀ a, B = some a → 0 < (layOf (freshIt d) (S.take k) (overIts d)).length → w.heap.size ≤ a.block))) (fun _ i _ => S.length - (intOf i).toNat)
  case atStart => exact ⟨0, A, c, by omega, rfl, rfl, Lib.hid ⟨HB2.out, Below.refl _ _, HI.out.below HB2.out, HC.out, .inl ⟨rfl, rfl⟩⟩⟩
  case round =>
    obtain ⟨k, B, cb, hk, rfl, rfl, HU⟩ := hrel
    obtain ⟨Lk, hLk⟩ : ∃ Lk, layOf (freshIt d) (S.take k) (overIts d) = Lk := ⟨_, rfl⟩
    have HSTEP := Lib.hid (HOV.out.2 k)
    rw [hLk] at HU HSTEP ⊢
    have HLK := Lib.hid hLk
    clear hLk
    have HL60 := Lib.hid (right_length HSTEP.out.1)
    have hsl := HSL.out
    by_cases hlt : k < S.length
    · obtain ⟨s, hsk⟩ : ∃ s, S[k]? = some s := ⟨_, List.getElem?_eq_getElem hlt⟩
      have HSET := Lib.hid (HSTEP.out.2 s hsk)
      have hw := (HWT.out.mem s).1 (List.mem_of_getElem? hsk)
      obtain ⟨v, hv⟩ := Option.isSome_iff_exists.1 hw
      have HV := Lib.hid hv
      have HIT := Lib.hid (fresh_item HOK.out hv)
      have HSS := Lib.hid (show s.size ≤ 1000000 from by have := nameOk_size s (HOK.out.wn (s, v) (look_mem hv)).1; omega)
      obtain ⟨a, rfl, hal, c0⟩ := (HST.out.below HU.out.2.1) k s hsk
      have hki : (k : Int) < (S.length : Int) := by omega
      have hk0 : (0 : Int) ≤ (k : Int) := by omega
      obtain ⟨o, ho⟩ : ∃ o, openOf (settled d) s = o := ⟨_, rfl⟩
      have hlk : (Instr.lookup 154 (.map (some mf)) (.string s) false).run Tryz.prog wr = .ok (.agg #[.string o, .string v]) wr := by
        have := (HF.out.block (HU.out.1.block _ HF.out.lt)).look1 HSS.out
        rw [HFR.out s, hv, ho] at this
        exact this
      rw [ho] at HIT
      obtain ⟨x, hx⟩ : ∃ x, freshIt d s = x := ⟨_, rfl⟩
      rw [hx] at HIT HSET
      clear hx ho hw hv hsk hal
      go_wp2_with fail
      clear c0 hlk
      refine (pItem_is s o v x.1 x.2 _ (HK.out.below HU.out.1 HK.out.lt) HIT.out.1 HIT.out.2).mono ?_
      rintro e w4 ⟨rfl, hb4⟩
      have HB4 := Lib.hid (HU.out.1.trans (hb4.mono HU.out.1.size))
      have HC4 := Lib.hid (HU.out.2.1.trans (hb4.mono HU.out.2.1.size))
      have HI4 := Lib.hid (HU.out.2.2.1.below hb4)
      have HB5 := Lib.hid (HB4.out.alloc HB4.out.size (.cells #[.string x.1, .string x.2] 59))
      have HC5 := Lib.hid (HC4.out.alloc HC4.out.size (.cells #[.string x.1, .string x.2] 59))
      have HI5 := Lib.hid (HI4.out.below (alloc_below w4 (.cells #[.string x.1, .string x.2] 59)))
      clear hb4
      go_wp2_with fail
      generalize w4.alloc (.cells #[.string x.1, .string x.2] 59) = w5 at HB5 HC5 HI5 ⊢
      refine (tSet_in Lk B cb x _ 0 _ (by have := HL60.out; omega) HU.out.2.2.2.1 HI5.out HSET.out).mono ?_
      rintro e w6 ⟨A6, c6, rfl, hb6, hi6, hc6, hn6⟩
      rw [show errOf 0 = .nilIface from rfl]
      have HREL := Lib.hid (show Below w.heap.size w w6 ∧ Below w2.heap.size w2 w6 ∧ Itms w6 A6 (layOf (freshIt d) (S.take (k + 1)) (overIts d)) ∧ (layOf (freshIt d) (S.take (k + 1)) (overIts d)).length ≤ c6 ∧ ((A6 = A ∧ layOf (freshIt d) (S.take (k + 1)) (overIts d) = overIts d) ∨ ∀ a, A6 = some a → 0 < (layOf (freshIt d) (S.take (k + 1)) (overIts d)).length → w.heap.size ≤ a.block) from
        ⟨HB5.out.trans (hb6.mono HB5.out.size), HC5.out.trans (hb6.mono HC5.out.size), hi6, hc6, .inr fun a e l => Nat.le_trans HB5.out.size (hn6 a e l)⟩)
      clear hb6 hi6 hc6 hn6
      go_wp2
      go_roundw
      case rel => exact ⟨k + 1, A6, c6, by omega, by go_num, rfl, HREL⟩
      case measure => simp [intOf]; omega
    · obtain rfl : k = S.length := by omega
      have HEQ := Lib.hid (show Lk = overIts (settled d) from by rw [← HLK.out, List.take_length]; exact HOV.out.1)
      clear hlt
      go_wp2
      refine bodyPost_ret (results_tmp2 rfl _ _ _) rfl ?_
      have hu := HU.out
      rw [HEQ.out] at hu ⊢
      exact ⟨B, cb, rfl, hu.1, hu.2.2.1, hu.2.2.2.1, hu.2.2.2.2⟩
end Go.Proofs.YtgjmbokfenpefaaGreatDoor
