/- Parts of the proof, one behind the other: PProof, PItem, PSeek, PSet, PLay, RAsk. -/
import Derived.WalkKit
import Derived.Lib.Hide
import Derived.WalkLawsBesides
import Derived.Deep.QuietTactic
import Derived.Deep.WholeRow
import Derived.ArgAppend
import Derived.Laws.AppendOwnNone
import Derived.Laws.CopyRow
import Derived.Deep.RegionLaw
import Derived.Laws.BytesString
import Derived.Laws.IdiomStrings
import Derived.Test.YtgjmbokfenpefaaGreatDoorProg
import Derived.Laws.BitsAllLaws
import Derived.Outline
import Derived.BigQuiet
import Derived.Laws.CopyOwn
import Derived.RegionTactic
import Derived.StillTail
import Derived.Deep.Quiet
import Derived.Deep.RegionHeld3
import Derived.Deep.DeepCutAuto
import Derived.IntWalk
import Derived.Sort.Walk0
import Derived.Tactics
import Derived.Orders
import Derived.Laws.ResultCell
import Derived.LaidEql
import Derived.Stop.Asserts
import Derived.RowKitTokens
import Derived.Laws.StructEq
import Derived.RangeFuncNested
import Derived.RangeFuncBound
import Derived.RangeFuncCalls
import Derived.RangeFuncLeaves
import Derived.Shelf.Abstract
import Derived.Shelf.RegionOpen
import Derived.OwnWalkIn
import Derived.TacticsInMore
import Derived.LoopNIn
import Derived.LoopIn
import Derived.StringKeys
import Derived.Maps.Own
import Derived.Maps.Views
import Derived.Maps.OwnSet
import Derived.Maps.OwnOps
import Derived.Maps.RangeWalk
import Derived.Sort.KeysCollected
import Derived.OrdersHeld
import Derived.Sort.LotA
import Derived.Lib.SortBridge
import Derived.Deep.AppendSrc
import Derived.Shelf.SlSortFuncK.WholeK
import Derived.Ground.GgsProg
import Derived.Shelf.GgSortFunc.Tiny
import Derived.Shelf.Strings.Repeat
import Derived.KernelRfl
import Derived.WideKeyEntry
import Derived.Deep.CutRange
import Derived.OrdersIn
import Derived.TacticsIn
import Derived.Shelf.Small.Strs
import Derived.Shelf.SlGeneric
import Derived.Shelf.SlIter.Nil
import Derived.Shelf.SortM.Plain
import Derived.Shelf.SortM.SortNone
import Derived.Ground.GgzProg
import Derived.Ground.SlgmProg
import Derived.Test.YtgjmbokfenpefaaGreatDoorM1
import Derived.Test.YtgjmbokfenpefaaGreatDoorM2
import Derived.Test.YtgjmbokfenpefaaGreatDoorM3
import Derived.Test.YtgjmbokfenpefaaGreatDoorM4
import Derived.Test.YtgjmbokfenpefaaGreatDoorM5
import Derived.Test.YtgjmbokfenpefaaGreatDoorM6
import Derived.Test.YtgjmbokfenpefaaGreatDoorM7
import Derived.Test.YtgjmbokfenpefaaGreatDoorM8
import Derived.Test.YtgjmbokfenpefaaGreatDoorM9
import Derived.Test.YtgjmbokfenpefaaGreatDoorM10
import Derived.Test.YtgjmbokfenpefaaGreatDoorM12
import Derived.Test.YtgjmbokfenpefaaGreatDoorM13
import Derived.Test.YtgjmbokfenpefaaGreatDoorM17
import Derived.Test.YtgjmbokfenpefaaGreatDoorM18
import Derived.Test.YtgjmbokfenpefaaGreatDoorM19
import Derived.Test.YtgjmbokfenpefaaGreatDoorM20
import Derived.Test.YtgjmbokfenpefaaGreatDoorM21
import Derived.Test.YtgjmbokfenpefaaGreatDoorM22
import Derived.Test.YtgjmbokfenpefaaGreatDoorM23
/- The program's Commit, and all four of its answers, as the document's. -/
namespace Go.Proofs.YtgjmbokfenpefaaGreatDoor
open Go.RowKit

set_option maxRecDepth 100000 in
theorem pCommit_is (o v c : ByteArray) (n : Int) (w : World) (hk : HasK w) (h : commitAns o v = (c, n)) :
    Calls Tryz.prog 161 #[.string o, .string v] w fun e w' => e = .returned (.tuple #[.string c, errOf n]) ∧ Below w.heap.size w w' := by
  have HK := Lib.hid hk
  have HBW := Lib.hid (alloc_below w (.cells #[.string o] 9))
  have HS1 := Lib.hid (show Strs (w.alloc (.cells #[.string o] 9)) (some ⟨w.heap.size, 0, none⟩) [o] from strs_new w [o] 9)
  clear hk
  unfold commitAns at h
  by_cases h16 : o.size = 16
  · have H16D := Lib.hid (decide_eq_true h16)
    by_cases hv0 : v.size = 0
    · rw [if_neg (by omega)] at h
      obtain ⟨rfl, rfl⟩ := Prod.mk.inj h
      have hv1 : (v.size : Int) < 1 := by omega
      clear h h16 hv0
      go_enter Tryz.func161, Tryz.ntmps161
      go_wp2_with fail
      refine (pAreOne_any o _ _ HS1.out).mono ?_
      rintro e w1 ⟨rfl, rfl⟩
      rw [H16D.out]
      go_wp2
      refine bodyPost_ret (results_tmp2 rfl _ _ _) rfl ?_
      exact ⟨rfl, HBW.out⟩
    · have hv1 : ¬ (v.size : Int) < 1 := by omega
      by_cases hv : 24 < v.size
      · rw [if_neg (by omega)] at h
        obtain ⟨rfl, rfl⟩ := Prod.mk.inj h
        have hv2 : (24 : Int) < (v.size : Int) := by omega
        clear h h16 hv0
        go_enter Tryz.func161, Tryz.ntmps161
        go_wp2_with fail
        refine (pAreOne_any o _ _ HS1.out).mono ?_
        rintro e w1 ⟨rfl, rfl⟩
        rw [H16D.out]
        go_wp2
        refine bodyPost_ret (results_tmp2 rfl _ _ _) rfl ?_
        exact ⟨rfl, HBW.out⟩
      · rw [if_pos ⟨h16, by omega, by omega⟩] at h
        obtain ⟨rfl, rfl⟩ := Prod.mk.inj h
        have HTOT := Lib.hid (show total [o, v] ≤ 1073741800 by simp [total]; omega)
        have hv2 : ¬ (24 : Int) < (v.size : Int) := by omega
        clear h h16 hv0 hv
        go_enter Tryz.func161, Tryz.ntmps161
        go_wp2_with fail
        refine (pAreOne_any o _ _ HS1.out).mono ?_
        rintro e w1 ⟨rfl, rfl⟩
        rw [H16D.out]
        generalize w.alloc (.cells #[.string o] 9) = w1 at HBW
        go_wp2_with fail
        refine (mark_any 99 [o, v] (some ⟨w1.heap.size, 0, none⟩) 2 _ ((HK.out.below HBW.out HK.out.lt).alloc _) HTOT.out (by simp) (strs_new w1 [o, v] 9)).mono ?_
        rintro e w2 ⟨rfl, hb2⟩
        have HB2 := Lib.hid ((HBW.out.alloc HBW.out.size (.cells #[.string o, .string v] 9)).trans (hb2.mono (by have := HBW.out.size; simp; omega)))
        clear hb2
        go_wp2
        refine bodyPost_ret (results_tmp2 rfl _ _ _) rfl ?_
        exact ⟨rfl, HB2.out⟩
  · rw [if_neg (fun e => h16 e.1)] at h
    obtain ⟨rfl, rfl⟩ := Prod.mk.inj h
    have H16D := Lib.hid (decide_eq_false h16)
    clear h h16
    go_enter Tryz.func161, Tryz.ntmps161
    go_wp2_with fail
    refine (pAreOne_any o _ _ HS1.out).mono ?_
    rintro e w1 ⟨rfl, rfl⟩
    rw [H16D.out]
    go_wp2
    refine bodyPost_ret (results_tmp2 rfl _ _ _) rfl ?_
    exact ⟨rfl, HBW.out⟩

end Go.Proofs.YtgjmbokfenpefaaGreatDoor
/- The program's directory: what lies where a name does. -/
namespace Go.Proofs.YtgjmbokfenpefaaGreatDoor
open Go.RowKit Go.Maps

def twoF (a b : ByteArray) : Nat → Value := fun i => if i = 0 then .string a else .string b
theorem infoIt2 : (Tryz.prog.info? 59).map (·.size) = some 2 := by kernel_rfl
set_option maxRecDepth 100000 in
theorem pItem_is (name o v ix c : ByteArray) (w : World) (hk : HasK w) (h1 : ofAns name = (ix, 0)) (h2 : commitAns o v = (c, 0)) :
    Calls Tryz.prog 150 #[.string name, .agg #[.string o, .string v]] w fun e w' => e = .returned (.tuple #[.agg #[.string ix, .string c], .nilIface]) ∧ Below w.heap.size w w' := by
  have H1 := Lib.hid h1
  have H2 := Lib.hid h2
  have HB0 := Lib.hid (show Below w.heap.size w ((w.alloc (.cells #[.string o, .string v] 211)).alloc (.cells #[.string ⟨#[]⟩, .string ⟨#[]⟩] 59)) from (alloc_below w _).alloc (by simp) _)
  have HX0 := Lib.hid (show Holds ((w.alloc (.cells #[.string o, .string v] 211)).alloc (.cells #[.string ⟨#[]⟩, .string ⟨#[]⟩] 59)) w.heap.size 2 (twoF o v) 211 from (Holds.new w 2 (twoF o v) 211).alloc _)
  have HZ0 := Lib.hid (show Holds ((w.alloc (.cells #[.string o, .string v] 211)).alloc (.cells #[.string ⟨#[]⟩, .string ⟨#[]⟩] 59)) (w.heap.size + 1) 2 (twoF ⟨#[]⟩ ⟨#[]⟩) 59 from by
    have := Holds.new (w.alloc (.cells #[.string o, .string v] 211)) 2 (twoF ⟨#[]⟩ ⟨#[]⟩) 59
    rwa [World.size_alloc] at this)
  have HK0 := Lib.hid (hk.below HB0.out hk.lt)
  clear h1 h2 hk
  go_enter Tryz.func150, Tryz.ntmps150
  go_wp2_with fail
  generalize (w.alloc (.cells #[.string o, .string v] 211)).alloc (.cells #[.string ⟨#[]⟩, .string ⟨#[]⟩] 59) = w0 at HB0 HX0 HZ0 HK0 ⊢
  refine (of_is name ix 0 _ HK0.out H1.out).mono ?_
  rintro e w1 ⟨rfl, hb1⟩
  rw [show errOf 0 = .nilIface from rfl]
  have HB1 := Lib.hid (HB0.out.trans (hb1.mono HB0.out.size))
  have HX1 := Lib.hid (HX0.out.below hb1 HX0.out.lt)
  have HZ1 := Lib.hid (HZ0.out.below hb1 HZ0.out.lt)
  have HK1 := Lib.hid (HK0.out.below hb1 HK0.out.lt)
  clear hb1 HB0 HX0 HZ0 HK0
  have x0 : w1.cell? ⟨w.heap.size, 0, none⟩ = some (.string o) := HX1.out.cell 0 (by omega)
  have x1 : w1.cell? ⟨w.heap.size, 1, none⟩ = some (.string v) := HX1.out.cell 1 (by omega)
  go_wp2_with fail
  clear x0 x1
  refine (pCommit_is o v c 0 _ HK1.out H2.out).mono ?_
  rintro e w2 ⟨rfl, hb2⟩
  rw [show errOf 0 = .nilIface from rfl]
  have HB2 := Lib.hid (HB1.out.trans (hb2.mono HB1.out.size))
  have HZ2 := Lib.hid (HZ1.out.below hb2 HZ1.out.lt)
  clear hb2 HX1 HZ1 HK1
  have z0 : w2.cell? ⟨w.heap.size + 1, 0, none⟩ = some (.string ⟨#[]⟩) := HZ2.out.cell 0 (by omega)
  have z1 : w2.cell? ⟨w.heap.size + 1, 1, none⟩ = some (.string ⟨#[]⟩) := HZ2.out.cell 1 (by omega)
  have f0 : w2.frozen? ⟨w.heap.size + 1, 0, none⟩ = false := HZ2.out.free 0
  have f1 : w2.frozen? ⟨w.heap.size + 1, 1, none⟩ = false := HZ2.out.free 1
  have HFIN := Lib.hid (show Holds ((w2.setCell ⟨w.heap.size + 1, 0, none⟩ (.string ix)).setCell ⟨w.heap.size + 1, 1, none⟩ (.string c)) (w.heap.size + 1) 2 (twoF ix c) 59 from
    ((HZ2.out.set 0 _).set 1 _).congr fun i hi => by
      unfold upd twoF
      rcases (show i = 0 ∨ i = 1 by omega) with rfl | rfl <;> rfl)
  have HFB := Lib.hid ((HB2.out.setCell (p := ⟨w.heap.size + 1, 0, none⟩) (Nat.le_succ _) (.string ix)).setCell (p := ⟨w.heap.size + 1, 1, none⟩) (Nat.le_succ _) (.string c))
  go_wp2
  refine bodyPost_ret (results_row2 rfl _ _ (w.heap.size + 1) 59 (arr 2 (twoF ix c)) (0, 0) _ rfl HFIN.out Tryz.underlying59 rfl (by rw [arr_size]; exact infoIt2)) rfl ?_
  exact ⟨rfl, HFB.out⟩
end Go.Proofs.YtgjmbokfenpefaaGreatDoor
/- Where an index lies, or would: the library's binary search over the program's comparison. -/
namespace Go.Proofs.YtgjmbokfenpefaaGreatDoor
open Go.RowKit

theorem cmp_lt : ∀ a b : List UInt8, Lib.compareBytes a b < 0 ↔ a < b
  | [], [] => by simp [Lib.compareBytes]
  | [], _ :: _ => by simp [Lib.compareBytes]
  | _ :: _, [] => by simp [Lib.compareBytes]
  | a :: r, b :: s => by
    rw [List.cons_lt_cons_iff, ← cmp_lt r s]
    rw [show Lib.compareBytes (a :: r) (b :: s) = if a < b then -1 else if b < a then 1 else Lib.compareBytes r s from by rw [Lib.compareBytes]]
    by_cases h1 : a < b
    · rw [if_pos h1]; simp [h1]
    · rw [if_neg h1]
      by_cases h2 : b < a
      · rw [if_pos h2]
        have : a ≠ b := fun e => by subst e; exact h1 h2
        simp [h1, this]
      · rw [if_neg h2]
        have e : a = b := by
          apply UInt8.toNat_inj.1
          rw [UInt8.lt_iff_toNat_lt] at h1 h2
          omega
        simp [e]
theorem cmp_eq0 : ∀ a b : List UInt8, Lib.compareBytes a b = 0 ↔ a = b
  | [], [] => by simp [Lib.compareBytes]
  | [], _ :: _ => by simp [Lib.compareBytes]
  | _ :: _, [] => by simp [Lib.compareBytes]
  | a :: r, b :: s => by
    rw [List.cons.injEq, ← cmp_eq0 r s]
    rw [show Lib.compareBytes (a :: r) (b :: s) = if a < b then -1 else if b < a then 1 else Lib.compareBytes r s from by rw [Lib.compareBytes]]
    by_cases h1 : a < b
    · rw [if_pos h1]
      have : a ≠ b := fun e => by subst e; exact absurd h1 (by simp)
      simp [this]
    · rw [if_neg h1]
      by_cases h2 : b < a
      · rw [if_pos h2]
        have : a ≠ b := fun e => by subst e; exact h1 h2
        simp [this]
      · rw [if_neg h2]
        have e : a = b := by
          apply UInt8.toNat_inj.1
          rw [UInt8.lt_iff_toNat_lt] at h1 h2
          omega
        simp [e]
set_option maxRecDepth 100000 in
theorem compareString_any (a b : ByteArray) (w : World) :
    Calls Tryz.prog 241 #[.string a, .string b] w fun e w' => e = .returned (.int .i64 (Lib.compareBytes a.data.toList b.data.toList)) ∧ w' = w := by
  go_enter Tryz.func241, Tryz.ntmps241
  go_wp2
  rw [run_callFunc_extern Tryz.func254 (by kernel_rfl) (by kernel_rfl) (by kernel_rfl) (e := Extern.BytealgCompare.compare) (by kernel_rfl), Lib.run_compareString]
  simp only [Result.andThen]
  rw [Oper.upon_value]
  go_wp2
  go_ret
  exact ⟨rfl, rfl⟩
theorem compare_any (a b : ByteArray) (w : World) :
    Calls Tryz.prog 205 #[.string a, .string b] w fun e w' => e = .returned (.int .i64 (Lib.compareBytes a.data.toList b.data.toList)) ∧ w' = w := by
  go_enter Tryz.func205, Tryz.ntmps205
  go_wp2_with fail
  refine (compareString_any a b _).mono ?_
  rintro e w1 ⟨rfl, rfl⟩
  go_wp2
  go_ret
  exact ⟨rfl, rfl⟩
theorem tSet1_any (y : It) (ix : ByteArray) (w : World) :
    Calls Tryz.prog 204 #[.agg #[.string y.1, .string y.2], .string ix] w fun e w' => e = .returned (.int .i64 (Lib.compareBytes y.1.data.toList ix.data.toList)) ∧ Below w.heap.size w w' := by
  have HB0 := Lib.hid (alloc_below w (.cells #[.string y.1, .string y.2] 59))
  have hc0 : (w.alloc (.cells #[.string y.1, .string y.2] 59)).cell? ⟨w.heap.size, 0, none⟩ = some (.string y.1) := cell_of_row _ w.heap.size 0 _ 59 (0, 0) (heap_alloc_new _ _)
  go_enter Tryz.func204, Tryz.ntmps204
  go_wp2_with fail
  refine (compare_any y.1 ix _).mono ?_
  rintro e w1 ⟨rfl, rfl⟩
  clear hc0
  go_wp2
  go_ret
  exact ⟨rfl, HB0.out⟩
set_option maxRecDepth 100000 in
theorem tSeek_any (L : List It) (A : Option Addr) (cap : Nat) (x : It) (w : World) (hl : L.length ≤ 1000000) (hm : Itms w A L) (hs : L.Pairwise ltI) :
    Calls Tryz.prog 203 #[.slice A L.length cap, .string x.1, .func (.func 204) #[] #[]] w fun e w' => Below w.heap.size w w' ∧ ∃ s : Spot, s.Of L x ∧ e = .returned (.tuple #[.int .i64 (s.p : Int), .bool s.b]) := by
  have HM := Lib.hid hm
  have HS := Lib.hid hs
  clear hm hs
  go_enter Tryz.func203, Tryz.ntmps203
  go_wp2
  go_loopw [9, 10] (fun i j wr => ∃ p q : Nat, p ≤ q ∧ q ≤ L.length ∧ i = .int .i64 (p : Int) ∧ j = .int .i64 (q : Int) ∧ (∀ m, m < p → m < L.length → ltI (itAt L m) x) ∧ (∀ m, q ≤ m → m < L.length → ¬ ltI (itAt L m) x) ∧ Below w.heap.size w wr) (fun i j _ => (intOf j).toNat - (intOf i).toNat)
  case atStart => exact ⟨0, L.length, by omega, by omega, rfl, rfl, fun m hm => by omega, fun m h1 h2 => by omega, Below.refl _ _⟩
  case round =>
    obtain ⟨p, q, hpq, hq, rfl, rfl, h0, h1, hb⟩ := hrel
    have H0 := Lib.hid h0
    have H1 := Lib.hid h1
    have HB := Lib.hid hb
    clear h0 h1 hb
    by_cases hlt : p < q
    · obtain ⟨h, hh⟩ : ∃ h, (p + q) / 2 = h := ⟨_, rfl⟩
      have hph : p ≤ h := by omega
      have hhq : h < q := by omega
      have hhl : h < L.length := by omega
      have HV : ((p : Int) + (q : Int)) / 2 = (h : Int) := by omega
      have hv2 : (h : Int) < (L.length : Int) := by omega
      have hmk := Itms.below HM.out HB.out
      obtain ⟨a, rfl, hal, c0, c1⟩ := hmk.at_ hhl
      have d2 : wr.cell? ⟨(a.add (h * 2)).block, (a.add (h * 2)).off + 1, none⟩ = some (.string (itAt L h).2) := c1
      clear hmk hh c1 hal
      generalize hy : itAt L h = y at c0 d2
      have HY := Lib.hid hy
      clear hy
      go_wp2_with fail
      refine (tSet1_any y x.1 _).mono ?_
      rintro e w1 ⟨rfl, hb1⟩
      have HB1 := Lib.hid (HB.out.trans (hb1.mono HB.out.size))
      clear hb1 c0 d2 HV
      by_cases hc : ltI y x
      · have hneg : Lib.compareBytes y.1.data.toList x.1.data.toList < 0 := (cmp_lt _ _).2 hc
        have HH := Lib.hid (show ∀ m, m < h + 1 → m < L.length → ltI (itAt L m) x from fun m h1 _ => by
          rcases (show m = h ∨ m < h by omega) with rfl | h2
          · rw [HY.out]; exact hc
          · exact ltI_trans (itAt_rise HS.out h2 hhl) (by rw [HY.out]; exact hc))
        clear hc
        generalize Lib.compareBytes y.1.data.toList x.1.data.toList = c at hneg
        go_wp2
        go_roundw
        case rel => exact ⟨h + 1, q, by omega, hq, by go_num, rfl, HH.out, H1.out, HB1.out⟩
        case measure => simp [intOf]; omega
      · have hneg : ¬ Lib.compareBytes y.1.data.toList x.1.data.toList < 0 := fun e => hc ((cmp_lt _ _).1 e)
        have HH := Lib.hid (show ∀ m, h ≤ m → m < L.length → ¬ ltI (itAt L m) x from fun m h1 h3 h4 => by
          rcases (show m = h ∨ h < m by omega) with rfl | h2
          · rw [HY.out] at h4; exact hc h4
          · have := ltI_trans (itAt_rise HS.out h2 h3) h4
            rw [HY.out] at this; exact hc this)
        clear hc
        generalize Lib.compareBytes y.1.data.toList x.1.data.toList = c at hneg
        go_wp2
        go_roundw
        case rel => exact ⟨p, h, hph, by omega, rfl, rfl, H0.out, HH.out, HB1.out⟩
        case measure => simp [intOf]; omega
    · have hpq' : p = q := by omega
      subst hpq'
      clear hlt hpq
      by_cases hpl : p < L.length
      · have hv2 : (p : Int) < (L.length : Int) := by omega
        have hmk := Itms.below HM.out HB.out
        obtain ⟨a, rfl, hal, c0, c1⟩ := hmk.at_ hpl
        have d2 : wr.cell? ⟨(a.add (p * 2)).block, (a.add (p * 2)).off + 1, none⟩ = some (.string (itAt L p).2) := c1
        clear hmk c1 hal
        generalize hy : itAt L p = y at c0 d2
        have HY := Lib.hid hy
        clear hy
        go_wp2_with fail
        refine (tSet1_any y x.1 _).mono ?_
        rintro e w1 ⟨rfl, hb1⟩
        have HB1 := Lib.hid (HB.out.trans (hb1.mono HB.out.size))
        clear hb1 c0 d2
        by_cases he : y.1 = x.1
        · have hz : Lib.compareBytes y.1.data.toList x.1.data.toList = 0 := (cmp_eq0 _ _).2 (by rw [he])
          rw [hz]
          have HE := Lib.hid he
          clear he hz
          go_wp2
          refine bodyPost_ret (results_tmp2 rfl _ _ _) rfl ?_
          exact ⟨HB1.out, ⟨p, true⟩, ⟨hq, H0.out, fun _ => ⟨hpl, by rw [HY.out]; exact HE.out⟩, fun h => by cases h⟩, rfl⟩
        · have hz : (Lib.compareBytes y.1.data.toList x.1.data.toList == 0) = false := by
            rw [beq_eq_false_iff_ne]
            intro e
            exact he (text_of ((cmp_eq0 _ _).1 e))
          have HE := Lib.hid (show ∀ i, p ≤ i → i < L.length → ltI x (itAt L i) from fun i h1 h2 => by
            have h3 := H1.out p (Nat.le_refl p) hpl
            rw [HY.out] at h3
            have h4 : ltI x y := ltI_total h3 he
            rcases (show i = p ∨ p < i by omega) with rfl | h5
            · rw [HY.out]; exact h4
            · exact ltI_trans h4 (by have := itAt_rise HS.out h5 h2; rwa [HY.out] at this))
          clear he
          generalize Lib.compareBytes y.1.data.toList x.1.data.toList = c at hz
          go_wp2
          refine bodyPost_ret (results_tmp2 rfl _ _ _) rfl ?_
          exact ⟨HB1.out, ⟨p, false⟩, ⟨hq, H0.out, (fun h => by cases h), fun _ => HE.out⟩, rfl⟩
      · have hv2 : ¬ (p : Int) < (L.length : Int) := by omega
        go_wp2
        refine bodyPost_ret (results_tmp2 rfl _ _ _) rfl ?_
        exact ⟨HB.out, ⟨p, false⟩, ⟨hq, H0.out, (fun h => by cases h), fun _ i h1 h2 => by have : p ≤ i := h1; omega⟩, rfl⟩
end Go.Proofs.YtgjmbokfenpefaaGreatDoor
/- The program's Set. -/
namespace Go.Proofs.YtgjmbokfenpefaaGreatDoor
open Go.RowKit

theorem row_one {w : World} {base p : Nat} {v : Value} {L : List It} {x : It} (h : Row w base 2 v (L.take p ++ [x]).length (itCells (L.take p ++ [x]))) (hp : p ≤ L.length) :
    ∃ g c, v = .slice (some ⟨g, 0, none⟩) (p + 1) c ∧ Hid (Row w base 2 (.slice (some ⟨g, 0, none⟩) (p + 1) c) (p + 1) (itCells (L.take p ++ [x]))) := by
  have e : (L.take p ++ [x]).length = p + 1 := by simp; omega
  rw [e] at h
  obtain ⟨g, c, rfl, _⟩ := h.shape (by omega)
  exact ⟨g, c, rfl, Lib.hid h⟩
theorem Row.newer {w : World} {base size n c : Nat} {p : Option Addr} {xs : List Value} (h : Row w base size (.slice p n c) n xs) : ∀ a, p = some a → 0 < n → base ≤ a.block := fun a e hl => by
  obtain ⟨g, c', hv, hb, _⟩ := h.shape hl
  injection hv with e1 _ _
  rw [e] at e1
  injection e1 with e1
  rw [e1]; exact hb
set_option maxRecDepth 100000 in
theorem tSet_in (L : List It) (A : Option Addr) (cap : Nat) (x : It) (T : List It) (n : Int) (w : World) (hl : L.length ≤ 1000000) (hc : L.length ≤ cap) (hm : Itms w A L) (h : setOf L x = (T, n)) :
    Calls Tryz.prog 151 #[.slice A L.length cap, .agg #[.string x.1, .string x.2]] w fun e w' => ∃ A' c', e = .returned (.tuple #[.slice A' T.length c', errOf n]) ∧ Below w.heap.size w w' ∧ Itms w' A' T ∧ T.length ≤ c' ∧ ∀ a, A' = some a → 0 < T.length → w.heap.size ≤ a.block := by
  have HM := Lib.hid hm
  have HCAP := Lib.hid hc
  clear hm hc
  unfold setOf at h
  have hb0 := alloc_below w (.cells #[.string x.1, .string x.2] 59)
  have HB0 := Lib.hid hb0
  have HX0 := Lib.hid (show Holds (w.alloc (.cells #[.string x.1, .string x.2] 59)) w.heap.size 2 (fun i => if i = 0 then .string x.1 else .string x.2) 59 from Holds.new w 2 (fun i => if i = 0 then .string x.1 else .string x.2) 59)
  clear hb0
  by_cases hk : rightItems L = true
  · have HK := Lib.hid hk
    by_cases hx : rightItems [x] = true
    · rw [if_pos ⟨hk, hx⟩] at h
      have HXR := Lib.hid hx
      have HRISE := Lib.hid (right_sorted hk)
      have hl60 := right_length hk
      clear hk hx
      have HSET := Lib.hid h
      clear h
      go_enter Tryz.func151, Tryz.ntmps151
      go_wp2_with fail
      refine (tRight_any L A cap _ hl (HM.out.below HB0.out)).mono ?_
      rintro e w1 ⟨rfl, hb1⟩
      rw [HK.out]
      have HB1 := Lib.hid (HB0.out.trans (hb1.mono HB0.out.size))
      have HX1 := Lib.hid (HX0.out.below hb1 HX0.out.lt)
      clear hb1
      have x0 : w1.cell? ⟨w.heap.size, 0, none⟩ = some (.string x.1) := HX1.out.cell 0 (by omega)
      have x1 : w1.cell? ⟨w.heap.size, 1, none⟩ = some (.string x.2) := HX1.out.cell 1 (by omega)
      go_wp2_with fail
      clear x0 x1
      refine (tRight_any [x] (some ⟨w1.heap.size, 0, none⟩) 1 _ (by simp) (one_item x w1 59)).mono ?_
      rintro e w2 ⟨rfl, hb2⟩
      rw [HXR.out]
      have HB2 := Lib.hid (HB1.out.trans ((alloc_below w1 (.cells #[.string x.1, .string x.2] 59)).mono HB1.out.size |>.trans (hb2.mono (Nat.le_trans HB1.out.size (by simp)))))
      have HX2 := Lib.hid ((HX1.out.alloc (.cells #[.string x.1, .string x.2] 59)).below hb2 (by have := HX1.out.lt; simp; omega))
      clear hb2
      have x0 : w2.cell? ⟨w.heap.size, 0, none⟩ = some (.string x.1) := HX2.out.cell 0 (by omega)
      have x1 : w2.cell? ⟨w.heap.size, 1, none⟩ = some (.string x.2) := HX2.out.cell 1 (by omega)
      go_wp2_with fail
      clear x0 x1
      refine (tSeek_any L A cap x _ hl (HM.out.below HB2.out) HRISE.out).mono ?_
      rintro e w3 ⟨hb3, ⟨p, b⟩, hof, rfl⟩
      have HB3 := Lib.hid (HB2.out.trans (hb3.mono HB2.out.size))
      have HX3 := Lib.hid (HX2.out.below hb3 HX2.out.lt)
      have HOF := Lib.hid hof
      have hpl : p ≤ L.length := hof.le
      clear hb3 hof
      cases b with
      | true =>
        obtain ⟨hpn, hpe⟩ := HOF.out.there rfl
        have hpn' : p < L.length := hpn
        obtain ⟨hol, hins⟩ := set_there HRISE.out hpn hpe
        have HINS := Lib.hid (show T = L.take p ++ x :: L.drop (p + 1) ∧ n = 0 by
          have h := HSET.out
          rw [if_neg (by omega)] at h
          cases h
          exact ⟨hins.symm, rfl⟩)
        clear hol hins HSET hpe hpn
        have hto := it_to A L.length cap p (by have := HCAP.out; omega)
        have hf1 := it_from A L.length cap p hpl
        have hdr := fun u (hu : Itms u A L) => hu.drop (r := p) HCAP.out
        have hpc : (L.drop p).length ≤ cap - p := by rw [List.length_drop]; have := HCAP.out; omega
        generalize partAt A cap p = B at hf1 hdr
        obtain ⟨s, hse⟩ : ∃ s, L.length - p = s := ⟨_, rfl⟩
        obtain ⟨c2, hc2⟩ : ∃ c2, cap - p = c2 := ⟨_, rfl⟩
        rw [hse, hc2] at hf1
        rw [hc2] at hpc
        have hf2 : ∀ u : World, (Instr.sliceAt 155 (.slice B s c2) (some (.int .i64 1)) none none).run Tryz.prog u = .ok (.slice (partAt B c2 1) (s - 1) (c2 - 1)) u := fun u => it_from B s c2 1 (by omega) u
        have HDR := Lib.hid (show ∀ u, Itms u A L → Itms u (partAt B c2 1) (L.drop (p + 1)) from fun u hu => by
          have := (hdr u hu).drop (r := 1) hpc
          rwa [List.drop_drop] at this)
        have HDL := Lib.hid (show (L.drop (p + 1)).length = s - 1 by rw [List.length_drop]; omega)
        have hsl : s - 1 ≤ 60 := by omega
        clear hdr hpc hse hc2
        generalize partAt B c2 1 = D at hf2 HDR
        generalize s - 1 = s2 at hf2 HDL hsl
        generalize c2 - 1 = c3 at hf2
        obtain ⟨i0, hi0, hz0, hz1, hz2⟩ := info_parts infoItem
        have HI0 := Lib.hid hi0
        clear hi0
        have hl60i : (L.length : Int) ≤ 60 := by omega
        have HBX := Lib.hid HX3.out.lt
        go_wp2_with (first
          | (at_make; refine wpList_make_own _ rfl (.const (.int .i64 0)) (.tmp 39) 155 rfl (w.heap.size + 1) 59 i0 (.agg #[.string ⟨#[]⟩, .string ⟨#[]⟩]) 2 Tryz.underlying155 HI0.out hz0 hz1 .i64 .i64 ((L.length : Int) + 1) (L.length + 1) rfl rfl (by omega) (by rw [hz2]; omega) (by unfold maxLen; omega) HBX.out ?_; intro w4 hown4 hg4; have R4 := Lib.hid (Row.of_owns hown4); have HX4 := Lib.hid (grownBy.holds hg4 HX3.out (fun h => by cases h)); have HB4 := Lib.hid (HB3.out.trans (grownBy.below hg4 HB3.out.size (fun k h => by cases h))); clear hown4 hg4)
          | (at_builtin; refine wpList_append_items rfl (.tmp 41) (.tmp 44) 155 rfl 59 Tryz.underlying155 i0 _ HI0.out hz0 hz1 hz2 rfl (w.heap.size + 1) 0 [] rfl _ _ rfl R4.out HX4.out.lt (by omega) (L.take p) p (by rw [List.length_take]; omega) A cap rfl ((HM.out.below HB4.out).take p) (by omega) ?_; intro v5 w5 hr5 hg5; obtain ⟨p5, c5, rfl⟩ := hr5.out.any; have R5 := Lib.hid (show Row w5 (w.heap.size + 1) 2 (.slice p5 p c5) (L.take p).length (itCells (L.take p)) by have := hr5.out; rw [List.nil_append, Nat.zero_add] at this; rw [List.length_take, Nat.min_eq_left hpl]; exact this); have HX5 := Lib.hid (grownBy.holds hg5.out HX4.out (R4.out.fresh (Nat.lt_succ_self _))); have HB5 := Lib.hid (grown_below HB4.out R4.out hg5.out (Nat.le_succ _) HB4.out.size); clear hr5 hg5; have x50 : w5.cell? ⟨w.heap.size, 0, none⟩ = some (.string x.1) := HX5.out.cell 0 (by omega); have x51 : w5.cell? ⟨w.heap.size, 1, none⟩ = some (.string x.2) := HX5.out.cell 1 (by omega))
          | (at_builtin; refine wpList_append_item rfl (.tmp 46) (.tmp 48) 155 rfl 59 Tryz.underlying155 _ 32 infoItem rfl (by decide) (w.heap.size + 1) (.slice p5 p c5) (L.take p) rfl (R5.out.alloc _) (by have := HX5.out.lt; simp; omega) (by have := List.length_take_le p L; omega) x w5.heap.size rfl 59 (heap_alloc_new _ _) ?_; intro v6 w6 hr6 hg6 _; obtain ⟨g6, c6, r6, R6⟩ := row_one hr6.out hpl; subst r6; have HZ6 := Lib.hid (show w.heap.size + 1 ≤ w6.heap.size from Nat.le_trans (Nat.le_trans (show w.heap.size + 1 ≤ w5.heap.size from HX5.out.lt) (by simp)) hg6.out.size); have HB6 := Lib.hid (grown_below (HB5.out.alloc HB5.out.size _) (R5.out.alloc _) hg6.out (Nat.le_succ _) (by have := HB5.out.size; simp; omega)); clear hr6 hg6 x50 x51)
          | (at_builtin; refine wpList_append_items rfl (.tmp 50) (.tmp 51) 155 rfl 59 Tryz.underlying155 i0 _ HI0.out hz0 hz1 hz2 rfl (w.heap.size + 1) (p + 1) (L.take p ++ [x]) (by simp; omega) _ _ rfl R6.out HZ6.out (by omega) (L.drop (p + 1)) s2 HDL.out D c3 rfl (HDR.out _ (HM.out.below HB6.out)) (by omega) ?_; intro v7 w7 hr7 hg7; obtain ⟨p7, c7, rfl⟩ := hr7.out.any; have HB7 := Lib.hid (grown_below HB6.out R6.out hg7.out (Nat.le_succ _) HB6.out.size); clear hg7))
        refine bodyPost_ret (results_tmp2 rfl _ _ _) rfl ?_
        obtain ⟨hT, rfl⟩ := HINS.out
        have hT2 : L.take p ++ [x] ++ L.drop (p + 1) = T := by rw [hT]; simp
        have r7 := hr7.out
        rw [hT2] at r7
        obtain ⟨ht, A', c', hv, hit⟩ := r7.itms
        have hcap := r7.cap
        have hnew := r7.newer
        injection hv with e1 _ e3
        subst e1 e3
        refine ⟨p7, c7, ?_, HB7.out, hit, ?_, ?_⟩
        · rw [← ht]; rfl
        · rw [← ht]; exact hcap
        · rw [← ht]; exact fun a e l => Nat.le_of_succ_le (hnew a e l)
      | false =>
        have hnew := set_new HRISE.out HOF.out.low (HOF.out.high rfl)
        obtain ⟨hol, hins⟩ := hnew
        have hol' : (others L x).length = L.length := by rw [hol]
        by_cases h60 : L.length = 60
        · have HINS := Lib.hid (show T = [] ∧ n = 12 by
            have h := HSET.out
            rw [if_pos ⟨hol', by omega⟩] at h
            cases h
            exact ⟨rfl, rfl⟩)
          have h60i : ((L.length : Int) == 60) = true := by rw [beq_iff_eq]; omega
          clear hol hol' hins HSET
          have hf1 := it_from A L.length cap p hpl
          obtain ⟨B, hBe⟩ : ∃ B, partAt A cap p = B := ⟨_, rfl⟩
          rw [hBe] at hf1
          clear h60 hBe
          generalize L.length - p = s at hf1
          generalize cap - p = c2 at hf1
          go_wp2
          refine bodyPost_ret (results_tmp2 rfl _ _ _) rfl ?_
          obtain ⟨rfl, rfl⟩ := HINS.out
          exact ⟨none, 0, rfl, HB3.out, Itms.nil _ _, Nat.le_refl 0, fun a e => by cases e⟩
        · have HINS := Lib.hid (show T = L.take p ++ x :: L.drop p ∧ n = 0 by
            have h := HSET.out
            rw [if_neg (by omega)] at h
            cases h
            exact ⟨hins.symm, rfl⟩)
          have h60i : ((L.length : Int) == 60) = false := by rw [beq_eq_false_iff_ne]; omega
          clear hol hol' hins HSET
          have hto := it_to A L.length cap p (by have := HCAP.out; omega)
          have hf1 := it_from A L.length cap p hpl
          have hdr := fun u (hu : Itms u A L) => hu.drop (r := p) HCAP.out
          have hdl : (L.drop p).length = L.length - p := List.length_drop
          obtain ⟨B, hBe⟩ : ∃ B, partAt A cap p = B := ⟨_, rfl⟩
          rw [hBe] at hf1 hdr
          have hsl : L.length - p ≤ 60 := by omega
          have HDR := Lib.hid hdr
          have HDL := Lib.hid hdl
          clear hdr hdl hBe h60
          generalize L.length - p = s at hf1 HDL hsl
          generalize cap - p = c2 at hf1
          obtain ⟨i0, hi0, hz0, hz1, hz2⟩ := info_parts infoItem
          have HI0 := Lib.hid hi0
          clear hi0
          have hl60i : (L.length : Int) ≤ 60 := by omega
          have HBX := Lib.hid HX3.out.lt
          go_wp2_with (first
            | (at_make; refine wpList_make_own _ rfl (.const (.int .i64 0)) (.tmp 39) 155 rfl (w.heap.size + 1) 59 i0 (.agg #[.string ⟨#[]⟩, .string ⟨#[]⟩]) 2 Tryz.underlying155 HI0.out hz0 hz1 .i64 .i64 ((L.length : Int) + 1) (L.length + 1) rfl rfl (by omega) (by rw [hz2]; omega) (by unfold maxLen; omega) HBX.out ?_; intro w4 hown4 hg4; have R4 := Lib.hid (Row.of_owns hown4); have HX4 := Lib.hid (grownBy.holds hg4 HX3.out (fun h => by cases h)); have HB4 := Lib.hid (HB3.out.trans (grownBy.below hg4 HB3.out.size (fun k h => by cases h))); clear hown4 hg4)
            | (at_builtin; refine wpList_append_items rfl (.tmp 41) (.tmp 44) 155 rfl 59 Tryz.underlying155 i0 _ HI0.out hz0 hz1 hz2 rfl (w.heap.size + 1) 0 [] rfl _ _ rfl R4.out HX4.out.lt (by omega) (L.take p) p (by rw [List.length_take]; omega) A cap rfl ((HM.out.below HB4.out).take p) (by omega) ?_; intro v5 w5 hr5 hg5; obtain ⟨p5, c5, rfl⟩ := hr5.out.any; have R5 := Lib.hid (show Row w5 (w.heap.size + 1) 2 (.slice p5 p c5) (L.take p).length (itCells (L.take p)) by have := hr5.out; rw [List.nil_append, Nat.zero_add] at this; rw [List.length_take, Nat.min_eq_left hpl]; exact this); have HX5 := Lib.hid (grownBy.holds hg5.out HX4.out (R4.out.fresh (Nat.lt_succ_self _))); have HB5 := Lib.hid (grown_below HB4.out R4.out hg5.out (Nat.le_succ _) HB4.out.size); clear hr5 hg5; have x50 : w5.cell? ⟨w.heap.size, 0, none⟩ = some (.string x.1) := HX5.out.cell 0 (by omega); have x51 : w5.cell? ⟨w.heap.size, 1, none⟩ = some (.string x.2) := HX5.out.cell 1 (by omega))
            | (at_builtin; refine wpList_append_item rfl (.tmp 46) (.tmp 48) 155 rfl 59 Tryz.underlying155 _ 32 infoItem rfl (by decide) (w.heap.size + 1) (.slice p5 p c5) (L.take p) rfl (R5.out.alloc _) (by have := HX5.out.lt; simp; omega) (by have := List.length_take_le p L; omega) x w5.heap.size rfl 59 (heap_alloc_new _ _) ?_; intro v6 w6 hr6 hg6 _; obtain ⟨g6, c6, r6, R6⟩ := row_one hr6.out hpl; subst r6; have HZ6 := Lib.hid (show w.heap.size + 1 ≤ w6.heap.size from Nat.le_trans (Nat.le_trans (show w.heap.size + 1 ≤ w5.heap.size from HX5.out.lt) (by simp)) hg6.out.size); have HB6 := Lib.hid (grown_below (HB5.out.alloc HB5.out.size _) (R5.out.alloc _) hg6.out (Nat.le_succ _) (by have := HB5.out.size; simp; omega)); clear hr6 hg6 x50 x51)
            | (at_builtin; refine wpList_append_items rfl (.tmp 50) (.tmp 51) 155 rfl 59 Tryz.underlying155 i0 _ HI0.out hz0 hz1 hz2 rfl (w.heap.size + 1) (p + 1) (L.take p ++ [x]) (by simp; omega) _ _ rfl R6.out HZ6.out (by omega) (L.drop p) s HDL.out B c2 rfl (HDR.out _ (HM.out.below HB6.out)) (by omega) ?_; intro v7 w7 hr7 hg7; obtain ⟨p7, c7, rfl⟩ := hr7.out.any; have HB7 := Lib.hid (grown_below HB6.out R6.out hg7.out (Nat.le_succ _) HB6.out.size); clear hg7))
          refine bodyPost_ret (results_tmp2 rfl _ _ _) rfl ?_
          obtain ⟨hT, rfl⟩ := HINS.out
          have hT2 : L.take p ++ [x] ++ L.drop p = T := by rw [hT]; simp
          have r7 := hr7.out
          rw [hT2] at r7
          obtain ⟨ht, A', c', hv, hit⟩ := r7.itms
          have hcap := r7.cap
          have hnew := r7.newer
          injection hv with e1 _ e3
          subst e1 e3
          refine ⟨p7, c7, ?_, HB7.out, hit, ?_, ?_⟩
          · rw [← ht]; rfl
          · rw [← ht]; exact hcap
          · rw [← ht]; exact fun a e l => Nat.le_of_succ_le (hnew a e l)
    · rw [if_neg (fun hh => hx hh.2)] at h
      cases h
      have HXR := Lib.hid (show rightItems [x] = false by simpa using hx)
      clear hk hx
      go_enter Tryz.func151, Tryz.ntmps151
      go_wp2_with fail
      refine (tRight_any L A cap _ hl (HM.out.below HB0.out)).mono ?_
      rintro e w1 ⟨rfl, hb1⟩
      rw [HK.out]
      have HB1 := Lib.hid (HB0.out.trans (hb1.mono HB0.out.size))
      have HX1 := Lib.hid (HX0.out.below hb1 HX0.out.lt)
      clear hb1
      have x0 : w1.cell? ⟨w.heap.size, 0, none⟩ = some (.string x.1) := HX1.out.cell 0 (by omega)
      have x1 : w1.cell? ⟨w.heap.size, 1, none⟩ = some (.string x.2) := HX1.out.cell 1 (by omega)
      go_wp2_with fail
      clear x0 x1
      refine (tRight_any [x] (some ⟨w1.heap.size, 0, none⟩) 1 _ (by simp) (one_item x w1 59)).mono ?_
      rintro e w2 ⟨rfl, hb2⟩
      rw [HXR.out]
      have HB2 := Lib.hid (HB1.out.trans ((alloc_below w1 (.cells #[.string x.1, .string x.2] 59)).mono HB1.out.size |>.trans (hb2.mono (Nat.le_trans HB1.out.size (by simp)))))
      clear hb2
      go_wp2
      refine bodyPost_ret (results_tmp2 rfl _ _ _) rfl ?_
      exact ⟨none, 0, rfl, HB2.out, Itms.nil _ _, Nat.le_refl 0, fun a e => by cases e⟩
  · rw [if_neg (fun hh => hk hh.1)] at h
    cases h
    have HK := Lib.hid (show rightItems L = false by simpa using hk)
    clear hk
    go_enter Tryz.func151, Tryz.ntmps151
    go_wp2_with fail
    refine (tRight_any L A cap _ hl (HM.out.below HB0.out)).mono ?_
    rintro e w1 ⟨rfl, hb1⟩
    rw [HK.out]
    have HB1 := Lib.hid (HB0.out.trans (hb1.mono HB0.out.size))
    clear hb1
    go_wp2
    refine bodyPost_ret (results_tmp2 rfl _ _ _) rfl ?_
    exact ⟨none, 0, rfl, HB1.out, Itms.nil _ _, Nat.le_refl 0, fun a e => by cases e⟩
end Go.Proofs.YtgjmbokfenpefaaGreatDoor
/- The program's directory: items laid over items, names in their order. -/
namespace Go.Proofs.YtgjmbokfenpefaaGreatDoor
open Go.RowKit Go.Maps

/-- The keys of a map, rising, in a new list. -/
theorem sortedKeys_any (mf : Nat) (Fr : List (ByteArray × (ByteArray × ByteArray))) (w : World) (hf : MapIs kH w mf Fr) (hl : Fr.length ≤ 100000) :
    Calls Tryz.prog 44 #[.func (.func 202) #[] #[.pointer (some ⟨w.heap.size, 0, none⟩)]] (w.alloc (.cells #[.map (some mf)] 154)) fun e w' =>
      ∃ (S : List ByteArray) (A : Option Addr) (c : Nat), e = .returned (.slice A S.length c) ∧ Below w.heap.size w w' ∧ Strs w' A S ∧ S.Perm (keysL Fr) ∧ S.Pairwise (fun s t => s.data.toList < t.data.toList) := by
  obtain ⟨D, hown, hsz, hp⟩ := hf.strs
  refine (Tryz.sortedTxt_any mf _ D _ w hown (by rw [hsz]; unfold maxLen; omega) (by rw [hsz]; omega)).mono ?_
  rintro e w' ⟨v, ss, rfl, hS, hrow, -, hb⟩
  have hpS : ((ss.mergeSort leB).map textOf).Perm (keysL Fr) := by
    have h1 := ((List.mergeSort_perm ss leB).trans (hp ss hS)).map textOf
    rw [List.map_map] at h1
    have h2 : (keysL Fr).map (textOf ∘ bytesOf) = keysL Fr := by
      rw [show (textOf ∘ bytesOf) = id from funext text_bytes]; exact List.map_id _
    rwa [h2] at h1
  have hl2 : ss.length = ((ss.mergeSort leB).map textOf).length := by rw [List.length_map, List.length_mergeSort]
  have hr : Row w' (w.alloc (.cells #[.map (some mf)] 154)).heap.size 1 v ss.length (stCells ((ss.mergeSort leB).map textOf)) := by
    have h := Row.of_owns hrow
    have e : (ss.mergeSort (fun x y => decide (x ≤ y))).map encStr = stCells ((ss.mergeSort leB).map textOf) := by
      unfold stCells
      rw [List.map_map]
      rfl
    rw [e] at h
    exact h
  rw [hl2] at hr
  obtain ⟨-, A, c, rfl, hst⟩ := hr.strs
  refine ⟨(ss.mergeSort leB).map textOf, A, c, rfl, (alloc_below w _).trans (hb.mono (by simp)), hst, hpS, ?_⟩
  have hnd : ((ss.mergeSort leB).map textOf).Nodup := hpS.symm.nodup hf.keys
  rw [List.pairwise_map]
  unfold List.Nodup at hnd
  rw [List.pairwise_map] at hnd
  refine ((sort_le ss).and hnd).imp fun {a b} h => ?_
  show a < b
  by_cases e : a < b
  · exact e
  · exact absurd (congrArg textOf (List.le_antisymm h.1 (List.not_lt.1 e))) h.2
end Go.Proofs.YtgjmbokfenpefaaGreatDoor
/- The document's client: Ask. -/
namespace Go.Proofs.YtgjmbokfenpefaaGreatDoor
open Go.RowKit

theorem ask_cases {c : Cl} {name : ByteArray} {a : Answ} {c1 : Cl} {cm : ByteArray} {tt : Bool} {n3 : Int} (hn : nameOk name.data.toList = true) (hs : seeAns c a.sgn = (c1, 0)) (hv : verifyAns a.sgn.head.root (markOf 105 [name]) a.path a.leaf = (cm, tt, n3)) :
    askAns c name a = if n3 = 0 then (if tt = false ∧ a.opening.size = 0 ∧ a.value.size = 0 then (c1, ⟨#[]⟩, false, 0) else if tt = true ∧ commitAns a.opening a.value = (cm, 0) then (c1, a.value, true, 0) else (c1, ⟨#[]⟩, false, 13)) else (c1, ⟨#[]⟩, false, n3) := by
  have hix : (ofAns name).1 = markOf 105 [name] := by unfold ofAns; rw [if_pos hn]
  unfold askAns
  rw [if_pos hn, hs, hix, hv]
  rfl
end Go.Proofs.YtgjmbokfenpefaaGreatDoor
