/- Parts of the proof, one behind the other: PNext, PSee. -/
import Derived.WalkKit
import Derived.Lib.Hide
import Derived.WalkLawsBesides
import Derived.Deep.QuietTactic
import Derived.Deep.WholeRow
import Derived.ArgAppend
import Derived.Laws.AppendOwnNone
import Derived.Laws.CopyRow
import Derived.Deep.RegionLaw
import Derived.Laws.BytesString
import Derived.Laws.IdiomStrings
import Derived.Test.YtgjmbokfenpefaaGreatDoorProg
import Derived.Laws.BitsAllLaws
import Derived.Outline
import Derived.BigQuiet
import Derived.Laws.CopyOwn
import Derived.RegionTactic
import Derived.StillTail
import Derived.Deep.Quiet
import Derived.Deep.RegionHeld3
import Derived.Deep.DeepCutAuto
import Derived.Laws.ResultCell
import Derived.IntWalk
import Derived.Sort.Walk0
import Derived.LaidEql
import Derived.Stop.Asserts
import Derived.RowKitTokens
import Derived.Shelf.Strings.Repeat
import Derived.KernelRfl
import Derived.StringKeys
import Derived.Maps.Own
import Derived.Maps.Views
import Derived.Maps.OwnSet
import Derived.Maps.OwnOps
import Derived.Maps.RangeWalk
import Derived.Sort.KeysCollected
import Derived.Tactics
import Derived.Orders
import Derived.OrdersHeld
import Derived.Sort.LotA
import Derived.Lib.SortBridge
import Derived.Deep.AppendSrc
import Derived.Shelf.SlSortFuncK.WholeK
import Derived.Ground.GgsProg
import Derived.Shelf.GgSortFunc.Tiny
import Derived.Laws.StructEq
import Derived.WideKeyEntry
import Derived.Deep.CutRange
import Derived.Test.YtgjmbokfenpefaaGreatDoorM1
import Derived.Test.YtgjmbokfenpefaaGreatDoorM2
import Derived.Test.YtgjmbokfenpefaaGreatDoorM3
import Derived.Test.YtgjmbokfenpefaaGreatDoorM4
import Derived.Test.YtgjmbokfenpefaaGreatDoorM5
import Derived.Test.YtgjmbokfenpefaaGreatDoorM6
import Derived.Test.YtgjmbokfenpefaaGreatDoorM7
import Derived.Test.YtgjmbokfenpefaaGreatDoorM8
import Derived.Test.YtgjmbokfenpefaaGreatDoorM9
import Derived.Test.YtgjmbokfenpefaaGreatDoorM10
/- The program's Next. -/
namespace Go.Proofs.YtgjmbokfenpefaaGreatDoor
open Go.RowKit

theorem none16_is : none16 = ⟨#[0, 0, 0, 0, 0, 0, 0, 0, 0, 0, 0, 0, 0, 0, 0, 0]⟩ := by unfold none16; rfl
theorem firstHd_is (root : ByteArray) : firstHd root = ⟨1, root, ⟨#[0, 0, 0, 0, 0, 0, 0, 0, 0, 0, 0, 0, 0, 0, 0, 0]⟩⟩ := by unfold firstHd; rw [none16_is]
/-- What Next begins with: an empty head as its answer, the first head in its own variable. -/
theorem next_begin (w : World) (root : ByteArray) (t : TypeId) :
    Below w.heap.size w ((w.alloc (.cells #[.int .i64 0, .string ⟨#[]⟩, .string ⟨#[]⟩] t)).alloc (.cells #[.int .i64 1, .string root, .string ⟨#[0, 0, 0, 0, 0, 0, 0, 0, 0, 0, 0, 0, 0, 0, 0, 0]⟩] t)) ∧
    Holds ((w.alloc (.cells #[.int .i64 0, .string ⟨#[]⟩, .string ⟨#[]⟩] t)).alloc (.cells #[.int .i64 1, .string root, .string ⟨#[0, 0, 0, 0, 0, 0, 0, 0, 0, 0, 0, 0, 0, 0, 0, 0]⟩] t)) w.heap.size 3 (hdF noHd) t ∧
    Holds ((w.alloc (.cells #[.int .i64 0, .string ⟨#[]⟩, .string ⟨#[]⟩] t)).alloc (.cells #[.int .i64 1, .string root, .string ⟨#[0, 0, 0, 0, 0, 0, 0, 0, 0, 0, 0, 0, 0, 0, 0, 0]⟩] t)) (w.heap.size + 1) 3 (hdF (firstHd root)) t := by
  refine ⟨((Below.refl _ w).alloc (Nat.le_refl _) _).alloc (by simp) _, (Holds.new w 3 (hdF noHd) t).alloc _, ?_⟩
  have h := Holds.new (w.alloc (.cells #[.int .i64 0, .string ⟨#[]⟩, .string ⟨#[]⟩] t)) 3 (hdF (firstHd root)) t
  rw [World.size_alloc] at h
  rw [firstHd_is] at h ⊢
  exact h
theorem head_stored {w0 w4 : World} {rb : Nat} {t : TypeId} {x : Hd} (h : Holds w4 rb 3 (hdF x) t) (hb : Below w0.heap.size w0 w4) (hr : w0.heap.size ≤ rb) (y : Hd) :
    Holds (((w4.setCell ⟨rb, 0, none⟩ (.int .i64 y.epoch)).setCell ⟨rb, 1, none⟩ (.string y.root)).setCell ⟨rb, 2, none⟩ (.string y.prev)) rb 3 (hdF y) t ∧
    Below w0.heap.size w0 (((w4.setCell ⟨rb, 0, none⟩ (.int .i64 y.epoch)).setCell ⟨rb, 1, none⟩ (.string y.root)).setCell ⟨rb, 2, none⟩ (.string y.prev)) := by
  refine ⟨(((h.set 0 _).set 1 _).set 2 _).congr fun i hi => ?_, ((hb.setCell hr _).setCell hr _).setCell hr _⟩
  rcases (show i = 0 ∨ i = 1 ∨ i = 2 by omega) with rfl | rfl | rfl <;> simp [upd, hdF]

set_option maxHeartbeats 1000000 in
set_option maxRecDepth 100000 in
theorem pNext_good (L : List Hd) (A : Option Addr) (cap : Nat) (root : ByteArray) (y : Hd) (n : Int) (w : World) (hk : HasK w) (hl : L.length ≤ 1000000) (hm : Hds w A L) (hr : 0 < L.length → rightHead (hdAt L (L.length - 1)) = true) (h : nextAns L root = (y, n)) :
    Calls Tryz.prog 73 #[.slice A L.length cap, .string root] w fun e w' => e = .returned (.tuple #[.agg #[.int .i64 y.epoch, .string y.root, .string y.prev], errOf n]) ∧ Below w.heap.size w w' := by
  have HK := Lib.hid hk
  have HM := Lib.hid hm
  have hans := nextAns_upto (root := root) hr
  rw [h] at hans
  obtain ⟨HB2, HS2, HF2⟩ := (⟨Lib.hid (next_begin w root 52).1, Lib.hid (next_begin w root 52).2.1, Lib.hid (next_begin w root 52).2.2⟩ : Hid _ ∧ Hid _ ∧ Hid _)
  clear h hk hm
  have HE0 := Lib.hid (show errOf 0 = Value.nilIface from rfl)
  by_cases h0 : 0 < L.length
  case' neg =>
    have hz : nextUpto L root L.length = firstHd root := by unfold nextUpto; rw [if_neg (by omega)]
    rw [hz] at hans
    have h0' : ¬ (0 : Int) < (L.length : Int) := by omega
    clear hz
    generalize firstHd root = Z at hans HF2
    have HANS := Lib.hid hans
    clear hans hr h0
    go_enter Tryz.func73, Tryz.ntmps73
    have c0 := HF2.out.cell 0 (by omega)
    have c1 := HF2.out.cell 1 (by omega)
    have c2 := HF2.out.cell 2 (by omega)
    have d0 := show _ = some (Value.int .i64 Z.epoch) from c0
    have d1 := show _ = some (Value.string Z.root) from c1
    have d2 := show _ = some (Value.string Z.prev) from c2
    clear c0 c1 c2
    go_wp2_with fail
    clear d0 d1 d2
    generalize ((w.alloc (.cells #[.int .i64 0, .string ⟨#[]⟩, .string ⟨#[]⟩] 52)).alloc (.cells #[.int .i64 1, .string root, .string ⟨#[0, 0, 0, 0, 0, 0, 0, 0, 0, 0, 0, 0, 0, 0, 0, 0]⟩] 52)) = w5 at HB2 HS2 HF2
    have HB5 := HB2
    have HS5 := HS2
    have HF5 := HF2
    clear HB2 HS2 HF2
  case' pos =>
    obtain ⟨k, hk⟩ : ∃ k, k + 1 = L.length := ⟨L.length - 1, by omega⟩
    have hlt : k < L.length := by omega
    have h0' : (0 : Int) < (L.length : Int) := by omega
    have hrx : rightHead (hdAt L k) = true := by have := hr h0; rwa [show L.length - 1 = k by omega] at this
    have hz : nextUpto L root L.length = afterHd (hdAt L k) root := by rw [← hk]; exact nextUpto_last hk
    rw [hz] at hans
    have hwk : IntKind.i64.wrap ((L.length : Int) - 1) = (k : Int) := by rw [IntWalk.i64_in _ (by omega)]; omega
    have hk0 : (0 : Int) ≤ (k : Int) := by omega
    have hk1 : (k : Int) < (L.length : Int) := by omega
    obtain ⟨a, rfl, hal, x0, x1, x2⟩ := (HM.out.below HB2.out).at_ hlt
    have d1 : ((w.alloc (.cells #[.int .i64 0, .string ⟨#[]⟩, .string ⟨#[]⟩] 52)).alloc (.cells #[.int .i64 1, .string root, .string ⟨#[0, 0, 0, 0, 0, 0, 0, 0, 0, 0, 0, 0, 0, 0, 0, 0]⟩] 52)).cell? ⟨(a.add (k * 3)).block, (a.add (k * 3)).off + 1, none⟩ = some (.string (hdAt L k).root) := x1
    have d2 : ((w.alloc (.cells #[.int .i64 0, .string ⟨#[]⟩, .string ⟨#[]⟩] 52)).alloc (.cells #[.int .i64 1, .string root, .string ⟨#[0, 0, 0, 0, 0, 0, 0, 0, 0, 0, 0, 0, 0, 0, 0, 0]⟩] 52)).cell? ⟨(a.add (k * 3)).block, (a.add (k * 3)).off + 2, none⟩ = some (.string (hdAt L k).prev) := x2
    clear x1 x2 hal hz hk hr h0
    generalize hdAt L k = X at x0 d1 d2 hrx hans
    have HANS := Lib.hid hans
    have HRX := Lib.hid hrx
    have HZ := Lib.hid (show afterHd X root = ⟨wrap64 (X.epoch + 1), root, headMark X⟩ from rfl)
    have HMA := Lib.hid (show headMarkAns X = (headMark X, 0) by unfold headMarkAns; rw [if_pos hrx])
    clear hans hrx
    go_enter Tryz.func73, Tryz.ntmps73
    have HB3 := Lib.hid (HB2.out.alloc HB2.out.size (.cells #[.int .i64 X.epoch, .string X.root, .string X.prev] 52))
    have HS3 := Lib.hid (HS2.out.alloc (.cells #[.int .i64 X.epoch, .string X.root, .string X.prev] 52))
    have HF3 := Lib.hid (HF2.out.alloc (.cells #[.int .i64 X.epoch, .string X.root, .string X.prev] 52))
    have HX3 := Lib.hid (show Holds (((w.alloc (.cells #[.int .i64 0, .string ⟨#[]⟩, .string ⟨#[]⟩] 52)).alloc (.cells #[.int .i64 1, .string root, .string ⟨#[0, 0, 0, 0, 0, 0, 0, 0, 0, 0, 0, 0, 0, 0, 0, 0]⟩] 52)).alloc (.cells #[.int .i64 X.epoch, .string X.root, .string X.prev] 52)) (w.heap.size + 1 + 1) 3 (hdF X) 52 from by
      have h := Holds.new ((w.alloc (.cells #[.int .i64 0, .string ⟨#[]⟩, .string ⟨#[]⟩] 52)).alloc (.cells #[.int .i64 1, .string root, .string ⟨#[0, 0, 0, 0, 0, 0, 0, 0, 0, 0, 0, 0, 0, 0, 0, 0]⟩] 52)) 3 (hdF X) 52
      rw [World.size_alloc, World.size_alloc] at h
      exact h)
    go_wp2_with fail
    clear x0 d1 d2
    generalize (((w.alloc (.cells #[.int .i64 0, .string ⟨#[]⟩, .string ⟨#[]⟩] 52)).alloc (.cells #[.int .i64 1, .string root, .string ⟨#[0, 0, 0, 0, 0, 0, 0, 0, 0, 0, 0, 0, 0, 0, 0, 0]⟩] 52)).alloc (.cells #[.int .i64 X.epoch, .string X.root, .string X.prev] 52)) = w3 at HB3 HS3 HF3 HX3
    refine (pHdMark_is X (headMark X) 0 _ (HK.out.below HB3.out HK.out.lt) HMA.out).mono ?_
    rintro e w4 ⟨rfl, hb4⟩
    rw [HE0.out]
    have HB4 := Lib.hid (HB3.out.trans (hb4.mono HB3.out.size))
    have HS4 := Lib.hid (HS3.out.below hb4 HS3.out.lt)
    have HF4 := Lib.hid (HF3.out.below hb4 HF3.out.lt)
    have HX4 := Lib.hid (HX3.out.below hb4 HX3.out.lt)
    clear hb4
    have x0 : w4.cell? ⟨w.heap.size + 1 + 1, 0, none⟩ = some (.int .i64 X.epoch) := HX4.out.cell 0 (by omega)
    have q0 : w4.cell? ⟨w.heap.size + 1, 0, none⟩ = some (.int .i64 (firstHd root).epoch) := HF4.out.cell 0 (by omega)
    have q2 : w4.cell? ⟨w.heap.size + 1, 2, none⟩ = some (.string (firstHd root).prev) := HF4.out.cell 2 (by omega)
    have f0 : w4.frozen? ⟨w.heap.size + 1, 0, none⟩ = false := HF4.out.free 0
    have f2 : w4.frozen? ⟨w.heap.size + 1, 2, none⟩ = false := HF4.out.free 2
    have HB5 := Lib.hid (show Below w.heap.size w ((w4.setCell ⟨w.heap.size + 1, 0, none⟩ (.int .i64 (wrap64 (X.epoch + 1)))).setCell ⟨w.heap.size + 1, 2, none⟩ (.string (headMark X))) from (HB4.out.setCell (Nat.le_succ _) _).setCell (Nat.le_succ _) _)
    have HS5 := Lib.hid (show Holds ((w4.setCell ⟨w.heap.size + 1, 0, none⟩ (.int .i64 (wrap64 (X.epoch + 1)))).setCell ⟨w.heap.size + 1, 2, none⟩ (.string (headMark X))) w.heap.size 3 (hdF noHd) 52 from (HS4.out.other (by show w.heap.size ≠ w.heap.size + 1; omega) _).other (by show w.heap.size ≠ w.heap.size + 1; omega) _)
    have HF5 := Lib.hid (show Holds ((w4.setCell ⟨w.heap.size + 1, 0, none⟩ (.int .i64 (wrap64 (X.epoch + 1)))).setCell ⟨w.heap.size + 1, 2, none⟩ (.string (headMark X))) (w.heap.size + 1) 3 (hdF (afterHd X root)) 52 from by
      refine ((HF4.out.set 0 _).set 2 _).congr fun i hi => ?_
      rcases (show i = 0 ∨ i = 1 ∨ i = 2 by omega) with rfl | rfl | rfl <;> simp [upd, hdF, afterHd, firstHd])
    generalize afterHd X root = Z at HANS HF5
    have d0 : ((w4.setCell ⟨w.heap.size + 1, 0, none⟩ (.int .i64 (wrap64 (X.epoch + 1)))).setCell ⟨w.heap.size + 1, 2, none⟩ (.string (headMark X))).cell? ⟨w.heap.size + 1, 0, none⟩ = some (.int .i64 Z.epoch) := HF5.out.cell 0 (by omega)
    have d1 : ((w4.setCell ⟨w.heap.size + 1, 0, none⟩ (.int .i64 (wrap64 (X.epoch + 1)))).setCell ⟨w.heap.size + 1, 2, none⟩ (.string (headMark X))).cell? ⟨w.heap.size + 1, 1, none⟩ = some (.string Z.root) := HF5.out.cell 1 (by omega)
    have d2 : ((w4.setCell ⟨w.heap.size + 1, 0, none⟩ (.int .i64 (wrap64 (X.epoch + 1)))).setCell ⟨w.heap.size + 1, 2, none⟩ (.string (headMark X))).cell? ⟨w.heap.size + 1, 2, none⟩ = some (.string Z.prev) := HF5.out.cell 2 (by omega)
    go_wp2_with fail
    clear d0 d1 d2 x0 q0 q2 f0 f2
    generalize ((w4.setCell ⟨w.heap.size + 1, 0, none⟩ (.int .i64 (wrap64 (X.epoch + 1)))).setCell ⟨w.heap.size + 1, 2, none⟩ (.string (headMark X))) = w5 at HB5 HS5 HF5
  all_goals
    refine (pHdRight_any Z _).mono ?_
    rintro e w6 ⟨rfl, hb6⟩
    have HB6 := Lib.hid (HB5.out.trans (hb6.mono HB5.out.size))
    have HS6 := Lib.hid (HS5.out.below hb6 HS5.out.lt)
    have HF6 := Lib.hid (HF5.out.below hb6 HF5.out.lt)
    clear hb6
    have p0 : w6.cell? ⟨w.heap.size, 0, none⟩ = some (.int .i64 0) := HS6.out.cell 0 (by omega)
    have p1 : w6.cell? ⟨w.heap.size, 1, none⟩ = some (.string ⟨#[]⟩) := HS6.out.cell 1 (by omega)
    have p2 : w6.cell? ⟨w.heap.size, 2, none⟩ = some (.string ⟨#[]⟩) := HS6.out.cell 2 (by omega)
    have f0 : w6.frozen? ⟨w.heap.size, 0, none⟩ = false := HS6.out.free 0
    have f1 : w6.frozen? ⟨w.heap.size, 1, none⟩ = false := HS6.out.free 1
    have f2 : w6.frozen? ⟨w.heap.size, 2, none⟩ = false := HS6.out.free 2
    by_cases hzz : rightHead Z = true
    · have hans := HANS.out
      rw [if_pos hzz] at hans
      obtain ⟨rfl, rfl⟩ := Prod.mk.inj hans
      rw [hzz]
      clear hans hzz
      have c0 : w6.cell? ⟨w.heap.size + 1, 0, none⟩ = some (.int .i64 y.epoch) := HF6.out.cell 0 (by omega)
      have c1 : w6.cell? ⟨w.heap.size + 1, 1, none⟩ = some (.string y.root) := HF6.out.cell 1 (by omega)
      have c2 : w6.cell? ⟨w.heap.size + 1, 2, none⟩ = some (.string y.prev) := HF6.out.cell 2 (by omega)
      have HFIN := Lib.hid (head_stored HS6.out HB6.out (Nat.le_refl _) y)
      go_wp2
      refine bodyPost_ret (results_row2 rfl _ _ w.heap.size 52 (arr 3 (hdF y)) (0, 0) _ rfl HFIN.out.1 Tryz.underlying52 rfl (by rw [arr_size]; exact infoHead)) rfl ?_
      exact ⟨rfl, HFIN.out.2⟩
    · have hans := HANS.out
      rw [if_neg hzz] at hans
      obtain ⟨rfl, rfl⟩ := Prod.mk.inj hans
      have hz' : rightHead Z = false := by simpa using hzz
      rw [hz']
      clear hans hzz hz'
      have HFIN := Lib.hid (head_stored HS6.out HB6.out (Nat.le_refl _) noHd)
      go_wp2
      refine bodyPost_ret (results_row2 rfl _ _ w.heap.size 52 (arr 3 (hdF noHd)) (0, 0) _ rfl HFIN.out.1 Tryz.underlying52 rfl (by rw [arr_size]; exact infoHead)) rfl ?_
      exact ⟨rfl, HFIN.out.2⟩
set_option maxHeartbeats 1000000 in
set_option maxRecDepth 100000 in
theorem pNext_bad (L : List Hd) (A : Option Addr) (cap : Nat) (root : ByteArray) (w : World) (hk : HasK w) (hl : L.length ≤ 1000000) (hm : Hds w A L) (h0 : 0 < L.length) (hr : rightHead (hdAt L (L.length - 1)) = false) :
    Calls Tryz.prog 73 #[.slice A L.length cap, .string root] w fun e w' => e = .returned (.tuple #[.agg #[.int .i64 0, .string ⟨#[]⟩, .string ⟨#[]⟩], errOf 1]) ∧ Below w.heap.size w w' := by
  have HK := Lib.hid hk
  have HM := Lib.hid hm
  obtain ⟨HB2, HS2⟩ := (⟨Lib.hid (next_begin w root 52).1, Lib.hid (next_begin w root 52).2.1⟩ : Hid _ ∧ Hid _)
  have HE1 := Lib.hid (show errOf 1 = Value.iface 28 (.int .i64 1) from rfl)
  obtain ⟨k, hkl⟩ : ∃ k, k + 1 = L.length := ⟨L.length - 1, by omega⟩
  have hlt : k < L.length := by omega
  have h0' : (0 : Int) < (L.length : Int) := by omega
  have hrx : rightHead (hdAt L k) = false := by rwa [show L.length - 1 = k by omega] at hr
  have hwk : IntKind.i64.wrap ((L.length : Int) - 1) = (k : Int) := by rw [IntWalk.i64_in _ (by omega)]; omega
  have hk0 : (0 : Int) ≤ (k : Int) := by omega
  have hk1 : (k : Int) < (L.length : Int) := by omega
  obtain ⟨a, rfl, hal, x0, x1, x2⟩ := (HM.out.below HB2.out).at_ hlt
  have d1 : ((w.alloc (.cells #[.int .i64 0, .string ⟨#[]⟩, .string ⟨#[]⟩] 52)).alloc (.cells #[.int .i64 1, .string root, .string ⟨#[0, 0, 0, 0, 0, 0, 0, 0, 0, 0, 0, 0, 0, 0, 0, 0]⟩] 52)).cell? ⟨(a.add (k * 3)).block, (a.add (k * 3)).off + 1, none⟩ = some (.string (hdAt L k).root) := x1
  have d2 : ((w.alloc (.cells #[.int .i64 0, .string ⟨#[]⟩, .string ⟨#[]⟩] 52)).alloc (.cells #[.int .i64 1, .string root, .string ⟨#[0, 0, 0, 0, 0, 0, 0, 0, 0, 0, 0, 0, 0, 0, 0, 0]⟩] 52)).cell? ⟨(a.add (k * 3)).block, (a.add (k * 3)).off + 2, none⟩ = some (.string (hdAt L k).prev) := x2
  clear x1 x2 hal hkl hr h0 hk hm
  generalize hdAt L k = X at x0 d1 d2 hrx
  have HMA := Lib.hid (show headMarkAns X = (⟨#[]⟩, 1) by unfold headMarkAns; rw [hrx]; rfl)
  clear hrx
  go_enter Tryz.func73, Tryz.ntmps73
  have HB3 := Lib.hid (HB2.out.alloc HB2.out.size (.cells #[.int .i64 X.epoch, .string X.root, .string X.prev] 52))
  have HS3 := Lib.hid (HS2.out.alloc (.cells #[.int .i64 X.epoch, .string X.root, .string X.prev] 52))
  go_wp2_with fail
  clear x0 d1 d2
  generalize (((w.alloc (.cells #[.int .i64 0, .string ⟨#[]⟩, .string ⟨#[]⟩] 52)).alloc (.cells #[.int .i64 1, .string root, .string ⟨#[0, 0, 0, 0, 0, 0, 0, 0, 0, 0, 0, 0, 0, 0, 0, 0]⟩] 52)).alloc (.cells #[.int .i64 X.epoch, .string X.root, .string X.prev] 52)) = w3 at HB3 HS3
  refine (pHdMark_is X ⟨#[]⟩ 1 _ (HK.out.below HB3.out HK.out.lt) HMA.out).mono ?_
  rintro e w6 ⟨rfl, hb4⟩
  rw [HE1.out]
  have HB6 := Lib.hid (HB3.out.trans (hb4.mono HB3.out.size))
  have HS6 := Lib.hid (HS3.out.below hb4 HS3.out.lt)
  clear hb4
  have p0 : w6.cell? ⟨w.heap.size, 0, none⟩ = some (.int .i64 0) := HS6.out.cell 0 (by omega)
  have p1 : w6.cell? ⟨w.heap.size, 1, none⟩ = some (.string ⟨#[]⟩) := HS6.out.cell 1 (by omega)
  have p2 : w6.cell? ⟨w.heap.size, 2, none⟩ = some (.string ⟨#[]⟩) := HS6.out.cell 2 (by omega)
  have f0 : w6.frozen? ⟨w.heap.size, 0, none⟩ = false := HS6.out.free 0
  have f1 : w6.frozen? ⟨w.heap.size, 1, none⟩ = false := HS6.out.free 1
  have f2 : w6.frozen? ⟨w.heap.size, 2, none⟩ = false := HS6.out.free 2
  have HFIN := Lib.hid (head_stored HS6.out HB6.out (Nat.le_refl _) noHd)
  go_wp2
  refine bodyPost_ret (results_row2 rfl _ _ w.heap.size 52 (arr 3 (hdF noHd)) (0, 0) _ rfl HFIN.out.1 Tryz.underlying52 rfl (by rw [arr_size]; exact infoHead)) rfl ?_
  exact ⟨rfl, HFIN.out.2⟩
theorem pNext_is (L : List Hd) (A : Option Addr) (cap : Nat) (root : ByteArray) (y : Hd) (n : Int) (w : World) (hk : HasK w) (hl : L.length ≤ 1000000) (hm : Hds w A L) (h : nextAns L root = (y, n)) :
    Calls Tryz.prog 73 #[.slice A L.length cap, .string root] w fun e w' => e = .returned (.tuple #[.agg #[.int .i64 y.epoch, .string y.root, .string y.prev], errOf n]) ∧ Below w.heap.size w w' := by
  by_cases hr : 0 < L.length → rightHead (hdAt L (L.length - 1)) = true
  · exact pNext_good L A cap root y n w hk hl hm hr h
  · have h0 : 0 < L.length := Classical.byContradiction fun e => hr fun h => absurd h e
    have hf : rightHead (hdAt L (L.length - 1)) = false := by
      cases e : rightHead (hdAt L (L.length - 1)) with
      | true => exact absurd (fun _ => e) hr
      | false => rfl
    obtain ⟨k, hkl⟩ : ∃ k, k + 1 = L.length := ⟨L.length - 1, by omega⟩
    have hb := nextAns_bad (root := root) hkl (by rwa [show L.length - 1 = k by omega] at hf)
    rw [hb] at h
    obtain ⟨rfl, rfl⟩ := Prod.mk.inj h
    exact pNext_bad L A cap root w hk hl hm h0 hf
end Go.Proofs.YtgjmbokfenpefaaGreatDoor
/- The program's client: See. -/
namespace Go.Proofs.YtgjmbokfenpefaaGreatDoor
open Go.RowKit

structure SawZ (p q : Nat) (v : Value) (h : Hd) where
  at' : World
  h0 : at'.cell? ⟨p, 1, none⟩ = some v
  h1 : at'.cell? ⟨q, 0, none⟩ = some (.int .i64 h.epoch)
  h2 : at'.cell? ⟨q, 1, none⟩ = some (.string h.root)
  h3 : at'.cell? ⟨q, 2, none⟩ = some (.string h.prev)
/-- One more head was appended, and the new list stored. -/
theorem PClM.pushed {F : Nat → Prop} {u w7 : World} {X : Obj} {p : Nat} {c : Cl} {v v' : Value} {h : Hd} (hc : PClM F u p c v) (hrow : Row w7 (p + 1) 3 v' (c.heads.length + 1) (hdCells c.heads ++ h.cells)) (hg : (u.alloc X).grownBy w7 v.ownBlock) (hm : Moved (u.alloc X) v v') :
    PClM (fun k => (F k ∨ u.heap.size ≤ k) ∧ k < w7.heap.size) (w7.setCell ⟨p, 1, none⟩ v') p { c with heads := c.heads ++ [h] } v' := by
  have hz : u.heap.size < w7.heap.size := by have := hg.size; simp at this; omega
  have hvp : v.ownBlock ≠ some p := hc.row.fresh (Nat.lt_succ_self p)
  have hvp' : v'.ownBlock ≠ some p := hrow.fresh (Nat.lt_succ_self p)
  have hpu := hc.own.lt
  exact {
    own := by
      have h0 : Holds w7 p 2 (pcF c.pub v) 184 := by
        have h1 := hc.own
        unfold Holds at h1 ⊢
        rw [hg.block p (by simp; omega) (fun e => hvp e.symm), (alloc_below u X).block p hpu]
        exact h1
      refine (h0.set 1 v').congr fun i hi => ?_
      unfold upd pcF
      rcases (show i = 0 ∨ i = 1 by omega) with rfl | rfl <;> rfl
    row := by
      rw [List.length_append, hdCells_append]
      have e : hdCells [h] = h.cells := by simp [hdCells]
      rw [e]
      exact hrow.setOther hvp' _
    fp := ⟨.inl hc.fp, by omega⟩
    fv := fun k hk => by
      refine ⟨?_, (hrow.lt k hk).2⟩
      rcases hm with e | e
      · exact .inl (hc.fv k (e ▸ hk))
      · have := e k hk
        simp at this
        exact .inr (by omega)
    lt := fun k hk => by
      have : (w7.setCell ⟨p, 1, none⟩ v').heap.size = w7.heap.size := by simp [World.setCell]
      rw [this]
      exact hk.2 }
set_option maxHeartbeats 4000000 in
set_option maxRecDepth 100000 in
theorem pSee_is (F : Nat → Prop) (p : Nat) (c c' : Cl) (h : Hd) (key : Int) (S P : List ByteArray) (A B : Option Addr) (ca cb : Nat) (n : Int) (w : World) (hc : PCl F w p c) (hk : HasK w)
    (hl : c.heads.length ≤ 1000000) (hls : S.length ≤ 1000000) (hlp : P.length ≤ 1000000) (he : h.epoch < 9223372036854775808) (hs : Strs w A S) (hp : Strs w B P) (ha : seeAns c ⟨h, key, S, P⟩ = (c', n)) :
    Calls Tryz.prog 40 #[.pointer (some ⟨p, 0, none⟩), .agg #[.int .i64 h.epoch, .string h.root, .string h.prev, .int .i64 key, .slice A S.length ca, .slice B P.length cb]] w fun e w' => e = .returned (errOf n) ∧ ∃ F' : Nat → Prop, Off F w w' ∧ Grew w F F' ∧ PCl F' w' p c' := by
  obtain ⟨v, hc⟩ := hc
  obtain ⟨pv, cv, rfl⟩ := hc.row.any
  have HB0 := Lib.hid (alloc_below w (.cells #[.int .i64 h.epoch, .string h.root, .string h.prev, .int .i64 key, .slice A S.length ca, .slice B P.length cb] 57))
  have HX0 := Lib.hid (show Holds (w.alloc (.cells #[.int .i64 h.epoch, .string h.root, .string h.prev, .int .i64 key, .slice A S.length ca, .slice B P.length cb] 57)) w.heap.size 6 (sgF h key (.slice A S.length ca) (.slice B P.length cb)) 57 from Holds.new w 6 (sgF h key (.slice A S.length ca) (.slice B P.length cb)) 57)
  have HK0 := Lib.hid (hk.below HB0.out hk.lt)
  have HC0 := Lib.hid (hc.same (same_of_below HB0.out hc.lt))
  have HS0 := Lib.hid (hs.below HB0.out)
  have HP0 := Lib.hid (hp.below HB0.out)
  have HCW := Lib.hid hc
  have HE := Lib.hid he
  have HA := Lib.hid ha
  have HL := Lib.hid hl
  obtain ⟨L, hLe⟩ : ∃ L, c.heads.length = L := ⟨_, rfl⟩
  have HLE := Lib.hid hLe
  rw [hLe] at HC0 HCW hl
  clear hc hk hs hp he ha hLe
  obtain ⟨T, ht⟩ : ∃ T, sealedOk c.pub h key S P = T := ⟨_, rfl⟩
  have HT := Lib.hid ht
  clear ht
  go_enter Tryz.func40, Tryz.ntmps40
  go_wp2_with fail
  generalize w.alloc (.cells #[.int .i64 h.epoch, .string h.root, .string h.prev, .int .i64 key, .slice A S.length ca, .slice B P.length cb] 57) = w0 at HB0 HX0 HK0 HC0 HS0 HP0 ⊢
  refine (pSealed_is F p c h key S P A B ca cb T _ ⟨_, by have := HC0.out; exact this⟩ HK0.out hls hlp HE.out HS0.out HP0.out HT.out).mono ?_
  rintro e w1 ⟨rfl, hb1⟩
  have HB1 := Lib.hid (HB0.out.trans (hb1.mono HB0.out.size))
  have HK1 := Lib.hid (HK0.out.below hb1 HK0.out.lt)
  have HC1 := Lib.hid (HC0.out.same (same_of_below hb1 HC0.out.lt))
  have HX1 := Lib.hid (HX0.out.below hb1 HX0.out.lt)
  have HP1L := Lib.hid (show p < w1.heap.size from HC1.out.own.lt)
  have HQ1L := Lib.hid (show w.heap.size < w1.heap.size from HX1.out.lt)
  clear hb1 HK0 HC0 HX0 HS0 HP0 HB0
  cases T
  · go_wp2
    go_ret
    have hh := HA.out
    unfold seeAns at hh
    rw [if_neg (fun e => by
      have h4 := HT.out
      unfold sealedOk at h4
      simp only [Bool.and_eq_false_iff, decide_eq_false_iff_not] at h4
      rcases h4 with h4 | h4 | h4
      · rw [e.1] at h4; cases h4
      · exact h4 e.2.1
      · have e3 := e.2.2; rw [h4] at e3; cases e3)] at hh
    obtain ⟨rfl, rfl⟩ := Prod.mk.inj hh
    exact ⟨rfl, F, Off.of_below HB1.out, Grew.refl _ _, ⟨_, HC1.out⟩⟩
  · have HT3 := Lib.hid (show rightHead h = true ∧ key = h.epoch - 1 ∧ sealOk c.pub (headMark h) key S P = true from by
      have h4 := HT.out
      unfold sealedOk at h4
      simp only [Bool.and_eq_true, decide_eq_true_eq] at h4
      exact h4)
    have HH := Lib.hid (show (if (c.heads.length : Int) < h.epoch - 1 then (c, 10)
      else if h.epoch - 1 < (c.heads.length : Int) then (if hdAt c.heads (h.epoch - 1).toNat = h then (c, 0) else (c, 13))
      else if nextAns c.heads h.root = (h, 0) then ({ c with heads := c.heads ++ [h] }, 0) else (c, 13)) = (c', n) from by
      have hh := HA.out
      unfold seeAns at hh
      rw [if_pos HT3.out] at hh
      exact hh)
    obtain ⟨k, hk⟩ : ∃ k : Nat, h.epoch = (k : Int) + 1 := ⟨(h.epoch - 1).toNat, by have := (rightHead_facts HT3.out.1).1; omega⟩
    have HKE := Lib.hid hk
    clear hk HA
    have c1 : w1.cell? ⟨p, 1, none⟩ = some (.slice pv L cv) := HC1.out.own.cell 1 (by omega)
    have x0 : w1.cell? ⟨w.heap.size, 0, none⟩ = some (.int .i64 h.epoch) := HX1.out.cell 0 (by omega)
    have x1 : w1.cell? ⟨w.heap.size, 1, none⟩ = some (.string h.root) := HX1.out.cell 1 (by omega)
    have x2 : w1.cell? ⟨w.heap.size, 2, none⟩ = some (.string h.prev) := HX1.out.cell 2 (by omega)
    have HSS := Lib.hid (show ∀ u : World, Below w1.heap.size w1 u → (u.cell? ⟨p, 1, none⟩ = some (.slice pv L cv) ∧ u.cell? ⟨w.heap.size, 0, none⟩ = some (.int .i64 h.epoch) ∧ u.cell? ⟨w.heap.size, 1, none⟩ = some (.string h.root) ∧ u.cell? ⟨w.heap.size, 2, none⟩ = some (.string h.prev)) ∧ Below w1.heap.size w1 u from fun u hu =>
      ⟨⟨(hu.cell (p := ⟨p, 1, none⟩) HP1L.out).trans c1, (hu.cell (p := ⟨w.heap.size, 0, none⟩) HQ1L.out).trans x0, (hu.cell (p := ⟨w.heap.size, 1, none⟩) HQ1L.out).trans x1, (hu.cell (p := ⟨w.heap.size, 2, none⟩) HQ1L.out).trans x2⟩, hu⟩)
    go_wp2
    go_region_held3 (fun w' => (w'.cell? ⟨p, 1, none⟩ = some (.slice pv L cv) ∧ w'.cell? ⟨w.heap.size, 0, none⟩ = some (.int .i64 h.epoch) ∧ w'.cell? ⟨w.heap.size, 1, none⟩ = some (.string h.root) ∧ w'.cell? ⟨w.heap.size, 2, none⟩ = some (.string h.prev)) ∧ Below w1.heap.size w1 w')
      (first
        | exact HSS.out _ (Below.refl _ _).drew
        | exact HSS.out _ ((Below.refl _ _).alloc (Nat.le_refl _) _).drew
        | exact HSS.out _ ((Below.refl _ _).drew.alloc (Nat.le_refl _) _)
        | exact HSS.out _ ((((((Below.refl _ _).alloc (Nat.le_refl _) _).drew).setCell (Nat.le_refl _) _).setCell (Nat.le_refl _) _).setCell (Nat.le_refl _) _))
      (first | fail)
    rename_i hheld
    clear hheld c1 x0 x1 x2 HSS
    have HB2 := Lib.hid (show Below w1.heap.size w1 (w1.alloc (.cells #[.int .i64 h.epoch, .string h.root, .string h.prev] 52)).drew from ((Below.refl _ _).alloc (Nat.le_refl _) _).drew)
    have HY2 := Lib.hid (show Holds (w1.alloc (.cells #[.int .i64 h.epoch, .string h.root, .string h.prev] 52)).drew w1.heap.size 3 (hdF h) 52 from (Holds.new w1 3 (hdF h) 52).drew)
    generalize (w1.alloc (.cells #[.int .i64 h.epoch, .string h.root, .string h.prev] 52)).drew = w2 at HB2 HY2 ⊢
    have HBW := Lib.hid (HB1.out.trans (HB2.out.mono HB1.out.size))
    have HK2 := Lib.hid (HK1.out.below HB2.out HK1.out.lt)
    have HC2 := Lib.hid (HC1.out.same (same_of_below HB2.out HC1.out.lt))
    obtain ⟨q, hq⟩ : ∃ q, w1.heap.size = q := ⟨_, rfl⟩
    have HQE := Lib.hid (show w.heap.size ≤ q ∧ p < q from by rw [← hq]; exact ⟨HB1.out.size, HP1L.out⟩)
    rw [hq] at HY2 ⊢
    clear hq HC1 HX1 HK1 HP1L HQ1L HB1 HB2
    have HHD := Lib.hid (show Hds w2 pv c.heads from by
      obtain ⟨hn, A', cap', e', hd'⟩ := HC2.out.row.hds
      injection e' with e1' e2' e3'
      rw [e1']; exact hd')
    have y0 : w2.cell? ⟨q, 0, none⟩ = some (.int .i64 h.epoch) := HY2.out.cell 0 (by omega)
    have hee := HE.out
    by_cases g1 : (L : Int) + 1 < h.epoch
    · go_wp2
      go_ret
      have hh := HH.out
      rw [HLE.out, if_pos (by omega)] at hh
      obtain ⟨rfl, rfl⟩ := Prod.mk.inj hh
      exact ⟨rfl, F, Off.of_below HBW.out, Grew.refl _ _, ⟨_, HC2.out⟩⟩
    by_cases g2 : h.epoch ≤ (L : Int)
    · have hwk : wrap64 (h.epoch - 1) = (k : Int) := by have := HKE.out; unfold wrap64; omega
      have c1 : w2.cell? ⟨p, 1, none⟩ = some (.slice pv L cv) := HC2.out.own.cell 1 (by omega)
      obtain ⟨a, rfl, hal, b0, b1, b2⟩ := HHD.out.at_ (i := k) (by have := HLE.out; have := HKE.out; omega)
      have d1 : w2.cell? ⟨(a.add (k * 3)).block, (a.add (k * 3)).off + 1, none⟩ = some (.string (hdAt c.heads k).root) := b1
      have d2 : w2.cell? ⟨(a.add (k * 3)).block, (a.add (k * 3)).off + 2, none⟩ = some (.string (hdAt c.heads k).prev) := b2
      have y1 : w2.cell? ⟨q, 1, none⟩ = some (.string h.root) := HY2.out.cell 1 (by omega)
      have y2 : w2.cell? ⟨q, 2, none⟩ = some (.string h.prev) := HY2.out.cell 2 (by omega)
      obtain ⟨X, hX⟩ : ∃ X, hdAt c.heads k = X := ⟨_, rfl⟩
      rw [hX] at b0 d1 d2
      have HX := Lib.hid hX
      have hk0 : (0 : Int) ≤ (k : Int) := by omega
      have hk1 : (k : Int) < (L : Int) := by have := HKE.out; omega
      clear b1 b2 hX hal
      by_cases hxh : X = h
      · have hne : ∀ u : World, (binOp .neq 52 (.agg #[.int .i64 X.epoch, .string X.root, .string X.prev]) (.agg #[.int .i64 h.epoch, .string h.root, .string h.prev])).run Tryz.prog u = .ok (.bool false) u := fun u => by rw [run_neq_heads, decide_eq_true hxh]; rfl
        have HXH := Lib.hid hxh
        clear hxh
        go_wp2
        go_quiet (fail)
        go_wp2
        go_ret
        have hh := HH.out
        rw [HLE.out, if_neg (by omega), if_pos (by omega), show (h.epoch - 1).toNat = k by have := HKE.out; omega, HX.out, if_pos HXH.out] at hh
        obtain ⟨rfl, rfl⟩ := Prod.mk.inj hh
        exact ⟨rfl, F, (Off.of_below HBW.out).drewN _, Grew.refl _ _, ⟨_, HCW.out.same (same_of_below (below_drewP HBW.out _) HCW.out.lt)⟩⟩
      · have hne : ∀ u : World, (binOp .neq 52 (.agg #[.int .i64 X.epoch, .string X.root, .string X.prev]) (.agg #[.int .i64 h.epoch, .string h.root, .string h.prev])).run Tryz.prog u = .ok (.bool true) u := fun u => by rw [run_neq_heads, decide_eq_false hxh]; rfl
        have HXH := Lib.hid hxh
        clear hxh
        go_wp2
        go_quiet (fail)
        go_wp2
        go_ret
        have hh := HH.out
        rw [HLE.out, if_neg (by omega), if_pos (by omega), show (h.epoch - 1).toNat = k by have := HKE.out; omega, HX.out, if_neg HXH.out] at hh
        obtain ⟨rfl, rfl⟩ := Prod.mk.inj hh
        exact ⟨rfl, F, (Off.of_below HBW.out).drewN _, Grew.refl _ _, ⟨_, HCW.out.same (same_of_below (below_drewP HBW.out _) HCW.out.lt)⟩⟩
    have HKL := Lib.hid (show h.epoch = (L : Int) + 1 by omega)
    obtain ⟨Y, my, hn⟩ : ∃ Y m, nextAns c.heads h.root = (Y, m) := ⟨_, _, rfl⟩
    have HN := Lib.hid hn
    have HH' := Lib.hid (show (if (Y, my) = (h, (0 : Int)) then ({ c with heads := c.heads ++ [h] }, (0 : Int)) else (c, 13)) = (c', n) from by
      have hh := HH.out
      rw [HLE.out, if_neg (by omega), if_neg (by omega), hn] at hh
      exact hh)
    clear hn HH
    have c1 : w2.cell? ⟨p, 1, none⟩ = some (.slice pv L cv) := HC2.out.own.cell 1 (by omega)
    have y1 : w2.cell? ⟨q, 1, none⟩ = some (.string h.root) := HY2.out.cell 1 (by omega)
    have HP2L := Lib.hid (show p < w2.heap.size from HC2.out.own.lt)
    have HQ2L := Lib.hid (show q < w2.heap.size from HY2.out.lt)
    have HSS := Lib.hid (show ∀ u : World, Below w2.heap.size w2 u → (u.cell? ⟨p, 1, none⟩ = some (.slice pv L cv) ∧ u.cell? ⟨q, 1, none⟩ = some (.string h.root)) ∧ Below w2.heap.size w2 u from fun u hu =>
      ⟨⟨(hu.cell (p := ⟨p, 1, none⟩) HP2L.out).trans c1, (hu.cell (p := ⟨q, 1, none⟩) HQ2L.out).trans y1⟩, hu⟩)
    obtain ⟨E, hE⟩ : ∃ E, errOf my = E := ⟨_, rfl⟩
    have HEE := Lib.hid hE
    clear hE
    have HCALL := Lib.hid (show ∀ u : World, Below w2.heap.size w2 u → Calls Tryz.prog 73 #[.slice pv L cv, .string h.root] u (fun e w' => e = .returned (.tuple #[.agg #[.int .i64 Y.epoch, .string Y.root, .string Y.prev], E]) ∧ Below u.heap.size u w') from fun u hu => by
      have := pNext_is c.heads pv cv h.root Y my u (HK2.out.below hu HK2.out.lt) HL.out (HHD.out.below hu) HN.out
      rwa [HLE.out, HEE.out] at this)
    go_wp2
    go_region_held3 (fun w' => (w'.cell? ⟨p, 1, none⟩ = some (.slice pv L cv) ∧ w'.cell? ⟨q, 1, none⟩ = some (.string h.root)) ∧ Below w2.heap.size w2 w')
      (first
        | exact HSS.out _ (Below.refl _ _).drew
        | exact HSS.out _ ((Below.refl _ _).alloc (Nat.le_refl _) _).drew
        | exact HSS.out _ ((Below.refl _ _).drew.trans (hb3.mono (Nat.le_refl _)))
        | exact HSS.out _ (((Below.refl _ _).drew.trans (hb3.mono (Nat.le_refl _))).alloc hb3.size _)
        | exact HSS.out _ (((Below.refl _ _).alloc (Nat.le_refl _) _).drew.trans (hb3.mono (by simp)))
        | exact HSS.out _ ((((((Below.refl _ _).alloc (Nat.le_refl _) _).drew.trans (hb3.mono (by simp))).setCell (Nat.le_refl _) _).setCell (Nat.le_refl _) _).setCell (Nat.le_refl _) _))
      (first | (go_at_call 73; refine (HCALL.out _ (And.right (by assumption))).mono ?_; rintro e w3 ⟨rfl, hb3⟩; try (have hnew := newFacts hb3; obtain ⟨q0, q1, q2, f0, f1, f2⟩ := hnew)))
    all_goals
      first
        | (have HXB := Lib.hid (newHolds hb3 Y).1
           have HBX := Lib.hid (newHolds hb3 Y).2
           generalize (((w3.setCell ⟨w2.heap.size, 0, none⟩ (.int .i64 Y.epoch)).setCell ⟨w2.heap.size, 1, none⟩ (.string Y.root)).setCell ⟨w2.heap.size, 2, none⟩ (.string Y.prev)) = W at HXB HBX ⊢
           have v0 : W.cell? ⟨w2.heap.size, 0, none⟩ = some (.int .i64 Y.epoch) := HXB.out.cell 0 (by omega)
           have v1 : W.cell? ⟨w2.heap.size, 1, none⟩ = some (.string Y.root) := HXB.out.cell 1 (by omega)
           have v2 : W.cell? ⟨w2.heap.size, 2, none⟩ = some (.string Y.prev) := HXB.out.cell 2 (by omega)
           clear q0 q1 q2 f0 f1 f2)
        | (have HXB := Lib.hid (show Holds (w3.alloc (.cells #[.int .i64 Y.epoch, .string Y.root, .string Y.prev] 52)) w3.heap.size 3 (hdF Y) 52 from Holds.new w3 3 (hdF Y) 52)
           have HBX := Lib.hid (show Below w2.heap.size w2 (w3.alloc (.cells #[.int .i64 Y.epoch, .string Y.root, .string Y.prev] 52)) from ((Below.refl _ _).drew.trans (hb3.mono (Nat.le_refl _))).alloc hb3.size _)
           generalize (w3.alloc (.cells #[.int .i64 Y.epoch, .string Y.root, .string Y.prev] 52)) = W at HXB HBX ⊢
           have v0 : W.cell? ⟨w3.heap.size, 0, none⟩ = some (.int .i64 Y.epoch) := HXB.out.cell 0 (by omega)
           have v1 : W.cell? ⟨w3.heap.size, 1, none⟩ = some (.string Y.root) := HXB.out.cell 1 (by omega)
           have v2 : W.cell? ⟨w3.heap.size, 2, none⟩ = some (.string Y.prev) := HXB.out.cell 2 (by omega))
      rename_i hheld
      have HBT := Lib.hid (HBW.out.trans (HBX.out.mono HBW.out.size))
      have HYW := Lib.hid (HY2.out.below HBX.out HY2.out.lt)
      have HCT := Lib.hid (HC2.out.same (same_of_below HBX.out HC2.out.lt))
      clear hheld hb3 c1 y0 y1 HSS HCALL
      have l0 : W.cell? ⟨q, 0, none⟩ = some (.int .i64 h.epoch) := HYW.out.cell 0 (by omega)
      have l1 : W.cell? ⟨q, 1, none⟩ = some (.string h.root) := HYW.out.cell 1 (by omega)
      have l2 : W.cell? ⟨q, 2, none⟩ = some (.string h.prev) := HYW.out.cell 2 (by omega)
      by_cases hm0 : my = 0
      · have hEn : E = .nilIface := by rw [← HEE.out, hm0]; rfl
        subst hEn
        have HM0 := Lib.hid hm0
        clear hm0
        by_cases hyx : Y = h
        · have hne : ∀ u : World, (binOp .neq 52 (.agg #[.int .i64 Y.epoch, .string Y.root, .string Y.prev]) (.agg #[.int .i64 h.epoch, .string h.root, .string h.prev])).run Tryz.prog u = .ok (.bool false) u := fun u => by rw [run_neq_heads, decide_eq_true hyx]; rfl
          have HYX := Lib.hid hyx
          clear hyx
          have r0 : W.cell? ⟨p, 1, none⟩ = some (.slice pv L cv) := HCT.out.own.cell 1 (by omega)
          have z0 : ∀ z : SawZ p q (.slice pv L cv) h, z.at'.cell? ⟨p, 1, none⟩ = some (.slice pv L cv) := fun z => z.h0
          have z1 : ∀ z : SawZ p q (.slice pv L cv) h, z.at'.cell? ⟨q, 0, none⟩ = some (.int .i64 h.epoch) := fun z => z.h1
          have z2 : ∀ z : SawZ p q (.slice pv L cv) h, z.at'.cell? ⟨q, 1, none⟩ = some (.string h.root) := fun z => z.h2
          have z3 : ∀ z : SawZ p q (.slice pv L cv) h, z.at'.cell? ⟨q, 2, none⟩ = some (.string h.prev) := fun z => z.h3
          have zn : Nonempty (SawZ p q (.slice pv L cv) h) := ⟨⟨W.drew, r0, l0, l1, l2⟩⟩
          go_wp2
          refine wp_region_taken (fun w' => ∃ z : SawZ p q (.slice pv L cv) h, w' = z.at') [0, 1, 2, 3, 4, 5] [6, 7, 8, 9, 10] (by kernel_rfl) (by kernel_rfl) (by intro c d v a w h; cases d <;> exact h) ⟨⟨W.drew, r0, l0, l1, l2⟩, rfl⟩ ?_
          simp only [pickOps, List.filterMap_cons, List.filterMap_nil, List.getElem?_cons_zero, List.getElem?_cons_succ]
          repeat (first | go_big_quiet_step (fail) | quiet_step (fail))
          refine wpQuiet_nil ?_
          have HZZ := Lib.hid (show ∀ u : World, Below W.heap.size W u → ∃ z : SawZ p q (.slice pv L cv) h, u = z.at' from fun u hu =>
            ⟨⟨u, (hu.cell (p := ⟨p, 1, none⟩) HCT.out.own.lt).trans r0, (hu.cell (p := ⟨q, 0, none⟩) HYW.out.lt).trans l0, (hu.cell (p := ⟨q, 1, none⟩) HYW.out.lt).trans l1, (hu.cell (p := ⟨q, 2, none⟩) HYW.out.lt).trans l2⟩, rfl⟩)
          clear z0 z1 z2 z3 zn
          refine wpSeq_one rfl (fun K' hK => ?_)
          go_wp2
          refine hK _ _ (HZZ.out _ ((Below.refl _ _).alloc (Nat.le_refl _) _).drew) ?_
          clear hK K'
          have HROW := Lib.hid (show Row W.drew (p + 1) 3 (.slice pv L cv) L (hdCells c.heads) from by have := HCT.out.row.drew; rwa [HLE.out] at this)
          refine wpSeq_one rfl (fun K' hK => ?_)
          refine wpList_append_cells rfl (.tmp 65) (.tmp 67) 129 rfl 52 Tryz.underlying129 _ 3 40 infoHd rfl (by decide) (by decide) (p + 1) (.slice pv L cv) L (hdCells c.heads) rfl (HROW.out.alloc _) (by have := HCT.out.own.lt; simp; omega) hl h.cells rfl (by intro u hu; simp [Hd.cells] at hu; rcases hu with rfl | rfl | rfl <;> rfl) W.heap.size rfl 52 (heap_alloc_new _ _) ?_
          intro v7 w7 hrow7 hgrow7 hmove7
          obtain ⟨q7, cap7, rfl⟩ := hrow7.out.any
          have HPU := Lib.hid (PClM.pushed (u := W.drew) (h := h) (HCT.out.same ⟨Nat.le_refl _, fun _ _ => rfl⟩) (by rw [HLE.out]; exact hrow7.out) hgrow7.out hmove7.out)
          have HBLK := Lib.hid (show ∀ k, k < W.heap.size → (Value.slice pv L cv).ownBlock ≠ some k → w7.heap[k]? = W.heap[k]? from fun k hk hv =>
            (hgrow7.out.block k (by simp; omega) (fun e => hv e.symm)).trans ((alloc_below W.drew _).block k hk))
          have HPV := Lib.hid (show (Value.slice pv L cv).ownBlock ≠ some p from HCT.out.row.fresh (Nat.lt_succ_self p))
          have HQV := Lib.hid (show (Value.slice pv L cv).ownBlock ≠ some q from fun e => by have := HCW.out.lt _ (HCW.out.fv _ e); have := HQE.out.1; omega)
          have HZ7 := Lib.hid (show ∃ z : SawZ p q (.slice pv L cv) h, w7 = z.at' from by
            have b1 := HBLK.out p HCT.out.own.lt HPV.out
            have b2 := HBLK.out q HYW.out.lt HQV.out
            exact ⟨⟨w7, (World.cell?_of_block (w := W) (a := ⟨p, 1, none⟩) b1).trans r0, (World.cell?_of_block (w := W) (a := ⟨q, 0, none⟩) b2).trans l0, (World.cell?_of_block (w := W) (a := ⟨q, 1, none⟩) b2).trans l1, (World.cell?_of_block (w := W) (a := ⟨q, 2, none⟩) b2).trans l2⟩, rfl⟩)
          have HP7 := Lib.hid (show Holds w7 p 2 (pcF c.pub (.slice pv L cv)) 184 from by
            have h1 := HCT.out.own
            unfold Holds at h1 ⊢
            rw [HBLK.out p HCT.out.own.lt HPV.out]; exact h1)
          have t6 : w7.cell? ⟨p, 1, none⟩ = some (.slice pv L cv) := HP7.out.cell 1 (by omega)
          have t6f : w7.frozen? ⟨p, 1, none⟩ = false := HP7.out.free 1
          have HOFF := Lib.hid (show Off F w (w7.setCell ⟨p, 1, none⟩ (.slice q7 (L + 1) cap7)) from
            ((((Off.of_below HBT.out).drew.alloc _).trans (Off.of_grown hgrow7.out (F := F) (fun k hk => HCW.out.fv k hk)) (fun _ _ h => h)).setCell (.inr HCW.out.fp) _))
          clear r0 l0 l1 l2 v0 v1 v2
          refine hK _ _ HZ7.out ?_
          clear hK K'
          refine wpSeq_one rfl (fun K' hK => ?_)
          go_wp2
          refine hK _ _ HZ7.out ?_
          clear hK K'
          refine wpSeq_one rfl (fun K' hK => ?_)
          go_wp2
          refine hK _ _ HZ7.out ?_
          clear hK K'
          refine wpSeq_last rfl (fun K' hK => ?_)
          go_wp2
          refine hK _ _ ?_
          clear hK K' t6 t6f
          go_wp2
          go_ret
          have hh := HH'.out
          rw [if_pos (by rw [HYX.out, HM0.out])] at hh
          obtain ⟨rfl, rfl⟩ := Prod.mk.inj hh
          exact ⟨rfl, _, HOFF.out, (fun k hk => by
            rcases hk.1 with e | e
            · exact .inl e
            · exact .inr (Nat.le_trans HBT.out.size e)), ⟨_, HPU.out⟩⟩
        · have hne : ∀ u : World, (binOp .neq 52 (.agg #[.int .i64 Y.epoch, .string Y.root, .string Y.prev]) (.agg #[.int .i64 h.epoch, .string h.root, .string h.prev])).run Tryz.prog u = .ok (.bool true) u := fun u => by rw [run_neq_heads, decide_eq_false hyx]; rfl
          have HYX := Lib.hid hyx
          clear hyx
          go_wp2
          go_ret
          have hh := HH'.out
          rw [if_neg (fun e => HYX.out (Prod.mk.inj e).1)] at hh
          obtain ⟨rfl, rfl⟩ := Prod.mk.inj hh
          exact ⟨rfl, F, Off.of_below HBT.out, Grew.refl _ _, ⟨_, HCT.out⟩⟩
      · have hEn : E = .iface 28 (.int .i64 my) := by rw [← HEE.out]; unfold errOf; rw [if_neg hm0]
        subst hEn
        have HM0 := Lib.hid hm0
        clear hm0
        go_wp2
        go_ret
        have hh := HH'.out
        rw [if_neg (fun e => HM0.out (Prod.mk.inj e).2)] at hh
        obtain ⟨rfl, rfl⟩ := Prod.mk.inj hh
        exact ⟨rfl, F, Off.of_below HBT.out, Grew.refl _ _, ⟨_, HCT.out⟩⟩
end Go.Proofs.YtgjmbokfenpefaaGreatDoor
