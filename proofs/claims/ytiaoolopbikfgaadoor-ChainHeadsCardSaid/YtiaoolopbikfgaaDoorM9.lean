/- Parts of the proof, one behind the other: PNext, HeadEq, Times. -/
import Derived.Test.YtiaoolopbikfgaaDoorM8
import Derived.Test.YtiaoolopbikfgaaDoorM7
import Derived.Laws.StructEq
import Derived.Test.YtiaoolopbikfgaaDoorM2
import Derived.Test.YtiaoolopbikfgaaDoorProg
/- The program's Next. -/
namespace Go.Proofs.YtiaoolopbikfgaaDoor
open Go.RowKit

theorem none16_is : none16 = ⟨#[0, 0, 0, 0, 0, 0, 0, 0, 0, 0, 0, 0, 0, 0, 0, 0]⟩ := by unfold none16; rfl
theorem firstHd_is (root : ByteArray) : firstHd root = ⟨1, root, ⟨#[0, 0, 0, 0, 0, 0, 0, 0, 0, 0, 0, 0, 0, 0, 0, 0]⟩⟩ := by unfold firstHd; rw [none16_is]
/-- What Next begins with: an empty head as its answer, the first head in its own variable. -/
theorem next_begin (w : World) (root : ByteArray) (t : TypeId) :
    Below w.heap.size w ((w.alloc (.cells #[.int .i64 0, .string ⟨#[]⟩, .string ⟨#[]⟩] t)).alloc (.cells #[.int .i64 1, .string root, .string ⟨#[0, 0, 0, 0, 0, 0, 0, 0, 0, 0, 0, 0, 0, 0, 0, 0]⟩] t)) ∧
    Holds ((w.alloc (.cells #[.int .i64 0, .string ⟨#[]⟩, .string ⟨#[]⟩] t)).alloc (.cells #[.int .i64 1, .string root, .string ⟨#[0, 0, 0, 0, 0, 0, 0, 0, 0, 0, 0, 0, 0, 0, 0, 0]⟩] t)) w.heap.size 3 (hdF noHd) t ∧
    Holds ((w.alloc (.cells #[.int .i64 0, .string ⟨#[]⟩, .string ⟨#[]⟩] t)).alloc (.cells #[.int .i64 1, .string root, .string ⟨#[0, 0, 0, 0, 0, 0, 0, 0, 0, 0, 0, 0, 0, 0, 0, 0]⟩] t)) (w.heap.size + 1) 3 (hdF (firstHd root)) t := by
  refine ⟨((Below.refl _ w).alloc (Nat.le_refl _) _).alloc (by simp) _, (Holds.new w 3 (hdF noHd) t).alloc _, ?_⟩
  have h := Holds.new (w.alloc (.cells #[.int .i64 0, .string ⟨#[]⟩, .string ⟨#[]⟩] t)) 3 (hdF (firstHd root)) t
  rw [World.size_alloc] at h
  rw [firstHd_is] at h ⊢
  exact h
theorem head_stored {w0 w4 : World} {rb : Nat} {t : TypeId} {x : Hd} (h : Holds w4 rb 3 (hdF x) t) (hb : Below w0.heap.size w0 w4) (hr : w0.heap.size ≤ rb) (y : Hd) :
    Holds (((w4.setCell ⟨rb, 0, none⟩ (.int .i64 y.epoch)).setCell ⟨rb, 1, none⟩ (.string y.root)).setCell ⟨rb, 2, none⟩ (.string y.prev)) rb 3 (hdF y) t ∧
    Below w0.heap.size w0 (((w4.setCell ⟨rb, 0, none⟩ (.int .i64 y.epoch)).setCell ⟨rb, 1, none⟩ (.string y.root)).setCell ⟨rb, 2, none⟩ (.string y.prev)) := by
  refine ⟨(((h.set 0 _).set 1 _).set 2 _).congr fun i hi => ?_, ((hb.setCell hr _).setCell hr _).setCell hr _⟩
  rcases (show i = 0 ∨ i = 1 ∨ i = 2 by omega) with rfl | rfl | rfl <;> simp [upd, hdF]

set_option maxHeartbeats 1000000 in
set_option maxRecDepth 100000 in
theorem pNext_good (L : List Hd) (A : Option Addr) (cap : Nat) (root : ByteArray) (y : Hd) (n : Int) (w : World) (hk : HasK w) (hl : L.length ≤ 1000000) (hm : Hds w A L) (hr : 0 < L.length → rightHead (hdAt L (L.length - 1)) = true) (h : nextAns L root = (y, n)) :
    Calls Tryd.prog 14 #[.slice A L.length cap, .string root] w fun e w' => e = .returned (.tuple #[.agg #[.int .i64 y.epoch, .string y.root, .string y.prev], errOf n]) ∧ Below w.heap.size w w' := by
  have HK := Lib.hid hk
  have HM := Lib.hid hm
  have hans := nextAns_upto (root := root) hr
  rw [h] at hans
  obtain ⟨HB2, HS2, HF2⟩ := (⟨Lib.hid (next_begin w root 31).1, Lib.hid (next_begin w root 31).2.1, Lib.hid (next_begin w root 31).2.2⟩ : Hid _ ∧ Hid _ ∧ Hid _)
  clear h hk hm
  have HE0 := Lib.hid (show errOf 0 = Value.nilIface from rfl)
  by_cases h0 : 0 < L.length
  case' neg =>
    have hz : nextUpto L root L.length = firstHd root := by unfold nextUpto; rw [if_neg (by omega)]
    rw [hz] at hans
    have h0' : ¬ (0 : Int) < (L.length : Int) := by omega
    clear hz
    generalize firstHd root = Z at hans HF2
    have HANS := Lib.hid hans
    clear hans hr h0
    go_enter Tryd.func14, Tryd.ntmps14
    have c0 := HF2.out.cell 0 (by omega)
    have c1 := HF2.out.cell 1 (by omega)
    have c2 := HF2.out.cell 2 (by omega)
    have d0 := show _ = some (Value.int .i64 Z.epoch) from c0
    have d1 := show _ = some (Value.string Z.root) from c1
    have d2 := show _ = some (Value.string Z.prev) from c2
    clear c0 c1 c2
    go_wp2_with fail
    clear d0 d1 d2
    generalize ((w.alloc (.cells #[.int .i64 0, .string ⟨#[]⟩, .string ⟨#[]⟩] 31)).alloc (.cells #[.int .i64 1, .string root, .string ⟨#[0, 0, 0, 0, 0, 0, 0, 0, 0, 0, 0, 0, 0, 0, 0, 0]⟩] 31)) = w5 at HB2 HS2 HF2
    have HB5 := HB2
    have HS5 := HS2
    have HF5 := HF2
    clear HB2 HS2 HF2
  case' pos =>
    obtain ⟨k, hk⟩ : ∃ k, k + 1 = L.length := ⟨L.length - 1, by omega⟩
    have hlt : k < L.length := by omega
    have h0' : (0 : Int) < (L.length : Int) := by omega
    have hrx : rightHead (hdAt L k) = true := by have := hr h0; rwa [show L.length - 1 = k by omega] at this
    have hz : nextUpto L root L.length = afterHd (hdAt L k) root := by rw [← hk]; exact nextUpto_last hk
    rw [hz] at hans
    have hwk : IntKind.i64.wrap ((L.length : Int) - 1) = (k : Int) := by rw [IntWalk.i64_in _ (by omega)]; omega
    have hk0 : (0 : Int) ≤ (k : Int) := by omega
    have hk1 : (k : Int) < (L.length : Int) := by omega
    obtain ⟨a, rfl, hal, x0, x1, x2⟩ := (HM.out.below HB2.out).at_ hlt
    have d1 : ((w.alloc (.cells #[.int .i64 0, .string ⟨#[]⟩, .string ⟨#[]⟩] 31)).alloc (.cells #[.int .i64 1, .string root, .string ⟨#[0, 0, 0, 0, 0, 0, 0, 0, 0, 0, 0, 0, 0, 0, 0, 0]⟩] 31)).cell? ⟨(a.add (k * 3)).block, (a.add (k * 3)).off + 1, none⟩ = some (.string (hdAt L k).root) := x1
    have d2 : ((w.alloc (.cells #[.int .i64 0, .string ⟨#[]⟩, .string ⟨#[]⟩] 31)).alloc (.cells #[.int .i64 1, .string root, .string ⟨#[0, 0, 0, 0, 0, 0, 0, 0, 0, 0, 0, 0, 0, 0, 0, 0]⟩] 31)).cell? ⟨(a.add (k * 3)).block, (a.add (k * 3)).off + 2, none⟩ = some (.string (hdAt L k).prev) := x2
    clear x1 x2 hal hz hk hr h0
    generalize hdAt L k = X at x0 d1 d2 hrx hans
    have HANS := Lib.hid hans
    have HRX := Lib.hid hrx
    have HZ := Lib.hid (show afterHd X root = ⟨wrap64 (X.epoch + 1), root, headMark X⟩ from rfl)
    have HMA := Lib.hid (show headMarkAns X = (headMark X, 0) by unfold headMarkAns; rw [if_pos hrx])
    clear hans hrx
    go_enter Tryd.func14, Tryd.ntmps14
    have HB3 := Lib.hid (HB2.out.alloc HB2.out.size (.cells #[.int .i64 X.epoch, .string X.root, .string X.prev] 31))
    have HS3 := Lib.hid (HS2.out.alloc (.cells #[.int .i64 X.epoch, .string X.root, .string X.prev] 31))
    have HF3 := Lib.hid (HF2.out.alloc (.cells #[.int .i64 X.epoch, .string X.root, .string X.prev] 31))
    have HX3 := Lib.hid (show Holds (((w.alloc (.cells #[.int .i64 0, .string ⟨#[]⟩, .string ⟨#[]⟩] 31)).alloc (.cells #[.int .i64 1, .string root, .string ⟨#[0, 0, 0, 0, 0, 0, 0, 0, 0, 0, 0, 0, 0, 0, 0, 0]⟩] 31)).alloc (.cells #[.int .i64 X.epoch, .string X.root, .string X.prev] 31)) (w.heap.size + 1 + 1) 3 (hdF X) 31 from by
      have h := Holds.new ((w.alloc (.cells #[.int .i64 0, .string ⟨#[]⟩, .string ⟨#[]⟩] 31)).alloc (.cells #[.int .i64 1, .string root, .string ⟨#[0, 0, 0, 0, 0, 0, 0, 0, 0, 0, 0, 0, 0, 0, 0, 0]⟩] 31)) 3 (hdF X) 31
      rw [World.size_alloc, World.size_alloc] at h
      exact h)
    go_wp2_with fail
    clear x0 d1 d2
    generalize (((w.alloc (.cells #[.int .i64 0, .string ⟨#[]⟩, .string ⟨#[]⟩] 31)).alloc (.cells #[.int .i64 1, .string root, .string ⟨#[0, 0, 0, 0, 0, 0, 0, 0, 0, 0, 0, 0, 0, 0, 0, 0]⟩] 31)).alloc (.cells #[.int .i64 X.epoch, .string X.root, .string X.prev] 31)) = w3 at HB3 HS3 HF3 HX3
    refine (pHdMark_is X (headMark X) 0 _ (HK.out.below HB3.out HK.out.lt) HMA.out).mono ?_
    rintro e w4 ⟨rfl, hb4⟩
    rw [HE0.out]
    have HB4 := Lib.hid (HB3.out.trans (hb4.mono HB3.out.size))
    have HS4 := Lib.hid (HS3.out.below hb4 HS3.out.lt)
    have HF4 := Lib.hid (HF3.out.below hb4 HF3.out.lt)
    have HX4 := Lib.hid (HX3.out.below hb4 HX3.out.lt)
    clear hb4
    have x0 : w4.cell? ⟨w.heap.size + 1 + 1, 0, none⟩ = some (.int .i64 X.epoch) := HX4.out.cell 0 (by omega)
    have q0 : w4.cell? ⟨w.heap.size + 1, 0, none⟩ = some (.int .i64 (firstHd root).epoch) := HF4.out.cell 0 (by omega)
    have q2 : w4.cell? ⟨w.heap.size + 1, 2, none⟩ = some (.string (firstHd root).prev) := HF4.out.cell 2 (by omega)
    have f0 : w4.frozen? ⟨w.heap.size + 1, 0, none⟩ = false := HF4.out.free 0
    have f2 : w4.frozen? ⟨w.heap.size + 1, 2, none⟩ = false := HF4.out.free 2
    have HB5 := Lib.hid (show Below w.heap.size w ((w4.setCell ⟨w.heap.size + 1, 0, none⟩ (.int .i64 (wrap64 (X.epoch + 1)))).setCell ⟨w.heap.size + 1, 2, none⟩ (.string (headMark X))) from (HB4.out.setCell (Nat.le_succ _) _).setCell (Nat.le_succ _) _)
    have HS5 := Lib.hid (show Holds ((w4.setCell ⟨w.heap.size + 1, 0, none⟩ (.int .i64 (wrap64 (X.epoch + 1)))).setCell ⟨w.heap.size + 1, 2, none⟩ (.string (headMark X))) w.heap.size 3 (hdF noHd) 31 from (HS4.out.other (by show w.heap.size ≠ w.heap.size + 1; omega) _).other (by show w.heap.size ≠ w.heap.size + 1; omega) _)
    have HF5 := Lib.hid (show Holds ((w4.setCell ⟨w.heap.size + 1, 0, none⟩ (.int .i64 (wrap64 (X.epoch + 1)))).setCell ⟨w.heap.size + 1, 2, none⟩ (.string (headMark X))) (w.heap.size + 1) 3 (hdF (afterHd X root)) 31 from by
      refine ((HF4.out.set 0 _).set 2 _).congr fun i hi => ?_
      rcases (show i = 0 ∨ i = 1 ∨ i = 2 by omega) with rfl | rfl | rfl <;> simp [upd, hdF, afterHd, firstHd])
    generalize afterHd X root = Z at HANS HF5
    have d0 : ((w4.setCell ⟨w.heap.size + 1, 0, none⟩ (.int .i64 (wrap64 (X.epoch + 1)))).setCell ⟨w.heap.size + 1, 2, none⟩ (.string (headMark X))).cell? ⟨w.heap.size + 1, 0, none⟩ = some (.int .i64 Z.epoch) := HF5.out.cell 0 (by omega)
    have d1 : ((w4.setCell ⟨w.heap.size + 1, 0, none⟩ (.int .i64 (wrap64 (X.epoch + 1)))).setCell ⟨w.heap.size + 1, 2, none⟩ (.string (headMark X))).cell? ⟨w.heap.size + 1, 1, none⟩ = some (.string Z.root) := HF5.out.cell 1 (by omega)
    have d2 : ((w4.setCell ⟨w.heap.size + 1, 0, none⟩ (.int .i64 (wrap64 (X.epoch + 1)))).setCell ⟨w.heap.size + 1, 2, none⟩ (.string (headMark X))).cell? ⟨w.heap.size + 1, 2, none⟩ = some (.string Z.prev) := HF5.out.cell 2 (by omega)
    go_wp2_with fail
    clear d0 d1 d2 x0 q0 q2 f0 f2
    generalize ((w4.setCell ⟨w.heap.size + 1, 0, none⟩ (.int .i64 (wrap64 (X.epoch + 1)))).setCell ⟨w.heap.size + 1, 2, none⟩ (.string (headMark X))) = w5 at HB5 HS5 HF5
  all_goals
    refine (pHdRight_any Z _).mono ?_
    rintro e w6 ⟨rfl, hb6⟩
    have HB6 := Lib.hid (HB5.out.trans (hb6.mono HB5.out.size))
    have HS6 := Lib.hid (HS5.out.below hb6 HS5.out.lt)
    have HF6 := Lib.hid (HF5.out.below hb6 HF5.out.lt)
    clear hb6
    have p0 : w6.cell? ⟨w.heap.size, 0, none⟩ = some (.int .i64 0) := HS6.out.cell 0 (by omega)
    have p1 : w6.cell? ⟨w.heap.size, 1, none⟩ = some (.string ⟨#[]⟩) := HS6.out.cell 1 (by omega)
    have p2 : w6.cell? ⟨w.heap.size, 2, none⟩ = some (.string ⟨#[]⟩) := HS6.out.cell 2 (by omega)
    have f0 : w6.frozen? ⟨w.heap.size, 0, none⟩ = false := HS6.out.free 0
    have f1 : w6.frozen? ⟨w.heap.size, 1, none⟩ = false := HS6.out.free 1
    have f2 : w6.frozen? ⟨w.heap.size, 2, none⟩ = false := HS6.out.free 2
    by_cases hzz : rightHead Z = true
    · have hans := HANS.out
      rw [if_pos hzz] at hans
      obtain ⟨rfl, rfl⟩ := Prod.mk.inj hans
      rw [hzz]
      clear hans hzz
      have c0 : w6.cell? ⟨w.heap.size + 1, 0, none⟩ = some (.int .i64 y.epoch) := HF6.out.cell 0 (by omega)
      have c1 : w6.cell? ⟨w.heap.size + 1, 1, none⟩ = some (.string y.root) := HF6.out.cell 1 (by omega)
      have c2 : w6.cell? ⟨w.heap.size + 1, 2, none⟩ = some (.string y.prev) := HF6.out.cell 2 (by omega)
      have HFIN := Lib.hid (head_stored HS6.out HB6.out (Nat.le_refl _) y)
      go_wp2
      refine bodyPost_ret (results_row2 rfl _ _ w.heap.size 31 (arr 3 (hdF y)) (0, 0) _ rfl HFIN.out.1 Tryd.underlying31 rfl (by rw [arr_size]; exact infoHead)) rfl ?_
      exact ⟨rfl, HFIN.out.2⟩
    · have hans := HANS.out
      rw [if_neg hzz] at hans
      obtain ⟨rfl, rfl⟩ := Prod.mk.inj hans
      have hz' : rightHead Z = false := by simpa using hzz
      rw [hz']
      clear hans hzz hz'
      have HFIN := Lib.hid (head_stored HS6.out HB6.out (Nat.le_refl _) noHd)
      go_wp2
      refine bodyPost_ret (results_row2 rfl _ _ w.heap.size 31 (arr 3 (hdF noHd)) (0, 0) _ rfl HFIN.out.1 Tryd.underlying31 rfl (by rw [arr_size]; exact infoHead)) rfl ?_
      exact ⟨rfl, HFIN.out.2⟩
set_option maxHeartbeats 1000000 in
set_option maxRecDepth 100000 in
theorem pNext_bad (L : List Hd) (A : Option Addr) (cap : Nat) (root : ByteArray) (w : World) (hk : HasK w) (hl : L.length ≤ 1000000) (hm : Hds w A L) (h0 : 0 < L.length) (hr : rightHead (hdAt L (L.length - 1)) = false) :
    Calls Tryd.prog 14 #[.slice A L.length cap, .string root] w fun e w' => e = .returned (.tuple #[.agg #[.int .i64 0, .string ⟨#[]⟩, .string ⟨#[]⟩], errOf 1]) ∧ Below w.heap.size w w' := by
  have HK := Lib.hid hk
  have HM := Lib.hid hm
  obtain ⟨HB2, HS2⟩ := (⟨Lib.hid (next_begin w root 31).1, Lib.hid (next_begin w root 31).2.1⟩ : Hid _ ∧ Hid _)
  have HE1 := Lib.hid (show errOf 1 = Value.iface 27 (.int .i64 1) from rfl)
  obtain ⟨k, hkl⟩ : ∃ k, k + 1 = L.length := ⟨L.length - 1, by omega⟩
  have hlt : k < L.length := by omega
  have h0' : (0 : Int) < (L.length : Int) := by omega
  have hrx : rightHead (hdAt L k) = false := by rwa [show L.length - 1 = k by omega] at hr
  have hwk : IntKind.i64.wrap ((L.length : Int) - 1) = (k : Int) := by rw [IntWalk.i64_in _ (by omega)]; omega
  have hk0 : (0 : Int) ≤ (k : Int) := by omega
  have hk1 : (k : Int) < (L.length : Int) := by omega
  obtain ⟨a, rfl, hal, x0, x1, x2⟩ := (HM.out.below HB2.out).at_ hlt
  have d1 : ((w.alloc (.cells #[.int .i64 0, .string ⟨#[]⟩, .string ⟨#[]⟩] 31)).alloc (.cells #[.int .i64 1, .string root, .string ⟨#[0, 0, 0, 0, 0, 0, 0, 0, 0, 0, 0, 0, 0, 0, 0, 0]⟩] 31)).cell? ⟨(a.add (k * 3)).block, (a.add (k * 3)).off + 1, none⟩ = some (.string (hdAt L k).root) := x1
  have d2 : ((w.alloc (.cells #[.int .i64 0, .string ⟨#[]⟩, .string ⟨#[]⟩] 31)).alloc (.cells #[.int .i64 1, .string root, .string ⟨#[0, 0, 0, 0, 0, 0, 0, 0, 0, 0, 0, 0, 0, 0, 0, 0]⟩] 31)).cell? ⟨(a.add (k * 3)).block, (a.add (k * 3)).off + 2, none⟩ = some (.string (hdAt L k).prev) := x2
  clear x1 x2 hal hkl hr h0 hk hm
  generalize hdAt L k = X at x0 d1 d2 hrx
  have HMA := Lib.hid (show headMarkAns X = (⟨#[]⟩, 1) by unfold headMarkAns; rw [hrx]; rfl)
  clear hrx
  go_enter Tryd.func14, Tryd.ntmps14
  have HB3 := Lib.hid (HB2.out.alloc HB2.out.size (.cells #[.int .i64 X.epoch, .string X.root, .string X.prev] 31))
  have HS3 := Lib.hid (HS2.out.alloc (.cells #[.int .i64 X.epoch, .string X.root, .string X.prev] 31))
  go_wp2_with fail
  clear x0 d1 d2
  generalize (((w.alloc (.cells #[.int .i64 0, .string ⟨#[]⟩, .string ⟨#[]⟩] 31)).alloc (.cells #[.int .i64 1, .string root, .string ⟨#[0, 0, 0, 0, 0, 0, 0, 0, 0, 0, 0, 0, 0, 0, 0, 0]⟩] 31)).alloc (.cells #[.int .i64 X.epoch, .string X.root, .string X.prev] 31)) = w3 at HB3 HS3
  refine (pHdMark_is X ⟨#[]⟩ 1 _ (HK.out.below HB3.out HK.out.lt) HMA.out).mono ?_
  rintro e w6 ⟨rfl, hb4⟩
  rw [HE1.out]
  have HB6 := Lib.hid (HB3.out.trans (hb4.mono HB3.out.size))
  have HS6 := Lib.hid (HS3.out.below hb4 HS3.out.lt)
  clear hb4
  have p0 : w6.cell? ⟨w.heap.size, 0, none⟩ = some (.int .i64 0) := HS6.out.cell 0 (by omega)
  have p1 : w6.cell? ⟨w.heap.size, 1, none⟩ = some (.string ⟨#[]⟩) := HS6.out.cell 1 (by omega)
  have p2 : w6.cell? ⟨w.heap.size, 2, none⟩ = some (.string ⟨#[]⟩) := HS6.out.cell 2 (by omega)
  have f0 : w6.frozen? ⟨w.heap.size, 0, none⟩ = false := HS6.out.free 0
  have f1 : w6.frozen? ⟨w.heap.size, 1, none⟩ = false := HS6.out.free 1
  have f2 : w6.frozen? ⟨w.heap.size, 2, none⟩ = false := HS6.out.free 2
  have HFIN := Lib.hid (head_stored HS6.out HB6.out (Nat.le_refl _) noHd)
  go_wp2
  refine bodyPost_ret (results_row2 rfl _ _ w.heap.size 31 (arr 3 (hdF noHd)) (0, 0) _ rfl HFIN.out.1 Tryd.underlying31 rfl (by rw [arr_size]; exact infoHead)) rfl ?_
  exact ⟨rfl, HFIN.out.2⟩
theorem pNext_is (L : List Hd) (A : Option Addr) (cap : Nat) (root : ByteArray) (y : Hd) (n : Int) (w : World) (hk : HasK w) (hl : L.length ≤ 1000000) (hm : Hds w A L) (h : nextAns L root = (y, n)) :
    Calls Tryd.prog 14 #[.slice A L.length cap, .string root] w fun e w' => e = .returned (.tuple #[.agg #[.int .i64 y.epoch, .string y.root, .string y.prev], errOf n]) ∧ Below w.heap.size w w' := by
  by_cases hr : 0 < L.length → rightHead (hdAt L (L.length - 1)) = true
  · exact pNext_good L A cap root y n w hk hl hm hr h
  · have h0 : 0 < L.length := Classical.byContradiction fun e => hr fun h => absurd h e
    have hf : rightHead (hdAt L (L.length - 1)) = false := by
      cases e : rightHead (hdAt L (L.length - 1)) with
      | true => exact absurd (fun _ => e) hr
      | false => rfl
    obtain ⟨k, hkl⟩ : ∃ k, k + 1 = L.length := ⟨L.length - 1, by omega⟩
    have hb := nextAns_bad (root := root) hkl (by rwa [show L.length - 1 = k by omega] at hf)
    rw [hb] at h
    obtain ⟨rfl, rfl⟩ := Prod.mk.inj h
    exact pNext_bad L A cap root w hk hl hm h0 hf
end Go.Proofs.YtiaoolopbikfgaaDoor
/- Two heads, compared. -/
namespace Go.Proofs.YtiaoolopbikfgaaDoor
open Go.RowKit

theorem hd_eq_iff (a b : Hd) : a = b ↔ a.epoch = b.epoch ∧ a.root = b.root ∧ a.prev = b.prev :=
  ⟨fun h => by rw [h]; exact ⟨rfl, rfl, rfl⟩, fun h => by cases a; cases b; simp_all⟩
theorem stood : Tryd.prog.stoodInHeld 31 = false := by kernel_rfl
theorem headFields : Tryd.prog.underlying 31 = some (.struct (Tryd.prog.fieldsOf 31)) := by kernel_rfl
theorem text_ne {a b : ByteArray} (h : ¬ a = b) : (a.toList == b.toList) = false := by
  rw [beq_eq_false_iff_ne]
  intro e
  rw [ByteArray.toList_eq, ByteArray.toList_eq] at e
  exact h (text_of e)
theorem text_same (a : ByteArray) : (a.toList == a.toList) = true := by simp
set_option maxHeartbeats 1000000 in
theorem run_neq_heads (a b : Hd) (w : World) :
    (binOp .neq 31 (.agg #[.int .i64 a.epoch, .string a.root, .string a.prev]) (.agg #[.int .i64 b.epoch, .string b.root, .string b.prev])).run Tryd.prog w = .ok (.bool (!decide (a = b))) w := by
  rw [run_neq_struct, run_equalIn_agg _ 9999 _ _ _ headFields stood]
  by_cases h1 : a.epoch = b.epoch
  · by_cases h2 : a.root = b.root
    · by_cases h3 : a.prev = b.prev
      · have e : decide (a = b) = true := by simp [hd_eq_iff, h1, h2, h3]
        rw [e, h1, h2, h3]
        go_simp
      · have e : decide (a = b) = false := by simp [hd_eq_iff, h3]
        have e3 := text_ne h3
        rw [e, h1, h2]
        go_simp
    · have e : decide (a = b) = false := by simp [hd_eq_iff, h2]
      have e3 := text_ne h2
      rw [e, h1]
      go_simp
  · have e : decide (a = b) = false := by simp [hd_eq_iff, h1]
    have e3 : (a.epoch == b.epoch) = false := by rw [beq_eq_false_iff_ne]; exact h1
    rw [e]
    go_simp
end Go.Proofs.YtiaoolopbikfgaaDoor
/- The document's numbers of rounds: times, above, root. -/
namespace Go.Proofs.YtiaoolopbikfgaaDoor
open Go.RowKit

def u64s (l : List Nat) : List Value := l.map fun (n : Nat) => Value.int .u64 (n : Int)
theorem u64s_length (l : List Nat) : (u64s l).length = l.length := by simp [u64s]
theorem u64s_append (l m : List Nat) : u64s (l ++ m) = u64s l ++ u64s m := by simp [u64s]
theorem u64s_get (l : List Nat) (i : Nat) (h : i < l.length) : (u64s l)[i]? = some (.int .u64 ((l.getD i 0 : Nat) : Int)) := by simp [u64s, List.getD_eq_getElem?_getD, h]
theorem infoU64 : (Tryd.prog.info? 56).map (fun i => (i.zero, i.size, i.bytes)) = some (some (.int .u64 0), 1, 8) := by kernel_rfl

/-- What is left of a number, digit by digit of 2^16. -/
def digs : Nat → Nat → List Nat
  | 0, _ => []
  | f + 1, c => if c = 0 then [] else (c % 65536) :: digs f (c / 65536)
def timesL (x : Nat) : List Nat → Nat → List Nat
  | [], c => digs 4 c
  | d :: l, c => ((c + d * x) % 65536) :: timesL x l ((c + d * x) / 65536)
theorem digs_step (f c : Nat) (h : 0 < c) : digs (f + 1) c = (c % 65536) :: digs f (c / 65536) := by
  show (if c = 0 then [] else _) = _; rw [if_neg (by omega)]
theorem digs_zero (f : Nat) : digs f 0 = [] := by cases f <;> simp [digs]
/-- Digits of 2^16. -/
def Small (l : List Nat) : Prop := ∀ i, l.getD i 0 < 65536
def sliceN : Value → Nat | .slice _ n _ => n | _ => 0

structure TimesRel (N : Nat) (w wr : World) (v : Value) (done : List Nat) : Prop where
  below : Below N w wr
  row : Row wr N 1 v done.length (u64s done)
theorem TimesRel.grow {N : Nat} {w wr w' : World} {v v' : Value} {l : List Nat} {c : Nat} (h : TimesRel N w wr v l) (hN : N ≤ w.heap.size)
    (hr : Row w' N 1 v' (l.length + 1) (u64s l ++ [.int .u64 (c : Int)])) (hg : wr.grownBy w' v.ownBlock) : TimesRel N w w' v' (l ++ [c]) :=
  ⟨grown_below h.below h.row hg (Nat.le_refl _) (Nat.le_trans hN h.below.size), by simpa [u64s] using hr⟩

set_option maxRecDepth 100000 in
theorem times_any (vs : List Nat) (p : Option Addr) (cap x : Nat) (w : World) (hx : x ≤ 1099511627776) (hsm : Small vs) (hn : vs.length ≤ 1000)
    (hc : ∀ i, i < vs.length → ∃ g, p = some ⟨g, 0, none⟩ ∧ g < w.heap.size ∧ w.cell? ⟨g, i, none⟩ = some (.int .u64 ((vs.getD i 0 : Nat) : Int))) :
    Calls Tryd.prog 45 #[.slice p vs.length cap, .int .u64 (x : Int)] w fun e w' => ∃ v, e = .returned v ∧ TimesRel w.heap.size w w' v (timesL x vs 0) := by
  have HC := Lib.hid hc
  have HS := Lib.hid hsm
  clear hc hsm
  go_enter Tryd.func45, Tryd.ntmps45
  go_wp2
  go_loopw [5, 6, 7] (fun out c i wr => ∃ (cn k f : Nat) (done : List Nat), c = .int .u64 (cn : Int) ∧ i = .int .i64 (k : Int) ∧ cn < 4398046511104 ∧ k ≤ vs.length + 4 ∧
      (k < vs.length → done ++ timesL x (vs.drop k) cn = timesL x vs 0) ∧ (vs.length ≤ k → f + k = vs.length + 4 ∧ cn < 65536 ^ f ∧ done ++ digs f cn = timesL x vs 0) ∧ done.length = k ∧ TimesRel w.heap.size w wr out done)
    (fun _ _ i _ => vs.length + 4 - (intOf i).toNat)
  case atStart =>
    refine ⟨0, 0, 4 + vs.length, [], rfl, rfl, by omega, by omega, fun _ => rfl, fun h => ?_, rfl, ⟨Below.refl _ _, show Row w w.heap.size 1 (.slice none 0 0) 0 [] from Row.nil _ _ _⟩⟩
    have h0 : vs.length = 0 := by omega
    have e : vs = [] := List.eq_nil_of_length_eq_zero h0
    rw [h0, e]; exact ⟨rfl, by omega, rfl⟩
  case round =>
    obtain ⟨cn, k, f, done, rfl, rfl, hcn, hk, h1, h2, hdl, hr⟩ := hrel
    have H1 := Lib.hid h1
    have H2 := Lib.hid h2
    have HR := Lib.hid hr
    clear h1 h2 hr
    by_cases hlt : k < vs.length
    · obtain ⟨g, rfl, hg, hcell⟩ := HC.out k hlt
      have hc1 : wr.cell? ⟨g, k, none⟩ = some (.int .u64 ((vs.getD k 0 : Nat) : Int)) := by rw [HR.out.below.cell hg]; exact hcell
      have hd := HS.out k
      generalize hdk : vs.getD k 0 = d at hc1 hd
      obtain ⟨m, hm⟩ : ∃ m : Nat, d * x = m := ⟨_, rfl⟩
      have hmb : m ≤ 72056494526300160 := by
        rw [← hm]
        exact Nat.le_trans (Nat.mul_le_mul (show d ≤ 65535 by omega) hx) (by omega)
      have hmul : IntKind.u64.wrap ((d : Int) * (x : Int)) = (m : Int) := by
        rw [← Int.natCast_mul, hm]; simp [IntKind.wrap, IntKind.bits, IntKind.signed]; omega
      have HM := Lib.hid hm
      have HD := Lib.hid hdk
      have HDL := Lib.hid hdl
      clear hm hcell hdk hdl
      go_wp2_with (at_builtin; refine wpList_append_one rfl (.tmp 32) (.tmp 35) 93 rfl 56 Tryd.underlying93 (.int .u64 0) 8 infoU64 rfl (by decide) w.heap.size _ done.length _ rfl HR.out.row HR.out.below.size (by have := HDL.out; omega) _ rfl rfl 56 ?_; intro v3 w3 hr3 hg3)
      go_wp2
      go_roundw
      case rel =>
        have hgr := HR.out.grow (c := (cn + m) % 65536) (Nat.le_refl _) (by have := hr3.out; rwa [show ((cn : Int) + (m : Int)) % 65536 = (((cn + m) % 65536 : Nat) : Int) from by omega] at this) hg3.out
        have hlist := H1.out hlt
        have hdrop : vs.drop k = d :: vs.drop (k + 1) := by
          rw [List.drop_eq_getElem_cons hlt]; congr 1
          have := HD.out; rw [List.getD_eq_getElem?_getD, List.getElem?_eq_getElem hlt] at this; exact this
        rw [hdrop] at hlist
        simp only [timesL, HM.out] at hlist
        refine ⟨(cn + m) / 65536, k + 1, vs.length + 4 - (k + 1), done ++ [(cn + m) % 65536], by rw [show ((cn : Int) + (m : Int)) / 65536 = (((cn + m) / 65536 : Nat) : Int) from by omega], by go_num, by omega, by omega, fun h => ?_, fun h => ?_, by rw [List.length_append, HDL.out]; rfl, hgr⟩
        · rw [List.append_assoc]; exact hlist
        · have e : k + 1 = vs.length := by omega
          rw [List.drop_of_length_le (by omega)] at hlist
          refine ⟨by omega, by rw [show vs.length + 4 - (k + 1) = 4 from by omega]; omega, ?_⟩
          rw [List.append_assoc, show vs.length + 4 - (k + 1) = 4 from by omega]; exact hlist
      case measure => simp [intOf]; omega
    · by_cases hc0 : 0 < cn
      · obtain ⟨h2a, h2b, h2c⟩ := H2.out (by omega)
        obtain ⟨f', rfl⟩ : ∃ f', f = f' + 1 := by
          cases f with
          | zero => simp at h2b; omega
          | succ f => exact ⟨f, rfl⟩
        have hkb : k < vs.length + 4 := by omega
        have H2B := Lib.hid h2b
        have H2C := Lib.hid h2c
        have H2A := Lib.hid h2a
        have HDL := Lib.hid hdl
        clear h2a h2b h2c hdl
        go_wp2_with (at_builtin; refine wpList_append_one rfl (.tmp 32) (.tmp 35) 93 rfl 56 Tryd.underlying93 (.int .u64 0) 8 infoU64 rfl (by decide) w.heap.size _ done.length _ rfl HR.out.row HR.out.below.size (by have := HDL.out; omega) _ rfl rfl 56 ?_; intro v3 w3 hr3 hg3)
        go_wp2
        go_roundw
        case rel =>
          have hgr := HR.out.grow (c := cn % 65536) (Nat.le_refl _) (by have := hr3.out; rwa [show (cn : Int) % 65536 = ((cn % 65536 : Nat) : Int) from by omega] at this) hg3.out
          refine ⟨cn / 65536, k + 1, f', done ++ [cn % 65536], by rw [show (cn : Int) / 65536 = ((cn / 65536 : Nat) : Int) from by omega], by go_num, by omega, by omega, fun h => by omega, fun h => ⟨by have := H2A.out; omega, ?_, ?_⟩, by rw [List.length_append, HDL.out]; rfl, hgr⟩
          · have := H2B.out
            rw [Nat.pow_succ] at this
            exact Nat.div_lt_of_lt_mul (by rw [Nat.mul_comm]; exact this)
          · rw [List.append_assoc]
            have := H2C.out
            rw [digs_step f' cn hc0] at this
            exact this
        case measure => simp [intOf]; omega
      · obtain rfl : cn = 0 := by omega
        obtain ⟨h2a, h2b, h2c⟩ := H2.out (by omega)
        have H2C := Lib.hid h2c
        clear h2a h2b h2c hdl
        go_wp2
        go_ret
        refine ⟨_, rfl, ?_⟩
        have := H2C.out
        rw [digs_zero, List.append_nil] at this
        rw [← this]
        exact HR.out
end Go.Proofs.YtiaoolopbikfgaaDoor
