/- Parts of the proof, one behind the other: PNext. -/
import Derived.Test.YtcfpmofmjnhonaaGreatDoorM31
import Derived.Test.YtcfpmofmjnhonaaGreatDoorM22
/- The program's Next. -/
namespace Go.Proofs.YtcfpmofmjnhonaaGreatDoor
open Go.RowKit

theorem none16_is : none16 = ⟨#[0, 0, 0, 0, 0, 0, 0, 0, 0, 0, 0, 0, 0, 0, 0, 0]⟩ := by unfold none16; rfl
theorem firstHd_is (root : ByteArray) : firstHd root = ⟨1, root, ⟨#[0, 0, 0, 0, 0, 0, 0, 0, 0, 0, 0, 0, 0, 0, 0, 0]⟩⟩ := by unfold firstHd; rw [none16_is]
/-- What Next begins with: an empty head as its answer, the first head in its own variable. -/
theorem next_begin (w : World) (root : ByteArray) (t : TypeId) :
    Below w.heap.size w ((w.alloc (.cells #[.int .i64 0, .string ⟨#[]⟩, .string ⟨#[]⟩] t)).alloc (.cells #[.int .i64 1, .string root, .string ⟨#[0, 0, 0, 0, 0, 0, 0, 0, 0, 0, 0, 0, 0, 0, 0, 0]⟩] t)) ∧
    Holds ((w.alloc (.cells #[.int .i64 0, .string ⟨#[]⟩, .string ⟨#[]⟩] t)).alloc (.cells #[.int .i64 1, .string root, .string ⟨#[0, 0, 0, 0, 0, 0, 0, 0, 0, 0, 0, 0, 0, 0, 0, 0]⟩] t)) w.heap.size 3 (hdF noHd) t ∧
    Holds ((w.alloc (.cells #[.int .i64 0, .string ⟨#[]⟩, .string ⟨#[]⟩] t)).alloc (.cells #[.int .i64 1, .string root, .string ⟨#[0, 0, 0, 0, 0, 0, 0, 0, 0, 0, 0, 0, 0, 0, 0, 0]⟩] t)) (w.heap.size + 1) 3 (hdF (firstHd root)) t := by
  refine ⟨((Below.refl _ w).alloc (Nat.le_refl _) _).alloc (by simp) _, (Holds.new w 3 (hdF noHd) t).alloc _, ?_⟩
  have h := Holds.new (w.alloc (.cells #[.int .i64 0, .string ⟨#[]⟩, .string ⟨#[]⟩] t)) 3 (hdF (firstHd root)) t
  rw [World.size_alloc] at h
  rw [firstHd_is] at h ⊢
  exact h
theorem head_stored {w0 w4 : World} {rb : Nat} {t : TypeId} {x : Hd} (h : Holds w4 rb 3 (hdF x) t) (hb : Below w0.heap.size w0 w4) (hr : w0.heap.size ≤ rb) (y : Hd) :
    Holds (((w4.setCell ⟨rb, 0, none⟩ (.int .i64 y.epoch)).setCell ⟨rb, 1, none⟩ (.string y.root)).setCell ⟨rb, 2, none⟩ (.string y.prev)) rb 3 (hdF y) t ∧
    Below w0.heap.size w0 (((w4.setCell ⟨rb, 0, none⟩ (.int .i64 y.epoch)).setCell ⟨rb, 1, none⟩ (.string y.root)).setCell ⟨rb, 2, none⟩ (.string y.prev)) := by
  refine ⟨(((h.set 0 _).set 1 _).set 2 _).congr fun i hi => ?_, ((hb.setCell hr _).setCell hr _).setCell hr _⟩
  rcases (show i = 0 ∨ i = 1 ∨ i = 2 by omega) with rfl | rfl | rfl <;> simp [upd, hdF]

set_option maxHeartbeats 1000000 in
set_option maxRecDepth 100000 in
theorem pNext_good (L : List Hd) (A : Option Addr) (cap : Nat) (root : ByteArray) (y : Hd) (n : Int) (w : World) (hk : HasK w) (hl : L.length ≤ 1000000) (hm : Hds w A L) (hr : 0 < L.length → rightHead (hdAt L (L.length - 1)) = true) (h : nextAns L root = (y, n)) :
    Calls Tryz.prog 85 #[.slice A L.length cap, .string root] w fun e w' => e = .returned (.tuple #[.agg #[.int .i64 y.epoch, .string y.root, .string y.prev], errOf n]) ∧ Below w.heap.size w w' := by
  have HK := Lib.hid hk
  have HM := Lib.hid hm
  have hans := nextAns_upto (root := root) hr
  rw [h] at hans
  obtain ⟨HB2, HS2, HF2⟩ := (⟨Lib.hid (next_begin w root 49).1, Lib.hid (next_begin w root 49).2.1, Lib.hid (next_begin w root 49).2.2⟩ : Hid _ ∧ Hid _ ∧ Hid _)
  clear h hk hm
  have HE0 := Lib.hid (show errOf 0 = Value.nilIface from rfl)
  by_cases h0 : 0 < L.length
  case' neg =>
    have hz : nextUpto L root L.length = firstHd root := by unfold nextUpto; rw [if_neg (by omega)]
    rw [hz] at hans
    have h0' : ¬ (0 : Int) < (L.length : Int) := by omega
    clear hz
    generalize firstHd root = Z at hans HF2
    have HANS := Lib.hid hans
    clear hans hr h0
    go_enter Tryz.func85, Tryz.ntmps85
    have c0 := HF2.out.cell 0 (by omega)
    have c1 := HF2.out.cell 1 (by omega)
    have c2 := HF2.out.cell 2 (by omega)
    have d0 := show _ = some (Value.int .i64 Z.epoch) from c0
    have d1 := show _ = some (Value.string Z.root) from c1
    have d2 := show _ = some (Value.string Z.prev) from c2
    clear c0 c1 c2
    go_wp2_with fail
    clear d0 d1 d2
    generalize ((w.alloc (.cells #[.int .i64 0, .string ⟨#[]⟩, .string ⟨#[]⟩] 49)).alloc (.cells #[.int .i64 1, .string root, .string ⟨#[0, 0, 0, 0, 0, 0, 0, 0, 0, 0, 0, 0, 0, 0, 0, 0]⟩] 49)) = w5 at HB2 HS2 HF2
    have HB5 := HB2
    have HS5 := HS2
    have HF5 := HF2
    clear HB2 HS2 HF2
  case' pos =>
    obtain ⟨k, hk⟩ : ∃ k, k + 1 = L.length := ⟨L.length - 1, by omega⟩
    have hlt : k < L.length := by omega
    have h0' : (0 : Int) < (L.length : Int) := by omega
    have hrx : rightHead (hdAt L k) = true := by have := hr h0; rwa [show L.length - 1 = k by omega] at this
    have hz : nextUpto L root L.length = afterHd (hdAt L k) root := by rw [← hk]; exact nextUpto_last hk
    rw [hz] at hans
    have hwk : IntKind.i64.wrap ((L.length : Int) - 1) = (k : Int) := by rw [IntWalk.i64_in _ (by omega)]; omega
    have hk0 : (0 : Int) ≤ (k : Int) := by omega
    have hk1 : (k : Int) < (L.length : Int) := by omega
    obtain ⟨a, rfl, hal, x0, x1, x2⟩ := (HM.out.below HB2.out).at_ hlt
    have d1 : ((w.alloc (.cells #[.int .i64 0, .string ⟨#[]⟩, .string ⟨#[]⟩] 49)).alloc (.cells #[.int .i64 1, .string root, .string ⟨#[0, 0, 0, 0, 0, 0, 0, 0, 0, 0, 0, 0, 0, 0, 0, 0]⟩] 49)).cell? ⟨(a.add (k * 3)).block, (a.add (k * 3)).off + 1, none⟩ = some (.string (hdAt L k).root) := x1
    have d2 : ((w.alloc (.cells #[.int .i64 0, .string ⟨#[]⟩, .string ⟨#[]⟩] 49)).alloc (.cells #[.int .i64 1, .string root, .string ⟨#[0, 0, 0, 0, 0, 0, 0, 0, 0, 0, 0, 0, 0, 0, 0, 0]⟩] 49)).cell? ⟨(a.add (k * 3)).block, (a.add (k * 3)).off + 2, none⟩ = some (.string (hdAt L k).prev) := x2
    clear x1 x2 hal hz hk hr h0
    generalize hdAt L k = X at x0 d1 d2 hrx hans
    have HANS := Lib.hid hans
    have HRX := Lib.hid hrx
    have HZ := Lib.hid (show afterHd X root = ⟨wrap64 (X.epoch + 1), root, headMark X⟩ from rfl)
    have HMA := Lib.hid (show headMarkAns X = (headMark X, 0) by unfold headMarkAns; rw [if_pos hrx])
    clear hans hrx
    go_enter Tryz.func85, Tryz.ntmps85
    have HB3 := Lib.hid (HB2.out.alloc HB2.out.size (.cells #[.int .i64 X.epoch, .string X.root, .string X.prev] 49))
    have HS3 := Lib.hid (HS2.out.alloc (.cells #[.int .i64 X.epoch, .string X.root, .string X.prev] 49))
    have HF3 := Lib.hid (HF2.out.alloc (.cells #[.int .i64 X.epoch, .string X.root, .string X.prev] 49))
    have HX3 := Lib.hid (show Holds (((w.alloc (.cells #[.int .i64 0, .string ⟨#[]⟩, .string ⟨#[]⟩] 49)).alloc (.cells #[.int .i64 1, .string root, .string ⟨#[0, 0, 0, 0, 0, 0, 0, 0, 0, 0, 0, 0, 0, 0, 0, 0]⟩] 49)).alloc (.cells #[.int .i64 X.epoch, .string X.root, .string X.prev] 49)) (w.heap.size + 1 + 1) 3 (hdF X) 49 from by
      have h := Holds.new ((w.alloc (.cells #[.int .i64 0, .string ⟨#[]⟩, .string ⟨#[]⟩] 49)).alloc (.cells #[.int .i64 1, .string root, .string ⟨#[0, 0, 0, 0, 0, 0, 0, 0, 0, 0, 0, 0, 0, 0, 0, 0]⟩] 49)) 3 (hdF X) 49
      rw [World.size_alloc, World.size_alloc] at h
      exact h)
    go_wp2_with fail
    clear x0 d1 d2
    generalize (((w.alloc (.cells #[.int .i64 0, .string ⟨#[]⟩, .string ⟨#[]⟩] 49)).alloc (.cells #[.int .i64 1, .string root, .string ⟨#[0, 0, 0, 0, 0, 0, 0, 0, 0, 0, 0, 0, 0, 0, 0, 0]⟩] 49)).alloc (.cells #[.int .i64 X.epoch, .string X.root, .string X.prev] 49)) = w3 at HB3 HS3 HF3 HX3
    refine (pHdMark_is X (headMark X) 0 _ (HK.out.below HB3.out HK.out.lt) HMA.out).mono ?_
    rintro e w4 ⟨rfl, hb4⟩
    rw [HE0.out]
    have HB4 := Lib.hid (HB3.out.trans (hb4.mono HB3.out.size))
    have HS4 := Lib.hid (HS3.out.below hb4 HS3.out.lt)
    have HF4 := Lib.hid (HF3.out.below hb4 HF3.out.lt)
    have HX4 := Lib.hid (HX3.out.below hb4 HX3.out.lt)
    clear hb4
    have x0 : w4.cell? ⟨w.heap.size + 1 + 1, 0, none⟩ = some (.int .i64 X.epoch) := HX4.out.cell 0 (by omega)
    have q0 : w4.cell? ⟨w.heap.size + 1, 0, none⟩ = some (.int .i64 (firstHd root).epoch) := HF4.out.cell 0 (by omega)
    have q2 : w4.cell? ⟨w.heap.size + 1, 2, none⟩ = some (.string (firstHd root).prev) := HF4.out.cell 2 (by omega)
    have f0 : w4.frozen? ⟨w.heap.size + 1, 0, none⟩ = false := HF4.out.free 0
    have f2 : w4.frozen? ⟨w.heap.size + 1, 2, none⟩ = false := HF4.out.free 2
    have HB5 := Lib.hid (show Below w.heap.size w ((w4.setCell ⟨w.heap.size + 1, 0, none⟩ (.int .i64 (wrap64 (X.epoch + 1)))).setCell ⟨w.heap.size + 1, 2, none⟩ (.string (headMark X))) from (HB4.out.setCell (Nat.le_succ _) _).setCell (Nat.le_succ _) _)
    have HS5 := Lib.hid (show Holds ((w4.setCell ⟨w.heap.size + 1, 0, none⟩ (.int .i64 (wrap64 (X.epoch + 1)))).setCell ⟨w.heap.size + 1, 2, none⟩ (.string (headMark X))) w.heap.size 3 (hdF noHd) 49 from (HS4.out.other (by show w.heap.size ≠ w.heap.size + 1; omega) _).other (by show w.heap.size ≠ w.heap.size + 1; omega) _)
    have HF5 := Lib.hid (show Holds ((w4.setCell ⟨w.heap.size + 1, 0, none⟩ (.int .i64 (wrap64 (X.epoch + 1)))).setCell ⟨w.heap.size + 1, 2, none⟩ (.string (headMark X))) (w.heap.size + 1) 3 (hdF (afterHd X root)) 49 from by
      refine ((HF4.out.set 0 _).set 2 _).congr fun i hi => ?_
      rcases (show i = 0 ∨ i = 1 ∨ i = 2 by omega) with rfl | rfl | rfl <;> simp [upd, hdF, afterHd, firstHd])
    generalize afterHd X root = Z at HANS HF5
    have d0 : ((w4.setCell ⟨w.heap.size + 1, 0, none⟩ (.int .i64 (wrap64 (X.epoch + 1)))).setCell ⟨w.heap.size + 1, 2, none⟩ (.string (headMark X))).cell? ⟨w.heap.size + 1, 0, none⟩ = some (.int .i64 Z.epoch) := HF5.out.cell 0 (by omega)
    have d1 : ((w4.setCell ⟨w.heap.size + 1, 0, none⟩ (.int .i64 (wrap64 (X.epoch + 1)))).setCell ⟨w.heap.size + 1, 2, none⟩ (.string (headMark X))).cell? ⟨w.heap.size + 1, 1, none⟩ = some (.string Z.root) := HF5.out.cell 1 (by omega)
    have d2 : ((w4.setCell ⟨w.heap.size + 1, 0, none⟩ (.int .i64 (wrap64 (X.epoch + 1)))).setCell ⟨w.heap.size + 1, 2, none⟩ (.string (headMark X))).cell? ⟨w.heap.size + 1, 2, none⟩ = some (.string Z.prev) := HF5.out.cell 2 (by omega)
    go_wp2_with fail
    clear d0 d1 d2 x0 q0 q2 f0 f2
    generalize ((w4.setCell ⟨w.heap.size + 1, 0, none⟩ (.int .i64 (wrap64 (X.epoch + 1)))).setCell ⟨w.heap.size + 1, 2, none⟩ (.string (headMark X))) = w5 at HB5 HS5 HF5
  all_goals
    refine (pHdRight_any Z _).mono ?_
    rintro e w6 ⟨rfl, hb6⟩
    have HB6 := Lib.hid (HB5.out.trans (hb6.mono HB5.out.size))
    have HS6 := Lib.hid (HS5.out.below hb6 HS5.out.lt)
    have HF6 := Lib.hid (HF5.out.below hb6 HF5.out.lt)
    clear hb6
    have p0 : w6.cell? ⟨w.heap.size, 0, none⟩ = some (.int .i64 0) := HS6.out.cell 0 (by omega)
    have p1 : w6.cell? ⟨w.heap.size, 1, none⟩ = some (.string ⟨#[]⟩) := HS6.out.cell 1 (by omega)
    have p2 : w6.cell? ⟨w.heap.size, 2, none⟩ = some (.string ⟨#[]⟩) := HS6.out.cell 2 (by omega)
    have f0 : w6.frozen? ⟨w.heap.size, 0, none⟩ = false := HS6.out.free 0
    have f1 : w6.frozen? ⟨w.heap.size, 1, none⟩ = false := HS6.out.free 1
    have f2 : w6.frozen? ⟨w.heap.size, 2, none⟩ = false := HS6.out.free 2
    by_cases hzz : rightHead Z = true
    · have hans := HANS.out
      rw [if_pos hzz] at hans
      obtain ⟨rfl, rfl⟩ := Prod.mk.inj hans
      rw [hzz]
      clear hans hzz
      have c0 : w6.cell? ⟨w.heap.size + 1, 0, none⟩ = some (.int .i64 y.epoch) := HF6.out.cell 0 (by omega)
      have c1 : w6.cell? ⟨w.heap.size + 1, 1, none⟩ = some (.string y.root) := HF6.out.cell 1 (by omega)
      have c2 : w6.cell? ⟨w.heap.size + 1, 2, none⟩ = some (.string y.prev) := HF6.out.cell 2 (by omega)
      have HFIN := Lib.hid (head_stored HS6.out HB6.out (Nat.le_refl _) y)
      go_wp2
      refine bodyPost_ret (results_row2 rfl _ _ w.heap.size 49 (arr 3 (hdF y)) (0, 0) _ rfl HFIN.out.1 Tryz.underlying49 rfl (by rw [arr_size]; exact infoHead)) rfl ?_
      exact ⟨rfl, HFIN.out.2⟩
    · have hans := HANS.out
      rw [if_neg hzz] at hans
      obtain ⟨rfl, rfl⟩ := Prod.mk.inj hans
      have hz' : rightHead Z = false := by simpa using hzz
      rw [hz']
      clear hans hzz hz'
      have HFIN := Lib.hid (head_stored HS6.out HB6.out (Nat.le_refl _) noHd)
      go_wp2
      refine bodyPost_ret (results_row2 rfl _ _ w.heap.size 49 (arr 3 (hdF noHd)) (0, 0) _ rfl HFIN.out.1 Tryz.underlying49 rfl (by rw [arr_size]; exact infoHead)) rfl ?_
      exact ⟨rfl, HFIN.out.2⟩
set_option maxHeartbeats 1000000 in
set_option maxRecDepth 100000 in
theorem pNext_bad (L : List Hd) (A : Option Addr) (cap : Nat) (root : ByteArray) (w : World) (hk : HasK w) (hl : L.length ≤ 1000000) (hm : Hds w A L) (h0 : 0 < L.length) (hr : rightHead (hdAt L (L.length - 1)) = false) :
    Calls Tryz.prog 85 #[.slice A L.length cap, .string root] w fun e w' => e = .returned (.tuple #[.agg #[.int .i64 0, .string ⟨#[]⟩, .string ⟨#[]⟩], errOf 1]) ∧ Below w.heap.size w w' := by
  have HK := Lib.hid hk
  have HM := Lib.hid hm
  obtain ⟨HB2, HS2⟩ := (⟨Lib.hid (next_begin w root 49).1, Lib.hid (next_begin w root 49).2.1⟩ : Hid _ ∧ Hid _)
  have HE1 := Lib.hid (show errOf 1 = Value.iface 28 (.int .i64 1) from rfl)
  obtain ⟨k, hkl⟩ : ∃ k, k + 1 = L.length := ⟨L.length - 1, by omega⟩
  have hlt : k < L.length := by omega
  have h0' : (0 : Int) < (L.length : Int) := by omega
  have hrx : rightHead (hdAt L k) = false := by rwa [show L.length - 1 = k by omega] at hr
  have hwk : IntKind.i64.wrap ((L.length : Int) - 1) = (k : Int) := by rw [IntWalk.i64_in _ (by omega)]; omega
  have hk0 : (0 : Int) ≤ (k : Int) := by omega
  have hk1 : (k : Int) < (L.length : Int) := by omega
  obtain ⟨a, rfl, hal, x0, x1, x2⟩ := (HM.out.below HB2.out).at_ hlt
  have d1 : ((w.alloc (.cells #[.int .i64 0, .string ⟨#[]⟩, .string ⟨#[]⟩] 49)).alloc (.cells #[.int .i64 1, .string root, .string ⟨#[0, 0, 0, 0, 0, 0, 0, 0, 0, 0, 0, 0, 0, 0, 0, 0]⟩] 49)).cell? ⟨(a.add (k * 3)).block, (a.add (k * 3)).off + 1, none⟩ = some (.string (hdAt L k).root) := x1
  have d2 : ((w.alloc (.cells #[.int .i64 0, .string ⟨#[]⟩, .string ⟨#[]⟩] 49)).alloc (.cells #[.int .i64 1, .string root, .string ⟨#[0, 0, 0, 0, 0, 0, 0, 0, 0, 0, 0, 0, 0, 0, 0, 0]⟩] 49)).cell? ⟨(a.add (k * 3)).block, (a.add (k * 3)).off + 2, none⟩ = some (.string (hdAt L k).prev) := x2
  clear x1 x2 hal hkl hr h0 hk hm
  generalize hdAt L k = X at x0 d1 d2 hrx
  have HMA := Lib.hid (show headMarkAns X = (⟨#[]⟩, 1) by unfold headMarkAns; rw [hrx]; rfl)
  clear hrx
  go_enter Tryz.func85, Tryz.ntmps85
  have HB3 := Lib.hid (HB2.out.alloc HB2.out.size (.cells #[.int .i64 X.epoch, .string X.root, .string X.prev] 49))
  have HS3 := Lib.hid (HS2.out.alloc (.cells #[.int .i64 X.epoch, .string X.root, .string X.prev] 49))
  go_wp2_with fail
  clear x0 d1 d2
  generalize (((w.alloc (.cells #[.int .i64 0, .string ⟨#[]⟩, .string ⟨#[]⟩] 49)).alloc (.cells #[.int .i64 1, .string root, .string ⟨#[0, 0, 0, 0, 0, 0, 0, 0, 0, 0, 0, 0, 0, 0, 0, 0]⟩] 49)).alloc (.cells #[.int .i64 X.epoch, .string X.root, .string X.prev] 49)) = w3 at HB3 HS3
  refine (pHdMark_is X ⟨#[]⟩ 1 _ (HK.out.below HB3.out HK.out.lt) HMA.out).mono ?_
  rintro e w6 ⟨rfl, hb4⟩
  rw [HE1.out]
  have HB6 := Lib.hid (HB3.out.trans (hb4.mono HB3.out.size))
  have HS6 := Lib.hid (HS3.out.below hb4 HS3.out.lt)
  clear hb4
  have p0 : w6.cell? ⟨w.heap.size, 0, none⟩ = some (.int .i64 0) := HS6.out.cell 0 (by omega)
  have p1 : w6.cell? ⟨w.heap.size, 1, none⟩ = some (.string ⟨#[]⟩) := HS6.out.cell 1 (by omega)
  have p2 : w6.cell? ⟨w.heap.size, 2, none⟩ = some (.string ⟨#[]⟩) := HS6.out.cell 2 (by omega)
  have f0 : w6.frozen? ⟨w.heap.size, 0, none⟩ = false := HS6.out.free 0
  have f1 : w6.frozen? ⟨w.heap.size, 1, none⟩ = false := HS6.out.free 1
  have f2 : w6.frozen? ⟨w.heap.size, 2, none⟩ = false := HS6.out.free 2
  have HFIN := Lib.hid (head_stored HS6.out HB6.out (Nat.le_refl _) noHd)
  go_wp2
  refine bodyPost_ret (results_row2 rfl _ _ w.heap.size 49 (arr 3 (hdF noHd)) (0, 0) _ rfl HFIN.out.1 Tryz.underlying49 rfl (by rw [arr_size]; exact infoHead)) rfl ?_
  exact ⟨rfl, HFIN.out.2⟩
theorem pNext_is (L : List Hd) (A : Option Addr) (cap : Nat) (root : ByteArray) (y : Hd) (n : Int) (w : World) (hk : HasK w) (hl : L.length ≤ 1000000) (hm : Hds w A L) (h : nextAns L root = (y, n)) :
    Calls Tryz.prog 85 #[.slice A L.length cap, .string root] w fun e w' => e = .returned (.tuple #[.agg #[.int .i64 y.epoch, .string y.root, .string y.prev], errOf n]) ∧ Below w.heap.size w w' := by
  by_cases hr : 0 < L.length → rightHead (hdAt L (L.length - 1)) = true
  · exact pNext_good L A cap root y n w hk hl hm hr h
  · have h0 : 0 < L.length := Classical.byContradiction fun e => hr fun h => absurd h e
    have hf : rightHead (hdAt L (L.length - 1)) = false := by
      cases e : rightHead (hdAt L (L.length - 1)) with
      | true => exact absurd (fun _ => e) hr
      | false => rfl
    obtain ⟨k, hkl⟩ : ∃ k, k + 1 = L.length := ⟨L.length - 1, by omega⟩
    have hb := nextAns_bad (root := root) hkl (by rwa [show L.length - 1 = k by omega] at hf)
    rw [hb] at h
    obtain ⟨rfl, rfl⟩ := Prod.mk.inj h
    exact pNext_bad L A cap root w hk hl hm h0 hf
end Go.Proofs.YtcfpmofmjnhonaaGreatDoor
