/- Parts of the proof, one behind the other: RNext, RDirV. -/
import Derived.Test.YtcfpmofmjnhonaaGreatDoorM21
import Derived.Test.YtcfpmofmjnhonaaGreatDoorM20
/- The document's Next. -/
namespace Go.Proofs.YtcfpmofmjnhonaaGreatDoor
open Go.RowKit

theorem infoHead : (Tryz.prog.info? 49).map (·.size) = some 3 := by kernel_rfl
/-- What stands in the next head's variable ahead of round k. -/
def nextUpto (L : List Hd) (root : ByteArray) (k : Nat) : Hd := if k = L.length ∧ 0 < L.length then afterHd (hdAt L (k - 1)) root else firstHd root
theorem nextUpto_start (L : List Hd) (root : ByteArray) : nextUpto L root 0 = firstHd root := by
  unfold nextUpto; rw [if_neg (by omega)]
theorem nextUpto_step {L : List Hd} {root : ByteArray} {k : Nat} (h : k + 1 < L.length) : nextUpto L root (k + 1) = nextUpto L root k := by
  unfold nextUpto; rw [if_neg (by omega), if_neg (by omega)]
theorem nextUpto_last {L : List Hd} {root : ByteArray} {k : Nat} (h : k + 1 = L.length) : nextUpto L root (k + 1) = afterHd (hdAt L k) root := by
  unfold nextUpto; rw [if_pos (by omega)]; rfl
theorem last_of {L : List Hd} {k : Nat} (h : k + 1 = L.length) : L.getLast? = some (hdAt L k) := by
  rw [List.getLast?_eq_getElem?, ← h, Nat.add_sub_cancel, List.getElem?_eq_getElem (by omega), hdAt_of (by omega)]
theorem nextAns_bad {L : List Hd} {root : ByteArray} {k : Nat} (h : k + 1 = L.length) (hr : rightHead (hdAt L k) = false) : nextAns L root = (noHd, 1) := by
  unfold nextAns nextHd
  rw [last_of h]
  simp [hr]
theorem nextAns_upto {L : List Hd} {root : ByteArray} (hr : 0 < L.length → rightHead (hdAt L (L.length - 1)) = true) : nextAns L root = if rightHead (nextUpto L root L.length) = true then (nextUpto L root L.length, 0) else (noHd, 1) := by
  unfold nextAns nextHd
  rcases Nat.eq_zero_or_pos L.length with h | h
  · obtain rfl := List.eq_nil_of_length_eq_zero h
    rfl
  · obtain ⟨k, hk⟩ : ∃ k, k + 1 = L.length := ⟨L.length - 1, by omega⟩
    have h2 := hr h
    rw [← hk, Nat.add_sub_cancel] at h2
    rw [last_of hk, ← hk, nextUpto_last hk]
    simp [h2]
def resF (h : Hd) : Array Value := #[.int .i64 h.epoch, .string h.root, .string h.prev]

set_option maxHeartbeats 1000000 in
set_option maxRecDepth 100000 in
theorem refNext_is (b : Nat) (L : List Hd) (A : Option Addr) (cap : Nat) (root : ByteArray) (y : Hd) (n : Int) (w : World) (hl : L.length ≤ 1000000) (hr : Holds w b 72 refCells 121) (hm : Hds w A L) (h : nextAns L root = (y, n)) :
    Calls Tryz.prog 64 #[.pointer (some ⟨b, 0, none⟩), .slice A L.length cap, .string root] w fun e w' => e = .returned (.tuple #[.agg #[.int .i64 y.epoch, .string y.root, .string y.prev], .int .i64 n]) ∧ Below w.heap.size w w' := by
  have HR := Lib.hid hr
  have HM := Lib.hid hm
  have HY := Lib.hid h
  have HB0 := Lib.hid (alloc_below w (.cells #[.int .i64 0, .string ⟨#[]⟩, .string ⟨#[]⟩] 49))
  have HS0 := Lib.hid (show Holds (w.alloc (.cells #[.int .i64 0, .string ⟨#[]⟩, .string ⟨#[]⟩] 49)) w.heap.size 3 (hdF noHd) 49 from Holds.new w 3 (hdF noHd) 49)
  clear hr hm h
  go_enter Tryz.func64, Tryz.ntmps64
  go_wp2_with fail
  refine (repeat_nul _).mono ?_
  rintro e w1 ⟨rfl, hb1⟩
  have HB1 := Lib.hid (HB0.out.trans (hb1.mono HB0.out.size))
  have HS1 := Lib.hid (HS0.out.below hb1 HS0.out.lt)
  clear hb1
  have HF1 := Lib.hid (show Holds (w1.alloc (.cells #[.int .i64 1, .string root, .string none16] 49)) w1.heap.size 3 (hdF (firstHd root)) 49 from Holds.new w1 3 (hdF (firstHd root)) 49)
  have HB2 := Lib.hid (HB1.out.trans ((alloc_below w1 (.cells #[.int .i64 1, .string root, .string none16] 49)).mono HB1.out.size))
  have HS2 := Lib.hid (HS1.out.below (alloc_below w1 (.cells #[.int .i64 1, .string root, .string none16] 49)) HS1.out.lt)
  have HHB := Lib.hid (show w.heap.size < w1.heap.size from HS1.out.lt)
  go_wp2
  generalize w1.alloc (.cells #[.int .i64 1, .string root, .string none16] 49) = w2 at HF1 HB2 HS2
  generalize w1.heap.size = hb at HF1 HHB
  go_loopw [18] (fun i wr => ∃ k : Nat, k ≤ L.length ∧ i = .int .i64 (k : Int) ∧ Hid ((k = L.length → 0 < k → rightHead (hdAt L (k - 1)) = true) ∧ Below w.heap.size w wr ∧ Holds wr w.heap.size 3 (hdF noHd) 49 ∧ Holds wr hb 3 (hdF (nextUpto L root k)) 49)) (fun i _ => L.length - (intOf i).toNat)
  case atStart => exact ⟨0, by omega, rfl, Lib.hid ⟨fun _ h => by omega, HB2.out, HS2.out, by rw [nextUpto_start]; exact HF1.out⟩⟩
  case round =>
    obtain ⟨k, hk, rfl, HU⟩ := hrel
    by_cases hlt : k < L.length
    · obtain ⟨a, rfl, hal, c0, c1, c2⟩ := (HM.out.below HU.out.2.1).at_ hlt
      have d1 : wr.cell? ⟨(a.add (k * 3)).block, (a.add (k * 3)).off + 1, none⟩ = some (.string (hdAt L k).root) := c1
      have d2 : wr.cell? ⟨(a.add (k * 3)).block, (a.add (k * 3)).off + 2, none⟩ = some (.string (hdAt L k).prev) := c2
      obtain ⟨X, hX⟩ : ∃ X, hdAt L k = X := ⟨_, rfl⟩
      rw [hX] at c0 d1 d2
      have HX := Lib.hid hX
      clear hX c1 c2
      by_cases hlast : k + 1 < L.length
      · have e1 : decide ((k : Int) < (L.length : Int) - 1) = true := by simp; omega
        have HU' := Lib.hid (show (k + 1 = L.length → 0 < k + 1 → rightHead (hdAt L (k + 1 - 1)) = true) ∧ Below w.heap.size w (wr.alloc (.cells #[.int .i64 X.epoch, .string X.root, .string X.prev] 49)) ∧ Holds (wr.alloc (.cells #[.int .i64 X.epoch, .string X.root, .string X.prev] 49)) w.heap.size 3 (hdF noHd) 49 ∧ Holds (wr.alloc (.cells #[.int .i64 X.epoch, .string X.root, .string X.prev] 49)) hb 3 (hdF (nextUpto L root (k + 1))) 49 from
          ⟨fun h => by omega, HU.out.2.1.alloc HU.out.2.1.size _, HU.out.2.2.1.alloc _, by rw [nextUpto_step hlast]; exact HU.out.2.2.2.alloc _⟩)
        go_wp2
        go_roundw
        case rel => exact ⟨k + 1, by omega, by go_num, HU'⟩
        case measure => simp [intOf]; omega
      · have e1 : decide ((k : Int) < (L.length : Int) - 1) = false := by simp; omega
        have HLAST := Lib.hid (show k + 1 = L.length by omega)
        have HW1 := Lib.hid (show Below w.heap.size w (wr.alloc (.cells #[.int .i64 X.epoch, .string X.root, .string X.prev] 49)) from HU.out.2.1.alloc HU.out.2.1.size _)
        have HRS1 := Lib.hid (HU.out.2.2.1.alloc (.cells #[.int .i64 X.epoch, .string X.root, .string X.prev] 49))
        have HHB1 := Lib.hid (HU.out.2.2.2.alloc (.cells #[.int .i64 X.epoch, .string X.root, .string X.prev] 49))
        have HXB1 := Lib.hid (show Holds (wr.alloc (.cells #[.int .i64 X.epoch, .string X.root, .string X.prev] 49)) wr.heap.size 3 (hdF X) 49 from Holds.new wr 3 (hdF X) 49)
        have HNE := Lib.hid (show hb < wr.heap.size from HU.out.2.2.2.lt)
        have hkb : k ≤ 1000000 := by omega
        clear hlast hk
        go_wp2_with fail
        clear c0 d1 d2 e1 hlt
        generalize wr.alloc (.cells #[.int .i64 X.epoch, .string X.root, .string X.prev] 49) = w3 at HW1 HRS1 HHB1 HXB1
        generalize wr.heap.size = xb at HXB1 HNE
        obtain ⟨s, m, hsm⟩ : ∃ s m, headMarkAns X = (s, m) := ⟨_, _, rfl⟩
        have HSM := Lib.hid hsm
        refine (refHeadMark_is b X s m _ (HR.out.below HW1.out HR.out.lt) hsm).mono ?_
        rintro e w4 ⟨rfl, hb4⟩
        have HW4 := Lib.hid (HW1.out.trans (hb4.mono HW1.out.size))
        have HRS4 := Lib.hid (HRS1.out.below hb4 HRS1.out.lt)
        have HHB4 := Lib.hid (HHB1.out.below hb4 HHB1.out.lt)
        have HXB4 := Lib.hid (HXB1.out.below hb4 HXB1.out.lt)
        clear hb4
        unfold headMarkAns at hsm
        by_cases hrx : rightHead X = true
        · rw [if_pos hrx] at hsm
          obtain ⟨hs, hm0⟩ := Prod.mk.inj hsm
          subst hm0
          have HS := Lib.hid hs
          have HRX := Lib.hid hrx
          clear hs hsm hrx
          have x0 : w4.cell? ⟨xb, 0, none⟩ = some (.int .i64 X.epoch) := HXB4.out.cell 0 (by omega)
          have q0 : w4.cell? ⟨hb, 0, none⟩ = some (.int .i64 (nextUpto L root k).epoch) := HHB4.out.cell 0 (by omega)
          have q2 : w4.cell? ⟨hb, 2, none⟩ = some (.string (nextUpto L root k).prev) := HHB4.out.cell 2 (by omega)
          have f0 : w4.frozen? ⟨hb, 0, none⟩ = false := HHB4.out.free 0
          have f2 : w4.frozen? ⟨hb, 2, none⟩ = false := HHB4.out.free 2
          go_wp2
          go_roundw
          case rel =>
            have hlast := HLAST.out
            refine ⟨k + 1, by omega, by go_num, Lib.hid ⟨fun _ _ => by rw [Nat.add_sub_cancel, HX.out]; exact HRX.out, ?_, ?_, ?_⟩⟩
            · exact (HW4.out.setCell (by have := HHB.out; show w.heap.size ≤ hb; omega) _).setCell (by have := HHB.out; show w.heap.size ≤ hb; omega) _
            · exact (HRS4.out.other (by have := HHB.out; show w.heap.size ≠ hb; omega) _).other (by have := HHB.out; show w.heap.size ≠ hb; omega) _
            · refine ((HHB4.out.set 0 _).set 2 _).congr fun i hi => ?_
              rw [nextUpto_last hlast, HX.out]
              have hroot : (nextUpto L root k).root = root := by unfold nextUpto; split <;> rfl
              have hs := HS.out
              rcases (show i = 0 ∨ i = 1 ∨ i = 2 by omega) with rfl | rfl | rfl
              · simp [upd, hdF, afterHd]
              · simp [upd, hdF, afterHd, hroot]
              · simp [upd, hdF, afterHd, hs]
          case measure => have hlast := HLAST.out; simp [intOf]; omega
        · have hrf : rightHead X = false := by simpa using hrx
          rw [if_neg hrx] at hsm
          obtain ⟨hs, hm0⟩ := Prod.mk.inj hsm
          subst hm0 hs
          have HBAD := Lib.hid (show (noHd, (1 : Int)) = (y, n) by rw [← HY.out]; exact (nextAns_bad HLAST.out (by rw [HX.out]; exact hrf)).symm)
          clear hsm hrx hrf
          obtain ⟨rfl, rfl⟩ := Prod.mk.inj HBAD.out
          have p0 : w4.cell? ⟨w.heap.size, 0, none⟩ = some (.int .i64 0) := HRS4.out.cell 0 (by omega)
          have p1 : w4.cell? ⟨w.heap.size, 1, none⟩ = some (.string ⟨#[]⟩) := HRS4.out.cell 1 (by omega)
          have p2 : w4.cell? ⟨w.heap.size, 2, none⟩ = some (.string ⟨#[]⟩) := HRS4.out.cell 2 (by omega)
          have f0 : w4.frozen? ⟨w.heap.size, 0, none⟩ = false := HRS4.out.free 0
          have f1 : w4.frozen? ⟨w.heap.size, 1, none⟩ = false := HRS4.out.free 1
          have f2 : w4.frozen? ⟨w.heap.size, 2, none⟩ = false := HRS4.out.free 2
          have HFIN := Lib.hid (show Holds (((w4.setCell ⟨w.heap.size, 0, none⟩ (.int .i64 noHd.epoch)).setCell ⟨w.heap.size, 1, none⟩ (.string noHd.root)).setCell ⟨w.heap.size, 2, none⟩ (.string noHd.prev)) w.heap.size 3 (hdF noHd) 49 from
            (((HRS4.out.set 0 _).set 1 _).set 2 _).congr fun i hi => by
              rcases (show i = 0 ∨ i = 1 ∨ i = 2 by omega) with rfl | rfl | rfl <;> simp [upd, hdF])
          have HFB := Lib.hid (show Below w.heap.size w (((w4.setCell ⟨w.heap.size, 0, none⟩ (.int .i64 noHd.epoch)).setCell ⟨w.heap.size, 1, none⟩ (.string noHd.root)).setCell ⟨w.heap.size, 2, none⟩ (.string noHd.prev)) from
            (((HW4.out.setCell (Nat.le_refl _) _).setCell (Nat.le_refl _) _).setCell (Nat.le_refl _) _))
          go_wp2
          refine bodyPost_ret (results_row2 rfl _ _ w.heap.size 49 (arr 3 (hdF noHd)) (0, 0) _ rfl HFIN.out Tryz.underlying49 rfl (by rw [arr_size]; exact infoHead)) rfl ?_
          exact ⟨rfl, HFB.out⟩
    · have HKL := Lib.hid (show k = L.length by omega)
      have hans : nextAns L root = if rightHead (nextUpto L root k) = true then (nextUpto L root k, 0) else (noHd, 1) := by
        rw [HKL.out]
        exact nextAns_upto fun h => by have := HU.out.1 HKL.out (by rw [HKL.out]; exact h); rwa [HKL.out] at this
      rw [HY.out] at hans
      generalize nextUpto L root k = Z at hans HU
      have c0 : wr.cell? ⟨hb, 0, none⟩ = some (.int .i64 Z.epoch) := HU.out.2.2.2.cell 0 (by omega)
      have c1 : wr.cell? ⟨hb, 1, none⟩ = some (.string Z.root) := HU.out.2.2.2.cell 1 (by omega)
      have c2 : wr.cell? ⟨hb, 2, none⟩ = some (.string Z.prev) := HU.out.2.2.2.cell 2 (by omega)
      have HANS := Lib.hid hans
      clear hans
      go_wp2_with fail
      clear c0 c1 c2
      refine (refRightHead_any Z _).mono ?_
      rintro e w4 ⟨rfl, hb4⟩
      have HW4 := Lib.hid (HU.out.2.1.trans (hb4.mono HU.out.2.1.size))
      have HRS4 := Lib.hid (HU.out.2.2.1.below hb4 HU.out.2.2.1.lt)
      have HHB4 := Lib.hid (HU.out.2.2.2.below hb4 HU.out.2.2.2.lt)
      clear hb4
      by_cases hz : rightHead Z = true
      · have hans := HANS.out
        rw [if_pos hz] at hans
        obtain ⟨rfl, rfl⟩ := Prod.mk.inj hans
        rw [hz]
        clear hans hz
        have c0 : w4.cell? ⟨hb, 0, none⟩ = some (.int .i64 y.epoch) := HHB4.out.cell 0 (by omega)
        have c1 : w4.cell? ⟨hb, 1, none⟩ = some (.string y.root) := HHB4.out.cell 1 (by omega)
        have c2 : w4.cell? ⟨hb, 2, none⟩ = some (.string y.prev) := HHB4.out.cell 2 (by omega)
        have p0 : w4.cell? ⟨w.heap.size, 0, none⟩ = some (.int .i64 0) := HRS4.out.cell 0 (by omega)
        have p1 : w4.cell? ⟨w.heap.size, 1, none⟩ = some (.string ⟨#[]⟩) := HRS4.out.cell 1 (by omega)
        have p2 : w4.cell? ⟨w.heap.size, 2, none⟩ = some (.string ⟨#[]⟩) := HRS4.out.cell 2 (by omega)
        have f0 : w4.frozen? ⟨w.heap.size, 0, none⟩ = false := HRS4.out.free 0
        have f1 : w4.frozen? ⟨w.heap.size, 1, none⟩ = false := HRS4.out.free 1
        have f2 : w4.frozen? ⟨w.heap.size, 2, none⟩ = false := HRS4.out.free 2
        have HFIN := Lib.hid (show Holds (((w4.setCell ⟨w.heap.size, 0, none⟩ (.int .i64 y.epoch)).setCell ⟨w.heap.size, 1, none⟩ (.string y.root)).setCell ⟨w.heap.size, 2, none⟩ (.string y.prev)) w.heap.size 3 (hdF y) 49 from
          (((HRS4.out.set 0 _).set 1 _).set 2 _).congr fun i hi => by
            rcases (show i = 0 ∨ i = 1 ∨ i = 2 by omega) with rfl | rfl | rfl <;> simp [upd, hdF])
        have HFB := Lib.hid (show Below w.heap.size w (((w4.setCell ⟨w.heap.size, 0, none⟩ (.int .i64 y.epoch)).setCell ⟨w.heap.size, 1, none⟩ (.string y.root)).setCell ⟨w.heap.size, 2, none⟩ (.string y.prev)) from
          (((HW4.out.setCell (Nat.le_refl _) _).setCell (Nat.le_refl _) _).setCell (Nat.le_refl _) _))
        go_wp2
        refine bodyPost_ret (results_row2 rfl _ _ w.heap.size 49 (arr 3 (hdF y)) (0, 0) _ rfl HFIN.out Tryz.underlying49 rfl (by rw [arr_size]; exact infoHead)) rfl ?_
        exact ⟨rfl, HFB.out⟩
      · have hans := HANS.out
        rw [if_neg hz] at hans
        obtain ⟨rfl, rfl⟩ := Prod.mk.inj hans
        have hz' : rightHead Z = false := by simpa using hz
        rw [hz']
        clear hans hz hz'
        have p0 : w4.cell? ⟨w.heap.size, 0, none⟩ = some (.int .i64 0) := HRS4.out.cell 0 (by omega)
        have p1 : w4.cell? ⟨w.heap.size, 1, none⟩ = some (.string ⟨#[]⟩) := HRS4.out.cell 1 (by omega)
        have p2 : w4.cell? ⟨w.heap.size, 2, none⟩ = some (.string ⟨#[]⟩) := HRS4.out.cell 2 (by omega)
        have f0 : w4.frozen? ⟨w.heap.size, 0, none⟩ = false := HRS4.out.free 0
        have f1 : w4.frozen? ⟨w.heap.size, 1, none⟩ = false := HRS4.out.free 1
        have f2 : w4.frozen? ⟨w.heap.size, 2, none⟩ = false := HRS4.out.free 2
        have HFIN := Lib.hid (show Holds (((w4.setCell ⟨w.heap.size, 0, none⟩ (.int .i64 noHd.epoch)).setCell ⟨w.heap.size, 1, none⟩ (.string noHd.root)).setCell ⟨w.heap.size, 2, none⟩ (.string noHd.prev)) w.heap.size 3 (hdF noHd) 49 from
          (((HRS4.out.set 0 _).set 1 _).set 2 _).congr fun i hi => by
            rcases (show i = 0 ∨ i = 1 ∨ i = 2 by omega) with rfl | rfl | rfl <;> simp [upd, hdF])
        have HFB := Lib.hid (show Below w.heap.size w (((w4.setCell ⟨w.heap.size, 0, none⟩ (.int .i64 noHd.epoch)).setCell ⟨w.heap.size, 1, none⟩ (.string noHd.root)).setCell ⟨w.heap.size, 2, none⟩ (.string noHd.prev)) from
          (((HW4.out.setCell (Nat.le_refl _) _).setCell (Nat.le_refl _) _).setCell (Nat.le_refl _) _))
        go_wp2
        refine bodyPost_ret (results_row2 rfl _ _ w.heap.size 49 (arr 3 (hdF noHd)) (0, 0) _ rfl HFIN.out Tryz.underlying49 rfl (by rw [arr_size]; exact infoHead)) rfl ?_
        exact ⟨rfl, HFB.out⟩
end Go.Proofs.YtcfpmofmjnhonaaGreatDoor
/- For the document's Publish: what a directory's memory becomes, and heads put behind one another. -/
namespace Go.Proofs.YtcfpmofmjnhonaaGreatDoor
open Go.RowKit Go.Maps

def valsFor (d : Dst) (S : List ByteArray) : List (ByteArray × ByteArray) := S.map fun s => (s, (look d.wait s).getD ⟨#[]⟩)
def sinceFor (n : Int) (S : List ByteArray) : List (ByteArray × Int) := S.map fun s => (s, n)
theorem valsFor_snoc (d : Dst) (S : List ByteArray) (s : ByteArray) : valsFor d (S ++ [s]) = valsFor d S ++ [(s, (look d.wait s).getD ⟨#[]⟩)] := by simp [valsFor]
theorem sinceFor_snoc (n : Int) (S : List ByteArray) (s : ByteArray) : sinceFor n (S ++ [s]) = sinceFor n S ++ [(s, n)] := by simp [sinceFor]
theorem valsFor_keys (d : Dst) (S : List ByteArray) : keysL (valsFor d S) = S := by
  unfold keysL valsFor
  rw [List.map_map]
  exact List.map_id S
theorem sinceFor_keys (n : Int) (S : List ByteArray) : keysL (sinceFor n S) = S := by
  unfold keysL sinceFor
  rw [List.map_map]
  exact List.map_id S
theorem sameSay_of_mem {α : Type} {P Q : List (ByteArray × α)} (_hP : (keysL P).Nodup) (hQ : (keysL Q).Nodup) (h : P.Perm Q) : SameSay P Q := fun s => by
  cases e : look P s with
  | none =>
    symm
    rw [look_none] at e ⊢
    exact fun hm => e ((h.map Prod.fst).mem_iff.2 hm)
  | some x => symm; exact look_of_mem hQ (h.mem_iff.1 (look_mem e))
theorem valsFor_perm {d : Dst} {S : List ByteArray} (hk : (keysL d.wait).Nodup) (h : S.Perm (keysL d.wait)) : (valsFor d S).Perm d.wait := by
  refine (h.map _).trans ?_
  unfold keysL
  rw [List.map_map]
  refine List.Perm.of_eq ((List.map_congr_left fun p hp => ?_).trans (List.map_id d.wait))
  show (p.1, (look d.wait p.1).getD ⟨#[]⟩) = p
  rw [look_of_mem hk (s := p.1) (x := p.2) hp]; rfl
theorem sinceFor_perm {d : Dst} {n : Int} {S : List ByteArray} (h : S.Perm (keysL d.wait)) : (sinceFor n S).Perm (d.wait.map fun p => (p.1, n)) := by
  refine (h.map _).trans ?_
  unfold keysL
  rw [List.map_map]
  exact List.Perm.refl _
/-- The directory when those of S have been taken over. -/
def midDst (d : Dst) (n : Int) (S : List ByteArray) : Dst := { d with vals := upsAll d.vals (valsFor d S), since := upsAll d.since (sinceFor n S) }
/-- What two of the maps say may be written otherwise. -/
theorem RDirM.resay {F : Nat → Prop} {w : World} {p rb : Nat} {d : Dst} {bb g m1 m2 m3 : Nat} {v : Value} {M : List SgM} (h : RDirM F w p rb d bb g m1 m2 m3 v M) {V : List (ByteArray × ByteArray)} {S : List (ByteArray × Int)} (hv : SameSay d.vals V) (hV : (keysL V).Nodup) (hs : SameSay d.since S) (hS : (keysL S).Nodup) :
    RDirM F w p rb { d with vals := V, since := S } bb g m1 m2 m3 v M :=
  { own := h.own, box := h.box, wait := h.wait, vals := hv.map hV h.vals, since := hs.map hS h.since, row := h.row, eps := h.eps, sgs := h.sgs, fp := h.fp, fb := h.fb, fg := h.fg, f1 := h.f1, f2 := h.f2, f3 := h.f3, fv := h.fv, n12 := h.n12, n13 := h.n13, n23 := h.n23, lb := h.lb, lg := h.lg, out := h.out, lt := h.lt }
theorem midDst_settled {F : Nat → Prop} {w : World} {p rb : Nat} {d : Dst} {bb g m1 m2 m3 : Nat} {v : Value} {M : List SgM} {S : List ByteArray} {n : Int} (h : RDirM F w p rb (midDst d n S) bb g m1 m2 m3 v M) (hp : S.Perm (keysL d.wait)) (hS : S.Nodup) (hn : n = (d.eps.length : Int) + 1) (hv : (keysL d.vals).Nodup) (hs : (keysL d.since).Nodup) :
    RDirM F w p rb { settled d with wait := d.wait } bb g m1 m2 m3 v M := by
  have hk : (keysL d.wait).Nodup := hp.nodup_iff.1 hS
  have hk2 : (keysL (d.wait.map fun p => (p.1, n))).Nodup := by
    have e : keysL (d.wait.map fun p => (p.1, n)) = keysL d.wait := by unfold keysL; rw [List.map_map]; rfl
    rw [e]; exact hk
  subst hn
  exact h.resay (V := upsAll d.vals d.wait) (S := upsAll d.since (d.wait.map fun p => (p.1, (d.eps.length : Int) + 1)))
    (upsAll_same (by rw [valsFor_keys]; exact hS) hk (sameSay_of_mem (by rw [valsFor_keys]; exact hS) hk (valsFor_perm hk hp))) (upsAll_nodup hv _)
    (upsAll_same (by rw [sinceFor_keys]; exact hS) hk2 (sameSay_of_mem (by rw [sinceFor_keys]; exact hS) hk2 (sinceFor_perm hp))) (upsAll_nodup hs _)
/-- A new map is laid, and waits. -/
theorem RDirM.fresh {F : Nat → Prop} {w : World} {p rb : Nat} {d : Dst} {bb g m1 m2 m3 : Nat} {v : Value} {M : List SgM} (h : RDirM F w p rb d bb g m1 m2 m3 v M) :
    RDirM (fun k => F k ∨ k = w.heap.size) ((w.alloc (.map #[] 0)).setCell ⟨p, 3, none⟩ (.map (some w.heap.size))) p rb { d with wait := [] } bb g w.heap.size m2 m3 v M := by
  have hlt := h.lt
  have hp := h.own.lt
  have hb := alloc_below w (.map #[] 0)
  have hs : Same (fun k => F k ∧ k ≠ p) w ((w.alloc (.map #[] 0)).setCell ⟨p, 3, none⟩ (.map (some w.heap.size))) := ⟨by simp [World.setCell], fun k hk => (Below.heap_setCell _ _ _ _ hk.2).trans (hb.block k (hlt k hk.1))⟩
  have hm : MapIs kS ((w.alloc (.map #[] 0)).setCell ⟨p, 3, none⟩ (.map (some w.heap.size))) w.heap.size [] := (MapIs.made kS w).block (Below.heap_setCell _ _ _ _ (show w.heap.size ≠ p by omega))
  have hp2 : m2 ≠ p := (holds_map h.own h.vals).symm
  have hp3 : m3 ≠ p := (holds_map h.own h.since).symm
  have hvp : ∀ k, v.ownBlock = some k → k ≠ p := fun k hk e => by have := (h.row.lt k hk).1; omega
  exact {
    own := by
      refine ((h.own.alloc (.map #[] 0)).set 3 (.map (some w.heap.size))).congr fun i hi => ?_
      unfold upd rdF
      rcases (show i = 0 ∨ i = 1 ∨ i = 2 ∨ i = 3 ∨ i = 4 ∨ i = 5 ∨ i = 6 by omega) with rfl | rfl | rfl | rfl | rfl | rfl | rfl <;> rfl
    box := h.box.same hs ⟨h.fb, by have := h.lb; omega⟩ ⟨h.fg, by have := h.lg; omega⟩
    wait := hm
    vals := h.vals.block (hs.block _ ⟨h.f2, hp2⟩)
    since := h.since.block (hs.block _ ⟨h.f3, hp3⟩)
    row := h.row.kept (fun k hk => hs.block k ⟨h.fv k hk, hvp k hk⟩) hs.size
    eps := h.eps
    sgs := fun m hm => by
      have h1 := (h.sgs m hm).same (hs.mono fun _ h => ⟨h.1, h.2.2.2.2.2⟩)
      exact h1.mono fun k hk => ⟨.inl hk.1, hk.2.1, by have := hlt k hk.1; omega, hk.2.2.2.1, hk.2.2.2.2.1, hk.2.2.2.2.2⟩
    fp := .inl h.fp, fb := .inl h.fb, fg := .inl h.fg, f1 := .inr rfl, f2 := .inl h.f2, f3 := .inl h.f3, fv := fun k hk => .inl (h.fv k hk)
    n12 := by have := hlt _ h.f2; omega
    n13 := by have := hlt _ h.f3; omega
    n23 := h.n23, lb := h.lb, lg := h.lg
    out := fun k hk => by
      have h1 := h.out k hk
      refine ⟨?_, h1.2⟩
      rcases hk with rfl | rfl | hk
      · have := hlt _ h.fb; omega
      · have := hlt _ h.fg; omega
      · have := hlt _ (h.fv k hk); omega
    lt := fun k hk => by
      have e : ((w.alloc (.map #[] 0)).setCell ⟨p, 3, none⟩ (.map (some w.heap.size))).heap.size = w.heap.size + 1 := by simp [World.setCell]
      rw [e]
      rcases hk with hk | rfl
      · have := hlt k hk; omega
      · omega }
end Go.Proofs.YtcfpmofmjnhonaaGreatDoor
