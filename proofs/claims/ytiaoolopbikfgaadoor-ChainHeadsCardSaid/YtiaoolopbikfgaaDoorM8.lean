/- Parts of the proof, one behind the other: PHead, RepL, Rep, RNext. -/
import Derived.Test.YtiaoolopbikfgaaDoorM7
import Derived.Shelf.Strings.Repeat
import Derived.Test.YtiaoolopbikfgaaDoorProg
import Derived.Test.YtiaoolopbikfgaaDoorM1
import Derived.KernelRfl
/- The program's Right and Mark of heads. -/
namespace Go.Proofs.YtiaoolopbikfgaaDoor
open Go.RowKit

theorem pcIsMark_any (s : ByteArray) (w : World) : Calls Tryd.prog 26 #[.string s] w fun e w' => e = .returned (.bool (decide (s.size = 16))) ∧ w' = w := by
  by_cases h : s.size = 16
  · rw [decide_eq_true h]
    have hi : ((s.size : Int) == 16) = true := by rw [beq_iff_eq]; omega
    go_enter Tryd.func26, Tryd.ntmps26
    go_wp2
    go_ret
    exact ⟨rfl, rfl⟩
  · rw [decide_eq_false h]
    have hi : ((s.size : Int) == 16) = false := by rw [beq_eq_false_iff_ne]; omega
    go_enter Tryd.func26, Tryd.ntmps26
    go_wp2
    go_ret
    exact ⟨rfl, rfl⟩
set_option maxRecDepth 100000 in
theorem pHdRight_any (h : Hd) (w : World) :
    Calls Tryd.prog 10 #[.agg #[.int .i64 h.epoch, .string h.root, .string h.prev]] w fun e w' => e = .returned (.bool (rightHead h)) ∧ Below w.heap.size w w' := by
  have HBW := Lib.hid (alloc_below w (.cells #[.int .i64 h.epoch, .string h.root, .string h.prev] 31))
  obtain ⟨T, hT⟩ : ∃ T, rightHead h = T := ⟨_, rfl⟩
  rw [hT]
  have HT := Lib.hid hT
  clear hT
  by_cases h1 : 1 ≤ h.epoch
  · have h1' : 0 < h.epoch := by omega
    obtain ⟨E, hE⟩ : ∃ E, decide (h.root.size = 16) = E := ⟨_, rfl⟩
    obtain ⟨G, hG⟩ : ∃ G, decide (h.prev.size = 16) = G := ⟨_, rfl⟩
    have hF : T = (E && G) := by rw [← HT.out, ← hE, ← hG]; unfold rightHead; rw [decide_eq_true h1']; rfl
    subst hF
    have HE := Lib.hid hE
    have HG := Lib.hid hG
    clear hE hG h1'
    cases E
    · go_enter Tryd.func10, Tryd.ntmps10
      go_wp2_with fail
      refine (pcIsMark_any _ _).mono ?_
      rintro e w1 ⟨rfl, rfl⟩
      rw [HE.out]
      go_wp2
      go_ret
      exact ⟨rfl, HBW.out⟩
    · go_enter Tryd.func10, Tryd.ntmps10
      go_wp2_with fail
      refine (pcIsMark_any _ _).mono ?_
      rintro e w1 ⟨rfl, rfl⟩
      rw [HE.out]
      go_wp2_with fail
      refine (pcIsMark_any _ _).mono ?_
      rintro e w1 ⟨rfl, rfl⟩
      rw [HG.out]
      go_wp2
      go_ret
      exact ⟨rfl, HBW.out⟩
  · have hF : T = false := by rw [← HT.out]; unfold rightHead; rw [decide_eq_false (show ¬ 0 < h.epoch by omega)]; simp
    subst hF
    go_enter Tryd.func10, Tryd.ntmps10
    go_wp2
    go_ret
    exact ⟨rfl, HBW.out⟩
set_option maxRecDepth 100000 in
theorem pHdMark_is (h : Hd) (s : ByteArray) (n : Int) (w : World) (hk : HasK w) (hh : headMarkAns h = (s, n)) :
    Calls Tryd.prog 8 #[.agg #[.int .i64 h.epoch, .string h.root, .string h.prev]] w fun e w' => e = .returned (.tuple #[.string s, errOf n]) ∧ Below w.heap.size w w' := by
  have HB0 := Lib.hid (alloc_below w (.cells #[.int .i64 h.epoch, .string h.root, .string h.prev] 31))
  have HH0 := Lib.hid (show Holds (w.alloc (.cells #[.int .i64 h.epoch, .string h.root, .string h.prev] 31)) w.heap.size 3 (hdF h) 31 from Holds.new w 3 (hdF h) 31)
  have HR := Lib.hid (hk.below HB0.out hk.lt)
  clear hk
  have HLD0 := Lib.hid (show (w.alloc (.cells #[.int .i64 h.epoch, .string h.root, .string h.prev] 31)).cell? ⟨w.heap.size, 0, none⟩ = some (.int .i64 h.epoch) ∧ (w.alloc (.cells #[.int .i64 h.epoch, .string h.root, .string h.prev] 31)).cell? ⟨w.heap.size, 1, none⟩ = some (.string h.root) ∧ (w.alloc (.cells #[.int .i64 h.epoch, .string h.root, .string h.prev] 31)).cell? ⟨w.heap.size, 2, none⟩ = some (.string h.prev) from ⟨HH0.out.cell 0 (by omega), HH0.out.cell 1 (by omega), HH0.out.cell 2 (by omega)⟩)
  unfold headMarkAns at hh
  by_cases hk : rightHead h = true
  · rw [if_pos hk] at hh
    obtain ⟨rfl, rfl⟩ := Prod.mk.inj hh
    have HK := Lib.hid hk
    have HE0 := Lib.hid (show errOf 0 = Value.nilIface from rfl)
    clear hh hk
    rw [HE0.out]
    go_enter Tryd.func8, Tryd.ntmps8
    go_wp2_with fail
    refine (pHdRight_any h _).mono ?_
    rintro e w1 ⟨rfl, hb1⟩
    rw [HK.out]
    have HB1 := Lib.hid (HB0.out.trans (hb1.mono HB0.out.size))
    have HH1 := Lib.hid (HH0.out.below hb1 HH0.out.lt)
    have HR1 := Lib.hid (HR.out.below hb1 HR.out.lt)
    clear hb1
    have HN1 := Lib.hid HH1.out.lt
    have HC1 := Lib.hid (show w1.cell? ⟨w.heap.size, 0, none⟩ = some (.int .i64 h.epoch) ∧ w1.cell? ⟨w.heap.size, 1, none⟩ = some (.string h.root) ∧ w1.cell? ⟨w.heap.size, 2, none⟩ = some (.string h.prev) from ⟨HH1.out.cell 0 (by omega), HH1.out.cell 1 (by omega), HH1.out.cell 2 (by omega)⟩)
    go_wp2
    have HS0 := Lib.hid (show w1.cell? ⟨w.heap.size, 0, none⟩ = some (.int .i64 h.epoch) ∧ w1.cell? ⟨w.heap.size, 1, none⟩ = some (.string h.root) ∧ w1.cell? ⟨w.heap.size, 2, none⟩ = some (.string h.prev) ∧ Below w1.heap.size w1 w1.drew from ⟨HC1.out.1, HC1.out.2.1, HC1.out.2.2, (Below.refl _ _).drew⟩)
    have HKEEP := Lib.hid (show ∀ u v : World, (u.cell? ⟨w.heap.size, 0, none⟩ = some (.int .i64 h.epoch) ∧ u.cell? ⟨w.heap.size, 1, none⟩ = some (.string h.root) ∧ u.cell? ⟨w.heap.size, 2, none⟩ = some (.string h.prev) ∧ Below w1.heap.size w1 u) → Below u.heap.size u v → (v.cell? ⟨w.heap.size, 0, none⟩ = some (.int .i64 h.epoch) ∧ v.cell? ⟨w.heap.size, 1, none⟩ = some (.string h.root) ∧ v.cell? ⟨w.heap.size, 2, none⟩ = some (.string h.prev) ∧ Below w1.heap.size w1 v) from
      fun u v ⟨h0, h1, h2, hb⟩ hv => ⟨(hv.cell (Nat.lt_of_lt_of_le HN1.out hb.size)).trans h0, (hv.cell (Nat.lt_of_lt_of_le HN1.out hb.size)).trans h1, (hv.cell (Nat.lt_of_lt_of_le HN1.out hb.size)).trans h2, hb.trans (hv.mono hb.size)⟩)
    have HHOLD := Lib.hid (show ∀ u : World, (u.cell? ⟨w.heap.size, 0, none⟩ = some (.int .i64 h.epoch) ∧ u.cell? ⟨w.heap.size, 1, none⟩ = some (.string h.root) ∧ u.cell? ⟨w.heap.size, 2, none⟩ = some (.string h.prev) ∧ Below w1.heap.size w1 u) → HasK u from fun u hu => HR1.out.below hu.2.2.2 HR1.out.lt)
    have HTOT := Lib.hid (show total [txt (num8 h.epoch), h.root, h.prev] ≤ 1073741800 by obtain ⟨_, h2, h3⟩ := rightHead_facts HK.out; simp [total, num_size]; omega)
    go_region_held3 (fun w' => w'.cell? ⟨w.heap.size, 0, none⟩ = some (.int .i64 h.epoch) ∧ w'.cell? ⟨w.heap.size, 1, none⟩ = some (.string h.root) ∧ w'.cell? ⟨w.heap.size, 2, none⟩ = some (.string h.prev) ∧ Below w1.heap.size w1 w')
      (first | exact HS0.out | (refine HKEEP.out _ _ ?_ (by assumption); first | exact HS0.out | assumption | exact ⟨by assumption, by assumption, by assumption, by assumption⟩) | (refine HKEEP.out _ _ ?_ (alloc_below _ _); first | exact HS0.out | assumption | exact ⟨by assumption, by assumption, by assumption, by assumption⟩))
      (first | (go_at_call 24; refine (num_any h.epoch _).mono ?_; rintro e w2 ⟨rfl, hb2⟩) | (go_at_call 23; refine (mark_any 104 [txt (num8 h.epoch), h.root, h.prev] (some ⟨_, 0, none⟩) 3 _ (HHOLD.out _ (by assumption)) HTOT.out (by simp) (strs_new _ [txt (num8 h.epoch), h.root, h.prev] 9)).mono ?_; rintro e w2 ⟨rfl, hb2⟩))
    rename_i hheld
    have HB2 := Lib.hid (HB1.out.trans (hheld.2.2.2.mono HB1.out.size))
    clear hheld
    go_wp2
    refine bodyPost_ret (results_tmp2 rfl _ _ _) rfl ?_
    exact ⟨rfl, HB2.out⟩
  · rw [if_neg hk] at hh
    obtain ⟨rfl, rfl⟩ := Prod.mk.inj hh
    have HK := Lib.hid (show rightHead h = false by simpa using hk)
    clear hh hk
    go_enter Tryd.func8, Tryd.ntmps8
    go_wp2_with fail
    refine (pHdRight_any h _).mono ?_
    rintro e w1 ⟨rfl, hb1⟩
    rw [HK.out]
    have HB1 := Lib.hid (HB0.out.trans (hb1.mono HB0.out.size))
    clear hb1
    go_wp2
    refine bodyPost_ret (results_tmp2 rfl _ _ _) rfl ?_
    exact ⟨rfl, HB1.out⟩
end Go.Proofs.YtiaoolopbikfgaaDoor
/- strings.Repeat, laid by name, no walk; one byte, sixteen times. -/
namespace Go.Proofs
open Go.Shelf
set_option maxRecDepth 100000
def Tryd.lays105_ren : Go.Shelf.Ren := ⟨fun | 105 => 30 | 212 => 39 | 99 => 40 | 165 => 41 | 166 => 42 | 170 => 43 | 169 => 44 | 263 => 50 | 264 => 51 | 206 => 52 | 240 => 53 | 241 => 54 | 276 => 61 | 277 => 62 | n => n, fun | 9 => 9 | 3 => 3 | 4 => 4 | 20 => 20 | 0 => 0 | 46 => 82 | 109 => 83 | 5 => 5 | 72 => 88 | 76 => 90 | 51 => 48 | 146 => 100 | 53 => 56 | 148 => 102 | 70 => 86 | 37 => 62 | 75 => 33 | 127 => 104 | 164 => 107 | 80 => 71 | n => n, fun | n => n⟩
theorem Tryd.lays105 : Go.Proofs.Lays.n105 Tryd.prog Tryd.lays105_ren := {
  mixed := by kernel_rfl
  f99 := Tryd.func40.trans (congrArg some (by kernel_rfl))
  f105 := Tryd.func30.trans (congrArg some (by kernel_rfl))
  f165 := Tryd.func41.trans (congrArg some (by kernel_rfl))
  f166 := Tryd.func42.trans (congrArg some (by kernel_rfl))
  f169 := Tryd.func44.trans (congrArg some (by kernel_rfl))
  f170 := Tryd.func43.trans (congrArg some (by kernel_rfl))
  f206 := Tryd.func52.trans (congrArg some (by kernel_rfl))
  f212 := Tryd.func39.trans (congrArg some (by kernel_rfl))
  f240 := Tryd.func53.trans (congrArg some (by kernel_rfl))
  f241 := Tryd.func54.trans (congrArg some (by kernel_rfl))
  f263 := Tryd.func50.trans (congrArg some (by kernel_rfl))
  f264 := Tryd.func51.trans (congrArg some (by kernel_rfl))
  f276 := Tryd.func61.trans (congrArg some (by kernel_rfl))
  f277 := Tryd.func62.trans (congrArg some (by kernel_rfl))
  t0 := Tryd.underlying0
  a0 := Tryd.isAgg0
  z0 := Tryd.sizeOf0
  v0 := Tryd.zeroValue0
  t3 := Tryd.underlying3
  a3 := Tryd.isAgg3
  z3 := Tryd.sizeOf3
  v3 := Tryd.zeroValue3
  t4 := Tryd.underlying4
  a4 := Tryd.isAgg4
  z4 := Tryd.sizeOf4
  v4 := Tryd.zeroValue4
  t5 := Tryd.underlying5
  a5 := Tryd.isAgg5
  z5 := Tryd.sizeOf5
  v5 := Tryd.zeroValue5
  t9 := Tryd.underlying9
  a9 := Tryd.isAgg9
  z9 := Tryd.sizeOf9
  v9 := Tryd.zeroValue9
  t20 := Tryd.underlying20
  a20 := Tryd.isAgg20
  z20 := Tryd.sizeOf20
  v20 := Tryd.zeroValue20
  t37 := Tryd.underlying62
  a37 := Tryd.isAgg62
  z37 := Tryd.sizeOf62
  v37 := Tryd.zeroValue62
  t46 := Tryd.underlying82
  a46 := Tryd.isAgg82
  z46 := Tryd.sizeOf82
  v46 := Tryd.zeroValue82
  t51 := Tryd.underlying48
  a51 := Tryd.isAgg48
  z51 := Tryd.sizeOf48
  v51 := Tryd.zeroValue48
  t53 := Tryd.underlying56
  a53 := Tryd.isAgg56
  z53 := Tryd.sizeOf56
  v53 := Tryd.zeroValue56
  t70 := Tryd.underlying86
  a70 := Tryd.isAgg86
  z70 := Tryd.sizeOf86
  v70 := Tryd.zeroValue86
  t72 := Tryd.underlying88
  a72 := Tryd.isAgg88
  z72 := Tryd.sizeOf88
  v72 := Tryd.zeroValue88
  t75 := Tryd.underlying33
  a75 := Tryd.isAgg33
  z75 := Tryd.sizeOf33
  v75 := Tryd.zeroValue33
  t76 := Tryd.underlying90
  a76 := Tryd.isAgg90
  z76 := Tryd.sizeOf90
  v76 := Tryd.zeroValue90
  t109 := Tryd.underlying83
  a109 := Tryd.isAgg83
  z109 := Tryd.sizeOf83
  v109 := Tryd.zeroValue83
  t127 := Tryd.underlying104
  a127 := Tryd.isAgg104
  z127 := Tryd.sizeOf104
  v127 := Tryd.zeroValue104
  t146 := Tryd.underlying100
  a146 := Tryd.isAgg100
  z146 := Tryd.sizeOf100
  v146 := Tryd.zeroValue100
  t148 := Tryd.underlying102
  a148 := Tryd.isAgg102
  z148 := Tryd.sizeOf102
  v148 := Tryd.zeroValue102
  t164 := Tryd.underlying107
  a164 := Tryd.isAgg107
  z164 := Tryd.sizeOf107
  v164 := Tryd.zeroValue107 }
theorem Tryd.Builder_Extra_105 : Builder.Extra Tryd.prog Tryd.lays105_ren := {
  sizeBuilder := by kernel_rfl
  liesBuilder := by kernel_rfl
  t5 := Tryd.underlying5
  a5 := Tryd.isAgg5
  z5 := Tryd.sizeOf5
  v5 := Tryd.zeroValue5
  infoByte := by kernel_rfl
  cellsByte := by kernel_rfl
  sizeByte := by kernel_rfl
  neB5 := by decide }
end Go.Proofs
namespace Go.Proofs.YtiaoolopbikfgaaDoor
open Go.RowKit Go.Lib
def rep16 (c : UInt8) : ByteArray := ⟨(Lib.repeatL [c] 16).toArray⟩
theorem rep16_size (c : UInt8) : (rep16 c).size = 16 := rfl
theorem repeat16_any (c : UInt8) (w : World) : Calls Tryd.prog 30 #[.string ⟨#[c]⟩, .int .i64 16] w fun e w' => e = .returned (.string (rep16 c)) ∧ Below w.heap.size w w' :=
  (Any.strings_Repeat_main Tryd.lays105 Tryd.Builder_Extra_105 ⟨#[c]⟩ 16 w (by decide) (by decide) (by show 1 * 16 ≤ 140737488355328; decide) (by show 0 < 1; decide)).mono fun _ _ h => ⟨h.1, h.2⟩
end Go.Proofs.YtiaoolopbikfgaaDoor
/- strings.Repeat of one byte of 0, sixteen times. -/
namespace Go.Proofs.YtiaoolopbikfgaaDoor
open Go.RowKit Go.Lib
theorem repeat_nul (w : World) : Calls Tryd.prog 30 #[.string ⟨#[0]⟩, .int .i64 16] w fun e w' => e = .returned (.string none16) ∧ Below w.heap.size w w' :=
  (Any.strings_Repeat_main Tryd.lays105 Tryd.Builder_Extra_105 ⟨#[0]⟩ 16 w (by decide) (by decide) (by decide) (by decide)).mono fun _ _ h => ⟨h.1, h.2⟩
end Go.Proofs.YtiaoolopbikfgaaDoor
/- The document's Next. -/
namespace Go.Proofs.YtiaoolopbikfgaaDoor
open Go.RowKit

theorem infoHead : (Tryd.prog.info? 31).map (·.size) = some 3 := by kernel_rfl
/-- What stands in the next head's variable ahead of round k. -/
def nextUpto (L : List Hd) (root : ByteArray) (k : Nat) : Hd := if k = L.length ∧ 0 < L.length then afterHd (hdAt L (k - 1)) root else firstHd root
theorem nextUpto_start (L : List Hd) (root : ByteArray) : nextUpto L root 0 = firstHd root := by
  unfold nextUpto; rw [if_neg (by omega)]
theorem nextUpto_step {L : List Hd} {root : ByteArray} {k : Nat} (h : k + 1 < L.length) : nextUpto L root (k + 1) = nextUpto L root k := by
  unfold nextUpto; rw [if_neg (by omega), if_neg (by omega)]
theorem nextUpto_last {L : List Hd} {root : ByteArray} {k : Nat} (h : k + 1 = L.length) : nextUpto L root (k + 1) = afterHd (hdAt L k) root := by
  unfold nextUpto; rw [if_pos (by omega)]; rfl
theorem last_of {L : List Hd} {k : Nat} (h : k + 1 = L.length) : L.getLast? = some (hdAt L k) := by
  rw [List.getLast?_eq_getElem?, ← h, Nat.add_sub_cancel, List.getElem?_eq_getElem (by omega), hdAt_of (by omega)]
theorem nextAns_bad {L : List Hd} {root : ByteArray} {k : Nat} (h : k + 1 = L.length) (hr : rightHead (hdAt L k) = false) : nextAns L root = (noHd, 1) := by
  unfold nextAns nextHd
  rw [last_of h]
  simp [hr]
theorem nextAns_upto {L : List Hd} {root : ByteArray} (hr : 0 < L.length → rightHead (hdAt L (L.length - 1)) = true) : nextAns L root = if rightHead (nextUpto L root L.length) = true then (nextUpto L root L.length, 0) else (noHd, 1) := by
  unfold nextAns nextHd
  rcases Nat.eq_zero_or_pos L.length with h | h
  · obtain rfl := List.eq_nil_of_length_eq_zero h
    rfl
  · obtain ⟨k, hk⟩ : ∃ k, k + 1 = L.length := ⟨L.length - 1, by omega⟩
    have h2 := hr h
    rw [← hk, Nat.add_sub_cancel] at h2
    rw [last_of hk, ← hk, nextUpto_last hk]
    simp [h2]
def resF (h : Hd) : Array Value := #[.int .i64 h.epoch, .string h.root, .string h.prev]

set_option maxHeartbeats 1000000 in
set_option maxRecDepth 100000 in
theorem refNext_is (b : Nat) (L : List Hd) (A : Option Addr) (cap : Nat) (root : ByteArray) (y : Hd) (n : Int) (w : World) (hl : L.length ≤ 1000000) (hr : Holds w b 72 refCells 52) (hm : Hds w A L) (h : nextAns L root = (y, n)) :
    Calls Tryd.prog 13 #[.pointer (some ⟨b, 0, none⟩), .slice A L.length cap, .string root] w fun e w' => e = .returned (.tuple #[.agg #[.int .i64 y.epoch, .string y.root, .string y.prev], .int .i64 n]) ∧ Below w.heap.size w w' := by
  have HR := Lib.hid hr
  have HM := Lib.hid hm
  have HY := Lib.hid h
  have HB0 := Lib.hid (alloc_below w (.cells #[.int .i64 0, .string ⟨#[]⟩, .string ⟨#[]⟩] 31))
  have HS0 := Lib.hid (show Holds (w.alloc (.cells #[.int .i64 0, .string ⟨#[]⟩, .string ⟨#[]⟩] 31)) w.heap.size 3 (hdF noHd) 31 from Holds.new w 3 (hdF noHd) 31)
  clear hr hm h
  go_enter Tryd.func13, Tryd.ntmps13
  go_wp2_with fail
  refine (repeat_nul _).mono ?_
  rintro e w1 ⟨rfl, hb1⟩
  have HB1 := Lib.hid (HB0.out.trans (hb1.mono HB0.out.size))
  have HS1 := Lib.hid (HS0.out.below hb1 HS0.out.lt)
  clear hb1
  have HF1 := Lib.hid (show Holds (w1.alloc (.cells #[.int .i64 1, .string root, .string none16] 31)) w1.heap.size 3 (hdF (firstHd root)) 31 from Holds.new w1 3 (hdF (firstHd root)) 31)
  have HB2 := Lib.hid (HB1.out.trans ((alloc_below w1 (.cells #[.int .i64 1, .string root, .string none16] 31)).mono HB1.out.size))
  have HS2 := Lib.hid (HS1.out.below (alloc_below w1 (.cells #[.int .i64 1, .string root, .string none16] 31)) HS1.out.lt)
  have HHB := Lib.hid (show w.heap.size < w1.heap.size from HS1.out.lt)
  go_wp2
  generalize w1.alloc (.cells #[.int .i64 1, .string root, .string none16] 31) = w2 at HF1 HB2 HS2
  generalize w1.heap.size = hb at HF1 HHB
  go_loopw [18] (fun i wr => ∃ k : Nat, k ≤ L.length ∧ i = .int .i64 (k : Int) ∧ Hid ((k = L.length → 0 < k → rightHead (hdAt L (k - 1)) = true) ∧ Below w.heap.size w wr ∧ Holds wr w.heap.size 3 (hdF noHd) 31 ∧ Holds wr hb 3 (hdF (nextUpto L root k)) 31)) (fun i _ => L.length - (intOf i).toNat)
  case atStart => exact ⟨0, by omega, rfl, Lib.hid ⟨fun _ h => by omega, HB2.out, HS2.out, by rw [nextUpto_start]; exact HF1.out⟩⟩
  case round =>
    obtain ⟨k, hk, rfl, HU⟩ := hrel
    by_cases hlt : k < L.length
    · obtain ⟨a, rfl, hal, c0, c1, c2⟩ := (HM.out.below HU.out.2.1).at_ hlt
      have d1 : wr.cell? ⟨(a.add (k * 3)).block, (a.add (k * 3)).off + 1, none⟩ = some (.string (hdAt L k).root) := c1
      have d2 : wr.cell? ⟨(a.add (k * 3)).block, (a.add (k * 3)).off + 2, none⟩ = some (.string (hdAt L k).prev) := c2
      obtain ⟨X, hX⟩ : ∃ X, hdAt L k = X := ⟨_, rfl⟩
      rw [hX] at c0 d1 d2
      have HX := Lib.hid hX
      clear hX c1 c2
      by_cases hlast : k + 1 < L.length
      · have e1 : decide ((k : Int) < (L.length : Int) - 1) = true := by simp; omega
        have HU' := Lib.hid (show (k + 1 = L.length → 0 < k + 1 → rightHead (hdAt L (k + 1 - 1)) = true) ∧ Below w.heap.size w (wr.alloc (.cells #[.int .i64 X.epoch, .string X.root, .string X.prev] 31)) ∧ Holds (wr.alloc (.cells #[.int .i64 X.epoch, .string X.root, .string X.prev] 31)) w.heap.size 3 (hdF noHd) 31 ∧ Holds (wr.alloc (.cells #[.int .i64 X.epoch, .string X.root, .string X.prev] 31)) hb 3 (hdF (nextUpto L root (k + 1))) 31 from
          ⟨fun h => by omega, HU.out.2.1.alloc HU.out.2.1.size _, HU.out.2.2.1.alloc _, by rw [nextUpto_step hlast]; exact HU.out.2.2.2.alloc _⟩)
        go_wp2
        go_roundw
        case rel => exact ⟨k + 1, by omega, by go_num, HU'⟩
        case measure => simp [intOf]; omega
      · have e1 : decide ((k : Int) < (L.length : Int) - 1) = false := by simp; omega
        have HLAST := Lib.hid (show k + 1 = L.length by omega)
        have HW1 := Lib.hid (show Below w.heap.size w (wr.alloc (.cells #[.int .i64 X.epoch, .string X.root, .string X.prev] 31)) from HU.out.2.1.alloc HU.out.2.1.size _)
        have HRS1 := Lib.hid (HU.out.2.2.1.alloc (.cells #[.int .i64 X.epoch, .string X.root, .string X.prev] 31))
        have HHB1 := Lib.hid (HU.out.2.2.2.alloc (.cells #[.int .i64 X.epoch, .string X.root, .string X.prev] 31))
        have HXB1 := Lib.hid (show Holds (wr.alloc (.cells #[.int .i64 X.epoch, .string X.root, .string X.prev] 31)) wr.heap.size 3 (hdF X) 31 from Holds.new wr 3 (hdF X) 31)
        have HNE := Lib.hid (show hb < wr.heap.size from HU.out.2.2.2.lt)
        have hkb : k ≤ 1000000 := by omega
        clear hlast hk
        go_wp2_with fail
        clear c0 d1 d2 e1 hlt
        generalize wr.alloc (.cells #[.int .i64 X.epoch, .string X.root, .string X.prev] 31) = w3 at HW1 HRS1 HHB1 HXB1
        generalize wr.heap.size = xb at HXB1 HNE
        obtain ⟨s, m, hsm⟩ : ∃ s m, headMarkAns X = (s, m) := ⟨_, _, rfl⟩
        have HSM := Lib.hid hsm
        refine (refHeadMark_is b X s m _ (HR.out.below HW1.out HR.out.lt) hsm).mono ?_
        rintro e w4 ⟨rfl, hb4⟩
        have HW4 := Lib.hid (HW1.out.trans (hb4.mono HW1.out.size))
        have HRS4 := Lib.hid (HRS1.out.below hb4 HRS1.out.lt)
        have HHB4 := Lib.hid (HHB1.out.below hb4 HHB1.out.lt)
        have HXB4 := Lib.hid (HXB1.out.below hb4 HXB1.out.lt)
        clear hb4
        unfold headMarkAns at hsm
        by_cases hrx : rightHead X = true
        · rw [if_pos hrx] at hsm
          obtain ⟨hs, hm0⟩ := Prod.mk.inj hsm
          subst hm0
          have HS := Lib.hid hs
          have HRX := Lib.hid hrx
          clear hs hsm hrx
          have x0 : w4.cell? ⟨xb, 0, none⟩ = some (.int .i64 X.epoch) := HXB4.out.cell 0 (by omega)
          have q0 : w4.cell? ⟨hb, 0, none⟩ = some (.int .i64 (nextUpto L root k).epoch) := HHB4.out.cell 0 (by omega)
          have q2 : w4.cell? ⟨hb, 2, none⟩ = some (.string (nextUpto L root k).prev) := HHB4.out.cell 2 (by omega)
          have f0 : w4.frozen? ⟨hb, 0, none⟩ = false := HHB4.out.free 0
          have f2 : w4.frozen? ⟨hb, 2, none⟩ = false := HHB4.out.free 2
          go_wp2
          go_roundw
          case rel =>
            have hlast := HLAST.out
            refine ⟨k + 1, by omega, by go_num, Lib.hid ⟨fun _ _ => by rw [Nat.add_sub_cancel, HX.out]; exact HRX.out, ?_, ?_, ?_⟩⟩
            · exact (HW4.out.setCell (by have := HHB.out; show w.heap.size ≤ hb; omega) _).setCell (by have := HHB.out; show w.heap.size ≤ hb; omega) _
            · exact (HRS4.out.other (by have := HHB.out; show w.heap.size ≠ hb; omega) _).other (by have := HHB.out; show w.heap.size ≠ hb; omega) _
            · refine ((HHB4.out.set 0 _).set 2 _).congr fun i hi => ?_
              rw [nextUpto_last hlast, HX.out]
              have hroot : (nextUpto L root k).root = root := by unfold nextUpto; split <;> rfl
              have hs := HS.out
              rcases (show i = 0 ∨ i = 1 ∨ i = 2 by omega) with rfl | rfl | rfl
              · simp [upd, hdF, afterHd]
              · simp [upd, hdF, afterHd, hroot]
              · simp [upd, hdF, afterHd, hs]
          case measure => have hlast := HLAST.out; simp [intOf]; omega
        · have hrf : rightHead X = false := by simpa using hrx
          rw [if_neg hrx] at hsm
          obtain ⟨hs, hm0⟩ := Prod.mk.inj hsm
          subst hm0 hs
          have HBAD := Lib.hid (show (noHd, (1 : Int)) = (y, n) by rw [← HY.out]; exact (nextAns_bad HLAST.out (by rw [HX.out]; exact hrf)).symm)
          clear hsm hrx hrf
          obtain ⟨rfl, rfl⟩ := Prod.mk.inj HBAD.out
          have p0 : w4.cell? ⟨w.heap.size, 0, none⟩ = some (.int .i64 0) := HRS4.out.cell 0 (by omega)
          have p1 : w4.cell? ⟨w.heap.size, 1, none⟩ = some (.string ⟨#[]⟩) := HRS4.out.cell 1 (by omega)
          have p2 : w4.cell? ⟨w.heap.size, 2, none⟩ = some (.string ⟨#[]⟩) := HRS4.out.cell 2 (by omega)
          have f0 : w4.frozen? ⟨w.heap.size, 0, none⟩ = false := HRS4.out.free 0
          have f1 : w4.frozen? ⟨w.heap.size, 1, none⟩ = false := HRS4.out.free 1
          have f2 : w4.frozen? ⟨w.heap.size, 2, none⟩ = false := HRS4.out.free 2
          have HFIN := Lib.hid (show Holds (((w4.setCell ⟨w.heap.size, 0, none⟩ (.int .i64 noHd.epoch)).setCell ⟨w.heap.size, 1, none⟩ (.string noHd.root)).setCell ⟨w.heap.size, 2, none⟩ (.string noHd.prev)) w.heap.size 3 (hdF noHd) 31 from
            (((HRS4.out.set 0 _).set 1 _).set 2 _).congr fun i hi => by
              rcases (show i = 0 ∨ i = 1 ∨ i = 2 by omega) with rfl | rfl | rfl <;> simp [upd, hdF])
          have HFB := Lib.hid (show Below w.heap.size w (((w4.setCell ⟨w.heap.size, 0, none⟩ (.int .i64 noHd.epoch)).setCell ⟨w.heap.size, 1, none⟩ (.string noHd.root)).setCell ⟨w.heap.size, 2, none⟩ (.string noHd.prev)) from
            (((HW4.out.setCell (Nat.le_refl _) _).setCell (Nat.le_refl _) _).setCell (Nat.le_refl _) _))
          go_wp2
          refine bodyPost_ret (results_row2 rfl _ _ w.heap.size 31 (arr 3 (hdF noHd)) (0, 0) _ rfl HFIN.out Tryd.underlying31 rfl (by rw [arr_size]; exact infoHead)) rfl ?_
          exact ⟨rfl, HFB.out⟩
    · have HKL := Lib.hid (show k = L.length by omega)
      have hans : nextAns L root = if rightHead (nextUpto L root k) = true then (nextUpto L root k, 0) else (noHd, 1) := by
        rw [HKL.out]
        exact nextAns_upto fun h => by have := HU.out.1 HKL.out (by rw [HKL.out]; exact h); rwa [HKL.out] at this
      rw [HY.out] at hans
      generalize nextUpto L root k = Z at hans HU
      have c0 : wr.cell? ⟨hb, 0, none⟩ = some (.int .i64 Z.epoch) := HU.out.2.2.2.cell 0 (by omega)
      have c1 : wr.cell? ⟨hb, 1, none⟩ = some (.string Z.root) := HU.out.2.2.2.cell 1 (by omega)
      have c2 : wr.cell? ⟨hb, 2, none⟩ = some (.string Z.prev) := HU.out.2.2.2.cell 2 (by omega)
      have HANS := Lib.hid hans
      clear hans
      go_wp2_with fail
      clear c0 c1 c2
      refine (refRightHead_any Z _).mono ?_
      rintro e w4 ⟨rfl, hb4⟩
      have HW4 := Lib.hid (HU.out.2.1.trans (hb4.mono HU.out.2.1.size))
      have HRS4 := Lib.hid (HU.out.2.2.1.below hb4 HU.out.2.2.1.lt)
      have HHB4 := Lib.hid (HU.out.2.2.2.below hb4 HU.out.2.2.2.lt)
      clear hb4
      by_cases hz : rightHead Z = true
      · have hans := HANS.out
        rw [if_pos hz] at hans
        obtain ⟨rfl, rfl⟩ := Prod.mk.inj hans
        rw [hz]
        clear hans hz
        have c0 : w4.cell? ⟨hb, 0, none⟩ = some (.int .i64 y.epoch) := HHB4.out.cell 0 (by omega)
        have c1 : w4.cell? ⟨hb, 1, none⟩ = some (.string y.root) := HHB4.out.cell 1 (by omega)
        have c2 : w4.cell? ⟨hb, 2, none⟩ = some (.string y.prev) := HHB4.out.cell 2 (by omega)
        have p0 : w4.cell? ⟨w.heap.size, 0, none⟩ = some (.int .i64 0) := HRS4.out.cell 0 (by omega)
        have p1 : w4.cell? ⟨w.heap.size, 1, none⟩ = some (.string ⟨#[]⟩) := HRS4.out.cell 1 (by omega)
        have p2 : w4.cell? ⟨w.heap.size, 2, none⟩ = some (.string ⟨#[]⟩) := HRS4.out.cell 2 (by omega)
        have f0 : w4.frozen? ⟨w.heap.size, 0, none⟩ = false := HRS4.out.free 0
        have f1 : w4.frozen? ⟨w.heap.size, 1, none⟩ = false := HRS4.out.free 1
        have f2 : w4.frozen? ⟨w.heap.size, 2, none⟩ = false := HRS4.out.free 2
        have HFIN := Lib.hid (show Holds (((w4.setCell ⟨w.heap.size, 0, none⟩ (.int .i64 y.epoch)).setCell ⟨w.heap.size, 1, none⟩ (.string y.root)).setCell ⟨w.heap.size, 2, none⟩ (.string y.prev)) w.heap.size 3 (hdF y) 31 from
          (((HRS4.out.set 0 _).set 1 _).set 2 _).congr fun i hi => by
            rcases (show i = 0 ∨ i = 1 ∨ i = 2 by omega) with rfl | rfl | rfl <;> simp [upd, hdF])
        have HFB := Lib.hid (show Below w.heap.size w (((w4.setCell ⟨w.heap.size, 0, none⟩ (.int .i64 y.epoch)).setCell ⟨w.heap.size, 1, none⟩ (.string y.root)).setCell ⟨w.heap.size, 2, none⟩ (.string y.prev)) from
          (((HW4.out.setCell (Nat.le_refl _) _).setCell (Nat.le_refl _) _).setCell (Nat.le_refl _) _))
        go_wp2
        refine bodyPost_ret (results_row2 rfl _ _ w.heap.size 31 (arr 3 (hdF y)) (0, 0) _ rfl HFIN.out Tryd.underlying31 rfl (by rw [arr_size]; exact infoHead)) rfl ?_
        exact ⟨rfl, HFB.out⟩
      · have hans := HANS.out
        rw [if_neg hz] at hans
        obtain ⟨rfl, rfl⟩ := Prod.mk.inj hans
        have hz' : rightHead Z = false := by simpa using hz
        rw [hz']
        clear hans hz hz'
        have p0 : w4.cell? ⟨w.heap.size, 0, none⟩ = some (.int .i64 0) := HRS4.out.cell 0 (by omega)
        have p1 : w4.cell? ⟨w.heap.size, 1, none⟩ = some (.string ⟨#[]⟩) := HRS4.out.cell 1 (by omega)
        have p2 : w4.cell? ⟨w.heap.size, 2, none⟩ = some (.string ⟨#[]⟩) := HRS4.out.cell 2 (by omega)
        have f0 : w4.frozen? ⟨w.heap.size, 0, none⟩ = false := HRS4.out.free 0
        have f1 : w4.frozen? ⟨w.heap.size, 1, none⟩ = false := HRS4.out.free 1
        have f2 : w4.frozen? ⟨w.heap.size, 2, none⟩ = false := HRS4.out.free 2
        have HFIN := Lib.hid (show Holds (((w4.setCell ⟨w.heap.size, 0, none⟩ (.int .i64 noHd.epoch)).setCell ⟨w.heap.size, 1, none⟩ (.string noHd.root)).setCell ⟨w.heap.size, 2, none⟩ (.string noHd.prev)) w.heap.size 3 (hdF noHd) 31 from
          (((HRS4.out.set 0 _).set 1 _).set 2 _).congr fun i hi => by
            rcases (show i = 0 ∨ i = 1 ∨ i = 2 by omega) with rfl | rfl | rfl <;> simp [upd, hdF])
        have HFB := Lib.hid (show Below w.heap.size w (((w4.setCell ⟨w.heap.size, 0, none⟩ (.int .i64 noHd.epoch)).setCell ⟨w.heap.size, 1, none⟩ (.string noHd.root)).setCell ⟨w.heap.size, 2, none⟩ (.string noHd.prev)) from
          (((HW4.out.setCell (Nat.le_refl _) _).setCell (Nat.le_refl _) _).setCell (Nat.le_refl _) _))
        go_wp2
        refine bodyPost_ret (results_row2 rfl _ _ w.heap.size 31 (arr 3 (hdF noHd)) (0, 0) _ rfl HFIN.out Tryd.underlying31 rfl (by rw [arr_size]; exact infoHead)) rfl ?_
        exact ⟨rfl, HFB.out⟩
end Go.Proofs.YtiaoolopbikfgaaDoor
