/- Parts of the proof, one behind the other: SealV, RDir, Sorted, SortK, Gg, RSet, RSet2, ForkS. -/
import Derived.WalkKit
import Derived.Lib.Hide
import Derived.WalkLawsBesides
import Derived.Deep.QuietTactic
import Derived.Deep.WholeRow
import Derived.ArgAppend
import Derived.Laws.AppendOwnNone
import Derived.Laws.CopyRow
import Derived.Deep.RegionLaw
import Derived.Laws.BytesString
import Derived.Laws.IdiomStrings
import Derived.Test.YtgjmbokfenpefaaGreatDoorProg
import Derived.Laws.BitsAllLaws
import Derived.Outline
import Derived.BigQuiet
import Derived.Laws.CopyOwn
import Derived.RegionTactic
import Derived.StillTail
import Derived.Deep.Quiet
import Derived.Deep.RegionHeld3
import Derived.Deep.DeepCutAuto
import Derived.IntWalk
import Derived.Sort.Walk0
import Derived.Tactics
import Derived.Orders
import Derived.Laws.ResultCell
import Derived.LaidEql
import Derived.Stop.Asserts
import Derived.RowKitTokens
import Derived.StringKeys
import Derived.Maps.Own
import Derived.Maps.Views
import Derived.Maps.OwnSet
import Derived.Maps.OwnOps
import Derived.Maps.RangeWalk
import Derived.Sort.KeysCollected
import Derived.OrdersHeld
import Derived.Sort.LotA
import Derived.Lib.SortBridge
import Derived.Shelf.SlSortFuncK.WholeK
import Derived.Ground.GgsProg
import Derived.Shelf.GgSortFunc.Tiny
import Derived.Test.YtgjmbokfenpefaaGreatDoorM1
import Derived.Test.YtgjmbokfenpefaaGreatDoorM2
import Derived.Test.YtgjmbokfenpefaaGreatDoorM3
import Derived.Test.YtgjmbokfenpefaaGreatDoorM4
import Derived.Test.YtgjmbokfenpefaaGreatDoorM5
import Derived.Test.YtgjmbokfenpefaaGreatDoorM6
import Derived.Test.YtgjmbokfenpefaaGreatDoorM7
import Derived.Test.YtgjmbokfenpefaaGreatDoorM16
import Derived.Test.YtgjmbokfenpefaaGreatDoorM33
import Derived.Test.YtgjmbokfenpefaaGreatDoorM34
import Derived.Test.YtgjmbokfenpefaaGreatDoorM35
import Derived.Test.YtgjmbokfenpefaaGreatDoorM36
import Derived.Test.YtgjmbokfenpefaaGreatDoorM37
/- The document's SealVerify. -/
namespace Go.Proofs.YtgjmbokfenpefaaGreatDoor
open Go.RowKit

set_option maxHeartbeats 2000000 in
set_option maxRecDepth 100000 in
theorem refSealVerify_any (b : Nat) (pub m : ByteArray) (key : Int) (S P : List ByteArray) (A B : Option Addr) (ca cb : Nat) (w : World) (hls : S.length ≤ 1000000) (hlp : P.length ≤ 1000000) (hr : Holds w b 72 refCells 97) (hs : Strs w A S) (hp : Strs w B P) :
    Calls Tryz.prog 74 #[.pointer (some ⟨b, 0, none⟩), .string pub, .string m, .agg #[.int .i64 key, .slice A S.length ca, .slice B P.length cb]] w fun e w' => e = .returned (.bool (sealOk pub m key S P)) ∧ Below w.heap.size w w' := by
  have HB0 := Lib.hid (alloc_below w (.cells #[.int .i64 key, .slice A S.length ca, .slice B P.length cb] 55))
  have HH0 := Lib.hid (show Holds (w.alloc (.cells #[.int .i64 key, .slice A S.length ca, .slice B P.length cb] 55)) w.heap.size 3 (slF key (.slice A S.length ca) (.slice B P.length cb)) 55 from Holds.new w 3 (slF key (.slice A S.length ca) (.slice B P.length cb)) 55)
  have HR := Lib.hid (hr.below HB0.out hr.lt)
  have HSS := Lib.hid (hs.below HB0.out)
  have HPP := Lib.hid (hp.below HB0.out)
  clear hr hs hp
  obtain ⟨T, hT⟩ : ∃ T, sealOk pub m key S P = T := ⟨_, rfl⟩
  rw [hT]
  have HT := Lib.hid hT
  clear hT
  go_enter Tryz.func74, Tryz.ntmps74
  go_wp2_with fail
  generalize w.alloc (.cells #[.int .i64 key, .slice A S.length ca, .slice B P.length cb] 55) = w0 at HB0 HH0 HR HSS HPP
  refine (in_any _ _ _ _).mono ?_
  rintro e w1 ⟨rfl, rfl⟩
  by_cases hkey : 0 ≤ key ∧ key ≤ 7
  · rw [show (decide ((0 : Int) ≤ key) && decide (key ≤ 7)) = true by simp [hkey]]
    have p2 : w1.cell? ⟨w.heap.size, 2, none⟩ = some (.slice B P.length cb) := HH0.out.cell 2 (by omega)
    by_cases h3 : P.length = 3
    · have e1 : ((P.length : Int) == 3) = true := by rw [beq_iff_eq]; omega
      have e2 : ((P.length : Int) != 3) = false := by simp; omega
      have H3 := Lib.hid h3
      have hp3 : P.length ≤ 3 := by omega
      have hp4 : 3 ≤ P.length := by omega
      clear h3
      go_wp2_with fail
      clear e1 e2
      refine (refMarks_any P B cb _ HPP.out hlp).mono ?_
      rintro e w1 ⟨rfl, rfl⟩
      obtain ⟨mk, hmk⟩ : ∃ mk, marksOk P = mk := ⟨_, rfl⟩
      rw [hmk]
      cases mk
      · have HF := Lib.hid (show T = false by rw [← HT.out]; unfold sealOk; rw [hmk]; simp)
        go_wp2
        go_ret
        exact ⟨by rw [HF.out]; rfl, HB0.out⟩
      · have HMK := Lib.hid hmk
        clear hmk
        have p1 : w1.cell? ⟨w.heap.size, 1, none⟩ = some (.slice A S.length ca) := HH0.out.cell 1 (by omega)
        obtain ⟨x, n, hx⟩ : ∃ x n, fromAns m S = (x, n) := ⟨_, _, rfl⟩
        have HX := Lib.hid hx
        clear hx
        go_wp2_with fail
        clear p1 p2
        refine (refOnceFrom_is b m S A ca x n _ hls HR.out HSS.out HX.out).mono ?_
        rintro e w2 ⟨rfl, hb2⟩
        have HB2 := Lib.hid (HB0.out.trans (hb2.mono HB0.out.size))
        have HH2 := Lib.hid (HH0.out.below hb2 HH0.out.lt)
        have HR2 := Lib.hid (HR.out.below hb2 HR.out.lt)
        have HPP2 := Lib.hid (HPP.out.below hb2)
        clear hb2
        by_cases hn : n = 0
        · subst hn
          have HXS := Lib.hid (fromAns_size HX.out)
          have HTT := Lib.hid (show decide (upFrom P (markOf 116 [txt (num8 key), x]) key.toNat = pub) = T by
            rw [← HT.out]; unfold sealOk; rw [HX.out, HMK.out, H3.out]; simp [hkey])
          obtain ⟨kk, rfl⟩ : ∃ kk : Nat, key = (kk : Int) := ⟨key.toNat, by omega⟩
          have hkk : kk ≤ 7 := by omega
          have HN2 := Lib.hid HH2.out.lt
          have HC2 := Lib.hid (show w2.cell? ⟨w.heap.size, 0, none⟩ = some (.int .i64 (kk : Int)) from HH2.out.cell 0 (by omega))
          have HS := Lib.hid (show ∀ u : World, Below w2.heap.size w2 u → (u.cell? ⟨w.heap.size, 0, none⟩ = some (.int .i64 (kk : Int)) ∧ Below w2.heap.size w2 u) from fun u hu => ⟨(hu.cell HN2.out).trans HC2.out, hu⟩)
          clear hkey
          go_wp2
          go_region_held3 (fun w' => w'.cell? ⟨w.heap.size, 0, none⟩ = some (.int .i64 (kk : Int)) ∧ Below w2.heap.size w2 w')
            (first
              | exact HS.out _ (Below.refl _ _).drew
              | exact HS.out _ ((Below.refl _ _).drew.trans (hb3.mono (Nat.le_refl _)))
              | exact HS.out _ (((Below.refl _ _).drew.trans (hb3.mono (Nat.le_refl _))).alloc hb3.size _)
              | exact HS.out _ HM4.out)
            (first
              | (go_at_call 63; refine (refNum_any (kk : Int) _).mono ?_; rintro e w3 ⟨rfl, hb3⟩)
              | (go_at_call 34
                 refine (refMark_any b 116 [txt (num8 (kk : Int)), x] (some ⟨w3.heap.size, 0, none⟩) 2 _ ((HR2.out.below ((Below.refl _ _).drew.trans hb3) HR2.out.lt).alloc _) (by have := HXS.out; simp [total, num_size]; omega) (by simp) (strs_new w3 [txt (num8 (kk : Int)), x] 9)).mono ?_
                 rintro e w4 ⟨rfl, hb4⟩
                 have HM4 := Lib.hid (show Below w2.heap.size w2 w4 from (((Below.refl _ _).drew.trans hb3).alloc hb3.size _).trans (hb4.mono (Nat.le_trans hb3.size (by simp))))))
          have HB4 := Lib.hid (HB2.out.trans (HM4.out.mono HB2.out.size))
          have HR3 := Lib.hid (HR2.out.below HM4.out HR2.out.lt)
          have HPP4 := Lib.hid (HPP2.out.below HM4.out)
          have p2 : w4.cell? ⟨w.heap.size, 2, none⟩ = some (.slice B P.length cb) := (HM4.out.cell HN2.out).trans (HH2.out.cell 2 (by omega))
          clear hb3 hb4
          obtain ⟨t0, ht0⟩ : ∃ t0, markOf 116 [txt (num8 (kk : Int)), x] = t0 := ⟨_, rfl⟩
          have HT0 := Lib.hid (show t0.size = 16 by rw [← ht0]; exact markOf_len _ _)
          rw [Int.toNat_natCast, ht0] at HTT
          rw [ht0]
          clear ht0
          go_wp2
          clear p2
          go_loopw [11, 12, 55] (fun tv kv iv wr => ∃ (i : Nat) (t : ByteArray) (k : Nat), i ≤ 3 ∧ iv = .int .i64 (i : Int) ∧ tv = .string t ∧ kv = .int .i64 (k : Int) ∧ k ≤ 7 ∧ Hid (t.size = 16 ∧ decide (upFrom (P.drop i) t k = pub) = T ∧ Below w4.heap.size w4 wr)) (fun _ _ iv _ => 3 - (intOf iv).toNat)
          case atStart => exact ⟨0, t0, kk, by omega, rfl, rfl, rfl, hkk, Lib.hid ⟨HT0.out, HTT.out, Below.refl _ _⟩⟩
          case round =>
            obtain ⟨i, t, k, hi, rfl, rfl, rfl, hk7, HU⟩ := hrel
            by_cases hlt : i < 3
            · obtain ⟨p, hp⟩ : ∃ p, P[i]? = some p := ⟨_, List.getElem?_eq_getElem (by omega)⟩
              obtain ⟨a, rfl, _, c0⟩ := (HPP4.out.below HU.out.2.2) i p hp
              have HPS := Lib.hid (marksOk_get HMK.out hp)
              have HDR := Lib.hid (show P.drop i = p :: P.drop (i + 1) by rw [List.drop_eq_getElem_cons (by omega)]; congr 1; rw [List.getElem?_eq_getElem (by omega)] at hp; exact Option.some.inj hp)
              have hl1 : (i : Int) < (P.length : Int) := by omega
              clear hp
              by_cases hodd : k % 2 = 1
              · have eo : ((k : Int) % 2 == 1) = true := by rw [beq_iff_eq]; omega
                have HNX := Lib.hid (show decide (upFrom (P.drop (i + 1)) (markOf 117 [p, t]) (k / 2) = pub) = T by
                  have := HU.out.2.1
                  rwa [HDR.out, upFrom, if_pos hodd] at this)
                clear hodd
                go_wp2_with fail
                refine (refMark_any b 117 [p, t] (some ⟨wr.heap.size, 0, none⟩) 2 _ ((HR3.out.below HU.out.2.2 HR3.out.lt).alloc _) (by have := HU.out.1; have := HPS.out; simp [total]; omega) (by simp) (strs_new wr [p, t] 9)).mono ?_
                rintro e w5 ⟨rfl, hb5⟩
                have HB5 := Lib.hid (HU.out.2.2.trans ((alloc_below wr (.cells #[.string p, .string t] 9)).mono HU.out.2.2.size |>.trans (hb5.mono (Nat.le_trans HU.out.2.2.size (by simp)))))
                clear hb5
                go_wp2
                go_roundw
                case rel => exact ⟨i + 1, _, k / 2, by omega, by go_num, rfl, by go_num, by omega, Lib.hid ⟨markOf_len _ _, HNX.out, HB5.out⟩⟩
                case measure => simp [intOf]; omega
              · have eo : ((k : Int) % 2 == 1) = false := by rw [beq_eq_false_iff_ne]; omega
                have HNX := Lib.hid (show decide (upFrom (P.drop (i + 1)) (markOf 117 [t, p]) (k / 2) = pub) = T by
                  have := HU.out.2.1
                  rwa [HDR.out, upFrom, if_neg hodd] at this)
                clear hodd
                go_wp2_with fail
                refine (refMark_any b 117 [t, p] (some ⟨wr.heap.size, 0, none⟩) 2 _ ((HR3.out.below HU.out.2.2 HR3.out.lt).alloc _) (by have := HU.out.1; have := HPS.out; simp [total]; omega) (by simp) (strs_new wr [t, p] 9)).mono ?_
                rintro e w5 ⟨rfl, hb5⟩
                have HB5 := Lib.hid (HU.out.2.2.trans ((alloc_below wr (.cells #[.string t, .string p] 9)).mono HU.out.2.2.size |>.trans (hb5.mono (Nat.le_trans HU.out.2.2.size (by simp)))))
                clear hb5
                go_wp2
                go_roundw
                case rel => exact ⟨i + 1, _, k / 2, by omega, by go_num, rfl, by go_num, by omega, Lib.hid ⟨markOf_len _ _, HNX.out, HB5.out⟩⟩
                case measure => simp [intOf]; omega
            · obtain rfl : i = 3 := by omega
              have HFIN := Lib.hid (show decide (t = pub) = T by
                have := HU.out.2.1
                rwa [List.drop_of_length_le (by omega), upFrom] at this)
              have HF := Lib.hid (HB4.out.trans (HU.out.2.2.mono HB4.out.size))
              have HEQ := Lib.hid (show (t.toList == pub.toList) = T by
                rw [← HFIN.out, Bool.eq_iff_iff, beq_iff_eq, decide_eq_true_eq, ByteArray.toList_eq, ByteArray.toList_eq]
                exact ⟨text_of, fun h => by rw [h]⟩)
              go_wp2
              go_ret
              exact ⟨by rw [← HEQ.out]; rfl, HF.out⟩
        · have e1 : (n == 0) = false := by rw [beq_eq_false_iff_ne]; exact hn
          have e2 : (n != 0) = true := by simpa using hn
          have HF := Lib.hid (show T = false by rw [← HT.out]; unfold sealOk; rw [HX.out]; simp [hn])
          go_wp2
          go_ret
          exact ⟨by rw [HF.out]; rfl, HB2.out⟩
    · have e1 : ((P.length : Int) == 3) = false := by rw [beq_eq_false_iff_ne]; omega
      have e2 : ((P.length : Int) != 3) = true := by simp; omega
      have HF := Lib.hid (show T = false by rw [← HT.out]; unfold sealOk; rw [decide_eq_false h3]; simp)
      clear h3
      go_wp2
      go_ret
      exact ⟨by rw [HF.out]; rfl, HB0.out⟩
  · rw [show (decide ((0 : Int) ≤ key) && decide (key ≤ 7)) = false by
      by_cases h0 : 0 ≤ key
      · have : ¬ key ≤ 7 := fun h => hkey ⟨h0, h⟩
        simp [this]
      · simp [h0]]
    have HF := Lib.hid (show T = false by rw [← HT.out]; unfold sealOk; rw [decide_eq_false hkey]; simp)
    clear hkey
    go_wp2
    go_ret
    exact ⟨by rw [HF.out]; rfl, HB0.out⟩
end Go.Proofs.YtgjmbokfenpefaaGreatDoor
/- The document's directory in memory. -/
namespace Go.Proofs.YtgjmbokfenpefaaGreatDoor
open Go.RowKit

/-- One of the three maps was written. -/
theorem RDirM.put1 {F : Nat → Prop} {w w' : World} {p rb : Nat} {d : Dst} {bb g m1 m2 m3 : Nat} {v : Value} {M : List SgM} {W : List (ByteArray × ByteArray)} (h : RDirM F w p rb d bb g m1 m2 m3 v M) (hg : w.grownBy w' (some m1)) (hm : MapIs kS w' m1 W) :
    RDirM F w' p rb { d with wait := W } bb g m1 m2 m3 v M := by
  have hp1 : p ≠ m1 := holds_map h.own h.wait
  have hs : Same (fun k => F k ∧ k ≠ m1) w w' := ⟨hg.size, fun k hk => hg.block k (h.lt k hk.1) (fun e => hk.2 (by cases e; rfl))⟩
  exact {
    own := by have := h.own; unfold Holds at this ⊢; rw [hs.block p ⟨h.fp, hp1⟩]; exact this
    box := h.box.same hs ⟨h.fb, (h.out _ (.inl rfl)).1⟩ ⟨h.fg, (h.out _ (.inr (.inl rfl))).1⟩
    wait := hm
    vals := h.vals.block (hs.block _ ⟨h.f2, h.n12.symm⟩)
    since := h.since.block (hs.block _ ⟨h.f3, h.n13.symm⟩)
    row := h.row.kept (fun k hk => hs.block k ⟨h.fv k hk, (h.out k (.inr (.inr hk))).1⟩) hs.size
    eps := h.eps
    sgs := fun m hm => (h.sgs m hm).same (hs.mono fun _ h => ⟨h.1, h.2.2.1⟩)
    fp := h.fp, fb := h.fb, fg := h.fg, f1 := h.f1, f2 := h.f2, f3 := h.f3, fv := h.fv, n12 := h.n12, n13 := h.n13, n23 := h.n23, lb := h.lb, lg := h.lg, out := h.out
    lt := fun k hk => Nat.lt_of_lt_of_le (h.lt k hk) hs.size }
theorem RDirM.put2 {F : Nat → Prop} {w w' : World} {p rb : Nat} {d : Dst} {bb g m1 m2 m3 : Nat} {v : Value} {M : List SgM} {W : List (ByteArray × ByteArray)} (h : RDirM F w p rb d bb g m1 m2 m3 v M) (hg : w.grownBy w' (some m2)) (hm : MapIs kS w' m2 W) :
    RDirM F w' p rb { d with vals := W } bb g m1 m2 m3 v M := by
  have hp1 : p ≠ m2 := holds_map h.own h.vals
  have hs : Same (fun k => F k ∧ k ≠ m2) w w' := ⟨hg.size, fun k hk => hg.block k (h.lt k hk.1) (fun e => hk.2 (by cases e; rfl))⟩
  exact {
    own := by have := h.own; unfold Holds at this ⊢; rw [hs.block p ⟨h.fp, hp1⟩]; exact this
    box := h.box.same hs ⟨h.fb, (h.out _ (.inl rfl)).2.1⟩ ⟨h.fg, (h.out _ (.inr (.inl rfl))).2.1⟩
    wait := h.wait.block (hs.block _ ⟨h.f1, h.n12⟩)
    vals := hm
    since := h.since.block (hs.block _ ⟨h.f3, h.n23.symm⟩)
    row := h.row.kept (fun k hk => hs.block k ⟨h.fv k hk, (h.out k (.inr (.inr hk))).2.1⟩) hs.size
    eps := h.eps
    sgs := fun m hm => (h.sgs m hm).same (hs.mono fun _ h => ⟨h.1, h.2.2.2.1⟩)
    fp := h.fp, fb := h.fb, fg := h.fg, f1 := h.f1, f2 := h.f2, f3 := h.f3, fv := h.fv, n12 := h.n12, n13 := h.n13, n23 := h.n23, lb := h.lb, lg := h.lg, out := h.out
    lt := fun k hk => Nat.lt_of_lt_of_le (h.lt k hk) hs.size }
theorem RDirM.put3 {F : Nat → Prop} {w w' : World} {p rb : Nat} {d : Dst} {bb g m1 m2 m3 : Nat} {v : Value} {M : List SgM} {W : List (ByteArray × Int)} (h : RDirM F w p rb d bb g m1 m2 m3 v M) (hg : w.grownBy w' (some m3)) (hm : MapIs kI w' m3 W) :
    RDirM F w' p rb { d with since := W } bb g m1 m2 m3 v M := by
  have hp1 : p ≠ m3 := holds_map h.own h.since
  have hs : Same (fun k => F k ∧ k ≠ m3) w w' := ⟨hg.size, fun k hk => hg.block k (h.lt k hk.1) (fun e => hk.2 (by cases e; rfl))⟩
  exact {
    own := by have := h.own; unfold Holds at this ⊢; rw [hs.block p ⟨h.fp, hp1⟩]; exact this
    box := h.box.same hs ⟨h.fb, (h.out _ (.inl rfl)).2.2⟩ ⟨h.fg, (h.out _ (.inr (.inl rfl))).2.2⟩
    wait := h.wait.block (hs.block _ ⟨h.f1, h.n13⟩)
    vals := h.vals.block (hs.block _ ⟨h.f2, h.n23⟩)
    since := hm
    row := h.row.kept (fun k hk => hs.block k ⟨h.fv k hk, (h.out k (.inr (.inr hk))).2.2⟩) hs.size
    eps := h.eps
    sgs := fun m hm => (h.sgs m hm).same (hs.mono fun _ h => ⟨h.1, h.2.2.2.2.1⟩)
    fp := h.fp, fb := h.fb, fg := h.fg, f1 := h.f1, f2 := h.f2, f3 := h.f3, fv := h.fv, n12 := h.n12, n13 := h.n13, n23 := h.n23, lb := h.lb, lg := h.lg, out := h.out
    lt := fun k hk => Nat.lt_of_lt_of_le (h.lt k hk) hs.size }
end Go.Proofs.YtgjmbokfenpefaaGreatDoor
/- A row of items that the library's sort has ordered. -/
namespace Go.Proofs.YtgjmbokfenpefaaGreatDoor
open Go.RowKit Go.Sort

def encI (x : It) : List Value := [.string x.1, .string x.2]
theorem itCells_at (L : List It) (j : Nat) (h : j < L.length * 2) : (itCells L)[j]? = some ((encI L.toArray[j / 2]!)[j % 2]!) := by
  have hi : j / 2 < L.length := by omega
  obtain ⟨e0, e1⟩ := itCells_get L (j / 2) L[j / 2] (List.getElem?_eq_getElem hi)
  have eL : L.toArray[j / 2]! = L[j / 2] := by simp [hi]
  rw [eL]
  rcases Nat.mod_two_eq_zero_or_one j with hm | hm
  · have ej : j / 2 * 2 = j := by omega
    rw [ej] at e0
    rw [e0, hm]; rfl
  · have ej : j / 2 * 2 + 1 = j := by omega
    rw [ej] at e1
    rw [e1, hm]; rfl
theorem row_holdsK {w : World} {base g cap : Nat} {L : List It} (h : Row w base 2 (.slice (some ⟨g, 0, none⟩) L.length cap) L.length (itCells L)) (hn : 0 < L.length) : HoldsK encI 2 w g 0 L.toArray := by
  obtain ⟨g', cap', hv, _, _, hcap, hcell, hfree⟩ := h.shape hn
  injection hv with e1 e2 e3
  injection e1 with e1
  injection e1 with e1
  subst e1
  intro j hj
  rw [size_flatK] at hj
  have hj' : j < L.length * 2 := by simpa using hj
  refine ⟨?_, ?_⟩
  · rw [Nat.zero_add, hcell j _ (itCells_at L j hj'), get_flatK _ _ _ _ hj]; rfl
  · rw [Nat.zero_add]; exact hfree j hj'
theorem grow_block (w : World) (os : Array Obj) (k : Nat) (h : k < w.heap.size) : (grow w os).heap[k]? = w.heap[k]? := by
  unfold grow
  simp [Array.getElem?_append_left h]
/-- What the sort leaves is a row again, where it was; nothing else that was there has turned. -/
theorem row_sorted {w : World} {base g cap q : Nat} {os : Array Obj} {L M : List It} (h : Row w base 2 (.slice (some ⟨g, 0, none⟩) L.length cap) L.length (itCells L)) (hn : 0 < L.length) (hM : M.length = L.length) :
    Row (grow (putRowK encI 2 (Sort.ahead w q) g 0 M.toArray) os) base 2 (.slice (some ⟨g, 0, none⟩) M.length cap) M.length (itCells M) ∧ w.grownBy (grow (putRowK encI 2 (Sort.ahead w q) g 0 M.toArray) os) (some g) := by
  have hH := row_holdsK h hn
  have hHa : HoldsK encI 2 (Sort.ahead w q) g 0 L.toArray := hH
  obtain ⟨hl, hr⟩ := h
  rcases hr with ⟨hr, _⟩ | ⟨g', cap', hv, hgb, hgl, hcap, hcell, hspare⟩
  · cases hr
  · injection hv with e1 e2 e3
    injection e1 with e1
    injection e1 with e1
    subst e1 e3
    have hsz : (putRowK encI 2 (Sort.ahead w q) g 0 M.toArray).heap.size = w.heap.size := by rw [size_putRowK]; rfl
    have hput : ∀ j, (grow (putRowK encI 2 (Sort.ahead w q) g 0 M.toArray) os).cell? ⟨g, j, none⟩ = (putRowK encI 2 (Sort.ahead w q) g 0 M.toArray).cell? ⟨g, j, none⟩ := fun j => cell?_grow _ _ _ (by rw [hsz]; exact hgl)
    have hfr : ∀ j, (grow (putRowK encI 2 (Sort.ahead w q) g 0 M.toArray) os).frozen? ⟨g, j, none⟩ = w.frozen? ⟨g, j, none⟩ := fun j => by
      rw [World.frozen?_of_block (w := putRowK encI 2 (Sort.ahead w q) g 0 M.toArray) (a := ⟨g, j, none⟩) (grow_block _ _ _ (by rw [hsz]; exact hgl))]
      exact frozen?_putRow id (Sort.ahead w q) g 0 _ _
    refine ⟨⟨itCells_length M, .inr ⟨g, cap, rfl, hgb, ?_, by omega, ?_, ?_⟩⟩, rfl, rfl, rfl, ?_, ?_⟩
    · unfold grow; simp only [Array.size_append]; rw [hsz]; omega
    · intro j u hj
      have hjl : j < M.length * 2 := by have := (List.getElem?_eq_some_iff.1 hj).1; rwa [itCells_length] at this
      rw [itCells_at M j hjl] at hj
      rw [hput]
      have := cell?_putRow id (Sort.ahead w q) g 0 (flatK encI 2 L.toArray) (flatK encI 2 M.toArray) hHa (by simp [hM]) j (by simpa using hjl)
      rw [Nat.zero_add] at this
      unfold putRowK
      rw [this, get_flatK _ _ _ _ (by simpa using hjl)]
      exact hj
    · intro j hj
      rw [hput, hfr]
      refine ⟨?_, (hspare j hj).2⟩
      by_cases hjl : j < M.length * 2
      · have := cell?_putRow id (Sort.ahead w q) g 0 (flatK encI 2 L.toArray) (flatK encI 2 M.toArray) hHa (by simp [hM]) j (by simpa using hjl)
        rw [Nat.zero_add] at this
        unfold putRowK
        rw [this]; rfl
      · unfold putRowK
        rw [cell?_putRow_other id _ g 0 _ ⟨g, j, none⟩ (.inr (.inr (by simp; omega)))]
        exact (hspare j hj).1
    · show w.heap.size ≤ (grow _ os).heap.size
      unfold grow; simp only [Array.size_append]; rw [hsz]; omega
    · intro k hk hne
      rw [grow_block _ _ _ (by rw [hsz]; exact hk)]
      show (w.heap.modify g _)[k]? = _
      rw [Array.getElem?_modify, if_neg (fun e => hne (by rw [e]))]
theorem swo_ltIB : SWO ltIB where
  irrefl _ := swo_ltStr.irrefl _
  trans _ _ _ h1 h2 := swo_ltStr.trans _ _ _ h1 h2
  ntrans _ _ _ h1 h2 := swo_ltStr.ntrans _ _ _ h1 h2
end Go.Proofs.YtgjmbokfenpefaaGreatDoor
/- A row of any structs of one-cell fields that the library's sort has ordered. -/
namespace Go.Proofs.YtgjmbokfenpefaaGreatDoor
open Go.RowKit Go.Sort

section
variable {α : Type} [Inhabited α]
omit [Inhabited α] in
theorem cellsK_length {enc : α → List Value} {k : Nat} (hk : ∀ x, (enc x).length = k) (L : List α) : (cellsK enc L).length = L.length * k := by
  induction L with
  | nil => simp [cellsK]
  | cons x L ih => unfold cellsK at ih ⊢; rw [List.flatMap_cons, List.length_append, ih, hk, List.length_cons, Nat.succ_mul]; omega
theorem cellsK_at {enc : α → List Value} {k : Nat} (hk : ∀ x, (enc x).length = k) (L : List α) (j : Nat) (h : j < L.length * k) : (cellsK enc L)[j]? = some ((enc L.toArray[j / k]!)[j % k]!) := by
  have hk0 : 0 < k := by
    rcases Nat.eq_zero_or_pos k with h0 | h0
    · subst h0; simp at h
    · exact h0
  have hi : j / k < L.length := Nat.div_lt_of_lt_mul (by rwa [Nat.mul_comm] at h)
  have hm := Nat.mod_lt j hk0
  have h1 := cellsK_get hk L (j / k) L[j / k] (j % k) (List.getElem?_eq_getElem hi) hm
  rw [show j / k * k + j % k = j by rw [Nat.mul_comm]; exact Nat.div_add_mod j k] at h1
  rw [h1]
  have eL : L.toArray[j / k]! = L[j / k] := by simp [hi]
  rw [eL]
  have hl : j % k < (enc L[j / k]).length := by rw [hk]; exact hm
  rw [List.getElem?_eq_getElem hl, getElem!_pos (enc L[j / k]) (j % k) hl]
theorem row_holdsK' {enc : α → List Value} {k : Nat} (hk : ∀ x, (enc x).length = k) {w : World} {base g cap : Nat} {L : List α} (h : Row w base k (.slice (some ⟨g, 0, none⟩) L.length cap) L.length (cellsK enc L)) (hn : 0 < L.length) : HoldsK enc k w g 0 L.toArray := by
  obtain ⟨g', cap', hv, _, _, hcap, hcell, hfree⟩ := h.shape hn
  injection hv with e1 e2 e3
  injection e1 with e1
  injection e1 with e1
  subst e1
  intro j hj
  rw [size_flatK] at hj
  have hj' : j < L.length * k := by simpa using hj
  refine ⟨?_, ?_⟩
  · rw [Nat.zero_add, hcell j _ (cellsK_at hk L j hj'), get_flatK _ _ _ _ hj]; rfl
  · rw [Nat.zero_add]; exact hfree j hj'
/-- What the sort leaves is a row again, where it was; nothing else that was there has turned. -/
theorem row_sorted' {enc : α → List Value} {k : Nat} (hk : ∀ x, (enc x).length = k) {w : World} {base g cap q : Nat} {os : Array Obj} {L M : List α} (h : Row w base k (.slice (some ⟨g, 0, none⟩) L.length cap) L.length (cellsK enc L)) (hn : 0 < L.length) (hM : M.length = L.length) :
    Row (grow (putRowK enc k (Sort.ahead w q) g 0 M.toArray) os) base k (.slice (some ⟨g, 0, none⟩) M.length cap) M.length (cellsK enc M) ∧ w.grownBy (grow (putRowK enc k (Sort.ahead w q) g 0 M.toArray) os) (some g) := by
  have hH := row_holdsK' hk h hn
  have hHa : HoldsK enc k (Sort.ahead w q) g 0 L.toArray := hH
  obtain ⟨hl, hr⟩ := h
  rcases hr with ⟨hr, _⟩ | ⟨g', cap', hv, hgb, hgl, hcap, hcell, hspare⟩
  · cases hr
  · injection hv with e1 e2 e3
    injection e1 with e1
    injection e1 with e1
    subst e1 e3
    have hsz : (putRowK enc k (Sort.ahead w q) g 0 M.toArray).heap.size = w.heap.size := by rw [size_putRowK]; rfl
    have hput : ∀ j, (grow (putRowK enc k (Sort.ahead w q) g 0 M.toArray) os).cell? ⟨g, j, none⟩ = (putRowK enc k (Sort.ahead w q) g 0 M.toArray).cell? ⟨g, j, none⟩ := fun j => cell?_grow _ _ _ (by rw [hsz]; exact hgl)
    have hfr : ∀ j, (grow (putRowK enc k (Sort.ahead w q) g 0 M.toArray) os).frozen? ⟨g, j, none⟩ = w.frozen? ⟨g, j, none⟩ := fun j => by
      rw [World.frozen?_of_block (w := putRowK enc k (Sort.ahead w q) g 0 M.toArray) (a := ⟨g, j, none⟩) (grow_block _ _ _ (by rw [hsz]; exact hgl))]
      exact frozen?_putRow id (Sort.ahead w q) g 0 _ _
    refine ⟨⟨cellsK_length hk M, .inr ⟨g, cap, rfl, hgb, ?_, by rw [hM]; exact hcap, ?_, ?_⟩⟩, rfl, rfl, rfl, ?_, ?_⟩
    · unfold grow; simp only [Array.size_append]; rw [hsz]; omega
    · intro j u hj
      have hjl : j < M.length * k := by have := (List.getElem?_eq_some_iff.1 hj).1; rwa [cellsK_length hk] at this
      rw [cellsK_at hk M j hjl] at hj
      rw [hput]
      have := cell?_putRow id (Sort.ahead w q) g 0 (flatK enc k L.toArray) (flatK enc k M.toArray) hHa (by simp [hM]) j (by simpa using hjl)
      rw [Nat.zero_add] at this
      unfold putRowK
      rw [this, get_flatK _ _ _ _ (by simpa using hjl)]
      exact hj
    · intro j hj
      rw [hput, hfr]
      refine ⟨?_, (hspare j hj).2⟩
      by_cases hjl : j < M.length * k
      · have := cell?_putRow id (Sort.ahead w q) g 0 (flatK enc k L.toArray) (flatK enc k M.toArray) hHa (by simp [hM]) j (by simpa using hjl)
        rw [Nat.zero_add] at this
        unfold putRowK
        rw [this]; rfl
      · unfold putRowK
        rw [cell?_putRow_other id _ g 0 _ ⟨g, j, none⟩ (.inr (.inr (by simp; omega)))]
        exact (hspare j hj).1
    · show w.heap.size ≤ (grow _ os).heap.size
      unfold grow; simp only [Array.size_append]; rw [hsz]; omega
    · intro k' hk' hne
      rw [grow_block _ _ _ (by rw [hsz]; exact hk')]
      show (w.heap.modify g _)[k']? = _
      rw [Array.getElem?_modify, if_neg (fun e => hne (by rw [e]))]
theorem perm_of_in' {d d' : Array α} (h : Go.Sort.PermIn 0 d.size d d') : d'.toList.Perm d.toList := by
  obtain ⟨hs, _, hp⟩ := h
  have e1 : d'.extract 0 d.size = d' := by rw [← hs]; simp
  have e2 : d.extract 0 d.size = d := by simp
  rwa [e1, e2] at hp
end
end Go.Proofs.YtgjmbokfenpefaaGreatDoor
/- What the library's sort.Slice needs of this program: laid by name, no walk. -/
namespace Go.Proofs
open Go.Shelf
set_option maxRecDepth 100000
def Tryz.laysGg6_ren : Go.Shelf.Ren := ⟨fun | 6 => 48 | 10 => 80 | 11 => 81 | 12 => 82 | 13 => 83 | 14 => 84 | 24 => 131 | 25 => 132 | 26 => 133 | 27 => 134 | 28 => 135 | 29 => 136 | 30 => 137 | 31 => 138 | 32 => 139 | 33 => 140 | 34 => 190 | 35 => 191 | 36 => 192 | 37 => 193 | 38 => 194 | 39 => 236 | n => n, fun | 20 => 20 | 26 => 141 | 35 => 193 | 0 => 0 | 37 => 195 | 3 => 3 | 41 => 198 | 44 => 201 | 49 => 93 | 51 => 101 | 4 => 4 | 54 => 253 | 53 => 252 | 58 => 257 | 5 => 5 | 9 => 9 | 60 => 312 | 64 => 316 | 66 => 352 | 67 => 353 | 17 => 17 | 32 => 190 | 33 => 191 | 82 => 379 | 12 => 12 | 75 => 374 | 76 => 225 | 77 => 375 | 78 => 344 | 79 => 376 | 80 => 377 | n => n, fun | n => n⟩
theorem Tryz.laysGg6 : Go.Proofs.LaysGg.n6 Tryz.prog Tryz.laysGg6_ren := {
  mixed := by kernel_rfl
  f6 := Tryz.func48.trans (congrArg some (by kernel_rfl))
  f10 := Tryz.func80.trans (congrArg some (by kernel_rfl))
  f11 := Tryz.func81.trans (congrArg some (by kernel_rfl))
  f12 := Tryz.func82.trans (congrArg some (by kernel_rfl))
  f13 := Tryz.func83.trans (congrArg some (by kernel_rfl))
  f14 := Tryz.func84.trans (congrArg some (by kernel_rfl))
  f24 := Tryz.func131.trans (congrArg some (by kernel_rfl))
  f25 := Tryz.func132.trans (congrArg some (by kernel_rfl))
  f26 := Tryz.func133.trans (congrArg some (by kernel_rfl))
  f27 := Tryz.func134.trans (congrArg some (by kernel_rfl))
  f28 := Tryz.func135.trans (congrArg some (by kernel_rfl))
  f29 := Tryz.func136.trans (congrArg some (by kernel_rfl))
  f30 := Tryz.func137.trans (congrArg some (by kernel_rfl))
  f31 := Tryz.func138.trans (congrArg some (by kernel_rfl))
  f32 := Tryz.func139.trans (congrArg some (by kernel_rfl))
  f33 := Tryz.func140.trans (congrArg some (by kernel_rfl))
  f34 := Tryz.func190.trans (congrArg some (by kernel_rfl))
  f35 := Tryz.func191.trans (congrArg some (by kernel_rfl))
  f36 := Tryz.func192.trans (congrArg some (by kernel_rfl))
  f37 := Tryz.func193.trans (congrArg some (by kernel_rfl))
  f38 := Tryz.func194.trans (congrArg some (by kernel_rfl))
  f39 := Tryz.func236.trans (congrArg some (by kernel_rfl))
  t0 := Tryz.underlying0
  a0 := Tryz.isAgg0
  z0 := Tryz.sizeOf0
  v0 := Tryz.zeroValue0
  i0 := by kernel_rfl
  t3 := Tryz.underlying3
  a3 := Tryz.isAgg3
  z3 := Tryz.sizeOf3
  v3 := Tryz.zeroValue3
  i3 := by kernel_rfl
  t4 := Tryz.underlying4
  a4 := Tryz.isAgg4
  z4 := Tryz.sizeOf4
  v4 := Tryz.zeroValue4
  i4 := by kernel_rfl
  t5 := Tryz.underlying5
  a5 := Tryz.isAgg5
  z5 := Tryz.sizeOf5
  v5 := Tryz.zeroValue5
  i5 := by kernel_rfl
  t9 := Tryz.underlying9
  a9 := Tryz.isAgg9
  z9 := Tryz.sizeOf9
  v9 := Tryz.zeroValue9
  i9 := by kernel_rfl
  t12 := Tryz.underlying12
  a12 := Tryz.isAgg12
  z12 := Tryz.sizeOf12
  v12 := Tryz.zeroValue12
  i12 := by kernel_rfl
  t17 := Tryz.underlying17
  a17 := Tryz.isAgg17
  z17 := Tryz.sizeOf17
  v17 := Tryz.zeroValue17
  i17 := by kernel_rfl
  t20 := Tryz.underlying20
  a20 := Tryz.isAgg20
  z20 := Tryz.sizeOf20
  v20 := Tryz.zeroValue20
  i20 := by kernel_rfl
  t26 := Tryz.underlying141
  a26 := Tryz.isAgg141
  z26 := Tryz.sizeOf141
  v26 := Tryz.zeroValue141
  i26 := by kernel_rfl
  t32 := Tryz.underlying190
  a32 := Tryz.isAgg190
  z32 := Tryz.sizeOf190
  v32 := Tryz.zeroValue190
  i32 := by kernel_rfl
  t33 := Tryz.underlying191
  a33 := Tryz.isAgg191
  z33 := Tryz.sizeOf191
  v33 := Tryz.zeroValue191
  i33 := by kernel_rfl
  t35 := Tryz.underlying193
  a35 := Tryz.isAgg193
  z35 := Tryz.sizeOf193
  v35 := Tryz.zeroValue193
  i35 := by kernel_rfl
  t37 := Tryz.underlying195
  a37 := Tryz.isAgg195
  z37 := Tryz.sizeOf195
  v37 := Tryz.zeroValue195
  i37 := by kernel_rfl
  t41 := Tryz.underlying198
  a41 := Tryz.isAgg198
  z41 := Tryz.sizeOf198
  v41 := Tryz.zeroValue198
  i41 := by kernel_rfl
  t44 := Tryz.underlying201
  a44 := Tryz.isAgg201
  z44 := Tryz.sizeOf201
  v44 := Tryz.zeroValue201
  i44 := by kernel_rfl
  t49 := Tryz.underlying93
  a49 := Tryz.isAgg93
  z49 := Tryz.sizeOf93
  v49 := Tryz.zeroValue93
  i49 := by kernel_rfl
  t51 := Tryz.underlying101
  a51 := Tryz.isAgg101
  z51 := Tryz.sizeOf101
  v51 := Tryz.zeroValue101
  i51 := by kernel_rfl
  t53 := Tryz.underlying252
  a53 := Tryz.isAgg252
  z53 := Tryz.sizeOf252
  v53 := Tryz.zeroValue252
  i53 := by kernel_rfl
  t54 := Tryz.underlying253
  a54 := Tryz.isAgg253
  z54 := Tryz.sizeOf253
  v54 := Tryz.zeroValue253
  i54 := by kernel_rfl
  t58 := Tryz.underlying257
  a58 := Tryz.isAgg257
  z58 := Tryz.sizeOf257
  v58 := Tryz.zeroValue257
  i58 := by kernel_rfl
  t60 := Tryz.underlying312
  a60 := Tryz.isAgg312
  z60 := Tryz.sizeOf312
  v60 := Tryz.zeroValue312
  i60 := by kernel_rfl
  t64 := Tryz.underlying316
  a64 := Tryz.isAgg316
  z64 := Tryz.sizeOf316
  v64 := Tryz.zeroValue316
  i64 := by kernel_rfl
  t66 := Tryz.underlying352
  a66 := Tryz.isAgg352
  z66 := Tryz.sizeOf352
  v66 := Tryz.zeroValue352
  i66 := by kernel_rfl
  t67 := Tryz.underlying353
  a67 := Tryz.isAgg353
  z67 := Tryz.sizeOf353
  v67 := Tryz.zeroValue353
  i67 := by kernel_rfl
  t75 := Tryz.underlying374
  a75 := Tryz.isAgg374
  z75 := Tryz.sizeOf374
  v75 := Tryz.zeroValue374
  i75 := by kernel_rfl
  t76 := Tryz.underlying225
  a76 := Tryz.isAgg225
  z76 := Tryz.sizeOf225
  v76 := Tryz.zeroValue225
  i76 := by kernel_rfl
  t77 := Tryz.underlying375
  a77 := Tryz.isAgg375
  z77 := Tryz.sizeOf375
  v77 := Tryz.zeroValue375
  i77 := by kernel_rfl
  t78 := Tryz.underlying344
  a78 := Tryz.isAgg344
  z78 := Tryz.sizeOf344
  v78 := Tryz.zeroValue344
  i78 := by kernel_rfl
  t79 := Tryz.underlying376
  a79 := Tryz.isAgg376
  z79 := Tryz.sizeOf376
  v79 := Tryz.zeroValue376
  i79 := by kernel_rfl
  t80 := Tryz.underlying377
  a80 := Tryz.isAgg377
  z80 := Tryz.sizeOf377
  v80 := Tryz.zeroValue377
  i80 := by kernel_rfl
  t82 := Tryz.underlying379
  a82 := Tryz.isAgg379
  z82 := Tryz.sizeOf379
  v82 := Tryz.zeroValue379
  i82 := by kernel_rfl }
end Go.Proofs
/- The document's Set. -/
namespace Go.Proofs.YtgjmbokfenpefaaGreatDoor
open Go.RowKit Go.Sort Go.Shelf

noncomputable def svT : TypeInfo := (Tryz.prog.info? 155).get (by kernel_rfl)
noncomputable def svE : TypeInfo := (Tryz.prog.info? 59).get (by kernel_rfl)
theorem svK (n : Nat) (h2 : 2 ≤ n) : Lib.swapperK n svE 25 = 9 := by
  have a : svE.hasPointers = true := by kernel_rfl
  have b : svE.bytes = 32 := by kernel_rfl
  have c : (n == 0) = false := by rw [beq_eq_false_iff_ne]; omega
  have d : (n == 1) = false := by rw [beq_eq_false_iff_ne]; omega
  simp [Lib.swapperK, a, b, c, d]
end Go.Proofs.YtgjmbokfenpefaaGreatDoor
/- The document's Set: the walk. -/
namespace Go.Proofs.YtgjmbokfenpefaaGreatDoor
open Go.RowKit

theorem grow_grownBy (w : World) (os : Array Obj) (g : Option Nat) : w.grownBy (Go.Sort.grow w os) g :=
  ⟨rfl, rfl, rfl, by unfold Go.Sort.grow; simp, fun k hk _ => grow_block w os k hk⟩
theorem perm_of_in {d d' : Array It} (h : Go.Sort.PermIn 0 d.size d d') : d'.toList.Perm d.toList := by
  obtain ⟨hs, _, hp⟩ := h
  have e1 : d'.extract 0 d.size = d' := by rw [← hs]; simp
  have e2 : d.extract 0 d.size = d := by simp
  rwa [e1, e2] at hp
theorem pairwise_one {α : Type} {R : α → α → Prop} {L : List α} (h : L.length = 1) : L.Pairwise R := by
  obtain ⟨x, rfl⟩ := List.length_eq_one_iff.1 h
  simp
end Go.Proofs.YtgjmbokfenpefaaGreatDoor
/- The document's forks: sorted. -/
namespace Go.Proofs.YtgjmbokfenpefaaGreatDoor
open Go.RowKit Go.Sort Go.Shelf

instance : Inhabited Fk := ⟨⟨⟨#[]⟩, ⟨#[]⟩, 0⟩⟩
def ltFB (x y : Fk) : Bool := ltStr x.a.data.toList y.a.data.toList || (x.a.data.toList == y.a.data.toList && ltStr x.b.data.toList y.b.data.toList)
theorem ltFB_iff (x y : Fk) : ltFB x y = true ↔ ltF x y := by
  unfold ltFB ltF ltStr
  simp
theorem ltF_not {x y : Fk} (h : ¬ ltF x y) : ltF y x ∨ (x.a.data.toList = y.a.data.toList ∧ x.b.data.toList = y.b.data.toList) := by
  by_cases h1 : y.a.data.toList < x.a.data.toList
  · exact .inl (.inl h1)
  · have h2 : ¬ x.a.data.toList < y.a.data.toList := fun k => h (.inl k)
    have e : x.a.data.toList = y.a.data.toList := List.le_antisymm (List.not_lt.1 h1) (List.not_lt.1 h2)
    by_cases h3 : y.b.data.toList < x.b.data.toList
    · exact .inl (.inr ⟨e.symm, h3⟩)
    · have h4 : ¬ x.b.data.toList < y.b.data.toList := fun k => h (.inr ⟨e, k⟩)
      exact .inr ⟨e, List.le_antisymm (List.not_lt.1 h3) (List.not_lt.1 h4)⟩
theorem ltF_of_eq {x x' y : Fk} (e : x.a.data.toList = x'.a.data.toList ∧ x.b.data.toList = x'.b.data.toList) : (ltF x y ↔ ltF x' y) ∧ (ltF y x ↔ ltF y x') := by
  unfold ltF
  rw [e.1, e.2]
  exact ⟨Iff.rfl, Iff.rfl⟩
theorem swo_ltFB : SWO ltFB where
  irrefl x := by
    have h := ltF_irrefl x
    rw [← ltFB_iff] at h
    simpa using h
  trans x y z h k := by
    rw [ltFB_iff] at h k ⊢
    exact ltF_trans h k
  ntrans x y z h k := by
    have h1 : ¬ ltF x y := fun e => by rw [← ltFB_iff, h] at e; cases e
    have k1 : ¬ ltF y z := fun e => by rw [← ltFB_iff, k] at e; cases e
    have g : ¬ ltF x z := fun e => by
      rcases ltF_not h1 with h2 | h2
      · exact k1 (ltF_trans h2 e)
      · exact k1 (((ltF_of_eq h2).1).1 e)
    rw [← ltFB_iff] at g
    simpa using g
/-- Sorted, and no pair twice: it rises. -/
theorem rises_forks {M : List Fk} (h : SortedIn ltFB 0 M.length M.toArray) (hd : M.Pairwise (fun x y => ¬ (x.a.data.toList = y.a.data.toList ∧ x.b.data.toList = y.b.data.toList))) : M.Pairwise ltF := by
  rw [List.pairwise_iff_getElem] at hd ⊢
  intro i j hi hj hij
  have h1 := h i j (Nat.zero_le _) hij hj
  have e1 : M.toArray[j]! = M[j] := by simp [hj]
  have e2 : M.toArray[i]! = M[i] := by simp [hi]
  rw [e1, e2] at h1
  have h2 : ¬ ltF M[j] M[i] := fun e => by rw [← ltFB_iff, h1] at e; cases e
  rcases ltF_not h2 with h3 | h3
  · exact h3
  · exact absurd ⟨h3.1.symm, h3.2.symm⟩ (hd i j hi hj hij)
end Go.Proofs.YtgjmbokfenpefaaGreatDoor
