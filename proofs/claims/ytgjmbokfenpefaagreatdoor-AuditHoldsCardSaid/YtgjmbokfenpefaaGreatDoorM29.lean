/- Parts of the proof, one behind the other: PPut2, PEps, PProve. -/
import Derived.WalkKit
import Derived.Lib.Hide
import Derived.WalkLawsBesides
import Derived.Deep.QuietTactic
import Derived.Deep.WholeRow
import Derived.ArgAppend
import Derived.Laws.AppendOwnNone
import Derived.Laws.CopyRow
import Derived.Deep.RegionLaw
import Derived.Laws.BytesString
import Derived.Laws.IdiomStrings
import Derived.Test.YtgjmbokfenpefaaGreatDoorProg
import Derived.StringKeys
import Derived.Maps.Own
import Derived.Maps.Views
import Derived.Maps.OwnSet
import Derived.Maps.OwnOps
import Derived.Maps.RangeWalk
import Derived.Sort.KeysCollected
import Derived.Laws.BitsAllLaws
import Derived.Outline
import Derived.BigQuiet
import Derived.Laws.CopyOwn
import Derived.RegionTactic
import Derived.StillTail
import Derived.Deep.Quiet
import Derived.Deep.RegionHeld3
import Derived.Deep.DeepCutAuto
import Derived.Laws.ResultCell
import Derived.IntWalk
import Derived.Sort.Walk0
import Derived.Tactics
import Derived.Orders
import Derived.LaidEql
import Derived.Stop.Asserts
import Derived.RowKitTokens
import Derived.OrdersHeld
import Derived.Sort.LotA
import Derived.Lib.SortBridge
import Derived.Deep.AppendSrc
import Derived.Shelf.SlSortFuncK.WholeK
import Derived.Ground.GgsProg
import Derived.Shelf.GgSortFunc.Tiny
import Derived.Shelf.Strings.Repeat
import Derived.KernelRfl
import Derived.WideKeyEntry
import Derived.Deep.CutRange
import Derived.Laws.StructEq
import Derived.RangeFuncNested
import Derived.RangeFuncBound
import Derived.RangeFuncCalls
import Derived.RangeFuncLeaves
import Derived.Shelf.Abstract
import Derived.Shelf.RegionOpen
import Derived.OwnWalkIn
import Derived.TacticsInMore
import Derived.LoopNIn
import Derived.LoopIn
import Derived.OrdersIn
import Derived.TacticsIn
import Derived.Test.YtgjmbokfenpefaaGreatDoorM1
import Derived.Test.YtgjmbokfenpefaaGreatDoorM2
import Derived.Test.YtgjmbokfenpefaaGreatDoorM3
import Derived.Test.YtgjmbokfenpefaaGreatDoorM4
import Derived.Test.YtgjmbokfenpefaaGreatDoorM5
import Derived.Test.YtgjmbokfenpefaaGreatDoorM6
import Derived.Test.YtgjmbokfenpefaaGreatDoorM7
import Derived.Test.YtgjmbokfenpefaaGreatDoorM8
import Derived.Test.YtgjmbokfenpefaaGreatDoorM9
import Derived.Test.YtgjmbokfenpefaaGreatDoorM10
import Derived.Test.YtgjmbokfenpefaaGreatDoorM12
import Derived.Test.YtgjmbokfenpefaaGreatDoorM13
import Derived.Test.YtgjmbokfenpefaaGreatDoorM17
import Derived.Test.YtgjmbokfenpefaaGreatDoorM18
import Derived.Test.YtgjmbokfenpefaaGreatDoorM19
import Derived.Test.YtgjmbokfenpefaaGreatDoorM20
import Derived.Test.YtgjmbokfenpefaaGreatDoorM21
import Derived.Test.YtgjmbokfenpefaaGreatDoorM22
import Derived.Test.YtgjmbokfenpefaaGreatDoorM25
import Derived.Test.YtgjmbokfenpefaaGreatDoorM28
/- The program's directory: Put. -/
namespace Go.Proofs.YtgjmbokfenpefaaGreatDoor
open Go.RowKit Go.Maps

set_option maxHeartbeats 1000000 in
set_option maxRecDepth 100000 in
theorem pPut_is (F : Nat → Prop) (p : Nat) (d d' : Dst) (name value : ByteArray) (n : Int) (w : World) (hd : PDir F w p d) (hok : DOk d) (hn : name.size ≤ 1000000) (h : putAns d name value = (d', n)) :
    Calls Tryz.prog 53 #[.pointer (some ⟨p, 0, none⟩), .string name, .string value] w fun e w' => e = .returned (errOf n) ∧ Off F w w' ∧ PDir F w' p d' := by
  obtain ⟨bb, mh, mw, vi, ve, H, M, hd, hME, hSy⟩ := hd
  have HD := Lib.hid hd
  have HN := Lib.hid hn
  have HME := Lib.hid hME
  have HSY := Lib.hid hSy
  have HOK := Lib.hid hok
  have hHL : H.length ≤ 60 ∧ d.wait.length ≤ 61 := ⟨by have := names_room hok hd.has.keys hSy; omega, hok.wait_len⟩
  have HHL := Lib.hid hHL
  have HCT := Lib.hid (names_count hok hd.has.keys hSy name)
  have HRM := Lib.hid (names_room hok hd.has.keys hSy)
  clear hd hn hME hSy hok hHL
  unfold putAns at h
  by_cases hnm : nameOk name.data.toList = true
  · rw [if_pos hnm] at h
    have HNM := Lib.hid hnm
    clear hnm
    by_cases h0 : value.size = 0
    · rw [if_neg (by omega)] at h
      obtain ⟨rfl, rfl⟩ := Prod.mk.inj h
      have hv0 : ((value.size : Nat) : Int) < 1 := by omega
      clear h h0
      go_enter Tryz.func53, Tryz.ntmps53
      go_wp2_with fail
      refine (name_any name _).mono ?_
      rintro e w ⟨rfl, rfl⟩
      rw [HNM.out]
      go_wp2
      go_ret
      exact ⟨rfl, Off.refl _ _, bb, mh, mw, vi, ve, H, M, HD.out, HME.out, HSY.out⟩
    by_cases h24 : 24 < value.size
    · rw [if_neg (by omega)] at h
      obtain ⟨rfl, rfl⟩ := Prod.mk.inj h
      have hv0 : ¬ ((value.size : Nat) : Int) < 1 := by omega
      have hv1 : 24 < ((value.size : Nat) : Int) := by omega
      clear h h0 h24
      go_enter Tryz.func53, Tryz.ntmps53
      go_wp2_with fail
      refine (name_any name _).mono ?_
      rintro e w ⟨rfl, rfl⟩
      rw [HNM.out]
      go_wp2
      go_ret
      exact ⟨rfl, Off.refl _ _, bb, mh, mw, vi, ve, H, M, HD.out, HME.out, HSY.out⟩
    rw [if_pos (show 1 ≤ value.size ∧ value.size ≤ 24 by omega)] at h
    have hv0 : ¬ ((value.size : Nat) : Int) < 1 := by omega
    have hv1 : ¬ 24 < ((value.size : Nat) : Int) := by omega
    have HVS := Lib.hid (show value.size ≤ maxLen by unfold maxLen; omega)
    have HH := Lib.hid h
    clear h h0 h24
    go_enter Tryz.func53, Tryz.ntmps53
    go_wp2_with fail
    refine (name_any name _).mono ?_
    rintro e w ⟨rfl, rfl⟩
    rw [HNM.out]
    go_wp2_with fail
    clear hv0 hv1
    refine (pIsNew_any name _ HD.out HN.out).mono ?_
    rintro e w1 ⟨rfl, hb1⟩
    have HB1 := Lib.hid hb1
    have HD1 := Lib.hid (HD.out.same (same_of_below hb1 HD.out.lt))
    clear hb1
    obtain ⟨B, hB⟩ : ∃ B, newName H d.wait name = B := ⟨_, rfl⟩
    have HBN := Lib.hid hB
    rw [hB] at HCT ⊢
    clear hB
    cases B
    · have hh := HH.out
      rw [if_pos (by have := HCT.out; have := HRM.out; rw [HCT.out, if_neg (by decide)]; omega)] at hh
      obtain ⟨rfl, rfl⟩ := Prod.mk.inj hh
      have c3 : w1.cell? ⟨p, 3, none⟩ = some (.map (some mw)) := HD1.out.own.cell 3 (by omega)
      clear hh
      go_wp2_with (first | (at_mapUpdate; refine wpList_mapPut kS rfl (.tmp 32) (.tmp 33) (.tmp 34) rfl mw d.wait rfl HD1.out.wait (by have := HHL.out.2; omega) name HN.out rfl value HVS.out rfl ?_; intro w7 hm7 hg7))
      go_wp2
      go_ret
      exact ⟨rfl, (Off.of_below HB1.out).trans (Off.of_grown hg7.out (F := F) (fun k hk => by cases hk; exact HD.out.fw)) (fun _ _ h => h), bb, mh, mw, vi, ve, H, M, HD1.out.putW hg7.out hm7.out, HME.out, HSY.out⟩
    · go_wp2_with fail
      refine (pNames_any _ HD1.out (by have := HHL.out.1; omega) (by have := HHL.out.2; omega)).mono ?_
      rintro e w2 ⟨rfl, hb2⟩
      have HB2 := Lib.hid (HB1.out.trans (hb2.mono HB1.out.size))
      have HD2 := Lib.hid (HD1.out.same (same_of_below hb2 HD1.out.lt))
      clear hb2 HD1
      obtain ⟨q, hq⟩ : ∃ q, H.length + countNew H (keysL d.wait) = q := ⟨_, rfl⟩
      rw [hq] at HCT HRM ⊢
      clear hq
      by_cases h60 : q < 60
      · have hh := HH.out
        rw [if_pos (by have := HCT.out; rw [HCT.out, if_pos trivial]; omega)] at hh
        obtain ⟨rfl, rfl⟩ := Prod.mk.inj hh
        have c3 : w2.cell? ⟨p, 3, none⟩ = some (.map (some mw)) := HD2.out.own.cell 3 (by omega)
        have hq60 : ¬ (60 : Int) ≤ (q : Int) := by omega
        clear hh h60
        go_wp2_with (first | (at_mapUpdate; refine wpList_mapPut kS rfl (.tmp 32) (.tmp 33) (.tmp 34) rfl mw d.wait rfl HD2.out.wait (by have := HHL.out.2; omega) name HN.out rfl value HVS.out rfl ?_; intro w7 hm7 hg7))
        go_wp2
        go_ret
        exact ⟨rfl, (Off.of_below HB2.out).trans (Off.of_grown hg7.out (F := F) (fun k hk => by cases hk; exact HD.out.fw)) (fun _ _ h => h), bb, mh, mw, vi, ve, H, M, HD2.out.putW hg7.out hm7.out, HME.out, HSY.out⟩
      · have hh := HH.out
        rw [if_neg (by rw [HCT.out, if_pos trivial]; omega)] at hh
        obtain ⟨rfl, rfl⟩ := Prod.mk.inj hh
        have hq60 : (60 : Int) ≤ (q : Int) := by omega
        clear hh h60
        go_wp2
        go_ret
        exact ⟨rfl, Off.of_below HB2.out, bb, mh, mw, vi, ve, H, M, HD2.out, HME.out, HSY.out⟩
  · rw [if_neg hnm] at h
    obtain ⟨rfl, rfl⟩ := Prod.mk.inj h
    have HNM := Lib.hid (show nameOk name.data.toList = false by simpa using hnm)
    clear hnm h
    go_enter Tryz.func53, Tryz.ntmps53
    go_wp2_with fail
    refine (name_any name _).mono ?_
    rintro e w ⟨rfl, rfl⟩
    rw [HNM.out]
    go_wp2
    go_ret
    exact ⟨rfl, Off.refl _ _, bb, mh, mw, vi, ve, H, M, HD.out, HME.out, HSY.out⟩
end Go.Proofs.YtgjmbokfenpefaaGreatDoor
/- The program's directory: Epochs. -/
namespace Go.Proofs.YtgjmbokfenpefaaGreatDoor
open Go.RowKit Go.Maps

def zSg (i : Nat) : Value := if i % 6 = 0 ∨ i % 6 = 3 then .int .i64 0 else if i % 6 = 1 ∨ i % 6 = 2 then .string ⟨#[]⟩ else .slice none 0 0
theorem makeSgs (n : Nat) (h : n ≤ 8) (w : World) : (Instr.makeSlice 38 (.int .i64 (n : Int)) (.int .i64 (n : Int))).run Tryz.prog w = .ok (.slice (some ⟨w.heap.size, 0, none⟩) n n) (w.alloc (.cells (arr (n * 6) zSg) 57)) := by
  rcases (by omega : n = 0 ∨ n = 1 ∨ n = 2 ∨ n = 3 ∨ n = 4 ∨ n = 5 ∨ n = 6 ∨ n = 7 ∨ n = 8) with rfl | rfl | rfl | rfl | rfl | rfl | rfl | rfl | rfl <;> kernel_rfl
theorem SgIn.below {F : Nat → Prop} {w w' : World} {m : SgM} (h : SgIn F w m) (hb : Below w.heap.size w w') : SgIn F w' m := ⟨h.sig.below hb, h.path.below hb, h.fs, h.fp, h.cp⟩
/-- Lists that lie above block b. -/
theorem SgIn.keep {F : Nat → Prop} {w : World} {m : SgM} (h : SgIn F w m) {b : Nat} (hF : ∀ k, F k → b < k) (j : Nat) (v : Value) : SgIn F (w.setCell ⟨b, j, none⟩ v) m :=
  ⟨h.sig.keep ⟨b, j, none⟩ v (fun a e l => hF _ (h.fs a e l)), h.path.keep ⟨b, j, none⟩ v (fun a e l => hF _ (h.fp a e l)), h.fs, h.fp, h.cp⟩
set_option maxHeartbeats 1000000 in
set_option maxRecDepth 100000 in
theorem pDirEpochs_any (p : Nat) (M : List SgM) (A : Option Addr) (cap : Nat) (w : World) (h8 : M.length ≤ 8) (hp : w.cell? ⟨p, 5, none⟩ = some (.slice A M.length cap)) (hm : SixAt w A M)
    (hs : ∀ m ∈ M, Strs w m.A m.s.sig ∧ Strs w m.B m.s.path ∧ m.s.sig.length ≤ 1000000 ∧ m.s.path.length ≤ 1000000) :
    Calls Tryz.prog 27 #[.pointer (some ⟨p, 0, none⟩)] w fun e w' => ∃ A' c' M', e = .returned (.slice A' M'.length c') ∧ M'.map SgM.s = M.map SgM.s ∧ M'.length ≤ c' ∧ Below w.heap.size w w' ∧ SixAt w' A' M' ∧ (∀ a, A' = some a → w.heap.size ≤ a.block) ∧ ∀ m ∈ M', SgIn (fun k => w.heap.size < k) w' m := by
  have HM := Lib.hid hm
  have HS := Lib.hid hs
  have HPL := Lib.hid (block_lt_of_cell hp)
  have HN := Lib.hid (Holds.new w (M.length * 6) zSg 57)
  have HB := Lib.hid (alloc_below w (.cells (arr (M.length * 6) zSg) 57))
  have hp1 : (w.alloc (.cells (arr (M.length * 6) zSg) 57)).cell? ⟨p, 5, none⟩ = some (.slice A M.length cap) := (HB.out.cell (p := ⟨p, 5, none⟩) HPL.out).trans hp
  have hmk := makeSgs M.length h8
  clear hm hs
  go_enter Tryz.func27, Tryz.ntmps27
  go_wp2
  generalize w.alloc (.cells (arr (M.length * 6) zSg) 57) = w1 at HN HB hp1 ⊢
  clear hmk hp hp1
  go_loopw [17] (fun i wr => ∃ (k : Nat) (M' : List SgM), k ≤ M.length ∧ i = .int .i64 (k : Int) ∧ Hid (M'.length = k ∧ M'.map SgM.s = (M.take k).map SgM.s ∧ (∀ m ∈ M', SgIn (fun j => w.heap.size < j) wr m) ∧ Below w.heap.size w wr ∧ Holds wr w.heap.size (M.length * 6) (fillL (sgCells M') zSg) 57)) (fun i _ => M.length - (intOf i).toNat)
  case atStart => exact ⟨0, [], by omega, rfl, Lib.hid ⟨rfl, rfl, (fun m hm => by cases hm), HB.out, HN.out⟩⟩
  case round =>
    obtain ⟨k, M', hk, rfl, HU⟩ := hrel
    by_cases hlt : k < M.length
    · obtain ⟨m, hmk⟩ : ∃ m, M[k]? = some m := ⟨_, List.getElem?_eq_getElem hlt⟩
      have HMK := Lib.hid hmk
      have HSM := Lib.hid (HS.out m (List.mem_of_getElem? hmk))
      obtain ⟨a, rfl, hal, c0, c1, c2, c3, c4, c5⟩ := (HM.out.below HU.out.2.2.2.1) k m hmk
      have hki : (k : Int) < (M.length : Int) := by omega
      have d1 : wr.cell? ⟨(a.add (k * 6)).block, (a.add (k * 6)).off + 1, none⟩ = some (.string m.s.head.root) := c1
      have d2 : wr.cell? ⟨(a.add (k * 6)).block, (a.add (k * 6)).off + 2, none⟩ = some (.string m.s.head.prev) := c2
      have d3 : wr.cell? ⟨(a.add (k * 6)).block, (a.add (k * 6)).off + 3, none⟩ = some (.int .i64 m.s.key) := c3
      have d4 : wr.cell? ⟨(a.add (k * 6)).block, (a.add (k * 6)).off + 4, none⟩ = some (.slice m.A m.s.sig.length m.ca) := c4
      have d5 : wr.cell? ⟨(a.add (k * 6)).block, (a.add (k * 6)).off + 5, none⟩ = some (.slice m.B m.s.path.length m.cb) := c5
      have HB1 := Lib.hid (alloc_below wr (.cells #[.int .i64 m.s.head.epoch, .string m.s.head.root, .string m.s.head.prev, .int .i64 m.s.key, .slice m.A m.s.sig.length m.ca, .slice m.B m.s.path.length m.cb] 57))
      have HSS := Lib.hid (show Strs (wr.alloc (.cells #[.int .i64 m.s.head.epoch, .string m.s.head.root, .string m.s.head.prev, .int .i64 m.s.key, .slice m.A m.s.sig.length m.ca, .slice m.B m.s.path.length m.cb] 57)) m.A m.s.sig ∧ Strs (wr.alloc (.cells #[.int .i64 m.s.head.epoch, .string m.s.head.root, .string m.s.head.prev, .int .i64 m.s.key, .slice m.A m.s.sig.length m.ca, .slice m.B m.s.path.length m.cb] 57)) m.B m.s.path from
        ⟨(HSM.out.1.below HU.out.2.2.2.1).below HB1.out, (HSM.out.2.1.below HU.out.2.2.2.1).below HB1.out⟩)
      go_wp2_with fail
      refine (pCopyOf_is m _ HSM.out.2.2.1 HSM.out.2.2.2 HSS.out.1 HSS.out.2).mono ?_
      rintro e wB ⟨mm, rfl, hmm, hbB, hin⟩
      have HBB := Lib.hid (HU.out.2.2.2.1.trans ((HB1.out.trans (hbB.mono HB1.out.size)).mono HU.out.2.2.2.1.size))
      have HBR := Lib.hid (show Below wr.heap.size wr wB from HB1.out.trans (hbB.mono HB1.out.size))
      have HWR := Lib.hid (show w.heap.size < wr.heap.size from HU.out.2.2.2.2.lt)
      have HIN := Lib.hid (hin.mono (G := fun j => w.heap.size < j) (fun j hj => by have := HWR.out; have := HB1.out.size; have h : _ < j := hj; omega))
      have HMM := Lib.hid (show mm.s = m.s from hmm)
      have HH0 := Lib.hid (HU.out.2.2.2.2.below HBR.out HU.out.2.2.2.2.lt)
      obtain ⟨⟨⟨x, kk, S, P⟩, A1, ca, B1, cb⟩, hME⟩ : ∃ mx : SgM, mx = mm := ⟨mm, rfl⟩
      subst hME
      obtain ⟨cs, hcs⟩ : ∃ cs, sgCells M' = cs := ⟨_, rfl⟩
      have HCS := Lib.hid (show cs.length = k * 6 from by rw [← hcs, sgCells_length, HU.out.1])
      have HNX := Lib.hid (show sgCells (M' ++ [⟨⟨x, kk, S, P⟩, A1, ca, B1, cb⟩]) = cs ++ [.int .i64 x.epoch] ++ [.string x.root] ++ [.string x.prev] ++ [.int .i64 kk] ++ [.slice A1 S.length ca] ++ [.slice B1 P.length cb] from by
        rw [sgCells_snoc, hcs]
        simp [SgM.cells])
      rw [hcs] at HH0
      have z : ∀ j, j < 6 → fillL cs zSg (k * 6 + j) = zSg j := fun j hj => by
        unfold fillL
        rw [List.getD_eq_getElem?_getD, List.getElem?_eq_none (by rw [HCS.out]; omega)]
        show zSg (k * 6 + j) = zSg j
        unfold zSg
        rw [show (k * 6 + j) % 6 = j % 6 by omega]
      have e0 := HH0.out.cell (k * 6) (by omega)
      have e1 := HH0.out.cell (k * 6 + 1) (by omega)
      have e2 := HH0.out.cell (k * 6 + 2) (by omega)
      have e3 := HH0.out.cell (k * 6 + 3) (by omega)
      have e4 := HH0.out.cell (k * 6 + 4) (by omega)
      have e5 := HH0.out.cell (k * 6 + 5) (by omega)
      rw [show fillL cs zSg (k * 6) = .int .i64 0 from z 0 (by omega)] at e0
      rw [show fillL cs zSg (k * 6 + 1) = .string ⟨#[]⟩ from z 1 (by omega)] at e1
      rw [show fillL cs zSg (k * 6 + 2) = .string ⟨#[]⟩ from z 2 (by omega)] at e2
      rw [show fillL cs zSg (k * 6 + 3) = .int .i64 0 from z 3 (by omega)] at e3
      rw [show fillL cs zSg (k * 6 + 4) = .slice none 0 0 from z 4 (by omega)] at e4
      rw [show fillL cs zSg (k * 6 + 5) = .slice none 0 0 from z 5 (by omega)] at e5
      have g0 := HH0.out.free (k * 6)
      have g1 := HH0.out.free (k * 6 + 1)
      have g2 := HH0.out.free (k * 6 + 2)
      have g3 := HH0.out.free (k * 6 + 3)
      have g4 := HH0.out.free (k * 6 + 4)
      have g5 := HH0.out.free (k * 6 + 5)
      have HFIN := Lib.hid ((((((HH0.out.fill (k * 6) HCS.out (.int .i64 x.epoch)).fill (k * 6 + 1) (by simp [HCS.out]) (.string x.root)).fill (k * 6 + 2) (by simp [HCS.out]) (.string x.prev)).fill (k * 6 + 3) (by simp [HCS.out]) (.int .i64 kk)).fill (k * 6 + 4) (by simp [HCS.out]) (.slice A1 S.length ca)).fill (k * 6 + 5) (by simp [HCS.out]) (.slice B1 P.length cb))
      have HFB := Lib.hid ((((((HBB.out.setCell (p := ⟨w.heap.size, k * 6, none⟩) (Nat.le_refl _) (.int .i64 x.epoch)).setCell (p := ⟨w.heap.size, k * 6 + 1, none⟩) (Nat.le_refl _) (.string x.root)).setCell (p := ⟨w.heap.size, k * 6 + 2, none⟩) (Nat.le_refl _) (.string x.prev)).setCell (p := ⟨w.heap.size, k * 6 + 3, none⟩) (Nat.le_refl _) (.int .i64 kk)).setCell (p := ⟨w.heap.size, k * 6 + 4, none⟩) (Nat.le_refl _) (.slice A1 S.length ca)).setCell (p := ⟨w.heap.size, k * 6 + 5, none⟩) (Nat.le_refl _) (.slice B1 P.length cb))
      have HKP := Lib.hid (fun (n : SgM) (hn : SgIn (fun j => w.heap.size < j) wB n) => ((((((hn.keep (fun _ h => h) (k * 6) (.int .i64 x.epoch)).keep (fun _ h => h) (k * 6 + 1) (.string x.root)).keep (fun _ h => h) (k * 6 + 2) (.string x.prev)).keep (fun _ h => h) (k * 6 + 3) (.int .i64 kk)).keep (fun _ h => h) (k * 6 + 4) (.slice A1 S.length ca)).keep (fun _ h => h) (k * 6 + 5) (.slice B1 P.length cb)))
      have HALL := Lib.hid (show ∀ n ∈ M' ++ [⟨⟨x, kk, S, P⟩, A1, ca, B1, cb⟩], SgIn (fun j => w.heap.size < j) wB n from fun n hn => by
        rcases List.mem_append.1 hn with hn | hn
        · exact (HU.out.2.2.1 n hn).below HBR.out
        · rw [List.mem_singleton.1 hn]; exact HIN.out)
      have HLN := Lib.hid (show (M' ++ [(⟨⟨x, kk, S, P⟩, A1, ca, B1, cb⟩ : SgM)]).length = k + 1 ∧ (M' ++ [(⟨⟨x, kk, S, P⟩, A1, ca, B1, cb⟩ : SgM)]).map SgM.s = (M.take (k + 1)).map SgM.s from ⟨by rw [List.length_append, HU.out.1]; rfl, by
        rw [List.take_add_one, HMK.out, List.map_append, List.map_append, HU.out.2.1]
        exact congrArg _ (congrArg (fun s => [s]) HMM.out)⟩)
      clear z hcs hmk c1 c2 c3 c4 c5 d1 d2 d3 d4 d5 hal hmm hbB hin
      go_wp2
      go_roundw
      case rel => exact ⟨k + 1, _, by omega, by go_num, Lib.hid ⟨HLN.out.1, HLN.out.2, (fun n hn => HKP.out n (HALL.out n hn)), HFB.out, by rw [HNX.out]; exact HFIN.out⟩⟩
      case measure => simp [intOf]; omega
    · obtain rfl : k = M.length := by omega
      go_wp2
      go_ret
      have hl := HU.out.1
      have hh := HU.out.2.2.2.2
      have hmm := HU.out.2.1
      rw [List.take_length] at hmm
      refine ⟨some ⟨w.heap.size, 0, none⟩, M.length, M', by rw [hl]; rfl, hmm, by rw [hl]; exact Nat.le_refl _, HU.out.2.2.2.1, fun i x hx => ?_, fun a e => by cases e; exact Nat.le_refl _, HU.out.2.2.1⟩
      have hil : i < M.length := by have := (List.getElem?_eq_some_iff.1 hx).1; omega
      have hlc : (sgCells M').length = M.length * 6 := by rw [sgCells_length, hl]
      have hg : ∀ j, j < 6 → wr.cell? ⟨w.heap.size, i * 6 + j, none⟩ = x.cells[j]? := fun j hj => by
        rw [hh.cell (i * 6 + j) (by omega), ← sgCells_get _ i x j hx hj]
        unfold fillL
        rw [List.getD_eq_getElem?_getD, List.getElem?_eq_getElem (show i * 6 + j < (sgCells M').length by rw [hlc]; omega)]
        rfl
      refine ⟨⟨w.heap.size, 0, none⟩, rfl, hh.lt, ?_, ?_, ?_, ?_, ?_, ?_⟩
      · rw [add_none, Nat.zero_add]; exact hg 0 (by omega)
      all_goals rw [add_add', add_none, Nat.zero_add]
      · exact hg 1 (by omega)
      · exact hg 2 (by omega)
      · exact hg 3 (by omega)
      · exact hg 4 (by omega)
      · exact hg 5 (by omega)
end Go.Proofs.YtgjmbokfenpefaaGreatDoor
/- The program's Prove. -/
namespace Go.Proofs.YtgjmbokfenpefaaGreatDoor
open Go.RowKit

theorem Row.texts {w : World} {base n c : Nat} {p : Option Addr} {L : List ByteArray} (h : Row w base 1 (.slice p n c) n (stCells L)) : Strs w p L := by
  obtain ⟨_, A', c', hv, hit⟩ := h.strs
  injection hv with e1 _ _
  subst e1
  exact hit
theorem Row.newerT {w : World} {base size n c : Nat} {p : Option Addr} {xs : List Value} (h : Row w base size (.slice p n c) n xs) : ∀ a, p = some a → 0 < n → base ≤ a.block := fun a e hl => by
  obtain ⟨g, c', hv, hb, _⟩ := h.shape hl
  injection hv with e1 _ _
  rw [e] at e1
  injection e1 with e1
  rw [e1]; exact hb
set_option maxHeartbeats 1000000 in
set_option maxRecDepth 100000 in
theorem tProve_in (L : List It) (A : Option Addr) (cap : Nat) (ix : ByteArray) (T : List ByteArray) (x : It) (n : Int) (w : World) (hkk : HasK w) (hl : L.length ≤ 1000000) (hcap : L.length ≤ cap) (hm : Itms w A L) (h : proveAns L ix = (T, x, n)) :
    Calls Tryz.prog 96 #[.slice A L.length cap, .string ix] w fun e w' => ∃ A' c', e = .returned (.tuple #[.agg #[.slice A' T.length c', .string x.1, .string x.2], errOf n]) ∧ Below w.heap.size w w' ∧ Strs w' A' T ∧ (∀ a, A' = some a → 0 < T.length → w.heap.size ≤ a.block) ∧ T.length ≤ c' := by
  have HKK := Lib.hid hkk
  have HM := Lib.hid hm
  have HCAP := Lib.hid hcap
  clear hkk hm hcap
  unfold proveAns at h
  by_cases hk : rightItems L = true
  · have HK := Lib.hid hk
    by_cases h16 : ix.size = 16
    · rw [if_pos ⟨hk, h16⟩] at h
      simp only [Prod.mk.injEq] at h
      obtain ⟨hT, hx, rfl⟩ := h
      have HT := Lib.hid hT
      have HX := Lib.hid hx
      clear hT hx
      have HAP := Lib.hid (right_apart hk)
      have HS := Lib.hid (right_sorted hk)
      have HCM := Lib.hid (right_cm hk)
      have H16 := Lib.hid h16
      have E16 := Lib.hid (show decide (ix.size = 16) = true by simp [h16])
      clear hk h16
      go_enter Tryz.func96, Tryz.ntmps96
      go_wp2_with fail
      have HB0 := Lib.hid (alloc_below w (.cells #[.slice none 0 0, .string ⟨#[]⟩, .string ⟨#[]⟩] 61))
      have HN0 := Lib.hid (show Holds (w.alloc (.cells #[.slice none 0 0, .string ⟨#[]⟩, .string ⟨#[]⟩] 61)) w.heap.size 3 (pCells (.slice none 0 0) noIt) 61 from Holds.new w 3 (pCells (.slice none 0 0) noIt) 61)
      refine (tRight_any L A cap _ hl (HM.out.below HB0.out)).mono ?_
      rintro e w1 ⟨rfl, hb1⟩
      rw [HK.out]
      have HB1 := Lib.hid (HB0.out.trans (hb1.mono HB0.out.size))
      have HN1 := Lib.hid (HN0.out.below hb1 HN0.out.lt)
      have hlt1 : w.heap.size < w1.heap.size := HN1.out.lt
      clear hb1
      go_wp2_with fail
      refine (tMark_any ix _).mono ?_
      rintro e w2 ⟨rfl, rfl⟩
      rw [E16.out]
      go_wp2
      have HREL := Lib.hid (show ProveRel w2.heap.size w (w2.alloc (.cells #[.slice none 0 0, .string ⟨#[]⟩, .string ⟨#[]⟩] 61)) L A [] (.slice none 0 0) from
        ⟨HB1.out.alloc HB1.out.size _, hlt1, HN1.out.alloc _, Holds.new w2 3 (pCells (.slice none 0 0) noIt) 61, (HM.out.below HB1.out).below (alloc_below _ _), Row.nil _ _ _⟩)
      generalize hpb : w2.heap.size = pb at HREL
      clear hpb
      go_loopw [0, 7] (fun l dv wr => ∃ (d f : Nat) (M : List It) (A' : Option Addr) (cap' : Nat) (P : List ByteArray) (v : Value), d + f = 128 ∧ l = .slice A' M.length cap' ∧ dv = .int .i64 (d : Int) ∧ M.length ≤ cap' ∧ M.Pairwise ltI ∧ Apart M d ∧ M.length ≤ 1000000 ∧ (∀ y ∈ M, y.2.size ≤ 1000000) ∧
        P ++ (proveFrom f M ix d).1 = T ∧ (proveFrom f M ix d).2 = x ∧ P.length ≤ d ∧ ProveRel pb w wr M A' P v) (fun _ dv _ => 128 - (intOf dv).toNat)
      case atStart => exact ⟨0, 128, L, A, cap, [], _, rfl, rfl, rfl, HCAP.out, HS.out, HAP.out, hl, HCM.out, HT.out, HX.out, by simp, HREL.out⟩
      case round =>
        obtain ⟨d, f, M, A', cap', P, v, hdf, rfl, rfl, hmc, hms, hap, hml, hcm, hT, hx, hpd, hrel⟩ := hrel
        have HDF := Lib.hid hdf
        have HMC := Lib.hid hmc
        have HMS := Lib.hid hms
        have HAPM := Lib.hid hap
        have HCMM := Lib.hid hcm
        have HTT := Lib.hid hT
        have HXX := Lib.hid hx
        have HRL := Lib.hid hrel
        clear hdf hmc hms hap hcm hT hx hrel
        by_cases h2 : 2 ≤ M.length
        · have hd : d < 128 := HAPM.out.lt h2
          obtain ⟨f', rfl⟩ : ∃ f', f = f' + 1 := ⟨f - 1, by have := HDF.out; omega⟩
          have HSTEP := Lib.hid (show proveFrom (f' + 1) M ix d = (nodeOf f' (half M d (1 - bitOf ix.data.toList d)) (d + 1) :: (proveFrom f' (half M d (bitOf ix.data.toList d)) ix (d + 1)).1, (proveFrom f' (half M d (bitOf ix.data.toList d)) ix (d + 1)).2) by rw [proveFrom, if_neg (by omega)])
          have h2i : (1 : Int) < (M.length : Int) := by omega
          go_wp2_with fail
          refine (tHalves_row M A' cap' d _ hml HMC.out HRL.out.itms HMS.out HAPM.out hd).mono ?_
          rintro e w3 ⟨A0, c0, A1, c1, rfl, hb3, hr0, hr1⟩
          have HB3 := Lib.hid hb3
          have HI0 := Lib.hid hr0.items
          have HI1 := Lib.hid hr1.items
          have HC0 := Lib.hid hr0.cap
          have HC1 := Lib.hid hr1.cap
          have HR0 := Lib.hid hr0
          have HR1 := Lib.hid hr1
          clear hb3 hr0 hr1
          have HKD := Lib.hid (show HasK w3.drew from (HKK.out.below (HRL.out.below.trans (HB3.out.mono HRL.out.below.size)) HKK.out.lt).below (Below.refl w3.heap.size w3).drew (Nat.lt_of_lt_of_le HKK.out.lt (HRL.out.below.trans (HB3.out.mono HRL.out.below.size)).size))
          go_wp2_with fail
          refine (tBit_any ix d _ H16.out hd).mono ?_
          rintro e w4 ⟨rfl, rfl⟩
          have hb2 : bitOf ix.data.toList d = 0 ∨ bitOf ix.data.toList d = 1 := by have := bitOf_lt ix.data.toList d; omega
          rcases hb2 with hbit | hbit
          · rw [hbit]
            rw [hbit] at HSTEP
            have HBIT := Lib.hid hbit
            clear hbit h2i
            have ED := Lib.hid (show ((d : Int) + 1) = ((d + 1 : Nat) : Int) by omega)
            have q0 : w4.cell? ⟨pb, 0, none⟩ = some v := (HRL.out.own.below HB3.out HRL.out.own.lt).cell 0 (by omega)
            have hpb : pb < w4.heap.size := Nat.lt_of_lt_of_le HRL.out.own.lt HB3.out.size
            obtain ⟨nd, hnd⟩ : ∃ nd, nodeOf f' (half M d 1) (d + 1) = nd := ⟨_, rfl⟩
            have HND := Lib.hid hnd
            clear hnd
            have hC : Calls Tryz.prog 159 #[.slice A1 (half M d 1).length c1, .int .i64 ((d : Int) + 1)] w4.drew (fun e w' => e = .returned (.string nd) ∧ Below w4.heap.size w4 w') := by
              rw [ED.out]
              exact (tNode_any f' (d + 1) (half M d 1) A1 c1 w4.drew (by have := HDF.out; omega) (HAPM.out.half 1) (half_rise HMS.out d 1) (Nat.le_trans (half_le _ _ _) hml) HC1.out (fun y hy => HCMM.out y (List.mem_filter.1 hy).1) HKD.out HI1.out.drew).mono fun e w' ⟨he, hb⟩ => ⟨by rw [he, HND.out], undrew hb⟩
            have HC := Lib.hid hC
            clear hC
            have s1 : IntKind.i64.wrap ((d : Int) + 1) = (d : Int) + 1 := IntWalk.i64_in _ (by omega)
            go_wp2_with fail
            go_region_law (first
              | (refine step_of_list rfl ?_; refine wpList_append_one2 rfl (.tmp 38) (.tmp 43) 53 rfl 9 Tryz.underlying53 _ 16 infoStr rfl (by decide) (pb + 1) v P.length (stCells P) rfl HROW5.out (Nat.le_trans hpb hb5.size) (by omega) (.string nd) rfl rfl 9 ?_; intro v' w6 hrow6 hgrow6 hmove6; obtain ⟨p', cap6, rfl⟩ := hrow6.out.any; have t0 := fin_cell HRL.out HB3.out hb5 hgrow6.out; have t1 := fin_free HRL.out HB3.out hb5 hgrow6.out; refine then1 ?_)
              | (go_simp; go_at_call 159; refine HC.out.mono ?_; rintro e w5 ⟨rfl, hb5⟩; have HROW5 := Lib.hid (HRL.out.row.belowAll (HB3.out.trans (hb5.mono HB3.out.size))); have c5 : w5.cell? ⟨pb, 0, none⟩ = some v := (hb5.cell hpb).trans q0; have c6 : (w5.alloc (.cells #[.string nd] 9)).cell? ⟨pb, 0, none⟩ = some v := by rw [World.cell?_alloc_lt _ _ ⟨pb, 0, none⟩ (Nat.lt_of_lt_of_le hpb hb5.size)]; exact c5))
            all_goals
              go_wp2
              go_roundw
              case rel =>
                refine ⟨d + 1, f', half M d 0, A0, c0, P ++ [nd], .slice p' (P.length + 1) cap6, by have := HDF.out; omega, rfl, by go_num, HC0.out, half_rise HMS.out d 0, HAPM.out.half 0, Nat.le_trans (half_le _ _ _) hml, fun y hy => HCMM.out y (List.mem_filter.1 hy).1, ?_, ?_, by simp; omega, ?_⟩
                · rw [← HTT.out, HSTEP.out, ← HND.out, List.append_assoc]; rfl
                · rw [← HXX.out, HSTEP.out]
                · exact ProveRel.next HRL.out (HB3.out.trans (hb5.mono HB3.out.size)) (HR0.out.belowAll hb5) hrow6.out hgrow6.out
              case measure => simp [intOf]; omega
          · rw [hbit]
            rw [hbit] at HSTEP
            have HBIT := Lib.hid hbit
            clear hbit h2i
            have ED := Lib.hid (show ((d : Int) + 1) = ((d + 1 : Nat) : Int) by omega)
            have q0 : w4.cell? ⟨pb, 0, none⟩ = some v := (HRL.out.own.below HB3.out HRL.out.own.lt).cell 0 (by omega)
            have hpb : pb < w4.heap.size := Nat.lt_of_lt_of_le HRL.out.own.lt HB3.out.size
            obtain ⟨nd, hnd⟩ : ∃ nd, nodeOf f' (half M d 0) (d + 1) = nd := ⟨_, rfl⟩
            have HND := Lib.hid hnd
            clear hnd
            have hC : Calls Tryz.prog 159 #[.slice A0 (half M d 0).length c0, .int .i64 ((d : Int) + 1)] w4.drew (fun e w' => e = .returned (.string nd) ∧ Below w4.heap.size w4 w') := by
              rw [ED.out]
              exact (tNode_any f' (d + 1) (half M d 0) A0 c0 w4.drew (by have := HDF.out; omega) (HAPM.out.half 0) (half_rise HMS.out d 0) (Nat.le_trans (half_le _ _ _) hml) HC0.out (fun y hy => HCMM.out y (List.mem_filter.1 hy).1) HKD.out HI0.out.drew).mono fun e w' ⟨he, hb⟩ => ⟨by rw [he, HND.out], undrew hb⟩
            have HC := Lib.hid hC
            clear hC
            have s1 : IntKind.i64.wrap ((d : Int) + 1) = (d : Int) + 1 := IntWalk.i64_in _ (by omega)
            go_wp2_with fail
            go_region_law (first
              | (refine step_of_list rfl ?_; refine wpList_append_one2 rfl (.tmp 38) (.tmp 43) 53 rfl 9 Tryz.underlying53 _ 16 infoStr rfl (by decide) (pb + 1) v P.length (stCells P) rfl HROW5.out (Nat.le_trans hpb hb5.size) (by omega) (.string nd) rfl rfl 9 ?_; intro v' w6 hrow6 hgrow6 hmove6; obtain ⟨p', cap6, rfl⟩ := hrow6.out.any; have t0 := fin_cell HRL.out HB3.out hb5 hgrow6.out; have t1 := fin_free HRL.out HB3.out hb5 hgrow6.out; refine then1 ?_)
              | (go_simp; go_at_call 159; refine HC.out.mono ?_; rintro e w5 ⟨rfl, hb5⟩; have HROW5 := Lib.hid (HRL.out.row.belowAll (HB3.out.trans (hb5.mono HB3.out.size))); have c5 : w5.cell? ⟨pb, 0, none⟩ = some v := (hb5.cell hpb).trans q0; have c6 : (w5.alloc (.cells #[.string nd] 9)).cell? ⟨pb, 0, none⟩ = some v := by rw [World.cell?_alloc_lt _ _ ⟨pb, 0, none⟩ (Nat.lt_of_lt_of_le hpb hb5.size)]; exact c5))
            all_goals
              go_wp2
              go_roundw
              case rel =>
                refine ⟨d + 1, f', half M d 1, A1, c1, P ++ [nd], .slice p' (P.length + 1) cap6, by have := HDF.out; omega, rfl, by go_num, HC1.out, half_rise HMS.out d 1, HAPM.out.half 1, Nat.le_trans (half_le _ _ _) hml, fun y hy => HCMM.out y (List.mem_filter.1 hy).1, ?_, ?_, by simp; omega, ?_⟩
                · rw [← HTT.out, HSTEP.out, ← HND.out, List.append_assoc]; rfl
                · rw [← HXX.out, HSTEP.out]
                · exact ProveRel.next HRL.out (HB3.out.trans (hb5.mono HB3.out.size)) (HR1.out.belowAll hb5) hrow6.out hgrow6.out
              case measure => simp [intOf]; omega
        · have hfew := proveFrom_few f M ix d (by omega)
          have h2i : ¬ (1 : Int) < (M.length : Int) := by omega
          have HTT' := Lib.hid (show P = T by have := HTT.out; rw [hfew] at this; simpa using this)
          have HXX' := Lib.hid (show itAt M 0 = x by have := HXX.out; rw [hfew] at this; exact this)
          clear hfew
          obtain ⟨pv, cv, hv⟩ := HRL.out.row.any
          subst hv
          have hpl := HRL.out.lt
          have hfr : ∀ c, c < pb + 1 → (Value.slice pv P.length cv).ownBlock ≠ some c := fun c hc => HRL.out.row.fresh hc
          have r0 : wr.cell? ⟨w.heap.size, 0, none⟩ = some (.slice none 0 0) := HRL.out.res.cell 0 (by omega)
          have r1 : wr.cell? ⟨w.heap.size, 1, none⟩ = some (.string ⟨#[]⟩) := HRL.out.res.cell 1 (by omega)
          have r2 : wr.cell? ⟨w.heap.size, 2, none⟩ = some (.string ⟨#[]⟩) := HRL.out.res.cell 2 (by omega)
          have g0 := HRL.out.res.free 0
          have g1 := HRL.out.res.free 1
          have g2 := HRL.out.res.free 2
          have e0 : wr.cell? ⟨pb, 0, none⟩ = some (.slice pv P.length cv) := HRL.out.own.cell 0 (by omega)
          have e1 : wr.cell? ⟨pb, 1, none⟩ = some (.string ⟨#[]⟩) := HRL.out.own.cell 1 (by omega)
          have e2 : wr.cell? ⟨pb, 2, none⟩ = some (.string ⟨#[]⟩) := HRL.out.own.cell 2 (by omega)
          have k1 := HRL.out.own.free 1
          have k2 := HRL.out.own.free 2
          rcases (show M.length = 1 ∨ M.length = 0 by omega) with h1 | h1
          · have h1i : ((M.length : Int) == 1) = true := by rw [beq_iff_eq]; omega
            have hlt : (0 : Int) < (M.length : Int) := by omega
            obtain ⟨a, rfl, hal, c0, c1⟩ := HRL.out.itms.at_ (show 0 < M.length by omega)
            rw [Nat.zero_mul, add_zero', HXX'.out] at c0 c1
            have d2 : wr.cell? ⟨a.block, a.off + 1, none⟩ = some (.string x.2) := c1
            clear c1 h1 h2
            go_wp2
            have hfin : Holds (((((wr.setCell ⟨pb, 1, none⟩ (.string x.1)).setCell ⟨pb, 2, none⟩ (.string x.2)).setCell ⟨w.heap.size, 0, none⟩ (.slice pv P.length cv)).setCell ⟨w.heap.size, 1, none⟩ (.string x.1)).setCell ⟨w.heap.size, 2, none⟩ (.string x.2)) w.heap.size 3 (pCells (.slice pv P.length cv) x) 61 := by
              refine (((((HRL.out.res.other (a := ⟨pb, 1, none⟩) (by show w.heap.size ≠ pb; omega) _).other (a := ⟨pb, 2, none⟩) (by show w.heap.size ≠ pb; omega) _).set 0 (.slice pv P.length cv)).set 1 (.string x.1)).set 2 (.string x.2)).congr fun i hi => ?_
              rcases (show i = 0 ∨ i = 1 ∨ i = 2 by omega) with rfl | rfl | rfl <;> rfl
            refine bodyPost_ret (results_row_tmp rfl _ _ w.heap.size 61 (arr 3 (pCells (.slice pv P.length cv) x)) (0, 0) _ rfl hfin Tryz.underlying61 rfl (by rw [arr_size]; exact infoProof)) rfl ?_
            rw [← HTT'.out]
            refine ⟨pv, cv, rfl, ((((HRL.out.below.setCell (p := ⟨pb, 1, none⟩) (Nat.le_of_lt hpl) _).setCell (p := ⟨pb, 2, none⟩) (Nat.le_of_lt hpl) _).setCell (p := ⟨w.heap.size, 0, none⟩) (Nat.le_refl _) _).setCell (p := ⟨w.heap.size, 1, none⟩) (Nat.le_refl _) _).setCell (p := ⟨w.heap.size, 2, none⟩) (Nat.le_refl _) _, ?_, (fun a e l => by have := HRL.out.row.newerT a e l; omega), HRL.out.row.cap⟩
            exact (((((HRL.out.row.setOther (a := ⟨pb, 1, none⟩) (hfr pb (by omega)) _).setOther (a := ⟨pb, 2, none⟩) (hfr pb (by omega)) _).setOther (a := ⟨w.heap.size, 0, none⟩) (hfr w.heap.size (by omega)) _).setOther (a := ⟨w.heap.size, 1, none⟩) (hfr w.heap.size (by omega)) _).setOther (a := ⟨w.heap.size, 2, none⟩) (hfr w.heap.size (by omega)) _).texts
          · have h1i : ((M.length : Int) == 1) = false := by rw [beq_eq_false_iff_ne]; omega
            obtain rfl : noIt = x := by
              rw [← HXX'.out, List.eq_nil_of_length_eq_zero h1]; rfl
            clear h1 h2
            go_wp2
            have hfin : Holds (((wr.setCell ⟨w.heap.size, 0, none⟩ (.slice pv P.length cv)).setCell ⟨w.heap.size, 1, none⟩ (.string ⟨#[]⟩)).setCell ⟨w.heap.size, 2, none⟩ (.string ⟨#[]⟩)) w.heap.size 3 (pCells (.slice pv P.length cv) noIt) 61 := by
              refine (((HRL.out.res.set 0 (.slice pv P.length cv)).set 1 (.string ⟨#[]⟩)).set 2 (.string ⟨#[]⟩)).congr fun i hi => ?_
              rcases (show i = 0 ∨ i = 1 ∨ i = 2 by omega) with rfl | rfl | rfl <;> rfl
            refine bodyPost_ret (results_row_tmp rfl _ _ w.heap.size 61 (arr 3 (pCells (.slice pv P.length cv) noIt)) (0, 0) _ rfl hfin Tryz.underlying61 rfl (by rw [arr_size]; exact infoProof)) rfl ?_
            rw [← HTT'.out]
            refine ⟨pv, cv, rfl, ((HRL.out.below.setCell (p := ⟨w.heap.size, 0, none⟩) (Nat.le_refl _) _).setCell (p := ⟨w.heap.size, 1, none⟩) (Nat.le_refl _) _).setCell (p := ⟨w.heap.size, 2, none⟩) (Nat.le_refl _) _, ?_, (fun a e l => by have := HRL.out.row.newerT a e l; omega), HRL.out.row.cap⟩
            exact (((HRL.out.row.setOther (a := ⟨w.heap.size, 0, none⟩) (hfr w.heap.size (by omega)) _).setOther (a := ⟨w.heap.size, 1, none⟩) (hfr w.heap.size (by omega)) _).setOther (a := ⟨w.heap.size, 2, none⟩) (hfr w.heap.size (by omega)) _).texts
    · rw [if_neg (fun hh => h16 hh.2)] at h
      cases h
      have E16 := Lib.hid (show decide (ix.size = 16) = false by simp [h16])
      clear hk h16
      go_enter Tryz.func96, Tryz.ntmps96
      go_wp2_with fail
      have HB0 := Lib.hid (alloc_below w (.cells #[.slice none 0 0, .string ⟨#[]⟩, .string ⟨#[]⟩] 61))
      have HN0 := Lib.hid (show Holds (w.alloc (.cells #[.slice none 0 0, .string ⟨#[]⟩, .string ⟨#[]⟩] 61)) w.heap.size 3 (pCells (.slice none 0 0) noIt) 61 from Holds.new w 3 (pCells (.slice none 0 0) noIt) 61)
      refine (tRight_any L A cap _ hl (HM.out.below HB0.out)).mono ?_
      rintro e w1 ⟨rfl, hb1⟩
      rw [HK.out]
      have HB1 := Lib.hid (HB0.out.trans (hb1.mono HB0.out.size))
      have HN1 := Lib.hid (HN0.out.below hb1 HN0.out.lt)
      have hlt1 : w.heap.size < w1.heap.size := HN1.out.lt
      clear hb1
      go_wp2_with fail
      refine (tMark_any ix _).mono ?_
      rintro e w1 ⟨rfl, rfl⟩
      rw [E16.out]
      have r0 : w1.cell? ⟨w.heap.size, 0, none⟩ = some (.slice none 0 0) := HN1.out.cell 0 (by omega)
      have r1 : w1.cell? ⟨w.heap.size, 1, none⟩ = some (.string ⟨#[]⟩) := HN1.out.cell 1 (by omega)
      have r2 : w1.cell? ⟨w.heap.size, 2, none⟩ = some (.string ⟨#[]⟩) := HN1.out.cell 2 (by omega)
      have g0 := HN1.out.free 0
      have g1 := HN1.out.free 1
      have g2 := HN1.out.free 2
      go_wp2
      have hfin : Holds (((w1.setCell ⟨w.heap.size, 0, none⟩ (.slice none 0 0)).setCell ⟨w.heap.size, 1, none⟩ (.string ⟨#[]⟩)).setCell ⟨w.heap.size, 2, none⟩ (.string ⟨#[]⟩)) w.heap.size 3 (pCells (.slice none 0 0) noIt) 61 := by
        refine (((HN1.out.set 0 (.slice none 0 0)).set 1 (.string ⟨#[]⟩)).set 2 (.string ⟨#[]⟩)).congr fun i hi => ?_
        rcases (show i = 0 ∨ i = 1 ∨ i = 2 by omega) with rfl | rfl | rfl <;> rfl
      refine bodyPost_ret (results_row_tmp rfl _ _ w.heap.size 61 (arr 3 (pCells (.slice none 0 0) noIt)) (0, 0) _ rfl hfin Tryz.underlying61 rfl (by rw [arr_size]; exact infoProof)) rfl ?_
      exact ⟨none, 0, rfl, ((HB1.out.setCell (p := ⟨w.heap.size, 0, none⟩) (Nat.le_refl _) _).setCell (p := ⟨w.heap.size, 1, none⟩) (Nat.le_refl _) _).setCell (p := ⟨w.heap.size, 2, none⟩) (Nat.le_refl _) _, Strs.nil _ _, (fun a e => by cases e), Nat.zero_le _⟩
  · rw [if_neg (fun hh => hk hh.1)] at h
    cases h
    have HK := Lib.hid (show rightItems L = false by simpa using hk)
    clear hk
    go_enter Tryz.func96, Tryz.ntmps96
    go_wp2_with fail
    have HB0 := Lib.hid (alloc_below w (.cells #[.slice none 0 0, .string ⟨#[]⟩, .string ⟨#[]⟩] 61))
    have HN0 := Lib.hid (show Holds (w.alloc (.cells #[.slice none 0 0, .string ⟨#[]⟩, .string ⟨#[]⟩] 61)) w.heap.size 3 (pCells (.slice none 0 0) noIt) 61 from Holds.new w 3 (pCells (.slice none 0 0) noIt) 61)
    refine (tRight_any L A cap _ hl (HM.out.below HB0.out)).mono ?_
    rintro e w1 ⟨rfl, hb1⟩
    rw [HK.out]
    have HB1 := Lib.hid (HB0.out.trans (hb1.mono HB0.out.size))
    have HN1 := Lib.hid (HN0.out.below hb1 HN0.out.lt)
    have hlt1 : w.heap.size < w1.heap.size := HN1.out.lt
    clear hb1
    have r0 : w1.cell? ⟨w.heap.size, 0, none⟩ = some (.slice none 0 0) := HN1.out.cell 0 (by omega)
    have r1 : w1.cell? ⟨w.heap.size, 1, none⟩ = some (.string ⟨#[]⟩) := HN1.out.cell 1 (by omega)
    have r2 : w1.cell? ⟨w.heap.size, 2, none⟩ = some (.string ⟨#[]⟩) := HN1.out.cell 2 (by omega)
    have g0 := HN1.out.free 0
    have g1 := HN1.out.free 1
    have g2 := HN1.out.free 2
    go_wp2
    have hfin : Holds (((w1.setCell ⟨w.heap.size, 0, none⟩ (.slice none 0 0)).setCell ⟨w.heap.size, 1, none⟩ (.string ⟨#[]⟩)).setCell ⟨w.heap.size, 2, none⟩ (.string ⟨#[]⟩)) w.heap.size 3 (pCells (.slice none 0 0) noIt) 61 := by
      refine (((HN1.out.set 0 (.slice none 0 0)).set 1 (.string ⟨#[]⟩)).set 2 (.string ⟨#[]⟩)).congr fun i hi => ?_
      rcases (show i = 0 ∨ i = 1 ∨ i = 2 by omega) with rfl | rfl | rfl <;> rfl
    refine bodyPost_ret (results_row_tmp rfl _ _ w.heap.size 61 (arr 3 (pCells (.slice none 0 0) noIt)) (0, 0) _ rfl hfin Tryz.underlying61 rfl (by rw [arr_size]; exact infoProof)) rfl ?_
    exact ⟨none, 0, rfl, ((HB1.out.setCell (p := ⟨w.heap.size, 0, none⟩) (Nat.le_refl _) _).setCell (p := ⟨w.heap.size, 1, none⟩) (Nat.le_refl _) _).setCell (p := ⟨w.heap.size, 2, none⟩) (Nat.le_refl _) _, Strs.nil _ _, (fun a e => by cases e), Nat.zero_le _⟩
end Go.Proofs.YtgjmbokfenpefaaGreatDoor
