/- Parts of the proof, one behind the other: PLook. -/
import Derived.WalkKit
import Derived.Lib.Hide
import Derived.WalkLawsBesides
import Derived.Deep.QuietTactic
import Derived.Deep.WholeRow
import Derived.ArgAppend
import Derived.Laws.AppendOwnNone
import Derived.Laws.CopyRow
import Derived.Deep.RegionLaw
import Derived.Laws.BytesString
import Derived.Laws.IdiomStrings
import Derived.Test.YtgjmbokfenpefaaGreatDoorProg
import Derived.StringKeys
import Derived.Maps.Own
import Derived.Maps.Views
import Derived.Maps.OwnSet
import Derived.Maps.OwnOps
import Derived.Maps.RangeWalk
import Derived.Sort.KeysCollected
import Derived.Laws.BitsAllLaws
import Derived.Outline
import Derived.BigQuiet
import Derived.Laws.CopyOwn
import Derived.RegionTactic
import Derived.StillTail
import Derived.Deep.Quiet
import Derived.Deep.RegionHeld3
import Derived.Deep.DeepCutAuto
import Derived.Laws.ResultCell
import Derived.IntWalk
import Derived.Sort.Walk0
import Derived.Tactics
import Derived.Orders
import Derived.LaidEql
import Derived.Stop.Asserts
import Derived.RowKitTokens
import Derived.OrdersHeld
import Derived.Sort.LotA
import Derived.Lib.SortBridge
import Derived.Deep.AppendSrc
import Derived.Shelf.SlSortFuncK.WholeK
import Derived.Ground.GgsProg
import Derived.Shelf.GgSortFunc.Tiny
import Derived.Shelf.Strings.Repeat
import Derived.KernelRfl
import Derived.WideKeyEntry
import Derived.Deep.CutRange
import Derived.Laws.StructEq
import Derived.RangeFuncNested
import Derived.RangeFuncBound
import Derived.RangeFuncCalls
import Derived.RangeFuncLeaves
import Derived.Shelf.Abstract
import Derived.Shelf.RegionOpen
import Derived.OwnWalkIn
import Derived.TacticsInMore
import Derived.LoopNIn
import Derived.LoopIn
import Derived.OrdersIn
import Derived.TacticsIn
import Derived.Test.YtgjmbokfenpefaaGreatDoorM1
import Derived.Test.YtgjmbokfenpefaaGreatDoorM2
import Derived.Test.YtgjmbokfenpefaaGreatDoorM3
import Derived.Test.YtgjmbokfenpefaaGreatDoorM4
import Derived.Test.YtgjmbokfenpefaaGreatDoorM5
import Derived.Test.YtgjmbokfenpefaaGreatDoorM6
import Derived.Test.YtgjmbokfenpefaaGreatDoorM7
import Derived.Test.YtgjmbokfenpefaaGreatDoorM8
import Derived.Test.YtgjmbokfenpefaaGreatDoorM9
import Derived.Test.YtgjmbokfenpefaaGreatDoorM10
import Derived.Test.YtgjmbokfenpefaaGreatDoorM12
import Derived.Test.YtgjmbokfenpefaaGreatDoorM13
import Derived.Test.YtgjmbokfenpefaaGreatDoorM17
import Derived.Test.YtgjmbokfenpefaaGreatDoorM18
import Derived.Test.YtgjmbokfenpefaaGreatDoorM19
import Derived.Test.YtgjmbokfenpefaaGreatDoorM20
import Derived.Test.YtgjmbokfenpefaaGreatDoorM21
import Derived.Test.YtgjmbokfenpefaaGreatDoorM22
import Derived.Test.YtgjmbokfenpefaaGreatDoorM23
import Derived.Test.YtgjmbokfenpefaaGreatDoorM24
import Derived.Test.YtgjmbokfenpefaaGreatDoorM25
import Derived.Test.YtgjmbokfenpefaaGreatDoorM28
import Derived.Test.YtgjmbokfenpefaaGreatDoorM29
/- The program's directory: Lookup. -/
namespace Go.Proofs.YtgjmbokfenpefaaGreatDoor
open Go.RowKit Go.Maps

set_option maxHeartbeats 4000000 in
set_option maxRecDepth 100000 in
theorem pDirLookup_room (F : Nat → Prop) (p : Nat) (d : Dst) (name : ByteArray) (a : Answ) (n : Int) (w : World) (hd : PDir F w p d) (hok : DOk d) (hk : HasK w) (hdim : EpsDim d) (hn : name.size ≤ 1000000) (h : Pub.over.tells d name = (a, n)) :
    Calls Tryz.prog 56 #[.pointer (some ⟨p, 0, none⟩), .string name] w fun e w' => ∃ m : AnM, e = .returned (.tuple #[.agg m.cells, errOf n]) ∧ Below w.heap.size w w' ∧ AnIn w' m a ∧ Near F w m.sg.A a.sgn.sig.length ∧ Near F w m.sg.B a.sgn.path.length ∧ Near F w m.C a.path.length ∧ a.sgn.path.length ≤ m.sg.cb ∧ a.path.length ≤ m.cc := by
  obtain ⟨bb, mh, mw, vi, ve, H, M, hd, hme, hsy⟩ := hd
  have HD := Lib.hid hd
  have HME := Lib.hid hme
  have HSY := Lib.hid hsy
  have HOK := Lib.hid hok
  have HK := Lib.hid hk
  have HDIM := Lib.hid hdim
  have HNL := Lib.hid hn
  have HML := Lib.hid (show M.length = d.eps.length from by have := congrArg List.length hme; rwa [List.length_map] at this)
  obtain ⟨AE, cE, rfl, hcE, hsix⟩ := hd.row.sixes
  have HSIX := Lib.hid hsix
  obtain ⟨AI, cI, rfl, hcI, hII, hAI⟩ := hd.its
  have HII := Lib.hid hII
  have HCI := Lib.hid hcI
  obtain ⟨w0, hw0⟩ : ∃ w0, w.alloc (.cells #[.int .i64 0, .string ⟨#[]⟩, .string ⟨#[]⟩, .int .i64 0, .slice none 0 0, .slice none 0 0, .slice none 0 0, .string ⟨#[]⟩, .string ⟨#[]⟩, .string ⟨#[]⟩, .string ⟨#[]⟩] 63) = w0 := ⟨_, rfl⟩
  have hb0 : Below w.heap.size w w0 := by rw [← hw0]; exact alloc_below _ _
  have HB0 := Lib.hid hb0
  have HZ := Lib.hid (show Holds w0 w.heap.size 11 noAnF 63 by rw [← hw0]; exact Holds.new w 11 noAnF 63)
  clear hd hme hsy hok hk hdim hn hcE hsix hcI hII hAI hb0
  unfold Pub.tells at h
  by_cases hnm : nameOk name.data.toList = true
  · rw [if_pos hnm] at h
    obtain ⟨ix, hix⟩ : ∃ ix, markOf 105 [name] = ix := ⟨_, rfl⟩
    have HOF := Lib.hid (show ofAns name = (ix, 0) by unfold ofAns; rw [if_pos hnm, hix])
    have HIX := Lib.hid (show ix.size = 16 from by rw [← hix]; exact markOf_len _ _)
    clear hix
    by_cases h0 : d.eps.length = 0
    · rw [if_pos h0] at h
      obtain ⟨rfl, rfl⟩ := Prod.mk.inj h
      have hM0 : M.length = 0 := by rw [HML.out, h0]
      clear h
      go_enter Tryz.func56, Tryz.ntmps56
      go_wp2_with fail
      refine (of_is name ix 0 _ (HK.out.below HB0.out HK.out.lt) HOF.out).mono ?_
      rintro e w1 ⟨rfl, hb1⟩
      rw [show errOf 0 = .nilIface from rfl]
      have HB1 := Lib.hid (HB0.out.trans (hb1.mono HB0.out.size))
      have HD1 := Lib.hid (HD.out.same (same_of_below HB1.out HD.out.lt))
      have HZ1 := Lib.hid (HZ.out.below hb1 HZ.out.lt)
      clear hb1 hw0
      have d5 : w1.cell? ⟨p, 5, none⟩ = some (.slice AE M.length cE) := HD1.out.own.cell 5 (by omega)
      obtain ⟨p0, p1, p2, p3, p4, p5, p6, p7, p8, p9, p10⟩ := an_cells (m := noM) HZ1.out
      have q0 : w1.frozen? ⟨w.heap.size, 0, none⟩ = false := HZ1.out.free 0
      have q1 : w1.frozen? ⟨w.heap.size, 1, none⟩ = false := HZ1.out.free 1
      have q2 : w1.frozen? ⟨w.heap.size, 2, none⟩ = false := HZ1.out.free 2
      have q3 : w1.frozen? ⟨w.heap.size, 3, none⟩ = false := HZ1.out.free 3
      have q4 : w1.frozen? ⟨w.heap.size, 4, none⟩ = false := HZ1.out.free 4
      have q5 : w1.frozen? ⟨w.heap.size, 5, none⟩ = false := HZ1.out.free 5
      have q6 : w1.frozen? ⟨w.heap.size, 6, none⟩ = false := HZ1.out.free 6
      have q7 : w1.frozen? ⟨w.heap.size, 7, none⟩ = false := HZ1.out.free 7
      have q8 : w1.frozen? ⟨w.heap.size, 8, none⟩ = false := HZ1.out.free 8
      have q9 : w1.frozen? ⟨w.heap.size, 9, none⟩ = false := HZ1.out.free 9
      have q10 : w1.frozen? ⟨w.heap.size, 10, none⟩ = false := HZ1.out.free 10
      go_wp2
      have HFIN := Lib.hid (put11_holds HZ1.out noM none 0 0 noIt ⟨#[]⟩ ⟨#[]⟩)
      have HFB := Lib.hid (put11_below HB1.out (Nat.le_refl _) noM none 0 0 noIt ⟨#[]⟩ ⟨#[]⟩)
      refine bodyPost_ret (results_row2 rfl _ _ w.heap.size 63 (arr 11 noAnF) (0, 0) _ rfl HFIN.out Tryz.underlying63 rfl (by rw [arr_size]; exact infoAnsw)) rfl ?_
      exact ⟨⟨noM, none, 0, noAnsw⟩, rfl, HFB.out, ⟨rfl, rfl, Strs.nil _ _, Strs.nil _ _, Strs.nil _ _, Nat.le_refl 0⟩, (fun a e => by cases e), (fun a e => by cases e), (fun a e => by cases e), Nat.le_refl 0, Nat.le_refl 0⟩
    · rw [if_neg h0] at h
      obtain ⟨rfl, rfl⟩ := Prod.mk.inj h
      have HM0 := Lib.hid h0
      clear h h0
      obtain ⟨T, x, hpr⟩ : ∃ T x, proveAns (overIts d) ix = (T, x, 0) := by
        unfold proveAns
        rw [if_pos ⟨over_right HOK.out, HIX.out⟩]
        exact ⟨_, _, rfl⟩
      have HPR := Lib.hid hpr
      clear hpr
      go_enter Tryz.func56, Tryz.ntmps56
      go_wp2_with fail
      refine (of_is name ix 0 _ (HK.out.below HB0.out HK.out.lt) HOF.out).mono ?_
      rintro e w1 ⟨rfl, hb1⟩
      rw [show errOf 0 = .nilIface from rfl]
      have HB1 := Lib.hid (HB0.out.trans (hb1.mono HB0.out.size))
      have HD1 := Lib.hid (HD.out.same (same_of_below HB1.out HD.out.lt))
      have HZ1 := Lib.hid (HZ.out.below hb1 HZ.out.lt)
      clear hb1 hw0
      have hMn : ¬ ((M.length : Int) = 0) := by have := HML.out; have := HM0.out; omega
      have d5 : w1.cell? ⟨p, 5, none⟩ = some (.slice AE M.length cE) := HD1.out.own.cell 5 (by omega)
      have d4 : w1.cell? ⟨p, 4, none⟩ = some (.slice AI (overIts d).length cI) := HD1.out.own.cell 4 (by omega)
      go_wp2_with fail
      clear d5 d4
      refine (tProve_in (overIts d) AI cI ix T x 0 _ (HK.out.below HB1.out HK.out.lt) (by have := right_length (over_right HOK.out); omega) HCI.out (HII.out.below HB1.out) HPR.out).mono ?_
      rintro e w2 ⟨C, cc, rfl, hb2, hst2, hnw2, hcc2⟩
      have HCC := Lib.hid hcc2
      rw [show errOf 0 = .nilIface from rfl]
      have hb3 := hb2.trans ((alloc_below w2 (.cells #[.slice C T.length cc, .string x.1, .string x.2] 61)).mono hb2.size)
      have HB3 := Lib.hid (HB1.out.trans (hb3.mono HB1.out.size))
      have HD3 := Lib.hid (HD.out.same (same_of_below HB3.out HD.out.lt))
      have HZ3 := Lib.hid (HZ1.out.below hb3 HZ1.out.lt)
      have HS3 := Lib.hid (hst2.below (alloc_below w2 (.cells #[.slice C T.length cc, .string x.1, .string x.2] 61)))
      have HCN := Lib.hid (show ∀ b, C = some b → 0 < T.length → w.heap.size < b.block from fun b e l => by have := hnw2 b e l; have := HZ1.out.lt; omega)
      have HP3 := Lib.hid (show Holds (w2.alloc (.cells #[.slice C T.length cc, .string x.1, .string x.2] 61)) w2.heap.size 3 (pCells (.slice C T.length cc) x) 61 from Holds.new w2 3 (pCells (.slice C T.length cc) x) 61)
      have HPB := Lib.hid (show w.heap.size < w2.heap.size from by have := HZ1.out.lt; have := hb2.size; omega)
      clear hb2 hst2 hnw2 hcc2 hb3 HB1 HD1 HZ1 HCI HII
      go_upto_region 9 with (fail)
      generalize w2.alloc (.cells #[.slice C T.length cc, .string x.1, .string x.2] 61) = w3 at HB3 HD3 HZ3 HS3 HP3 ⊢
      obtain ⟨pb, hpb⟩ : ∃ pb, w2.heap.size = pb := ⟨_, rfl⟩
      rw [hpb] at HP3 HPB ⊢
      clear hpb
      obtain ⟨K, hKM⟩ : ∃ K, M.length - 1 = K := ⟨_, rfl⟩
      have HKM := Lib.hid (show M.length = K + 1 from by have := HML.out; have := HM0.out; omega)
      have hkm : (K : Int) < (M.length : Int) := by have := HKM.out; omega
      have s1 : IntKind.i64.wrap ((M.length : Int) - 1) = (K : Int) := by
        have := HKM.out
        have := HML.out
        have := HOK.out.few
        rw [IntWalk.i64_in _ (by omega)]
        omega
      obtain ⟨m, hm⟩ : ∃ m, M[K]? = some m := ⟨_, List.getElem?_eq_getElem (by have := HKM.out; omega)⟩
      have HM := Lib.hid hm
      obtain ⟨a, rfl, hal, c0, c1, c2, c3, c4, c5⟩ := (HSIX.out.below HB3.out) _ m hm
      have HAL := Lib.hid hal
      have d1 : w3.cell? ⟨(a.add (K * 6)).block, (a.add (K * 6)).off + 1, none⟩ = some (.string m.s.head.root) := c1
      have d2 : w3.cell? ⟨(a.add (K * 6)).block, (a.add (K * 6)).off + 2, none⟩ = some (.string m.s.head.prev) := c2
      have d3 : w3.cell? ⟨(a.add (K * 6)).block, (a.add (K * 6)).off + 3, none⟩ = some (.int .i64 m.s.key) := c3
      have d4 : w3.cell? ⟨(a.add (K * 6)).block, (a.add (K * 6)).off + 4, none⟩ = some (.slice m.A m.s.sig.length m.ca) := c4
      have d5 : w3.cell? ⟨(a.add (K * 6)).block, (a.add (K * 6)).off + 5, none⟩ = some (.slice m.B m.s.path.length m.cb) := c5
      have e5 : w3.cell? ⟨p, 5, none⟩ = some (.slice (some a) M.length cE) := HD3.out.own.cell 5 (by omega)
      clear c1 c2 c3 c4 c5 hm hal hKM
      have HSS := Lib.hid (show ∀ u : World, Below w3.heap.size w3 u → (u.cell? ⟨p, 5, none⟩ = some (.slice (some a) M.length cE) ∧ u.cell? (a.add (K * 6)) = some (.int .i64 m.s.head.epoch) ∧ u.cell? ⟨(a.add (K * 6)).block, (a.add (K * 6)).off + 1, none⟩ = some (.string m.s.head.root) ∧ u.cell? ⟨(a.add (K * 6)).block, (a.add (K * 6)).off + 2, none⟩ = some (.string m.s.head.prev) ∧ u.cell? ⟨(a.add (K * 6)).block, (a.add (K * 6)).off + 3, none⟩ = some (.int .i64 m.s.key) ∧ u.cell? ⟨(a.add (K * 6)).block, (a.add (K * 6)).off + 4, none⟩ = some (.slice m.A m.s.sig.length m.ca) ∧ u.cell? ⟨(a.add (K * 6)).block, (a.add (K * 6)).off + 5, none⟩ = some (.slice m.B m.s.path.length m.cb)) ∧ Below w3.heap.size w3 u from fun u hu =>
        ⟨⟨(hu.cell (p := ⟨p, 5, none⟩) HD3.out.own.lt).trans e5, (hu.cell (by rw [block_add]; exact HAL.out)).trans c0, (hu.cell (by show (a.add (K * 6)).block < _; rw [block_add]; exact HAL.out)).trans d1, (hu.cell (by show (a.add (K * 6)).block < _; rw [block_add]; exact HAL.out)).trans d2, (hu.cell (by show (a.add (K * 6)).block < _; rw [block_add]; exact HAL.out)).trans d3, (hu.cell (by show (a.add (K * 6)).block < _; rw [block_add]; exact HAL.out)).trans d4, (hu.cell (by show (a.add (K * 6)).block < _; rw [block_add]; exact HAL.out)).trans d5⟩, hu⟩)
      go_region_held3 (fun u => (u.cell? ⟨p, 5, none⟩ = some (.slice (some a) M.length cE) ∧ u.cell? (a.add (K * 6)) = some (.int .i64 m.s.head.epoch) ∧ u.cell? ⟨(a.add (K * 6)).block, (a.add (K * 6)).off + 1, none⟩ = some (.string m.s.head.root) ∧ u.cell? ⟨(a.add (K * 6)).block, (a.add (K * 6)).off + 2, none⟩ = some (.string m.s.head.prev) ∧ u.cell? ⟨(a.add (K * 6)).block, (a.add (K * 6)).off + 3, none⟩ = some (.int .i64 m.s.key) ∧ u.cell? ⟨(a.add (K * 6)).block, (a.add (K * 6)).off + 4, none⟩ = some (.slice m.A m.s.sig.length m.ca) ∧ u.cell? ⟨(a.add (K * 6)).block, (a.add (K * 6)).off + 5, none⟩ = some (.slice m.B m.s.path.length m.cb)) ∧ Below w3.heap.size w3 u)
        (first
          | exact HSS.out _ (Below.refl _ _).drew
          | exact HSS.out _ ((Below.refl _ _).alloc (Nat.le_refl _) _).drew
          | exact HSS.out _ ((Below.refl _ _).drew.alloc (Nat.le_refl _) _))
        (first | fail)
      rename_i hheld
      clear hheld HSS c0 d1 d2 d3 d4 d5 e5 s1 hkm
      have hb4 := ((Below.refl w3.heap.size w3).alloc (Nat.le_refl _) (.cells #[.int .i64 m.s.head.epoch, .string m.s.head.root, .string m.s.head.prev, .int .i64 m.s.key, .slice m.A m.s.sig.length m.ca, .slice m.B m.s.path.length m.cb] 57)).drew
      have HB4 := Lib.hid (HB3.out.trans (hb4.mono HB3.out.size))
      have HD4 := Lib.hid (HD.out.same (same_of_below HB4.out HD.out.lt))
      have HZ4 := Lib.hid (HZ3.out.below hb4 HZ3.out.lt)
      have HP4 := Lib.hid (HP3.out.below hb4 HP3.out.lt)
      have HS4 := Lib.hid (HS3.out.below hb4)
      have HX4 := Lib.hid (show Holds ((w3.alloc (.cells #[.int .i64 m.s.head.epoch, .string m.s.head.root, .string m.s.head.prev, .int .i64 m.s.key, .slice m.A m.s.sig.length m.ca, .slice m.B m.s.path.length m.cb] 57)).drew) w3.heap.size 6 (sgF m.s.head m.s.key (.slice m.A m.s.sig.length m.ca) (.slice m.B m.s.path.length m.cb)) 57 from (Holds.new w3 6 (sgF m.s.head m.s.key (.slice m.A m.s.sig.length m.ca) (.slice m.B m.s.path.length m.cb)) 57).drew)
      have HQB := Lib.hid (show w.heap.size < w3.heap.size from HZ3.out.lt)
      generalize (w3.alloc (.cells #[.int .i64 m.s.head.epoch, .string m.s.head.root, .string m.s.head.prev, .int .i64 m.s.key, .slice m.A m.s.sig.length m.ca, .slice m.B m.s.path.length m.cb] 57)).drew = w4 at HB4 HD4 HZ4 HP4 HS4 HX4 hb4 ⊢
      obtain ⟨qb, hqb⟩ : ∃ qb, w3.heap.size = qb := ⟨_, rfl⟩
      rw [hqb] at HX4 HQB ⊢
      clear hqb hb4 HB3 HD3 HZ3 HP3 HS3 HAL
      obtain ⟨⟨o, v⟩, hov⟩ : ∃ q, (look H name).getD (⟨#[]⟩, ⟨#[]⟩) = q := ⟨_, rfl⟩
      have HOV := Lib.hid hov
      have hlk : (Instr.lookup 154 (.map (some mh)) (.string name) false).run Tryz.prog w4 = .ok (.agg #[.string o, .string v]) w4 := by
        have := HD4.out.has.look1 HNL.out
        rw [show (look H name).getD kH.zero = (o, v) from hov] at this
        exact this
      have c2 : w4.cell? ⟨p, 2, none⟩ = some (.map (some mh)) := HD4.out.own.cell 2 (by omega)
      have hb5 := alloc_below w4 (.cells #[.string o, .string v] 211)
      have HB5 := Lib.hid (HB4.out.trans (hb5.mono HB4.out.size))
      have HD5 := Lib.hid (HD.out.same (same_of_below HB5.out HD.out.lt))
      have HZ5 := Lib.hid (HZ4.out.below hb5 HZ4.out.lt)
      have HP5 := Lib.hid (HP4.out.below hb5 HP4.out.lt)
      have HX5 := Lib.hid (HX4.out.below hb5 HX4.out.lt)
      have HS5 := Lib.hid (HS4.out.below hb5)
      have HO5 := Lib.hid (show Holds (w4.alloc (.cells #[.string o, .string v] 211)) w4.heap.size 2 (twoF o v) 211 from Holds.new w4 2 (twoF o v) 211)
      have HXB := Lib.hid (show w.heap.size < w4.heap.size from HZ4.out.lt)
      go_upto_region 11 with (fail)
      generalize w4.alloc (.cells #[.string o, .string v] 211) = w5 at HB5 HD5 HZ5 HP5 HX5 HS5 HO5 hb5 ⊢
      obtain ⟨xb, hxb⟩ : ∃ xb, w4.heap.size = xb := ⟨_, rfl⟩
      rw [hxb] at HO5 HXB ⊢
      clear hxb hb5 c2 hlk hov HB4 HD4 HZ4 HP4 HX4 HS4
      have HSM := Lib.hid (HD5.out.sgs m (List.mem_of_getElem? HM.out))
      have HMD := Lib.hid (HDIM.out m.s (by rw [← HME.out]; exact List.mem_map_of_mem (List.mem_of_getElem? HM.out)))
      have HFL := Lib.hid (show (∀ b, m.A = some b → 0 < m.s.sig.length → b.block < w.heap.size) ∧ ∀ b, m.B = some b → 0 < m.s.path.length → b.block < w.heap.size from ⟨fun b e l => HD.out.lt _ (HSM.out.fs b e l).1, fun b e l => HD.out.lt _ (HSM.out.fp b e l).1⟩)
      have HSS := Lib.hid (show ∀ u : World, Same (fun k => k < w5.heap.size ∧ k ≠ w.heap.size) w5 u → (u.cell? ⟨qb, 0, none⟩ = some (.int .i64 m.s.head.epoch) ∧ u.cell? ⟨qb, 1, none⟩ = some (.string m.s.head.root) ∧ u.cell? ⟨qb, 2, none⟩ = some (.string m.s.head.prev) ∧ u.cell? ⟨qb, 3, none⟩ = some (.int .i64 m.s.key) ∧ u.cell? ⟨qb, 4, none⟩ = some (.slice m.A m.s.sig.length m.ca) ∧ u.cell? ⟨qb, 5, none⟩ = some (.slice m.B m.s.path.length m.cb) ∧ u.cell? ⟨pb, 0, none⟩ = some (.slice C T.length cc) ∧ u.cell? ⟨pb, 1, none⟩ = some (.string x.1) ∧ u.cell? ⟨pb, 2, none⟩ = some (.string x.2) ∧ u.cell? ⟨xb, 0, none⟩ = some (.string o) ∧ u.cell? ⟨xb, 1, none⟩ = some (.string v)) ∧ Same (fun k => k < w5.heap.size ∧ k ≠ w.heap.size) w5 u from fun u hu => by
        have x1 : u.heap[qb]? = w5.heap[qb]? := hu.block qb ⟨HX5.out.lt, by have := HQB.out; omega⟩
        have x2 : u.heap[pb]? = w5.heap[pb]? := hu.block pb ⟨HP5.out.lt, by have := HPB.out; omega⟩
        have x3 : u.heap[xb]? = w5.heap[xb]? := hu.block xb ⟨HO5.out.lt, by have := HXB.out; omega⟩
        have y1 : Holds u qb 6 (sgF m.s.head m.s.key (.slice m.A m.s.sig.length m.ca) (.slice m.B m.s.path.length m.cb)) 57 := by have h1 := HX5.out; unfold Holds at h1 ⊢; rw [x1]; exact h1
        have y2 : Holds u pb 3 (pCells (.slice C T.length cc) x) 61 := by have h1 := HP5.out; unfold Holds at h1 ⊢; rw [x2]; exact h1
        have y3 : Holds u xb 2 (twoF o v) 211 := by have h1 := HO5.out; unfold Holds at h1 ⊢; rw [x3]; exact h1
        obtain ⟨l0, l1, l2, l3, l4, l5⟩ := sg_cells y1
        exact ⟨⟨l0, l1, l2, l3, l4, l5, y2.cell 0 (by omega), y2.cell 1 (by omega), y2.cell 2 (by omega), y3.cell 0 (by omega), y3.cell 1 (by omega)⟩, hu⟩)
      have HCALL := Lib.hid (show ∀ u : World, Same (fun k => k < w5.heap.size ∧ k ≠ w.heap.size) w5 u → Calls Tryz.prog 59 #[.agg #[.int .i64 m.s.head.epoch, .string m.s.head.root, .string m.s.head.prev, .int .i64 m.s.key, .slice m.A m.s.sig.length m.ca, .slice m.B m.s.path.length m.cb]] u fun e w' =>
          ∃ m' : SgM, e = .returned (.agg #[.int .i64 m'.s.head.epoch, .string m'.s.head.root, .string m'.s.head.prev, .int .i64 m'.s.key, .slice m'.A m'.s.sig.length m'.ca, .slice m'.B m'.s.path.length m'.cb]) ∧ (m'.s = m.s ∧ m'.s.path.length ≤ m'.cb) ∧ Below u.heap.size u w' ∧ SgIn (fun k => u.heap.size + 1 < k) w' m' from fun u hu =>
        pCopyOf_room m u (by have := HMD.out.sig; omega) (by have := HMD.out.path; omega) (HSM.out.sig.same (fun b e l => by have := HFL.out.1 b e l; have := HB5.out.size; exact ⟨by omega, by omega⟩) hu) (HSM.out.path.same (fun b e l => by have := HFL.out.2 b e l; have := HB5.out.size; exact ⟨by omega, by omega⟩) hu))
      have HNX := Lib.hid (show ∀ u u' : World, Same (fun k => k < w5.heap.size ∧ k ≠ w.heap.size) w5 u → Below u.heap.size u u' → Same (fun k => k < w5.heap.size ∧ k ≠ w.heap.size) w5 u' from fun u u' h1 h2 =>
        ⟨Nat.le_trans h1.size h2.size, fun k hk => (h2.block k (by have := h1.size; omega)).trans (h1.block k hk)⟩)
      have HZZ := Lib.hid (show ∀ (u : World), Same (fun k => k < w5.heap.size ∧ k ≠ w.heap.size) w5 u → ∀ (m' : SgM), Same (fun k => k < w5.heap.size ∧ k ≠ w.heap.size) w5 (put11 u w.heap.size m' C T.length cc x o v) from fun u h1 m' =>
        ⟨by rw [show (put11 u w.heap.size m' C T.length cc x o v).heap.size = u.heap.size from by unfold put11; simp [World.setCell]]; exact h1.size, fun k hk => by
          unfold put11
          have hb : ∀ (z : World) (i : Nat) (c : Value), (z.setCell ⟨w.heap.size, i, none⟩ c).heap[k]? = z.heap[k]? := fun z i c => Below.heap_setCell _ _ _ _ hk.2
          rw [hb, hb, hb, hb, hb, hb, hb, hb, hb, hb, hb]
          exact h1.block k hk⟩)
      have HS0 := Lib.hid (HSS.out w5 ⟨Nat.le_refl _, fun _ _ => rfl⟩)
      have HS1 := Lib.hid (HSS.out w5.drew ⟨Nat.le_refl _, fun _ _ => rfl⟩)
      have HS0R := Lib.hid (Below.refl w5.heap.size w5)
      have HS1R := Lib.hid (Below.refl w5.heap.size w5).drew
      have HZW := Lib.hid (show ∀ u u' : World, Below w5.heap.size w5 u → Below u.heap.size u u' → Holds u' w.heap.size 11 noAnF 63 from fun u u' h1 h2 => (HZ5.out.below h1 HZ5.out.lt).below h2 (Nat.lt_of_lt_of_le HZ5.out.lt h1.size))
      go_region_held3 (fun u => (u.cell? ⟨qb, 0, none⟩ = some (.int .i64 m.s.head.epoch) ∧ u.cell? ⟨qb, 1, none⟩ = some (.string m.s.head.root) ∧ u.cell? ⟨qb, 2, none⟩ = some (.string m.s.head.prev) ∧ u.cell? ⟨qb, 3, none⟩ = some (.int .i64 m.s.key) ∧ u.cell? ⟨qb, 4, none⟩ = some (.slice m.A m.s.sig.length m.ca) ∧ u.cell? ⟨qb, 5, none⟩ = some (.slice m.B m.s.path.length m.cb) ∧ u.cell? ⟨pb, 0, none⟩ = some (.slice C T.length cc) ∧ u.cell? ⟨pb, 1, none⟩ = some (.string x.1) ∧ u.cell? ⟨pb, 2, none⟩ = some (.string x.2) ∧ u.cell? ⟨xb, 0, none⟩ = some (.string o) ∧ u.cell? ⟨xb, 1, none⟩ = some (.string v)) ∧ Same (fun k => k < w5.heap.size ∧ k ≠ w.heap.size) w5 u)
        (first
          | with_reducible exact HS0.out
          | with_reducible exact HS1.out
          | with_reducible exact T6
          | exact T7)
        (first | (go_at_call 59; refine (HCALL.out _ (by first | exact HS1.out.2 | exact HS0.out.2)).mono ?_; rintro e w6 ⟨m', rfl, hms, hb6, hin⟩; have hS6 := HNX.out _ _ (by first | exact HS1.out.2 | exact HS0.out.2) hb6; have T6 := HSS.out w6 hS6; have T7 := HSS.out _ (HZZ.out w6 hS6 m'); have HZ6 := Lib.hid (show Holds w6 w.heap.size 11 noAnF 63 from HZW.out _ _ (by first | exact HS1R.out | exact HS0R.out) hb6); obtain ⟨p0, p1, p2, p3, p4, p5, p6, p7, p8, p9, p10⟩ := an_cells (m := noM) HZ6.out; have q0 : w6.frozen? ⟨w.heap.size, 0, none⟩ = false := HZ6.out.free 0; have q1 : w6.frozen? ⟨w.heap.size, 1, none⟩ = false := HZ6.out.free 1; have q2 : w6.frozen? ⟨w.heap.size, 2, none⟩ = false := HZ6.out.free 2; have q3 : w6.frozen? ⟨w.heap.size, 3, none⟩ = false := HZ6.out.free 3; have q4 : w6.frozen? ⟨w.heap.size, 4, none⟩ = false := HZ6.out.free 4; have q5 : w6.frozen? ⟨w.heap.size, 5, none⟩ = false := HZ6.out.free 5; have q6 : w6.frozen? ⟨w.heap.size, 6, none⟩ = false := HZ6.out.free 6; have q7 : w6.frozen? ⟨w.heap.size, 7, none⟩ = false := HZ6.out.free 7; have q8 : w6.frozen? ⟨w.heap.size, 8, none⟩ = false := HZ6.out.free 8; have q9 : w6.frozen? ⟨w.heap.size, 9, none⟩ = false := HZ6.out.free 9; have q10 : w6.frozen? ⟨w.heap.size, 10, none⟩ = false := HZ6.out.free 10; have HMS := Lib.hid hms; have HB6 := Lib.hid hb6; have HIN := Lib.hid hin; clear hms hb6 hin hS6))
      rename_i hheld
      clear hheld
      have HFIN := Lib.hid (put11_holds HZ6.out m' C T.length cc x o v)
      have HB6W := Lib.hid (HB5.out.trans ((HS1R.out.trans (HB6.out.mono (Nat.le_refl _))).mono HB5.out.size))
      have HFB := Lib.hid (put11_below HB6W.out (Nat.le_refl _) m' C T.length cc x o v)
      have HW5 := Lib.hid (show w.heap.size < w5.heap.size from HZ5.out.lt)
      have HS6 := Lib.hid (show Strs w6 C T from (HS5.out.below HS1R.out).below HB6.out)
      have HFC := Lib.hid (put11_strs (b := w.heap.size) HS6.out HCN.out m' C T.length cc x o v)
      have HFS := Lib.hid (put11_strs (b := w.heap.size) HIN.out.sig (fun b e l => by have : w5.heap.size + 1 < b.block := HIN.out.fs b e l; have := HW5.out; omega) m' C T.length cc x o v)
      have HFP := Lib.hid (put11_strs (b := w.heap.size) HIN.out.path (fun b e l => by have : w5.heap.size + 1 < b.block := HIN.out.fp b e l; have := HW5.out; omega) m' C T.length cc x o v)
      clear p0 p1 p2 p3 p4 p5 p6 p7 p8 p9 p10 q0 q1 q2 q3 q4 q5 q6 q7 q8 q9 q10 T6 T7
      unfold put11 at HFIN HFB HFC HFS HFP
      clear HSS HCALL HNX HZZ HS0 HS1 HS0R HZW HZ6
      go_wp2
      refine bodyPost_ret (results_row2 rfl _ _ w.heap.size 63 (arr 11 (anF m' C T.length cc x o v)) (0, 0) _ rfl HFIN.out Tryz.underlying63 rfl (by rw [arr_size]; exact infoAnsw)) rfl ?_
      have hlast : lastSgn d = m'.s := by
        have h1 : d.eps.getLast? = some m.s := by
          rw [List.getLast?_eq_getElem?, ← HME.out, List.length_map, show M.length - 1 = K from by have := HKM.out; omega, List.getElem?_map, HM.out]
          rfl
        unfold lastSgn
        rw [List.getD_eq_getElem?_getD, ← List.getLast?_eq_getElem?, h1, HMS.out.1]
        rfl
      have hfound : Pub.over.found d name (ofAns name).1 = ⟨m'.s, T, x, o, v⟩ := by
        have h1 := HSY.out name
        have h2 := HOV.out
        unfold Pub.found
        rw [hlast, HOF.out]
        show (⟨m'.s, (proveAns (overIts d) ix).1, (proveAns (overIts d) ix).2.1, _, _⟩ : Answ) = _
        rw [HPR.out]
        rw [h1] at h2
        cases e : look d.vals name with
        | none =>
          rw [e] at h2
          obtain ⟨rfl, rfl⟩ := Prod.mk.inj h2
          rfl
        | some u =>
          rw [e] at h2
          obtain ⟨rfl, rfl⟩ := Prod.mk.inj h2
          rfl
      rw [hfound]
      have hbl := HFB.out
      have hfs := HFS.out
      have hfp := HFP.out
      have hfc := HFC.out
      generalize (((((((((((w6.setCell ⟨w.heap.size, 0, none⟩ (Value.int IntKind.i64 m'.s.head.epoch)).setCell ⟨w.heap.size, 1, none⟩ (Value.string m'.s.head.root)).setCell ⟨w.heap.size, 2, none⟩ (Value.string m'.s.head.prev)).setCell ⟨w.heap.size, 3, none⟩ (Value.int IntKind.i64 m'.s.key)).setCell ⟨w.heap.size, 4, none⟩ (Value.slice m'.A m'.s.sig.length m'.ca)).setCell ⟨w.heap.size, 5, none⟩ (Value.slice m'.B m'.s.path.length m'.cb)).setCell ⟨w.heap.size, 6, none⟩ (Value.slice C T.length cc)).setCell ⟨w.heap.size, 7, none⟩ (Value.string x.1)).setCell ⟨w.heap.size, 8, none⟩ (Value.string x.2)).setCell ⟨w.heap.size, 9, none⟩ (Value.string o)).setCell ⟨w.heap.size, 10, none⟩ (Value.string v)) = wz at hbl hfs hfp hfc ⊢
      have hfin : AnIn wz ⟨m', C, cc, ⟨m'.s, T, x, o, v⟩⟩ ⟨m'.s, T, x, o, v⟩ := ⟨rfl, rfl, hfs, hfp, hfc, HIN.out.cp⟩
      refine ⟨⟨m', C, cc, ⟨m'.s, T, x, o, v⟩⟩, rfl, hbl, hfin, ?_, ?_, ?_, HMS.out.2, HCC.out⟩
      · intro b e l
        have : w5.heap.size + 1 < b.block := HIN.out.fs b e l
        have := HW5.out
        exact .inr (by omega)
      · intro b e l
        have : w5.heap.size + 1 < b.block := HIN.out.fp b e l
        have := HW5.out
        exact .inr (by omega)
      · intro b e l
        exact .inr (Nat.le_of_lt (HCN.out b e l))
  · rw [if_neg hnm] at h
    obtain ⟨rfl, rfl⟩ := Prod.mk.inj h
    have HOF := Lib.hid (show ofAns name = (⟨#[]⟩, 5) by unfold ofAns; rw [if_neg hnm])
    clear h
    go_enter Tryz.func56, Tryz.ntmps56
    go_wp2_with fail
    refine (of_is name ⟨#[]⟩ 5 _ (HK.out.below HB0.out HK.out.lt) HOF.out).mono ?_
    rintro e w1 ⟨rfl, hb1⟩
    have HB1 := Lib.hid (HB0.out.trans (hb1.mono HB0.out.size))
    have HZ1 := Lib.hid (HZ.out.below hb1 HZ.out.lt)
    clear hb1 hw0
    rw [show errOf 5 = .iface 28 (.int .i64 5) from rfl]
    obtain ⟨p0, p1, p2, p3, p4, p5, p6, p7, p8, p9, p10⟩ := an_cells (m := noM) HZ1.out
    have q0 : w1.frozen? ⟨w.heap.size, 0, none⟩ = false := HZ1.out.free 0
    have q1 : w1.frozen? ⟨w.heap.size, 1, none⟩ = false := HZ1.out.free 1
    have q2 : w1.frozen? ⟨w.heap.size, 2, none⟩ = false := HZ1.out.free 2
    have q3 : w1.frozen? ⟨w.heap.size, 3, none⟩ = false := HZ1.out.free 3
    have q4 : w1.frozen? ⟨w.heap.size, 4, none⟩ = false := HZ1.out.free 4
    have q5 : w1.frozen? ⟨w.heap.size, 5, none⟩ = false := HZ1.out.free 5
    have q6 : w1.frozen? ⟨w.heap.size, 6, none⟩ = false := HZ1.out.free 6
    have q7 : w1.frozen? ⟨w.heap.size, 7, none⟩ = false := HZ1.out.free 7
    have q8 : w1.frozen? ⟨w.heap.size, 8, none⟩ = false := HZ1.out.free 8
    have q9 : w1.frozen? ⟨w.heap.size, 9, none⟩ = false := HZ1.out.free 9
    have q10 : w1.frozen? ⟨w.heap.size, 10, none⟩ = false := HZ1.out.free 10
    go_wp2
    have HFIN := Lib.hid (put11_holds HZ1.out noM none 0 0 noIt ⟨#[]⟩ ⟨#[]⟩)
    have HFB := Lib.hid (put11_below HB1.out (Nat.le_refl _) noM none 0 0 noIt ⟨#[]⟩ ⟨#[]⟩)
    refine bodyPost_ret (results_row2 rfl _ _ w.heap.size 63 (arr 11 noAnF) (0, 0) _ rfl HFIN.out Tryz.underlying63 rfl (by rw [arr_size]; exact infoAnsw)) rfl ?_
    exact ⟨⟨noM, none, 0, noAnsw⟩, rfl, HFB.out, ⟨rfl, rfl, Strs.nil _ _, Strs.nil _ _, Strs.nil _ _, Nat.le_refl 0⟩, (fun a e => by cases e), (fun a e => by cases e), (fun a e => by cases e), Nat.le_refl 0, Nat.le_refl 0⟩
theorem pDirLookup_is (F : Nat → Prop) (p : Nat) (d : Dst) (name : ByteArray) (a : Answ) (n : Int) (w : World) (hd : PDir F w p d) (hok : DOk d) (hk : HasK w) (hdim : EpsDim d) (hn : name.size ≤ 1000000) (h : Pub.over.tells d name = (a, n)) :
    Calls Tryz.prog 56 #[.pointer (some ⟨p, 0, none⟩), .string name] w fun e w' => ∃ m : AnM, e = .returned (.tuple #[.agg m.cells, errOf n]) ∧ Below w.heap.size w w' ∧ AnIn w' m a ∧ Near F w m.sg.A a.sgn.sig.length ∧ Near F w m.sg.B a.sgn.path.length ∧ Near F w m.C a.path.length :=
  (pDirLookup_room F p d name a n w hd hok hk hdim hn h).mono fun _ _ ⟨m, he, hb, hi, h1, h2, h3, _⟩ => ⟨m, he, hb, hi, h1, h2, h3⟩
end Go.Proofs.YtgjmbokfenpefaaGreatDoor
