/- Parts of the proof, one behind the other: PLook, HeadEq, RWhole, RCl, HeadEql, RSee. -/
import Derived.Test.YtcfpmofmjnhonaaGreatDoorM26
import Derived.Test.YtcfpmofmjnhonaaGreatDoorM27
import Derived.Test.YtcfpmofmjnhonaaGreatDoorM21
import Derived.Test.YtcfpmofmjnhonaaGreatDoorM10
import Derived.Laws.StructEq
import Derived.Test.YtcfpmofmjnhonaaGreatDoorM8
import Derived.Test.YtcfpmofmjnhonaaGreatDoorM9
import Derived.Test.YtcfpmofmjnhonaaGreatDoorM11
import Derived.Test.YtcfpmofmjnhonaaGreatDoorM7
/- The program's directory: Lookup. -/
namespace Go.Proofs.YtcfpmofmjnhonaaGreatDoor
open Go.RowKit Go.Maps

set_option maxHeartbeats 4000000 in
set_option maxRecDepth 100000 in
theorem pDirLookup_is (F : Nat → Prop) (p : Nat) (d : Dst) (name : ByteArray) (a : Answ) (n : Int) (w : World) (hd : PDir F w p d) (hok : DOk d) (hk : HasK w) (hdim : EpsDim d) (hn : name.size ≤ 1000000) (h : Pub.over.tells d name = (a, n)) :
    Calls Tryz.prog 23 #[.pointer (some ⟨p, 0, none⟩), .string name] w fun e w' => ∃ m : AnM, e = .returned (.tuple #[.agg m.cells, errOf n]) ∧ Below w.heap.size w w' ∧ AnIn w' m a ∧ Near F w m.sg.A a.sgn.sig.length ∧ Near F w m.sg.B a.sgn.path.length ∧ Near F w m.C a.path.length := by
  obtain ⟨bb, mh, mw, vi, ve, H, M, hd, hme, hsy⟩ := hd
  have HD := Lib.hid hd
  have HME := Lib.hid hme
  have HSY := Lib.hid hsy
  have HOK := Lib.hid hok
  have HK := Lib.hid hk
  have HDIM := Lib.hid hdim
  have HNL := Lib.hid hn
  have HML := Lib.hid (show M.length = d.eps.length from by have := congrArg List.length hme; rwa [List.length_map] at this)
  obtain ⟨AE, cE, rfl, hcE, hsix⟩ := hd.row.sixes
  have HSIX := Lib.hid hsix
  obtain ⟨AI, cI, rfl, hcI, hII, hAI⟩ := hd.its
  have HII := Lib.hid hII
  have HCI := Lib.hid hcI
  obtain ⟨w0, hw0⟩ : ∃ w0, w.alloc (.cells #[.int .i64 0, .string ⟨#[]⟩, .string ⟨#[]⟩, .int .i64 0, .slice none 0 0, .slice none 0 0, .slice none 0 0, .string ⟨#[]⟩, .string ⟨#[]⟩, .string ⟨#[]⟩, .string ⟨#[]⟩] 65) = w0 := ⟨_, rfl⟩
  have hb0 : Below w.heap.size w w0 := by rw [← hw0]; exact alloc_below _ _
  have HB0 := Lib.hid hb0
  have HZ := Lib.hid (show Holds w0 w.heap.size 11 noAnF 65 by rw [← hw0]; exact Holds.new w 11 noAnF 65)
  clear hd hme hsy hok hk hdim hn hcE hsix hcI hII hAI hb0
  unfold Pub.tells at h
  by_cases hnm : nameOk name.data.toList = true
  · rw [if_pos hnm] at h
    obtain ⟨ix, hix⟩ : ∃ ix, markOf 105 [name] = ix := ⟨_, rfl⟩
    have HOF := Lib.hid (show ofAns name = (ix, 0) by unfold ofAns; rw [if_pos hnm, hix])
    have HIX := Lib.hid (show ix.size = 16 from by rw [← hix]; exact markOf_len _ _)
    clear hix
    by_cases h0 : d.eps.length = 0
    · rw [if_pos h0] at h
      obtain ⟨rfl, rfl⟩ := Prod.mk.inj h
      have hM0 : M.length = 0 := by rw [HML.out, h0]
      clear h
      go_enter Tryz.func23, Tryz.ntmps23
      go_wp2_with fail
      refine (of_is name ix 0 _ (HK.out.below HB0.out HK.out.lt) HOF.out).mono ?_
      rintro e w1 ⟨rfl, hb1⟩
      rw [show errOf 0 = .nilIface from rfl]
      have HB1 := Lib.hid (HB0.out.trans (hb1.mono HB0.out.size))
      have HD1 := Lib.hid (HD.out.same (same_of_below HB1.out HD.out.lt))
      have HZ1 := Lib.hid (HZ.out.below hb1 HZ.out.lt)
      clear hb1 hw0
      have d5 : w1.cell? ⟨p, 5, none⟩ = some (.slice AE M.length cE) := HD1.out.own.cell 5 (by omega)
      obtain ⟨p0, p1, p2, p3, p4, p5, p6, p7, p8, p9, p10⟩ := an_cells (m := noM) HZ1.out
      have q0 : w1.frozen? ⟨w.heap.size, 0, none⟩ = false := HZ1.out.free 0
      have q1 : w1.frozen? ⟨w.heap.size, 1, none⟩ = false := HZ1.out.free 1
      have q2 : w1.frozen? ⟨w.heap.size, 2, none⟩ = false := HZ1.out.free 2
      have q3 : w1.frozen? ⟨w.heap.size, 3, none⟩ = false := HZ1.out.free 3
      have q4 : w1.frozen? ⟨w.heap.size, 4, none⟩ = false := HZ1.out.free 4
      have q5 : w1.frozen? ⟨w.heap.size, 5, none⟩ = false := HZ1.out.free 5
      have q6 : w1.frozen? ⟨w.heap.size, 6, none⟩ = false := HZ1.out.free 6
      have q7 : w1.frozen? ⟨w.heap.size, 7, none⟩ = false := HZ1.out.free 7
      have q8 : w1.frozen? ⟨w.heap.size, 8, none⟩ = false := HZ1.out.free 8
      have q9 : w1.frozen? ⟨w.heap.size, 9, none⟩ = false := HZ1.out.free 9
      have q10 : w1.frozen? ⟨w.heap.size, 10, none⟩ = false := HZ1.out.free 10
      go_wp2
      have HFIN := Lib.hid (put11_holds HZ1.out noM none 0 0 noIt ⟨#[]⟩ ⟨#[]⟩)
      have HFB := Lib.hid (put11_below HB1.out (Nat.le_refl _) noM none 0 0 noIt ⟨#[]⟩ ⟨#[]⟩)
      refine bodyPost_ret (results_row2 rfl _ _ w.heap.size 65 (arr 11 noAnF) (0, 0) _ rfl HFIN.out Tryz.underlying65 rfl (by rw [arr_size]; exact infoAnsw)) rfl ?_
      exact ⟨⟨noM, none, 0, noAnsw⟩, rfl, HFB.out, ⟨rfl, rfl, Strs.nil _ _, Strs.nil _ _, Strs.nil _ _, Nat.le_refl 0⟩, (fun a e => by cases e), (fun a e => by cases e), (fun a e => by cases e)⟩
    · rw [if_neg h0] at h
      obtain ⟨rfl, rfl⟩ := Prod.mk.inj h
      have HM0 := Lib.hid h0
      clear h h0
      obtain ⟨T, x, hpr⟩ : ∃ T x, proveAns (overIts d) ix = (T, x, 0) := by
        unfold proveAns
        rw [if_pos ⟨over_right HOK.out, HIX.out⟩]
        exact ⟨_, _, rfl⟩
      have HPR := Lib.hid hpr
      clear hpr
      go_enter Tryz.func23, Tryz.ntmps23
      go_wp2_with fail
      refine (of_is name ix 0 _ (HK.out.below HB0.out HK.out.lt) HOF.out).mono ?_
      rintro e w1 ⟨rfl, hb1⟩
      rw [show errOf 0 = .nilIface from rfl]
      have HB1 := Lib.hid (HB0.out.trans (hb1.mono HB0.out.size))
      have HD1 := Lib.hid (HD.out.same (same_of_below HB1.out HD.out.lt))
      have HZ1 := Lib.hid (HZ.out.below hb1 HZ.out.lt)
      clear hb1 hw0
      have hMn : ¬ ((M.length : Int) = 0) := by have := HML.out; have := HM0.out; omega
      have d5 : w1.cell? ⟨p, 5, none⟩ = some (.slice AE M.length cE) := HD1.out.own.cell 5 (by omega)
      have d4 : w1.cell? ⟨p, 4, none⟩ = some (.slice AI (overIts d).length cI) := HD1.out.own.cell 4 (by omega)
      go_wp2_with fail
      clear d5 d4
      refine (tProve_in (overIts d) AI cI ix T x 0 _ (HK.out.below HB1.out HK.out.lt) (by have := right_length (over_right HOK.out); omega) HCI.out (HII.out.below HB1.out) HPR.out).mono ?_
      rintro e w2 ⟨C, cc, rfl, hb2, hst2, hnw2⟩
      rw [show errOf 0 = .nilIface from rfl]
      have hb3 := hb2.trans ((alloc_below w2 (.cells #[.slice C T.length cc, .string x.1, .string x.2] 63)).mono hb2.size)
      have HB3 := Lib.hid (HB1.out.trans (hb3.mono HB1.out.size))
      have HD3 := Lib.hid (HD.out.same (same_of_below HB3.out HD.out.lt))
      have HZ3 := Lib.hid (HZ1.out.below hb3 HZ1.out.lt)
      have HS3 := Lib.hid (hst2.below (alloc_below w2 (.cells #[.slice C T.length cc, .string x.1, .string x.2] 63)))
      have HCN := Lib.hid (show ∀ b, C = some b → 0 < T.length → w.heap.size < b.block from fun b e l => by have := hnw2 b e l; have := HZ1.out.lt; omega)
      have HP3 := Lib.hid (show Holds (w2.alloc (.cells #[.slice C T.length cc, .string x.1, .string x.2] 63)) w2.heap.size 3 (pCells (.slice C T.length cc) x) 63 from Holds.new w2 3 (pCells (.slice C T.length cc) x) 63)
      have HPB := Lib.hid (show w.heap.size < w2.heap.size from by have := HZ1.out.lt; have := hb2.size; omega)
      clear hb2 hst2 hnw2 hb3 HB1 HD1 HZ1 HCI HII
      go_upto_region 9 with (fail)
      generalize w2.alloc (.cells #[.slice C T.length cc, .string x.1, .string x.2] 63) = w3 at HB3 HD3 HZ3 HS3 HP3 ⊢
      obtain ⟨pb, hpb⟩ : ∃ pb, w2.heap.size = pb := ⟨_, rfl⟩
      rw [hpb] at HP3 HPB ⊢
      clear hpb
      obtain ⟨K, hKM⟩ : ∃ K, M.length - 1 = K := ⟨_, rfl⟩
      have HKM := Lib.hid (show M.length = K + 1 from by have := HML.out; have := HM0.out; omega)
      have hkm : (K : Int) < (M.length : Int) := by have := HKM.out; omega
      have s1 : IntKind.i64.wrap ((M.length : Int) - 1) = (K : Int) := by
        have := HKM.out
        have := HML.out
        have := HOK.out.few
        rw [IntWalk.i64_in _ (by omega)]
        omega
      obtain ⟨m, hm⟩ : ∃ m, M[K]? = some m := ⟨_, List.getElem?_eq_getElem (by have := HKM.out; omega)⟩
      have HM := Lib.hid hm
      obtain ⟨a, rfl, hal, c0, c1, c2, c3, c4, c5⟩ := (HSIX.out.below HB3.out) _ m hm
      have HAL := Lib.hid hal
      have d1 : w3.cell? ⟨(a.add (K * 6)).block, (a.add (K * 6)).off + 1, none⟩ = some (.string m.s.head.root) := c1
      have d2 : w3.cell? ⟨(a.add (K * 6)).block, (a.add (K * 6)).off + 2, none⟩ = some (.string m.s.head.prev) := c2
      have d3 : w3.cell? ⟨(a.add (K * 6)).block, (a.add (K * 6)).off + 3, none⟩ = some (.int .i64 m.s.key) := c3
      have d4 : w3.cell? ⟨(a.add (K * 6)).block, (a.add (K * 6)).off + 4, none⟩ = some (.slice m.A m.s.sig.length m.ca) := c4
      have d5 : w3.cell? ⟨(a.add (K * 6)).block, (a.add (K * 6)).off + 5, none⟩ = some (.slice m.B m.s.path.length m.cb) := c5
      have e5 : w3.cell? ⟨p, 5, none⟩ = some (.slice (some a) M.length cE) := HD3.out.own.cell 5 (by omega)
      clear c1 c2 c3 c4 c5 hm hal hKM
      have HSS := Lib.hid (show ∀ u : World, Below w3.heap.size w3 u → (u.cell? ⟨p, 5, none⟩ = some (.slice (some a) M.length cE) ∧ u.cell? (a.add (K * 6)) = some (.int .i64 m.s.head.epoch) ∧ u.cell? ⟨(a.add (K * 6)).block, (a.add (K * 6)).off + 1, none⟩ = some (.string m.s.head.root) ∧ u.cell? ⟨(a.add (K * 6)).block, (a.add (K * 6)).off + 2, none⟩ = some (.string m.s.head.prev) ∧ u.cell? ⟨(a.add (K * 6)).block, (a.add (K * 6)).off + 3, none⟩ = some (.int .i64 m.s.key) ∧ u.cell? ⟨(a.add (K * 6)).block, (a.add (K * 6)).off + 4, none⟩ = some (.slice m.A m.s.sig.length m.ca) ∧ u.cell? ⟨(a.add (K * 6)).block, (a.add (K * 6)).off + 5, none⟩ = some (.slice m.B m.s.path.length m.cb)) ∧ Below w3.heap.size w3 u from fun u hu =>
        ⟨⟨(hu.cell (p := ⟨p, 5, none⟩) HD3.out.own.lt).trans e5, (hu.cell (by rw [block_add]; exact HAL.out)).trans c0, (hu.cell (by show (a.add (K * 6)).block < _; rw [block_add]; exact HAL.out)).trans d1, (hu.cell (by show (a.add (K * 6)).block < _; rw [block_add]; exact HAL.out)).trans d2, (hu.cell (by show (a.add (K * 6)).block < _; rw [block_add]; exact HAL.out)).trans d3, (hu.cell (by show (a.add (K * 6)).block < _; rw [block_add]; exact HAL.out)).trans d4, (hu.cell (by show (a.add (K * 6)).block < _; rw [block_add]; exact HAL.out)).trans d5⟩, hu⟩)
      go_region_held3 (fun u => (u.cell? ⟨p, 5, none⟩ = some (.slice (some a) M.length cE) ∧ u.cell? (a.add (K * 6)) = some (.int .i64 m.s.head.epoch) ∧ u.cell? ⟨(a.add (K * 6)).block, (a.add (K * 6)).off + 1, none⟩ = some (.string m.s.head.root) ∧ u.cell? ⟨(a.add (K * 6)).block, (a.add (K * 6)).off + 2, none⟩ = some (.string m.s.head.prev) ∧ u.cell? ⟨(a.add (K * 6)).block, (a.add (K * 6)).off + 3, none⟩ = some (.int .i64 m.s.key) ∧ u.cell? ⟨(a.add (K * 6)).block, (a.add (K * 6)).off + 4, none⟩ = some (.slice m.A m.s.sig.length m.ca) ∧ u.cell? ⟨(a.add (K * 6)).block, (a.add (K * 6)).off + 5, none⟩ = some (.slice m.B m.s.path.length m.cb)) ∧ Below w3.heap.size w3 u)
        (first
          | exact HSS.out _ (Below.refl _ _).drew
          | exact HSS.out _ ((Below.refl _ _).alloc (Nat.le_refl _) _).drew
          | exact HSS.out _ ((Below.refl _ _).drew.alloc (Nat.le_refl _) _))
        (first | fail)
      rename_i hheld
      clear hheld HSS c0 d1 d2 d3 d4 d5 e5 s1 hkm
      have hb4 := ((Below.refl w3.heap.size w3).alloc (Nat.le_refl _) (.cells #[.int .i64 m.s.head.epoch, .string m.s.head.root, .string m.s.head.prev, .int .i64 m.s.key, .slice m.A m.s.sig.length m.ca, .slice m.B m.s.path.length m.cb] 54)).drew
      have HB4 := Lib.hid (HB3.out.trans (hb4.mono HB3.out.size))
      have HD4 := Lib.hid (HD.out.same (same_of_below HB4.out HD.out.lt))
      have HZ4 := Lib.hid (HZ3.out.below hb4 HZ3.out.lt)
      have HP4 := Lib.hid (HP3.out.below hb4 HP3.out.lt)
      have HS4 := Lib.hid (HS3.out.below hb4)
      have HX4 := Lib.hid (show Holds ((w3.alloc (.cells #[.int .i64 m.s.head.epoch, .string m.s.head.root, .string m.s.head.prev, .int .i64 m.s.key, .slice m.A m.s.sig.length m.ca, .slice m.B m.s.path.length m.cb] 54)).drew) w3.heap.size 6 (sgF m.s.head m.s.key (.slice m.A m.s.sig.length m.ca) (.slice m.B m.s.path.length m.cb)) 54 from (Holds.new w3 6 (sgF m.s.head m.s.key (.slice m.A m.s.sig.length m.ca) (.slice m.B m.s.path.length m.cb)) 54).drew)
      have HQB := Lib.hid (show w.heap.size < w3.heap.size from HZ3.out.lt)
      generalize (w3.alloc (.cells #[.int .i64 m.s.head.epoch, .string m.s.head.root, .string m.s.head.prev, .int .i64 m.s.key, .slice m.A m.s.sig.length m.ca, .slice m.B m.s.path.length m.cb] 54)).drew = w4 at HB4 HD4 HZ4 HP4 HS4 HX4 hb4 ⊢
      obtain ⟨qb, hqb⟩ : ∃ qb, w3.heap.size = qb := ⟨_, rfl⟩
      rw [hqb] at HX4 HQB ⊢
      clear hqb hb4 HB3 HD3 HZ3 HP3 HS3 HAL
      obtain ⟨⟨o, v⟩, hov⟩ : ∃ q, (look H name).getD (⟨#[]⟩, ⟨#[]⟩) = q := ⟨_, rfl⟩
      have HOV := Lib.hid hov
      have hlk : (Instr.lookup 131 (.map (some mh)) (.string name) false).run Tryz.prog w4 = .ok (.agg #[.string o, .string v]) w4 := by
        have := HD4.out.has.look1 HNL.out
        rw [show (look H name).getD kH.zero = (o, v) from hov] at this
        exact this
      have c2 : w4.cell? ⟨p, 2, none⟩ = some (.map (some mh)) := HD4.out.own.cell 2 (by omega)
      have hb5 := alloc_below w4 (.cells #[.string o, .string v] 156)
      have HB5 := Lib.hid (HB4.out.trans (hb5.mono HB4.out.size))
      have HD5 := Lib.hid (HD.out.same (same_of_below HB5.out HD.out.lt))
      have HZ5 := Lib.hid (HZ4.out.below hb5 HZ4.out.lt)
      have HP5 := Lib.hid (HP4.out.below hb5 HP4.out.lt)
      have HX5 := Lib.hid (HX4.out.below hb5 HX4.out.lt)
      have HS5 := Lib.hid (HS4.out.below hb5)
      have HO5 := Lib.hid (show Holds (w4.alloc (.cells #[.string o, .string v] 156)) w4.heap.size 2 (twoF o v) 156 from Holds.new w4 2 (twoF o v) 156)
      have HXB := Lib.hid (show w.heap.size < w4.heap.size from HZ4.out.lt)
      go_upto_region 11 with (fail)
      generalize w4.alloc (.cells #[.string o, .string v] 156) = w5 at HB5 HD5 HZ5 HP5 HX5 HS5 HO5 hb5 ⊢
      obtain ⟨xb, hxb⟩ : ∃ xb, w4.heap.size = xb := ⟨_, rfl⟩
      rw [hxb] at HO5 HXB ⊢
      clear hxb hb5 c2 hlk hov HB4 HD4 HZ4 HP4 HX4 HS4
      have HSM := Lib.hid (HD5.out.sgs m (List.mem_of_getElem? HM.out))
      have HMD := Lib.hid (HDIM.out m.s (by rw [← HME.out]; exact List.mem_map_of_mem (List.mem_of_getElem? HM.out)))
      have HFL := Lib.hid (show (∀ b, m.A = some b → 0 < m.s.sig.length → b.block < w.heap.size) ∧ ∀ b, m.B = some b → 0 < m.s.path.length → b.block < w.heap.size from ⟨fun b e l => HD.out.lt _ (HSM.out.fs b e l).1, fun b e l => HD.out.lt _ (HSM.out.fp b e l).1⟩)
      have HSS := Lib.hid (show ∀ u : World, Same (fun k => k < w5.heap.size ∧ k ≠ w.heap.size) w5 u → (u.cell? ⟨qb, 0, none⟩ = some (.int .i64 m.s.head.epoch) ∧ u.cell? ⟨qb, 1, none⟩ = some (.string m.s.head.root) ∧ u.cell? ⟨qb, 2, none⟩ = some (.string m.s.head.prev) ∧ u.cell? ⟨qb, 3, none⟩ = some (.int .i64 m.s.key) ∧ u.cell? ⟨qb, 4, none⟩ = some (.slice m.A m.s.sig.length m.ca) ∧ u.cell? ⟨qb, 5, none⟩ = some (.slice m.B m.s.path.length m.cb) ∧ u.cell? ⟨pb, 0, none⟩ = some (.slice C T.length cc) ∧ u.cell? ⟨pb, 1, none⟩ = some (.string x.1) ∧ u.cell? ⟨pb, 2, none⟩ = some (.string x.2) ∧ u.cell? ⟨xb, 0, none⟩ = some (.string o) ∧ u.cell? ⟨xb, 1, none⟩ = some (.string v)) ∧ Same (fun k => k < w5.heap.size ∧ k ≠ w.heap.size) w5 u from fun u hu => by
        have x1 : u.heap[qb]? = w5.heap[qb]? := hu.block qb ⟨HX5.out.lt, by have := HQB.out; omega⟩
        have x2 : u.heap[pb]? = w5.heap[pb]? := hu.block pb ⟨HP5.out.lt, by have := HPB.out; omega⟩
        have x3 : u.heap[xb]? = w5.heap[xb]? := hu.block xb ⟨HO5.out.lt, by have := HXB.out; omega⟩
        have y1 : Holds u qb 6 (sgF m.s.head m.s.key (.slice m.A m.s.sig.length m.ca) (.slice m.B m.s.path.length m.cb)) 54 := by have h1 := HX5.out; unfold Holds at h1 ⊢; rw [x1]; exact h1
        have y2 : Holds u pb 3 (pCells (.slice C T.length cc) x) 63 := by have h1 := HP5.out; unfold Holds at h1 ⊢; rw [x2]; exact h1
        have y3 : Holds u xb 2 (twoF o v) 156 := by have h1 := HO5.out; unfold Holds at h1 ⊢; rw [x3]; exact h1
        obtain ⟨l0, l1, l2, l3, l4, l5⟩ := sg_cells y1
        exact ⟨⟨l0, l1, l2, l3, l4, l5, y2.cell 0 (by omega), y2.cell 1 (by omega), y2.cell 2 (by omega), y3.cell 0 (by omega), y3.cell 1 (by omega)⟩, hu⟩)
      have HCALL := Lib.hid (show ∀ u : World, Same (fun k => k < w5.heap.size ∧ k ≠ w.heap.size) w5 u → Calls Tryz.prog 71 #[.agg #[.int .i64 m.s.head.epoch, .string m.s.head.root, .string m.s.head.prev, .int .i64 m.s.key, .slice m.A m.s.sig.length m.ca, .slice m.B m.s.path.length m.cb]] u fun e w' =>
          ∃ m' : SgM, e = .returned (.agg #[.int .i64 m'.s.head.epoch, .string m'.s.head.root, .string m'.s.head.prev, .int .i64 m'.s.key, .slice m'.A m'.s.sig.length m'.ca, .slice m'.B m'.s.path.length m'.cb]) ∧ m'.s = m.s ∧ Below u.heap.size u w' ∧ SgIn (fun k => u.heap.size + 1 < k) w' m' from fun u hu =>
        pCopyOf_is m u (by have := HMD.out.sig; omega) (by have := HMD.out.path; omega) (HSM.out.sig.same (fun b e l => by have := HFL.out.1 b e l; have := HB5.out.size; exact ⟨by omega, by omega⟩) hu) (HSM.out.path.same (fun b e l => by have := HFL.out.2 b e l; have := HB5.out.size; exact ⟨by omega, by omega⟩) hu))
      have HNX := Lib.hid (show ∀ u u' : World, Same (fun k => k < w5.heap.size ∧ k ≠ w.heap.size) w5 u → Below u.heap.size u u' → Same (fun k => k < w5.heap.size ∧ k ≠ w.heap.size) w5 u' from fun u u' h1 h2 =>
        ⟨Nat.le_trans h1.size h2.size, fun k hk => (h2.block k (by have := h1.size; omega)).trans (h1.block k hk)⟩)
      have HZZ := Lib.hid (show ∀ (u : World), Same (fun k => k < w5.heap.size ∧ k ≠ w.heap.size) w5 u → ∀ (m' : SgM), Same (fun k => k < w5.heap.size ∧ k ≠ w.heap.size) w5 (put11 u w.heap.size m' C T.length cc x o v) from fun u h1 m' =>
        ⟨by rw [show (put11 u w.heap.size m' C T.length cc x o v).heap.size = u.heap.size from by unfold put11; simp [World.setCell]]; exact h1.size, fun k hk => by
          unfold put11
          have hb : ∀ (z : World) (i : Nat) (c : Value), (z.setCell ⟨w.heap.size, i, none⟩ c).heap[k]? = z.heap[k]? := fun z i c => Below.heap_setCell _ _ _ _ hk.2
          rw [hb, hb, hb, hb, hb, hb, hb, hb, hb, hb, hb]
          exact h1.block k hk⟩)
      have HS0 := Lib.hid (HSS.out w5 ⟨Nat.le_refl _, fun _ _ => rfl⟩)
      have HS1 := Lib.hid (HSS.out w5.drew ⟨Nat.le_refl _, fun _ _ => rfl⟩)
      have HS0R := Lib.hid (Below.refl w5.heap.size w5)
      have HS1R := Lib.hid (Below.refl w5.heap.size w5).drew
      have HZW := Lib.hid (show ∀ u u' : World, Below w5.heap.size w5 u → Below u.heap.size u u' → Holds u' w.heap.size 11 noAnF 65 from fun u u' h1 h2 => (HZ5.out.below h1 HZ5.out.lt).below h2 (Nat.lt_of_lt_of_le HZ5.out.lt h1.size))
      go_region_held3 (fun u => (u.cell? ⟨qb, 0, none⟩ = some (.int .i64 m.s.head.epoch) ∧ u.cell? ⟨qb, 1, none⟩ = some (.string m.s.head.root) ∧ u.cell? ⟨qb, 2, none⟩ = some (.string m.s.head.prev) ∧ u.cell? ⟨qb, 3, none⟩ = some (.int .i64 m.s.key) ∧ u.cell? ⟨qb, 4, none⟩ = some (.slice m.A m.s.sig.length m.ca) ∧ u.cell? ⟨qb, 5, none⟩ = some (.slice m.B m.s.path.length m.cb) ∧ u.cell? ⟨pb, 0, none⟩ = some (.slice C T.length cc) ∧ u.cell? ⟨pb, 1, none⟩ = some (.string x.1) ∧ u.cell? ⟨pb, 2, none⟩ = some (.string x.2) ∧ u.cell? ⟨xb, 0, none⟩ = some (.string o) ∧ u.cell? ⟨xb, 1, none⟩ = some (.string v)) ∧ Same (fun k => k < w5.heap.size ∧ k ≠ w.heap.size) w5 u)
        (first
          | with_reducible exact HS0.out
          | with_reducible exact HS1.out
          | with_reducible exact T6
          | exact T7)
        (first | (go_at_call 71; refine (HCALL.out _ (by first | exact HS1.out.2 | exact HS0.out.2)).mono ?_; rintro e w6 ⟨m', rfl, hms, hb6, hin⟩; have hS6 := HNX.out _ _ (by first | exact HS1.out.2 | exact HS0.out.2) hb6; have T6 := HSS.out w6 hS6; have T7 := HSS.out _ (HZZ.out w6 hS6 m'); have HZ6 := Lib.hid (show Holds w6 w.heap.size 11 noAnF 65 from HZW.out _ _ (by first | exact HS1R.out | exact HS0R.out) hb6); obtain ⟨p0, p1, p2, p3, p4, p5, p6, p7, p8, p9, p10⟩ := an_cells (m := noM) HZ6.out; have q0 : w6.frozen? ⟨w.heap.size, 0, none⟩ = false := HZ6.out.free 0; have q1 : w6.frozen? ⟨w.heap.size, 1, none⟩ = false := HZ6.out.free 1; have q2 : w6.frozen? ⟨w.heap.size, 2, none⟩ = false := HZ6.out.free 2; have q3 : w6.frozen? ⟨w.heap.size, 3, none⟩ = false := HZ6.out.free 3; have q4 : w6.frozen? ⟨w.heap.size, 4, none⟩ = false := HZ6.out.free 4; have q5 : w6.frozen? ⟨w.heap.size, 5, none⟩ = false := HZ6.out.free 5; have q6 : w6.frozen? ⟨w.heap.size, 6, none⟩ = false := HZ6.out.free 6; have q7 : w6.frozen? ⟨w.heap.size, 7, none⟩ = false := HZ6.out.free 7; have q8 : w6.frozen? ⟨w.heap.size, 8, none⟩ = false := HZ6.out.free 8; have q9 : w6.frozen? ⟨w.heap.size, 9, none⟩ = false := HZ6.out.free 9; have q10 : w6.frozen? ⟨w.heap.size, 10, none⟩ = false := HZ6.out.free 10; have HMS := Lib.hid hms; have HB6 := Lib.hid hb6; have HIN := Lib.hid hin; clear hms hb6 hin hS6))
      rename_i hheld
      clear hheld
      have HFIN := Lib.hid (put11_holds HZ6.out m' C T.length cc x o v)
      have HB6W := Lib.hid (HB5.out.trans ((HS1R.out.trans (HB6.out.mono (Nat.le_refl _))).mono HB5.out.size))
      have HFB := Lib.hid (put11_below HB6W.out (Nat.le_refl _) m' C T.length cc x o v)
      have HW5 := Lib.hid (show w.heap.size < w5.heap.size from HZ5.out.lt)
      have HS6 := Lib.hid (show Strs w6 C T from (HS5.out.below HS1R.out).below HB6.out)
      have HFC := Lib.hid (put11_strs (b := w.heap.size) HS6.out HCN.out m' C T.length cc x o v)
      have HFS := Lib.hid (put11_strs (b := w.heap.size) HIN.out.sig (fun b e l => by have : w5.heap.size + 1 < b.block := HIN.out.fs b e l; have := HW5.out; omega) m' C T.length cc x o v)
      have HFP := Lib.hid (put11_strs (b := w.heap.size) HIN.out.path (fun b e l => by have : w5.heap.size + 1 < b.block := HIN.out.fp b e l; have := HW5.out; omega) m' C T.length cc x o v)
      clear p0 p1 p2 p3 p4 p5 p6 p7 p8 p9 p10 q0 q1 q2 q3 q4 q5 q6 q7 q8 q9 q10 T6 T7
      unfold put11 at HFIN HFB HFC HFS HFP
      clear HSS HCALL HNX HZZ HS0 HS1 HS0R HZW HZ6
      go_wp2
      refine bodyPost_ret (results_row2 rfl _ _ w.heap.size 65 (arr 11 (anF m' C T.length cc x o v)) (0, 0) _ rfl HFIN.out Tryz.underlying65 rfl (by rw [arr_size]; exact infoAnsw)) rfl ?_
      have hlast : lastSgn d = m'.s := by
        have h1 : d.eps.getLast? = some m.s := by
          rw [List.getLast?_eq_getElem?, ← HME.out, List.length_map, show M.length - 1 = K from by have := HKM.out; omega, List.getElem?_map, HM.out]
          rfl
        unfold lastSgn
        rw [List.getD_eq_getElem?_getD, ← List.getLast?_eq_getElem?, h1, HMS.out]
        rfl
      have hfound : Pub.over.found d name (ofAns name).1 = ⟨m'.s, T, x, o, v⟩ := by
        have h1 := HSY.out name
        have h2 := HOV.out
        unfold Pub.found
        rw [hlast, HOF.out]
        show (⟨m'.s, (proveAns (overIts d) ix).1, (proveAns (overIts d) ix).2.1, _, _⟩ : Answ) = _
        rw [HPR.out]
        rw [h1] at h2
        cases e : look d.vals name with
        | none =>
          rw [e] at h2
          obtain ⟨rfl, rfl⟩ := Prod.mk.inj h2
          rfl
        | some u =>
          rw [e] at h2
          obtain ⟨rfl, rfl⟩ := Prod.mk.inj h2
          rfl
      rw [hfound]
      have hbl := HFB.out
      have hfs := HFS.out
      have hfp := HFP.out
      have hfc := HFC.out
      generalize (((((((((((w6.setCell ⟨w.heap.size, 0, none⟩ (Value.int IntKind.i64 m'.s.head.epoch)).setCell ⟨w.heap.size, 1, none⟩ (Value.string m'.s.head.root)).setCell ⟨w.heap.size, 2, none⟩ (Value.string m'.s.head.prev)).setCell ⟨w.heap.size, 3, none⟩ (Value.int IntKind.i64 m'.s.key)).setCell ⟨w.heap.size, 4, none⟩ (Value.slice m'.A m'.s.sig.length m'.ca)).setCell ⟨w.heap.size, 5, none⟩ (Value.slice m'.B m'.s.path.length m'.cb)).setCell ⟨w.heap.size, 6, none⟩ (Value.slice C T.length cc)).setCell ⟨w.heap.size, 7, none⟩ (Value.string x.1)).setCell ⟨w.heap.size, 8, none⟩ (Value.string x.2)).setCell ⟨w.heap.size, 9, none⟩ (Value.string o)).setCell ⟨w.heap.size, 10, none⟩ (Value.string v)) = wz at hbl hfs hfp hfc ⊢
      have hfin : AnIn wz ⟨m', C, cc, ⟨m'.s, T, x, o, v⟩⟩ ⟨m'.s, T, x, o, v⟩ := ⟨rfl, rfl, hfs, hfp, hfc, HIN.out.cp⟩
      refine ⟨⟨m', C, cc, ⟨m'.s, T, x, o, v⟩⟩, rfl, hbl, hfin, ?_, ?_, ?_⟩
      · intro b e l
        have : w5.heap.size + 1 < b.block := HIN.out.fs b e l
        have := HW5.out
        exact .inr (by omega)
      · intro b e l
        have : w5.heap.size + 1 < b.block := HIN.out.fp b e l
        have := HW5.out
        exact .inr (by omega)
      · intro b e l
        exact .inr (Nat.le_of_lt (HCN.out b e l))
  · rw [if_neg hnm] at h
    obtain ⟨rfl, rfl⟩ := Prod.mk.inj h
    have HOF := Lib.hid (show ofAns name = (⟨#[]⟩, 5) by unfold ofAns; rw [if_neg hnm])
    clear h
    go_enter Tryz.func23, Tryz.ntmps23
    go_wp2_with fail
    refine (of_is name ⟨#[]⟩ 5 _ (HK.out.below HB0.out HK.out.lt) HOF.out).mono ?_
    rintro e w1 ⟨rfl, hb1⟩
    have HB1 := Lib.hid (HB0.out.trans (hb1.mono HB0.out.size))
    have HZ1 := Lib.hid (HZ.out.below hb1 HZ.out.lt)
    clear hb1 hw0
    rw [show errOf 5 = .iface 28 (.int .i64 5) from rfl]
    obtain ⟨p0, p1, p2, p3, p4, p5, p6, p7, p8, p9, p10⟩ := an_cells (m := noM) HZ1.out
    have q0 : w1.frozen? ⟨w.heap.size, 0, none⟩ = false := HZ1.out.free 0
    have q1 : w1.frozen? ⟨w.heap.size, 1, none⟩ = false := HZ1.out.free 1
    have q2 : w1.frozen? ⟨w.heap.size, 2, none⟩ = false := HZ1.out.free 2
    have q3 : w1.frozen? ⟨w.heap.size, 3, none⟩ = false := HZ1.out.free 3
    have q4 : w1.frozen? ⟨w.heap.size, 4, none⟩ = false := HZ1.out.free 4
    have q5 : w1.frozen? ⟨w.heap.size, 5, none⟩ = false := HZ1.out.free 5
    have q6 : w1.frozen? ⟨w.heap.size, 6, none⟩ = false := HZ1.out.free 6
    have q7 : w1.frozen? ⟨w.heap.size, 7, none⟩ = false := HZ1.out.free 7
    have q8 : w1.frozen? ⟨w.heap.size, 8, none⟩ = false := HZ1.out.free 8
    have q9 : w1.frozen? ⟨w.heap.size, 9, none⟩ = false := HZ1.out.free 9
    have q10 : w1.frozen? ⟨w.heap.size, 10, none⟩ = false := HZ1.out.free 10
    go_wp2
    have HFIN := Lib.hid (put11_holds HZ1.out noM none 0 0 noIt ⟨#[]⟩ ⟨#[]⟩)
    have HFB := Lib.hid (put11_below HB1.out (Nat.le_refl _) noM none 0 0 noIt ⟨#[]⟩ ⟨#[]⟩)
    refine bodyPost_ret (results_row2 rfl _ _ w.heap.size 65 (arr 11 noAnF) (0, 0) _ rfl HFIN.out Tryz.underlying65 rfl (by rw [arr_size]; exact infoAnsw)) rfl ?_
    exact ⟨⟨noM, none, 0, noAnsw⟩, rfl, HFB.out, ⟨rfl, rfl, Strs.nil _ _, Strs.nil _ _, Strs.nil _ _, Nat.le_refl 0⟩, (fun a e => by cases e), (fun a e => by cases e), (fun a e => by cases e)⟩
end Go.Proofs.YtcfpmofmjnhonaaGreatDoor
/- Two heads, compared. -/
namespace Go.Proofs.YtcfpmofmjnhonaaGreatDoor
open Go.RowKit

theorem hd_eq_iff (a b : Hd) : a = b ↔ a.epoch = b.epoch ∧ a.root = b.root ∧ a.prev = b.prev :=
  ⟨fun h => by rw [h]; exact ⟨rfl, rfl, rfl⟩, fun h => by cases a; cases b; simp_all⟩
theorem stood : Tryz.prog.stoodInHeld 49 = false := by kernel_rfl
theorem headFields : Tryz.prog.underlying 49 = some (.struct (Tryz.prog.fieldsOf 49)) := by kernel_rfl
theorem text_ne {a b : ByteArray} (h : ¬ a = b) : (a.toList == b.toList) = false := by
  rw [beq_eq_false_iff_ne]
  intro e
  rw [ByteArray.toList_eq, ByteArray.toList_eq] at e
  exact h (text_of e)
theorem text_same (a : ByteArray) : (a.toList == a.toList) = true := by simp
set_option maxHeartbeats 1000000 in
theorem run_neq_heads (a b : Hd) (w : World) :
    (binOp .neq 49 (.agg #[.int .i64 a.epoch, .string a.root, .string a.prev]) (.agg #[.int .i64 b.epoch, .string b.root, .string b.prev])).run Tryz.prog w = .ok (.bool (!decide (a = b))) w := by
  rw [run_neq_struct, run_equalIn_agg _ 9999 _ _ _ headFields stood]
  by_cases h1 : a.epoch = b.epoch
  · by_cases h2 : a.root = b.root
    · by_cases h3 : a.prev = b.prev
      · have e : decide (a = b) = true := by simp [hd_eq_iff, h1, h2, h3]
        rw [e, h1, h2, h3]
        go_simp
      · have e : decide (a = b) = false := by simp [hd_eq_iff, h3]
        have e3 := text_ne h3
        rw [e, h1, h2]
        go_simp
    · have e : decide (a = b) = false := by simp [hd_eq_iff, h2]
      have e3 := text_ne h2
      rw [e, h1]
      go_simp
  · have e : decide (a = b) = false := by simp [hd_eq_iff, h1]
    have e3 : (a.epoch == b.epoch) = false := by rw [beq_eq_false_iff_ne]; exact h1
    rw [e]
    go_simp
end Go.Proofs.YtcfpmofmjnhonaaGreatDoor
/- The document's Whole and Parts. -/
namespace Go.Proofs.YtcfpmofmjnhonaaGreatDoor
open Go.RowKit

/-- A head's variable that was made ahead of a call is as it was behind it. -/
theorem newFacts {w w2 : World} {t : TypeId} (hb : Below (w.alloc (.cells #[.int .i64 0, .string ⟨#[]⟩, .string ⟨#[]⟩] t)).drew.heap.size (w.alloc (.cells #[.int .i64 0, .string ⟨#[]⟩, .string ⟨#[]⟩] t)).drew w2) :
    w2.cell? ⟨w.heap.size, 0, none⟩ = some (.int .i64 0) ∧ w2.cell? ⟨w.heap.size, 1, none⟩ = some (.string ⟨#[]⟩) ∧ w2.cell? ⟨w.heap.size, 2, none⟩ = some (.string ⟨#[]⟩) ∧ w2.frozen? ⟨w.heap.size, 0, none⟩ = false ∧ w2.frozen? ⟨w.heap.size, 1, none⟩ = false ∧ w2.frozen? ⟨w.heap.size, 2, none⟩ = false := by
  have h := (Holds.new w 3 (hdF noHd) t).drew.below hb (by show w.heap.size < (w.alloc _).heap.size; simp)
  exact ⟨h.cell 0 (by omega), h.cell 1 (by omega), h.cell 2 (by omega), h.free 0, h.free 1, h.free 2⟩
theorem newHolds {w w2 : World} {t : TypeId} (hb : Below (w.alloc (.cells #[.int .i64 0, .string ⟨#[]⟩, .string ⟨#[]⟩] t)).drew.heap.size (w.alloc (.cells #[.int .i64 0, .string ⟨#[]⟩, .string ⟨#[]⟩] t)).drew w2) (Y : Hd) :
    Holds (((w2.setCell ⟨w.heap.size, 0, none⟩ (.int .i64 Y.epoch)).setCell ⟨w.heap.size, 1, none⟩ (.string Y.root)).setCell ⟨w.heap.size, 2, none⟩ (.string Y.prev)) w.heap.size 3 (hdF Y) t ∧
      Below w.heap.size w (((w2.setCell ⟨w.heap.size, 0, none⟩ (.int .i64 Y.epoch)).setCell ⟨w.heap.size, 1, none⟩ (.string Y.root)).setCell ⟨w.heap.size, 2, none⟩ (.string Y.prev)) := by
  have h := (Holds.new w 3 (hdF noHd) t).drew.below hb (by show w.heap.size < (w.alloc _).heap.size; simp)
  refine ⟨(((h.set 0 _).set 1 _).set 2 _).congr fun i hi => ?_, (((((Below.refl _ _).alloc (Nat.le_refl _) _).drew.trans (hb.mono (by simp))).setCell (Nat.le_refl _) _).setCell (Nat.le_refl _) _).setCell (Nat.le_refl _) _⟩
  rcases (show i = 0 ∨ i = 1 ∨ i = 2 by omega) with rfl | rfl | rfl <;> simp [upd, hdF]
end Go.Proofs.YtcfpmofmjnhonaaGreatDoor
/- The document's client in memory: NewClient, See. -/
namespace Go.Proofs.YtcfpmofmjnhonaaGreatDoor
open Go.RowKit

def clF (rb : Nat) (pub : ByteArray) (v : Value) : Nat → Value := fun i => if i = 0 then .pointer (some ⟨rb, 0, none⟩) else if i = 1 then .string pub else v
/-- The document's client at block p. -/
structure RClM (F : Nat → Prop) (w : World) (p rb : Nat) (c : Cl) (v : Value) : Prop where
  own : Holds w p 3 (clF rb c.pub v) 109
  row : Row w (p + 1) 3 v c.heads.length (hdCells c.heads)
  fp : F p
  fv : ∀ k, v.ownBlock = some k → F k
  lt : ∀ k, F k → k < w.heap.size
def RCl (F : Nat → Prop) (w : World) (p rb : Nat) (c : Cl) : Prop := ∃ v, RClM F w p rb c v
theorem RClM.same {F : Nat → Prop} {w w' : World} {p rb : Nat} {c : Cl} {v : Value} (h : RClM F w p rb c v) (hs : Same F w w') : RClM F w' p rb c v where
  own := by have := h.own; unfold Holds at this ⊢; rw [hs.block p h.fp]; exact this
  row := h.row.kept (fun k hk => hs.block k (h.fv k hk)) hs.size
  fp := h.fp
  fv := h.fv
  lt k hk := Nat.lt_of_lt_of_le (h.lt k hk) hs.size
theorem RCl.same {F : Nat → Prop} {w w' : World} {p rb : Nat} {c : Cl} (h : RCl F w p rb c) (hs : Same F w w') : RCl F w' p rb c := by
  obtain ⟨v, h⟩ := h
  exact ⟨v, h.same hs⟩
theorem RCl.lt {F : Nat → Prop} {w : World} {p rb : Nat} {c : Cl} (h : RCl F w p rb c) : ∀ k, F k → k < w.heap.size := by
  obtain ⟨v, h⟩ := h
  exact h.lt
theorem RCl.below {F : Nat → Prop} {w w' : World} {p rb : Nat} {c : Cl} (h : RCl F w p rb c) (hb : Below w.heap.size w w') : RCl F w' p rb c := h.same (same_of_below hb h.lt)
theorem RCl.wide {F G : Nat → Prop} {w : World} {p rb : Nat} {c : Cl} (h : RCl F w p rb c) (hG : ∀ k, F k → G k) (lt : ∀ k, G k → k < w.heap.size) : RCl G w p rb c := by
  obtain ⟨v, h⟩ := h
  exact ⟨v, h.own, h.row, hG _ h.fp, fun k hk => hG _ (h.fv k hk), lt⟩

end Go.Proofs.YtcfpmofmjnhonaaGreatDoor
/- Two heads, found the same. -/
namespace Go.Proofs.YtcfpmofmjnhonaaGreatDoor
open Go.RowKit

set_option maxHeartbeats 1000000 in
theorem run_eql_heads (a b : Hd) (w : World) :
    (binOp .eql 49 (.agg #[.int .i64 a.epoch, .string a.root, .string a.prev]) (.agg #[.int .i64 b.epoch, .string b.root, .string b.prev])).run Tryz.prog w = .ok (.bool (decide (a = b))) w := by
  rw [run_eql_struct, run_equalIn_agg _ 9999 _ _ _ headFields stood]
  by_cases h1 : a.epoch = b.epoch
  · by_cases h2 : a.root = b.root
    · by_cases h3 : a.prev = b.prev
      · have e : decide (a = b) = true := by simp [hd_eq_iff, h1, h2, h3]
        rw [e, h1, h2, h3]
        go_simp
      · have e : decide (a = b) = false := by simp [hd_eq_iff, h3]
        have e3 := text_ne h3
        rw [e, h1, h2]
        go_simp
    · have e : decide (a = b) = false := by simp [hd_eq_iff, h2]
      have e3 := text_ne h2
      rw [e, h1]
      go_simp
  · have e : decide (a = b) = false := by simp [hd_eq_iff, h1]
    have e3 : (a.epoch == b.epoch) = false := by rw [beq_eq_false_iff_ne]; exact h1
    rw [e]
    go_simp
end Go.Proofs.YtcfpmofmjnhonaaGreatDoor
/- The document's client: See. -/
namespace Go.Proofs.YtcfpmofmjnhonaaGreatDoor
open Go.RowKit

structure SeeZ (p q : Nat) (v : Value) (h : Hd) where
  at' : World
  h0 : at'.cell? ⟨p, 2, none⟩ = some v
  h1 : at'.cell? ⟨q, 0, none⟩ = some (.int .i64 h.epoch)
  h2 : at'.cell? ⟨q, 1, none⟩ = some (.string h.root)
  h3 : at'.cell? ⟨q, 2, none⟩ = some (.string h.prev)
/-- One more head was appended, and the new list stored. -/
theorem RClM.pushed {F : Nat → Prop} {u w7 : World} {X : Obj} {p rb : Nat} {c : Cl} {v v' : Value} {h : Hd} (hc : RClM F u p rb c v) (hrow : Row w7 (p + 1) 3 v' (c.heads.length + 1) (hdCells c.heads ++ h.cells)) (hg : (u.alloc X).grownBy w7 v.ownBlock) (hm : Moved (u.alloc X) v v') :
    RClM (fun k => (F k ∨ u.heap.size ≤ k) ∧ k < w7.heap.size) (w7.setCell ⟨p, 2, none⟩ v') p rb { c with heads := c.heads ++ [h] } v' := by
  have hz : u.heap.size < w7.heap.size := by have := hg.size; simp at this; omega
  have hvp : v.ownBlock ≠ some p := hc.row.fresh (Nat.lt_succ_self p)
  have hvp' : v'.ownBlock ≠ some p := hrow.fresh (Nat.lt_succ_self p)
  have hpu := hc.own.lt
  exact {
    own := by
      have h0 : Holds w7 p 3 (clF rb c.pub v) 109 := by
        have h1 := hc.own
        unfold Holds at h1 ⊢
        rw [hg.block p (by simp; omega) (fun e => hvp e.symm), (alloc_below u X).block p hpu]
        exact h1
      refine (h0.set 2 v').congr fun i hi => ?_
      unfold upd clF
      rcases (show i = 0 ∨ i = 1 ∨ i = 2 by omega) with rfl | rfl | rfl <;> rfl
    row := by
      rw [List.length_append, hdCells_append]
      have e : hdCells [h] = h.cells := by simp [hdCells]
      rw [e]
      exact hrow.setOther hvp' _
    fp := ⟨.inl hc.fp, by omega⟩
    fv := fun k hk => by
      refine ⟨?_, (hrow.lt k hk).2⟩
      rcases hm with e | e
      · exact .inl (hc.fv k (e ▸ hk))
      · have := e k hk
        simp at this
        exact .inr (by omega)
    lt := fun k hk => by
      have : (w7.setCell ⟨p, 2, none⟩ v').heap.size = w7.heap.size := by simp [World.setCell]
      rw [this]
      exact hk.2 }
end Go.Proofs.YtcfpmofmjnhonaaGreatDoor
