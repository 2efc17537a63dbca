/- Parts of the proof, one behind the other: PAsk, PClientF, PDirF, Strict, Told, Few, Apart. -/
import Derived.WalkKit
import Derived.Lib.Hide
import Derived.WalkLawsBesides
import Derived.Deep.QuietTactic
import Derived.Deep.WholeRow
import Derived.ArgAppend
import Derived.Laws.AppendOwnNone
import Derived.Laws.CopyRow
import Derived.Deep.RegionLaw
import Derived.Laws.BytesString
import Derived.Laws.IdiomStrings
import Derived.Test.YtgjmbokfenpefaaGreatDoorProg
import Derived.StringKeys
import Derived.Maps.Own
import Derived.Maps.Views
import Derived.Maps.OwnSet
import Derived.Maps.OwnOps
import Derived.Maps.RangeWalk
import Derived.Sort.KeysCollected
import Derived.Laws.BitsAllLaws
import Derived.Outline
import Derived.BigQuiet
import Derived.Laws.CopyOwn
import Derived.RegionTactic
import Derived.StillTail
import Derived.Deep.Quiet
import Derived.Deep.RegionHeld3
import Derived.Deep.DeepCutAuto
import Derived.Laws.ResultCell
import Derived.IntWalk
import Derived.Sort.Walk0
import Derived.Tactics
import Derived.Orders
import Derived.LaidEql
import Derived.Stop.Asserts
import Derived.RowKitTokens
import Derived.OrdersHeld
import Derived.Sort.LotA
import Derived.Lib.SortBridge
import Derived.Deep.AppendSrc
import Derived.Shelf.SlSortFuncK.WholeK
import Derived.Ground.GgsProg
import Derived.Shelf.GgSortFunc.Tiny
import Derived.Shelf.Strings.Repeat
import Derived.KernelRfl
import Derived.Laws.StructEq
import Derived.WideKeyEntry
import Derived.Deep.CutRange
import Derived.RangeFuncNested
import Derived.RangeFuncBound
import Derived.RangeFuncCalls
import Derived.RangeFuncLeaves
import Derived.Shelf.Abstract
import Derived.Shelf.RegionOpen
import Derived.OwnWalkIn
import Derived.TacticsInMore
import Derived.LoopNIn
import Derived.LoopIn
import Derived.Shelf.SlGeneric
import Derived.Shelf.SlIter.Nil
import Derived.Shelf.SortM.Plain
import Derived.Shelf.SortM.SortNone
import Derived.Ground.GgzProg
import Derived.Ground.SlgmProg
import Derived.OrdersIn
import Derived.TacticsIn
import Derived.Shelf.Small.Strs
import Derived.Test.YtgjmbokfenpefaaGreatDoorM1
import Derived.Test.YtgjmbokfenpefaaGreatDoorM2
import Derived.Test.YtgjmbokfenpefaaGreatDoorM3
import Derived.Test.YtgjmbokfenpefaaGreatDoorM4
import Derived.Test.YtgjmbokfenpefaaGreatDoorM5
import Derived.Test.YtgjmbokfenpefaaGreatDoorM6
import Derived.Test.YtgjmbokfenpefaaGreatDoorM7
import Derived.Test.YtgjmbokfenpefaaGreatDoorM8
import Derived.Test.YtgjmbokfenpefaaGreatDoorM9
import Derived.Test.YtgjmbokfenpefaaGreatDoorM10
import Derived.Test.YtgjmbokfenpefaaGreatDoorM11
import Derived.Test.YtgjmbokfenpefaaGreatDoorM12
import Derived.Test.YtgjmbokfenpefaaGreatDoorM13
import Derived.Test.YtgjmbokfenpefaaGreatDoorM17
import Derived.Test.YtgjmbokfenpefaaGreatDoorM18
import Derived.Test.YtgjmbokfenpefaaGreatDoorM19
import Derived.Test.YtgjmbokfenpefaaGreatDoorM20
import Derived.Test.YtgjmbokfenpefaaGreatDoorM21
import Derived.Test.YtgjmbokfenpefaaGreatDoorM22
import Derived.Test.YtgjmbokfenpefaaGreatDoorM23
import Derived.Test.YtgjmbokfenpefaaGreatDoorM24
import Derived.Test.YtgjmbokfenpefaaGreatDoorM25
import Derived.Test.YtgjmbokfenpefaaGreatDoorM26
import Derived.Test.YtgjmbokfenpefaaGreatDoorM27
import Derived.Test.YtgjmbokfenpefaaGreatDoorM28
import Derived.Test.YtgjmbokfenpefaaGreatDoorM29
import Derived.Test.YtgjmbokfenpefaaGreatDoorM30
/- The program's client: Ask. -/
namespace Go.Proofs.YtgjmbokfenpefaaGreatDoor
open Go.RowKit

theorem text_empty {o : ByteArray} (h : ¬ o.size = 0) : (o.toList == (⟨#[]⟩ : ByteArray).toList) = false ∧ o.toList.isEmpty = false := by
  have hne : o.toList ≠ [] := fun e => h (by
    have h1 : (⟨#[]⟩ : ByteArray).toList = [] := by rw [ByteArray.toList_eq]
    rw [← h1] at e
    rw [(text_eq _ _).1 e]; rfl)
  refine ⟨?_, ?_⟩
  · rw [beq_eq_false_iff_ne, show (⟨#[]⟩ : ByteArray).toList = [] from by rw [ByteArray.toList_eq]]
    exact hne
  · cases e : o.toList.isEmpty with
    | false => rfl
    | true => exact absurd (List.isEmpty_iff.1 e) hne
theorem empty_text {o : ByteArray} (h : o.size = 0) : o = ⟨#[]⟩ := by
  obtain ⟨d⟩ := o
  congr 1
  exact Array.eq_empty_of_size_eq_zero h
def opensOk (cm : ByteArray) (tt : Bool) (o vl : ByteArray) : Bool := if tt = true then decide (commitAns o vl = (cm, 0)) else (decide (o.size = 0) && decide (vl.size = 0))
set_option maxHeartbeats 2000000 in
set_option maxRecDepth 100000 in
theorem pOpens_is (cm : ByteArray) (tt : Bool) (h : Hd) (key : Int) (s4 s5 s6 : Value) (x : It) (o vl : ByteArray) (T : Bool) (w : World) (hk : HasK w) (ht : opensOk cm tt o vl = T) :
    Calls Tryz.prog 98 #[.string cm, .bool tt, .agg #[.int .i64 h.epoch, .string h.root, .string h.prev, .int .i64 key, s4, s5, s6, .string x.1, .string x.2, .string o, .string vl]] w fun e w' => e = .returned (.bool T) ∧ Below w.heap.size w w' := by
  have HT := Lib.hid ht
  have HK := Lib.hid hk
  have hb0 := alloc_below w (.cells #[.int .i64 h.epoch, .string h.root, .string h.prev, .int .i64 key, s4, s5, s6, .string x.1, .string x.2, .string o, .string vl] 63)
  have HB0 := Lib.hid hb0
  have HK0 := Lib.hid (hk.below hb0 hk.lt)
  clear ht hk hb0
  cases tt
  · by_cases ho : o.size = 0
    · obtain rfl := empty_text ho
      by_cases hv : vl.size = 0
      · obtain rfl := empty_text hv
        clear ho hv
        go_enter Tryz.func98, Tryz.ntmps98
        go_wp2
        go_ret
        exact ⟨by rw [← HT.out]; rfl, HB0.out⟩
      · obtain ⟨q1, q2⟩ := text_empty hv
        have HTF := Lib.hid (show T = false from by rw [← HT.out]; unfold opensOk; rw [if_neg (by decide), show decide (vl.size = 0) = false from decide_eq_false hv, Bool.and_false])
        clear ho hv
        go_enter Tryz.func98, Tryz.ntmps98
        go_wp2
        go_ret
        exact ⟨by rw [HTF.out]; rfl, HB0.out⟩
    · obtain ⟨q1, q2⟩ := text_empty ho
      have HTF := Lib.hid (show T = false from by rw [← HT.out]; unfold opensOk; rw [if_neg (by decide), show decide (o.size = 0) = false from decide_eq_false ho, Bool.false_and])
      clear ho
      go_enter Tryz.func98, Tryz.ntmps98
      go_wp2
      go_ret
      exact ⟨by rw [HTF.out]; rfl, HB0.out⟩
  · obtain ⟨mm, n4, hcom⟩ : ∃ mm n4, commitAns o vl = (mm, n4) := ⟨_, _, rfl⟩
    have HCOM := Lib.hid hcom
    have HT2 := Lib.hid (show T = decide ((mm, n4) = (cm, (0 : Int))) from by rw [← HT.out]; unfold opensOk; rw [if_pos rfl, hcom])
    clear hcom
    go_enter Tryz.func98, Tryz.ntmps98
    go_wp2_with fail
    refine (pCommit_is o vl mm n4 _ HK0.out HCOM.out).mono ?_
    rintro e w1 ⟨rfl, hb1⟩
    have HB1 := Lib.hid (HB0.out.trans (hb1.mono HB0.out.size))
    clear hb1
    by_cases hn4 : n4 = 0
    · subst hn4
      rw [show errOf 0 = .nilIface from rfl]
      by_cases hmc : mm = cm
      · subst hmc
        go_wp2
        go_ret
        exact ⟨by rw [HT2.out]; simp, HB1.out⟩
      · have q1 : (mm.toList == cm.toList) = false := by rw [beq_eq_false_iff_ne]; exact fun e => hmc ((text_eq _ _).1 e)
        have HMC := Lib.hid hmc
        clear hmc
        go_wp2
        go_ret
        exact ⟨by rw [HT2.out, decide_eq_false (fun e => HMC.out (Prod.mk.inj e).1)]; rfl, HB1.out⟩
    · rw [show errOf n4 = .iface 28 (.int .i64 n4) from if_neg hn4]
      have HN4 := Lib.hid hn4
      clear hn4
      go_wp2
      go_ret
      exact ⟨by rw [HT2.out, decide_eq_false (fun e => HN4.out (Prod.mk.inj e).2)]; rfl, HB1.out⟩
theorem errOf_ne {n : Int} (h : ¬ n = 0) : errOf n = .iface 28 (.int .i64 n) := by unfold errOf; rw [if_neg h]
theorem HasK.off {F : Nat → Prop} {w u : World} (h : HasK w) (ho : Off F w u) (hn : ¬ F 1) : HasK u := fun i hi => by
  rw [← h i hi]; exact World.cell?_of_block (w := w) (ho.block _ h.lt hn)
set_option maxHeartbeats 4000000 in
set_option maxRecDepth 100000 in
theorem pAsk_at (F : Nat → Prop) (p : Nat) (c c' : Cl) (name : ByteArray) (h : Hd) (key : Int) (S P W : List ByteArray) (x : It) (o vl : ByteArray) (A B C : Option Addr) (ca cb cc : Nat) (v : ByteArray) (t : Bool) (n : Int) (w : World) (hc : PCl F w p c) (hk : HasK w) (hkn : ¬ F 1)
    (hl : c.heads.length ≤ 1000000) (hls : S.length ≤ 1000000) (hlp : P.length ≤ 1000000) (hlw : W.length ≤ 1000000) (hx1 : x.1.size ≤ 1000000) (hx2 : x.2.size ≤ 1000000) (he : h.epoch < 9223372036854775808) (hA : Strs w A S) (hB : Strs w B P) (hW : Strs w C W)
    (hC : ∀ b, C = some b → 0 < W.length → ¬ F b.block) (ha : askAns c name ⟨⟨h, key, S, P⟩, W, x, o, vl⟩ = (c', v, t, n)) :
    Calls Tryz.prog 57 #[.pointer (some ⟨p, 0, none⟩), .string name, .agg #[.int .i64 h.epoch, .string h.root, .string h.prev, .int .i64 key, .slice A S.length ca, .slice B P.length cb, .slice C W.length cc, .string x.1, .string x.2, .string o, .string vl]] w fun e w' => e = .returned (.tuple #[.string v, .bool t, errOf n]) ∧ ∃ F' : Nat → Prop, Off F w w' ∧ Grew w F F' ∧ PCl F' w' p c' := by
  have hb0 := alloc_below w (.cells #[.int .i64 h.epoch, .string h.root, .string h.prev, .int .i64 key, .slice A S.length ca, .slice B P.length cb, .slice C W.length cc, .string x.1, .string x.2, .string o, .string vl] 63)
  have HB0 := Lib.hid hb0
  have HX0 := Lib.hid (show Holds (w.alloc (.cells #[.int .i64 h.epoch, .string h.root, .string h.prev, .int .i64 key, .slice A S.length ca, .slice B P.length cb, .slice C W.length cc, .string x.1, .string x.2, .string o, .string vl] 63)) w.heap.size 11 (anF ⟨⟨h, key, S, P⟩, A, ca, B, cb⟩ C W.length cc x o vl) 63 from Holds.new w 11 (anF ⟨⟨h, key, S, P⟩, A, ca, B, cb⟩ C W.length cc x o vl) 63)
  have HC0 := Lib.hid (hc.below hb0)
  have HK0 := Lib.hid (hk.below hb0 hk.lt)
  have HA0 := Lib.hid (hA.below hb0)
  have HBB0 := Lib.hid (hB.below hb0)
  have HW0 := Lib.hid (hW.below hb0)
  have HLT := Lib.hid hc.lt
  have HL := Lib.hid hl
  have HE := Lib.hid he
  have HANS := Lib.hid ha
  have HKN := Lib.hid hkn
  have HCW := Lib.hid hC
  have HX12 := Lib.hid (show x.1.size ≤ 1000000 ∧ x.2.size ≤ 1000000 from ⟨hx1, hx2⟩)
  clear hb0 hc hk hA hB hW hl he ha hkn hC hx1 hx2
  obtain ⟨ix, n1, hof⟩ : ∃ ix n1, ofAns name = (ix, n1) := ⟨_, _, rfl⟩
  have HOF := Lib.hid hof
  go_enter Tryz.func57, Tryz.ntmps57
  go_wp2_with fail
  generalize w.alloc (.cells #[.int .i64 h.epoch, .string h.root, .string h.prev, .int .i64 key, .slice A S.length ca, .slice B P.length cb, .slice C W.length cc, .string x.1, .string x.2, .string o, .string vl] 63) = w0 at HB0 HX0 HC0 HK0 HA0 HBB0 HW0 ⊢
  refine (of_is name ix n1 _ HK0.out HOF.out).mono ?_
  rintro e w1 ⟨rfl, hb1⟩
  have HB1 := Lib.hid (HB0.out.trans (hb1.mono HB0.out.size))
  have HX1 := Lib.hid (HX0.out.below hb1 HX0.out.lt)
  have HC1 := Lib.hid (HC0.out.below hb1)
  have HK1 := Lib.hid (HK0.out.below hb1 HK0.out.lt)
  have HA1 := Lib.hid (HA0.out.below hb1)
  have HBB1 := Lib.hid (HBB0.out.below hb1)
  have HW1 := Lib.hid (HW0.out.below hb1)
  clear hb1 HB0 HX0 HC0 HK0 HA0 HBB0 HW0
  unfold ofAns at hof
  by_cases hnm : nameOk name.data.toList = true
  · rw [if_pos hnm] at hof
    obtain ⟨rfl, rfl⟩ := Prod.mk.inj hof
    rw [show errOf 0 = .nilIface from rfl]
    have HNM := Lib.hid hnm
    clear hof hnm
    obtain ⟨c1, n2, hse⟩ : ∃ c1 n2, seeAns c ⟨h, key, S, P⟩ = (c1, n2) := ⟨_, _, rfl⟩
    have HSE := Lib.hid hse
    clear hse
    obtain ⟨x0, x1, x2, x3, x4, x5, -, -, -, -, -⟩ := an_cells (m := ⟨⟨h, key, S, P⟩, A, ca, B, cb⟩) HX1.out
    go_wp2_with fail
    refine (pSee_is F p c c1 h key S P A B ca cb n2 _ HC1.out HK1.out HL.out hls hlp HE.out HA1.out HBB1.out HSE.out).mono ?_
    rintro e w2 ⟨rfl, F2, hoff, hgrew, hcl⟩
    have HOFF := Lib.hid ((Off.of_below HB1.out).trans hoff (fun _ _ h => h))
    have HGR := Lib.hid (show Grew w F F2 from fun k hk => by
      rcases hgrew k hk with e | e
      · exact .inl e
      · exact .inr (Nat.le_trans HB1.out.size e))
    have HQ := Lib.hid (show ¬ F w.heap.size from fun e => by have := HLT.out _ e; omega)
    have HX2 := Lib.hid (show Holds w2 w.heap.size 11 (anF ⟨⟨h, key, S, P⟩, A, ca, B, cb⟩ C W.length cc x o vl) 63 from by
      have h1 := HX1.out
      have h2 := h1.lt
      unfold Holds at h1 ⊢
      rw [hoff.block _ h2 HQ.out]; exact h1)
    have HK2 := Lib.hid (HK1.out.off hoff HKN.out)
    have HW2 := Lib.hid (show Strs w2 C W from Strs.same (F := fun k => k < w1.heap.size ∧ ¬ F k) HW1.out (fun a e hl => by
      obtain ⟨a', e', hlt', _⟩ := HW1.out 0 _ (List.getElem?_eq_getElem hl)
      rw [e] at e'
      obtain rfl := Option.some.inj e'
      exact ⟨hlt', HCW.out a e hl⟩) ⟨hoff.size, fun k hk => hoff.block k hk.1 hk.2⟩)
    have HCL := Lib.hid hcl
    clear hoff hgrew hcl x0 x1 x2 x3 x4 x5 HX1 HC1 HK1 HA1 HBB1 HW1
    by_cases hn2 : n2 = 0
    · subst hn2
      rw [show errOf 0 = .nilIface from rfl]
      obtain ⟨cm, tt, n3, hver⟩ : ∃ cm tt n3, verifyAns h.root (markOf 105 [name]) W x = (cm, tt, n3) := ⟨_, _, _, rfl⟩
      have HVER := Lib.hid hver
      clear hver
      obtain ⟨-, x1, -, -, -, -, x6, x7, x8, -, -⟩ := an_cells (m := ⟨⟨h, key, S, P⟩, A, ca, B, cb⟩) HX2.out
      have HM16 := Lib.hid (show (markOf 105 [name]).size ≤ 1000000 from by rw [markOf_len]; omega)
      go_wp2_with fail
      clear x1 x6 x7 x8
      refine (pVerify_is h.root (markOf 105 [name]) W C cc x cm tt n3 _ HK2.out hlw HW2.out HM16.out HX12.out.1 HX12.out.2 HVER.out).mono ?_
      rintro e w3 ⟨rfl, hb3⟩
      have HB3 := Lib.hid hb3
      have HK3 := Lib.hid (HK2.out.below HB3.out HK2.out.lt)
      have HX3 := Lib.hid (HX2.out.below HB3.out HX2.out.lt)
      have HC3 := Lib.hid (HCL.out.below HB3.out)
      have HO3 := Lib.hid (HOFF.out.then HB3.out)
      have HAN2 := Lib.hid ((ask_cases (a := ⟨⟨h, key, S, P⟩, W, x, o, vl⟩) HNM.out HSE.out HVER.out).symm.trans HANS.out)
      clear hb3 HK2 HX2 HCL HOFF HANS
      by_cases hn3 : n3 = 0
      · subst hn3
        rw [show errOf 0 = .nilIface from rfl]
        obtain ⟨T, hT⟩ : ∃ T, opensOk cm tt o vl = T := ⟨_, rfl⟩
        have HT := Lib.hid hT
        clear hT
        obtain ⟨y0, y1, y2, y3, y4, y5, y6, y7, y8, y9, y10⟩ := an_cells (m := ⟨⟨h, key, S, P⟩, A, ca, B, cb⟩) HX3.out
        go_wp2_with fail
        clear y0 y1 y2 y3 y4 y5 y6 y7 y8 y9 y10
        refine (pOpens_is cm tt h key (.slice A S.length ca) (.slice B P.length cb) (.slice C W.length cc) x o vl T _ HK3.out HT.out).mono ?_
        rintro e w4 ⟨rfl, hb4⟩
        have HX4 := Lib.hid (HX3.out.below hb4 HX3.out.lt)
        have HC4 := Lib.hid (HC3.out.below hb4)
        have HO4 := Lib.hid (HO3.out.then hb4)
        clear hb4 HX3 HC3 HO3 HK3 HB3
        have y10 : w4.cell? ⟨w.heap.size, 10, none⟩ = some (.string vl) := HX4.out.cell 10 (by omega)
        cases T
        · go_wp2
          refine bodyPost_ret (results_tmp3' rfl _ _ _) rfl ?_
          have hh := HAN2.out
          have hT := HT.out
          unfold opensOk at hT
          rw [if_pos trivial] at hh
          cases tt
          · rw [if_neg (by decide)] at hT
            rw [if_neg (fun e => by rw [decide_eq_true e.2.1, decide_eq_true e.2.2] at hT; cases hT), if_neg (by rintro ⟨e, _⟩; cases e)] at hh
            simp only [Prod.mk.injEq] at hh
            obtain ⟨rfl, rfl, rfl, rfl⟩ := hh
            exact ⟨rfl, F2, HO4.out, HGR.out, HC4.out⟩
          · rw [if_pos rfl] at hT
            rw [if_neg (by rintro ⟨e, _⟩; cases e), if_neg (fun e => of_decide_eq_false hT e.2)] at hh
            simp only [Prod.mk.injEq] at hh
            obtain ⟨rfl, rfl, rfl, rfl⟩ := hh
            exact ⟨rfl, F2, HO4.out, HGR.out, HC4.out⟩
        · go_wp2
          refine bodyPost_ret (results_tmp3' rfl _ _ _) rfl ?_
          have hh := HAN2.out
          have hT := HT.out
          unfold opensOk at hT
          rw [if_pos trivial] at hh
          cases tt
          · rw [if_neg (by decide), Bool.and_eq_true, decide_eq_true_eq, decide_eq_true_eq] at hT
            rw [if_pos ⟨rfl, hT⟩] at hh
            simp only [Prod.mk.injEq] at hh
            obtain ⟨rfl, rfl, rfl, rfl⟩ := hh
            exact ⟨by rw [empty_text hT.2]; rfl, F2, HO4.out, HGR.out, HC4.out⟩
          · rw [if_pos rfl, decide_eq_true_eq] at hT
            rw [if_neg (by rintro ⟨e, _⟩; cases e), if_pos ⟨rfl, hT⟩] at hh
            simp only [Prod.mk.injEq] at hh
            obtain ⟨rfl, rfl, rfl, rfl⟩ := hh
            exact ⟨rfl, F2, HO4.out, HGR.out, HC4.out⟩
      · rw [errOf_ne hn3]
        have HN3 := Lib.hid hn3
        clear hn3
        go_wp2
        refine bodyPost_ret (results_tmp3' rfl _ _ _) rfl ?_
        have hh := HAN2.out
        rw [if_neg HN3.out] at hh
        simp only [Prod.mk.injEq] at hh
        obtain ⟨rfl, rfl, rfl, rfl⟩ := hh
        exact ⟨by rw [errOf_ne HN3.out]; rfl, F2, HO3.out, HGR.out, HC3.out⟩
    · rw [errOf_ne hn2]
      have HN2 := Lib.hid hn2
      clear hn2
      go_wp2
      refine bodyPost_ret (results_tmp3' rfl _ _ _) rfl ?_
      have hh := HANS.out
      unfold askAns at hh
      rw [if_pos HNM.out, if_neg (by show ¬ (seeAns c ⟨h, key, S, P⟩).2 = 0; rw [HSE.out]; exact HN2.out)] at hh
      rw [show (seeAns c (⟨⟨h, key, S, P⟩, W, x, o, vl⟩ : Answ).sgn) = (c1, n2) from HSE.out] at hh
      simp only [Prod.mk.injEq] at hh
      obtain ⟨rfl, rfl, rfl, rfl⟩ := hh
      exact ⟨by rw [errOf_ne HN2.out]; rfl, F2, HOFF.out, HGR.out, HCL.out⟩
  · rw [if_neg hnm] at hof
    obtain ⟨rfl, rfl⟩ := Prod.mk.inj hof
    rw [show errOf 5 = .iface 28 (.int .i64 5) from rfl]
    clear hof
    go_wp2
    refine bodyPost_ret (results_tmp3' rfl _ _ _) rfl ?_
    have hh := HANS.out
    unfold askAns at hh
    rw [if_neg hnm] at hh
    simp only [Prod.mk.injEq] at hh
    obtain ⟨rfl, rfl, rfl, rfl⟩ := hh
    exact ⟨rfl, F, Off.of_below HB1.out, Grew.refl _ _, HC1.out⟩
theorem pAsk_is (F : Nat → Prop) (p : Nat) (c c' : Cl) (name : ByteArray) (m : AnM) (a : Answ) (v : ByteArray) (t : Bool) (n : Int) (w : World) (hc : PCl F w p c) (hk : HasK w) (hkn : ¬ F 1)
    (hl : c.heads.length ≤ 1000000) (hls : a.sgn.sig.length ≤ 1000000) (hlp : a.sgn.path.length ≤ 1000000) (hlw : a.path.length ≤ 1000000) (hx1 : a.leaf.1.size ≤ 1000000) (hx2 : a.leaf.2.size ≤ 1000000) (he : a.sgn.head.epoch < 9223372036854775808) (hm : AnIn w m a) (hC : ∀ b, m.C = some b → 0 < a.path.length → ¬ F b.block) (ha : askAns c name a = (c', v, t, n)) :
    Calls Tryz.prog 57 #[.pointer (some ⟨p, 0, none⟩), .string name, .agg m.cells] w fun e w' => e = .returned (.tuple #[.string v, .bool t, errOf n]) ∧ ∃ F' : Nat → Prop, Off F w w' ∧ Grew w F F' ∧ PCl F' w' p c' := by
  obtain ⟨⟨s, A, ca, B, cb⟩, C, cc, a'⟩ := m
  obtain ⟨e1, e2, e3, e4, e5, _⟩ := hm
  have e1 : a' = a := e1
  subst e1
  have e2 : s = a'.sgn := e2
  subst e2
  obtain ⟨⟨h, key, S, P⟩, W, x, o, vl⟩ := a'
  exact pAsk_at F p c c' name h key S P W x o vl A B C ca cb cc v t n w hc hk hkn hl hls hlp hlw hx1 hx2 he e3 e4 e5 hC ha
end Go.Proofs.YtgjmbokfenpefaaGreatDoor
/- What the program's client answers: all contracts of the Face. -/
namespace Go.Proofs.YtgjmbokfenpefaaGreatDoor
open Go.RowKit

theorem Grew.kept {w : World} {F F' : Nat → Prop} (hk : HasK w) (hn : ¬ F 1) (hg : Grew w F F') : ¬ F' 1 := fun h => by
  rcases hg _ h with e | e
  · exact hn e
  · have := hk.lt; omega
def clientFace : ClientFace where
  Is F w p c := PCl F w p c ∧ ¬ F 1
  lt h := h.1.lt
  same h hs := ⟨h.1.same hs, h.2⟩
  new := fun pub w h16 hk => by
    refine (pNewClient_t pub w h16).mono ?_
    rintro e w' ⟨p, F, rfl, hb, hc, hf⟩
    exact ⟨p, F, rfl, hb, ⟨hc, fun h => by have := hf _ h; have := hk.lt; omega⟩, hf⟩
  see := fun F p c c' h key S P A B ca cb n w hc hk hl hls hlp he hs hp _ _ ha => by
    refine (pSee_is F p c c' h key S P A B ca cb n w hc.1 hk (by omega) (by omega) (by omega) he hs hp ha).mono ?_
    rintro e w' ⟨rfl, F', ho, hg, hc'⟩
    exact ⟨rfl, F', ho, hg, hc', Grew.kept hk hc.2 hg⟩
  ask := fun F p c c' name m a v t n w hc hk hl _ hd hm _ _ hC ha => by
    refine (pAsk_is F p c c' name m a v t n w hc.1 hk hc.2 (by omega) (by have := hd.sig; omega) (by have := hd.path; omega) (by have := hd.way; omega) (by have := hd.l1; omega) (by have := hd.l2; omega) hd.ep hm hC ha).mono ?_
    rintro e w' ⟨rfl, F', ho, hg, hc'⟩
    exact ⟨rfl, F', ho, hg, hc', Grew.kept hk hc.2 hg⟩
  heads := fun F p c w hc _ hl => by
    refine (pHeads_any F p c w hc.1 (by omega)).mono ?_
    rintro e w' ⟨A, cap, rfl, hb, hh⟩
    exact ⟨A, cap, rfl, hb, hh⟩
end Go.Proofs.YtgjmbokfenpefaaGreatDoor
/- What the program's directory answers: all contracts of the Face. -/
namespace Go.Proofs.YtgjmbokfenpefaaGreatDoor
open Go.RowKit Go.Maps

theorem putAns_dim {d : Dst} (h : EpsDim d) (name value : ByteArray) : EpsDim (putAns d name value).1 := by
  unfold putAns
  repeat' split
  all_goals exact h
theorem epochs_read (F : Nat → Prop) (p : Nat) (d : Dst) (w : World) (h : PDir F w p d) (h8 : d.eps.length ≤ 8) (hdim : EpsDim d) :
    Calls Tryz.prog 27 #[.pointer (some ⟨p, 0, none⟩)] w fun e w' => ∃ A cap M, e = .returned (.slice A M.length cap) ∧ M.map SgM.s = d.eps ∧ M.length ≤ cap ∧ Below w.heap.size w w' ∧ Sgs w' A M ∧ Near F w A M.length ∧ ∀ m ∈ M, Near F w m.A m.s.sig.length ∧ Near F w m.B m.s.path.length := by
  obtain ⟨bb, mh, mw, vi, ve, H, M, h, hme, -⟩ := h
  have hM : M.length ≤ 8 := by have := congrArg List.length hme; rw [List.length_map] at this; omega
  obtain ⟨AE, cE, rfl, -, hsix⟩ := h.row.sixes
  have c5 : w.cell? ⟨p, 5, none⟩ = some (.slice AE M.length cE) := h.own.cell 5 (by omega)
  have hs : ∀ m ∈ M, Strs w m.A m.s.sig ∧ Strs w m.B m.s.path ∧ m.s.sig.length ≤ 1000000 ∧ m.s.path.length ≤ 1000000 := fun m hm => by
    have hd := hdim m.s (by rw [← hme]; exact List.mem_map_of_mem hm)
    have h1 := hd.sig
    have h2 := hd.path
    exact ⟨(h.sgs m hm).sig, (h.sgs m hm).path, by omega, by omega⟩
  refine (pDirEpochs_any p M AE cE w hM c5 hsix hs).mono ?_
  rintro e w' ⟨A', c', M', rfl, hmm, hc', hb, hs6, hA, hin⟩
  refine ⟨A', c', M', rfl, hmm.trans hme, hc', hb, fun i m hi => ?_, fun b e _ => .inr (hA b e), fun m hm => ⟨fun b e l => .inr (Nat.le_of_lt ((hin m hm).fs b e l)), fun b e l => .inr (Nat.le_of_lt ((hin m hm).fp b e l))⟩⟩
  obtain ⟨a, ha, hl, k0, k1, k2, k3, k4, k5⟩ := hs6 i m hi
  have hm := hin m (List.mem_of_getElem? hi)
  exact ⟨a, ha, hl, k0, k1, k2, k3, k4, k5, hm.sig, hm.path, hm.cp⟩
noncomputable def dirFace : DirFace where
  pa := Pub.over
  Is F w p d := PDir F w p d ∧ Chained d ∧ EpsDim d ∧ ¬ F 1
  lt h := h.1.lt
  same h hs := ⟨h.1.same hs, h.2⟩
  new_t := fun secret w h16 hk => by
    refine (pDirNew_t secret w hk h16).mono ?_
    rintro e w' ⟨p, F, rfl, hb, hd, hf⟩
    exact ⟨p, F, rfl, hb, ⟨hd, newDst_chained secret, (fun s hs => by cases hs), fun h => by have := hf _ h; have := hk.lt; omega⟩, hf⟩
  new_f := fun secret w h16 _ _ => pDirNew_f secret w h16
  pub := fun F p d w hd _ _ => pDirPublic_any F p d w hd.1
  put := fun F p d d' name value n w hd hok hk hn _ h => by
    refine (pPut_is F p d d' name value n w hd.1 hok hn h).mono ?_
    rintro e w' ⟨rfl, ho, hd'⟩
    have e1 : (putAns d name value).1 = d' := by rw [h]
    exact ⟨rfl, F, ho, Grew.refl _ _, hd', by rw [← e1]; exact put_chained hd.2.1 name value, by rw [← e1]; exact putAns_dim hd.2.2.1 name value, hd.2.2.2⟩
  publish := fun F p d d' sg n w hd hok hk h => by
    by_cases h8 : d.eps.length < 8
    · have e1 : Pub.over.f d = (Pub.over.next d, Pub.over.sgn d, 0) := if_pos h8
      rw [e1] at h
      obtain ⟨rfl, h2⟩ := Prod.mk.inj h
      obtain ⟨rfl, rfl⟩ := Prod.mk.inj h2
      refine (pPublish_next F p d w hd.1 hd.2.1 hok hk hd.2.2.2 h8).mono ?_
      rintro e w' ⟨m, F', hm, rfl, ho, hg, hd', hin⟩
      have hdm := Pub.over.f_dim hd.2.2.1
      rw [e1] at hdm
      refine ⟨m, F', hm, by rw [← hm]; rfl, ho, hg, ⟨hd', (Pub.over.next_linked hd.2.1 h8).1, hdm, Grew.kept hk hd.2.2.2 hg⟩, ?_, ?_, ?_, ?_⟩
      · rw [← hm]; exact hin.sig
      · rw [← hm]; exact hin.path
      · rw [← hm]; exact fun b e l => .inr (hin.fs b e l)
      · rw [← hm]; exact fun b e l => .inr (hin.fp b e l)
    · have e1 : Pub.over.f d = (d, noSgn, 12) := if_neg h8
      rw [e1] at h
      obtain ⟨rfl, h2⟩ := Prod.mk.inj h
      obtain ⟨rfl, rfl⟩ := Prod.mk.inj h2
      refine (pPublish_full F p d w hd.1 h8 hok.few).mono ?_
      rintro e w' ⟨rfl, hb⟩
      exact ⟨⟨noSgn, none, 0, none, 0⟩, F, rfl, rfl, Off.of_below hb, Grew.refl _ _, ⟨hd.1.below hb, hd.2⟩, (fun i q hi => by cases hi), (fun i q hi => by cases hi), (fun b e => by cases e), (fun b e => by cases e)⟩
  lookup := fun F p d name a n w hd hok hk hn h => pDirLookup_is F p d name a n w hd.1 hok hk hd.2.2.1 hn h
  epochs := fun F p d w hd hok _ => epochs_read F p d w hd.1 hok.few hd.2.2.1
end Go.Proofs.YtgjmbokfenpefaaGreatDoor
/- Whatever is played, a directory's epochs are a chain, and the last one's root is that of what is there. -/
namespace Go.Proofs.YtgjmbokfenpefaaGreatDoor
open Go.RowKit

theorem stepK_linked {pa : Pub} {d : Dst} (hc : Chained d) (x : Hd) : Chained (stepK pa d x) := by
  unfold stepK
  split
  · exact put_chained hc _ _
  · split
    · exact pa.linked hc
    · exact hc
theorem playK_linked {pa : Pub} : ∀ (L : List Hd) {d : Dst}, Chained d → Chained (playK pa d L) := fun L => by
  induction L with
  | nil => intro d h; exact h
  | cons x L ih => intro d h; exact ih (stepK_linked h x)
end Go.Proofs.YtgjmbokfenpefaaGreatDoor
/- The keeps' told: what a directory tells, and a client believes: true. -/
namespace Go.Proofs.YtgjmbokfenpefaaGreatDoor
open Go.RowKit

theorem told_dim {name : ByteArray} (hn : nameOk name.data.toList = true) : SpDim (foundAns toldD2 name (ofAns name).1) := by
  have h := found_dim toldD2_ok (fun s hs => by rw [toldD2_eps] at hs; rw [List.mem_singleton.1 hs]; exact nextSgn_dim _) name
  rw [told_look hn] at h
  replace h : AnsDim (foundAns toldD2 name (ofAns name).1) := h
  exact h.sp
set_option maxHeartbeats 4000000 in
set_option maxRecDepth 100000 in
theorem told_any (DF : DirFace) (FC : ClientFace) (w : World) (hk : HasK w) : Calls Tryz.prog 23 #[] w fun e w' => e = .returned (.bool true) ∧ Below w.heap.size w w' := by
  have HK := Lib.hid hk
  have HE0 := Lib.hid (show errOf 0 = Value.nilIface from rfl)
  clear hk
  go_enter Tryz.func23, Tryz.ntmps23
  go_wp2_with fail
  refine (DF.new_t sec16 _ sec16_size HK.out).mono ?_
  rintro e w1 ⟨p, F, rfl, hb1, hd1, hf1⟩
  have HB1 := Lib.hid hb1
  have HD1 := Lib.hid hd1
  have HF1 := Lib.hid hf1
  clear hb1 hd1 hf1
  go_wp2_with fail
  refine (DF.put F p (newDst sec16) toldD1 annT keyT 0 _ HD1.out (newDst_ok sec16_size) (HK.out.below HB1.out HK.out.lt) (by decide) (by decide) told_put).mono ?_
  rintro e w2 ⟨rfl, F2, ho2, hg2, hd2⟩
  rw [HE0.out]
  have HB2 := Lib.hid (HB1.out.trans (ho2.below HF1.out HB1.out.size))
  have HF2 := Lib.hid (hg2.base HF1.out HB1.out.size)
  have HD2 := Lib.hid hd2
  clear ho2 hg2 hd2 HD1
  obtain ⟨sg, hsg⟩ : ∃ sg, nextSgn toldD1 = sg := ⟨_, rfl⟩
  have HPB := Lib.hid (show DF.pa.f toldD1 = (toldD2, sg, 0) from by rw [← hsg, DF.pa.f_plain toldD1_ok (by rw [told_vals]; exact parted_one _)]; exact told_pub2)
  have he : sg.head.epoch = 1 := by rw [← hsg]; exact told_epoch
  clear hsg
  have HE := Lib.hid he
  clear he
  go_wp2_with fail
  refine (DF.publish F2 p toldD1 toldD2 sg 0 _ HD2.out toldD1_ok (HK.out.below HB2.out HK.out.lt) HPB.out).mono ?_
  rintro e w3 ⟨m, F3, hm, rfl, ho3, hg3, hd3, hs3, hp3⟩
  rw [HE0.out]
  have HB3 := Lib.hid (HB2.out.trans (ho3.below HF2.out HB2.out.size))
  have HF3 := Lib.hid (hg3.base HF2.out HB2.out.size)
  have p0 : (w3.alloc (.cells #[.int .i64 sg.head.epoch, .string sg.head.root, .string sg.head.prev, .int .i64 sg.key, .slice m.A sg.sig.length m.ca, .slice m.B sg.path.length m.cb] 57)).cell? ⟨w3.heap.size, 0, none⟩ = some (.int .i64 1) := by
    have h := (Holds.new w3 6 (sgF sg.head sg.key (.slice m.A sg.sig.length m.ca) (.slice m.B sg.path.length m.cb)) 57).cell 0 (by omega)
    rw [show sgF sg.head sg.key (.slice m.A sg.sig.length m.ca) (.slice m.B sg.path.length m.cb) 0 = .int .i64 sg.head.epoch from rfl, HE.out] at h
    exact h
  have hb4 := alloc_below w3 (.cells #[.int .i64 sg.head.epoch, .string sg.head.root, .string sg.head.prev, .int .i64 sg.key, .slice m.A sg.sig.length m.ca, .slice m.B sg.path.length m.cb] 57)
  have HB4 := Lib.hid (HB3.out.trans (hb4.mono HB3.out.size))
  have HD4 := Lib.hid (DF.same hd3 (same_of_below hb4 (DF.lt hd3)))
  have HF4 := Lib.hid (show ∀ k, F3 k → k < w3.heap.size from DF.lt hd3)
  clear hm ho3 hg3 hd3 hs3 hp3 HD2 hb4
  go_wp2_with fail
  generalize w3.alloc (.cells #[.int .i64 sg.head.epoch, .string sg.head.root, .string sg.head.prev, .int .i64 sg.key, .slice m.A sg.sig.length m.ca, .slice m.B sg.path.length m.cb] 57) = w4 at HB4 HD4
  refine (DF.pub F3 p toldD2 _ HD4.out toldD2_ok (HK.out.below HB4.out HK.out.lt)).mono ?_
  rintro e w5 ⟨rfl, hb5⟩
  rw [toldD2_sec]
  have HB5 := Lib.hid (HB4.out.trans (hb5.mono HB4.out.size))
  have HD5 := Lib.hid (DF.same HD4.out (same_of_below hb5 (DF.lt HD4.out)))
  clear hb5 p0
  obtain ⟨pub, hpub⟩ : ∃ pub, boxPub (dirSeed sec16) = pub := ⟨_, rfl⟩
  have HPUB := Lib.hid hpub
  rw [hpub]
  have HP16 := Lib.hid (show pub.size = 16 from by rw [← hpub]; exact rowsOf_size _ _ (by omega))
  clear hpub
  go_wp2_with fail
  refine (FC.new pub _ HP16.out (HK.out.below HB5.out HK.out.lt)).mono ?_
  rintro e w6 ⟨pc, G, rfl, hb6, hc6, hgf⟩
  have HB6 := Lib.hid (HB5.out.trans (hb6.mono HB5.out.size))
  have HD6 := Lib.hid (DF.same HD5.out (same_of_below hb6 (DF.lt HD5.out)))
  have HC6 := Lib.hid hc6
  have HGF := Lib.hid (show (∀ k, G k → ¬ F3 k) ∧ ∀ k, G k → w.heap.size ≤ k from ⟨fun k h1 h2 => by have := hgf k h1; have := DF.lt HD5.out k h2; omega, fun k h => Nat.le_trans HB5.out.size (hgf k h)⟩)
  have HGL := Lib.hid (show ∀ k, F3 k → ¬ G k from fun k h1 h2 => HGF.out.1 k h2 h1)
  clear hb6 hc6 hgf
  obtain ⟨a1, ha1⟩ : ∃ a1, foundAns toldD2 annT (ofAns annT).1 = a1 := ⟨_, rfl⟩
  obtain ⟨a2, ha2⟩ : ∃ a2, foundAns toldD2 bobT (ofAns bobT).1 = a2 := ⟨_, rfl⟩
  have HA1 := Lib.hid (show DF.pa.tells toldD2 annT = (a1, 0) ∧ askAns ⟨pub, []⟩ annT a1 = (⟨pub, headsOf toldD2⟩, keyT, true, 0) ∧ SpDim a1 from ⟨by rw [← ha1]; exact (DF.pa.tells_plain toldD2_ok (by rw [toldD2_vals]; exact parted_one _) annT).trans (told_look ann_ok), by rw [← ha1, ← HPUB.out]; exact told_ann, by rw [← ha1]; exact told_dim ann_ok⟩)
  have HA2 := Lib.hid (show DF.pa.tells toldD2 bobT = (a2, 0) ∧ askAns ⟨pub, headsOf toldD2⟩ bobT a2 = (⟨pub, headsOf toldD2⟩, ⟨#[]⟩, false, 0) ∧ SpDim a2 from ⟨by rw [← ha2]; exact (DF.pa.tells_plain toldD2_ok (by rw [toldD2_vals]; exact parted_one _) bobT).trans (told_look bob_ok), by rw [← ha2, ← HPUB.out]; exact told_bob, by rw [← ha2]; exact told_dim bob_ok⟩)
  clear ha1 ha2
  go_wp2_with fail
  refine (DF.lookup F3 p toldD2 annT a1 0 _ HD6.out toldD2_ok (HK.out.below HB6.out HK.out.lt) (by decide) HA1.out.1).mono ?_
  rintro e w7 ⟨m1, rfl, hb7, hin7, hn7⟩
  rw [HE0.out]
  obtain ⟨⟨s1, A1, ca1, B1, cb1⟩, C1, cc1, x1⟩ := m1
  obtain rfl : x1 = a1 := hin7.is
  obtain rfl : s1 = x1.sgn := hin7.sgn
  have HN7 := Lib.hid (show (∀ b, A1 = some b → 0 < x1.sgn.sig.length → ¬ G b.block) ∧ (∀ b, B1 = some b → 0 < x1.sgn.path.length → ¬ G b.block) ∧ (∀ b, C1 = some b → 0 < x1.path.length → ¬ G b.block) from
    ⟨hn7.1.apart HGL.out (FC.lt HC6.out), hn7.2.1.apart HGL.out (FC.lt HC6.out), hn7.2.2.apart HGL.out (FC.lt HC6.out)⟩)
  have hb8 := alloc_below w7 (.cells #[.int .i64 x1.sgn.head.epoch, .string x1.sgn.head.root, .string x1.sgn.head.prev, .int .i64 x1.sgn.key, .slice A1 x1.sgn.sig.length ca1, .slice B1 x1.sgn.path.length cb1, .slice C1 x1.path.length cc1, .string x1.leaf.1, .string x1.leaf.2, .string x1.opening, .string x1.value] 63)
  have HY8 := Lib.hid (show Holds (w7.alloc (.cells #[.int .i64 x1.sgn.head.epoch, .string x1.sgn.head.root, .string x1.sgn.head.prev, .int .i64 x1.sgn.key, .slice A1 x1.sgn.sig.length ca1, .slice B1 x1.sgn.path.length cb1, .slice C1 x1.path.length cc1, .string x1.leaf.1, .string x1.leaf.2, .string x1.opening, .string x1.value] 63)) w7.heap.size 11 (anF ⟨x1.sgn, A1, ca1, B1, cb1⟩ C1 x1.path.length cc1 x1.leaf x1.opening x1.value) 63 from Holds.new w7 11 (anF ⟨x1.sgn, A1, ca1, B1, cb1⟩ C1 x1.path.length cc1 x1.leaf x1.opening x1.value) 63)
  have HB8 := Lib.hid (HB6.out.trans ((hb7.trans (hb8.mono hb7.size)).mono HB6.out.size))
  have hb68 := hb7.trans (hb8.mono hb7.size)
  have HD8 := Lib.hid (DF.same HD6.out (same_of_below hb68 (DF.lt HD6.out)))
  have HC8 := Lib.hid (FC.same HC6.out (same_of_below hb68 (FC.lt HC6.out)))
  have HI8 := Lib.hid (hin7.later hb8)
  have HG8 := Lib.hid (show ∀ k, G k → k < w7.heap.size from fun k hk => Nat.lt_of_lt_of_le (FC.lt HC6.out k hk) hb7.size)
  clear hb7 hin7 hn7 hb8 hb68 HD6 HC6
  simp only [AnM.cells]
  go_wp2_with fail
  generalize w7.alloc (.cells #[.int .i64 x1.sgn.head.epoch, .string x1.sgn.head.root, .string x1.sgn.head.prev, .int .i64 x1.sgn.key, .slice A1 x1.sgn.sig.length ca1, .slice B1 x1.sgn.path.length cb1, .slice C1 x1.path.length cc1, .string x1.leaf.1, .string x1.leaf.2, .string x1.opening, .string x1.value] 63) = w8 at HY8 HB8 HD8 HC8 HI8
  refine (DF.lookup F3 p toldD2 bobT a2 0 _ HD8.out toldD2_ok (HK.out.below HB8.out HK.out.lt) (by decide) HA2.out.1).mono ?_
  rintro e w9 ⟨m2, rfl, hb9, hin9, hn9⟩
  rw [HE0.out]
  obtain ⟨⟨s2, A2, ca2, B2, cb2⟩, C2, cc2, x2⟩ := m2
  obtain rfl : x2 = a2 := hin9.is
  obtain rfl : s2 = x2.sgn := hin9.sgn
  have HN9 := Lib.hid (show (∀ b, A2 = some b → 0 < x2.sgn.sig.length → ¬ G b.block) ∧ (∀ b, B2 = some b → 0 < x2.sgn.path.length → ¬ G b.block) ∧ (∀ b, C2 = some b → 0 < x2.path.length → ¬ G b.block) from
    ⟨hn9.1.apart HGL.out (FC.lt HC8.out), hn9.2.1.apart HGL.out (FC.lt HC8.out), hn9.2.2.apart HGL.out (FC.lt HC8.out)⟩)
  have hb10 := alloc_below w9 (.cells #[.int .i64 x2.sgn.head.epoch, .string x2.sgn.head.root, .string x2.sgn.head.prev, .int .i64 x2.sgn.key, .slice A2 x2.sgn.sig.length ca2, .slice B2 x2.sgn.path.length cb2, .slice C2 x2.path.length cc2, .string x2.leaf.1, .string x2.leaf.2, .string x2.opening, .string x2.value] 63)
  have HZ10 := Lib.hid (show Holds (w9.alloc (.cells #[.int .i64 x2.sgn.head.epoch, .string x2.sgn.head.root, .string x2.sgn.head.prev, .int .i64 x2.sgn.key, .slice A2 x2.sgn.sig.length ca2, .slice B2 x2.sgn.path.length cb2, .slice C2 x2.path.length cc2, .string x2.leaf.1, .string x2.leaf.2, .string x2.opening, .string x2.value] 63)) w9.heap.size 11 (anF ⟨x2.sgn, A2, ca2, B2, cb2⟩ C2 x2.path.length cc2 x2.leaf x2.opening x2.value) 63 from Holds.new w9 11 (anF ⟨x2.sgn, A2, ca2, B2, cb2⟩ C2 x2.path.length cc2 x2.leaf x2.opening x2.value) 63)
  have hb810 := hb9.trans (hb10.mono hb9.size)
  have HB10 := Lib.hid (HB8.out.trans (hb810.mono HB8.out.size))
  have HC10 := Lib.hid (FC.same HC8.out (same_of_below hb810 (FC.lt HC8.out)))
  have HY10 := Lib.hid (HY8.out.below hb810 HY8.out.lt)
  have HI10 := Lib.hid (HI8.out.later hb810)
  have HJ10 := Lib.hid (hin9.later hb10)
  have HG10 := Lib.hid (show ∀ k, G k → k < w9.heap.size from fun k hk => Nat.lt_of_lt_of_le (FC.lt HC8.out k hk) hb9.size)
  clear hb9 hin9 hn9 hb10 hb810 HD8 HC8 HY8 HI8
  simp only [AnM.cells]
  have HL10 := Lib.hid (HY10.out.lt)
  obtain ⟨d0, d1, d2, d3, d4, d5, d6, d7, d8, d9, d10⟩ := an_cells HY10.out
  go_wp2_with fail
  clear d0 d1 d2 d3 d4 d5 d6 d7 d8 d9 d10
  generalize w9.alloc (.cells #[.int .i64 x2.sgn.head.epoch, .string x2.sgn.head.root, .string x2.sgn.head.prev, .int .i64 x2.sgn.key, .slice A2 x2.sgn.sig.length ca2, .slice B2 x2.sgn.path.length cb2, .slice C2 x2.path.length cc2, .string x2.leaf.1, .string x2.leaf.2, .string x2.opening, .string x2.value] 63) = w10 at HZ10 HB10 HC10 HY10 HI10 HJ10 HL10
  refine (FC.ask G pc ⟨pub, []⟩ ⟨pub, headsOf toldD2⟩ annT ⟨⟨x1.sgn, A1, ca1, B1, cb1⟩, C1, cc1, x1⟩ x1 keyT true 0 _ HC10.out (HK.out.below HB10.out HK.out.lt) (Nat.zero_le _) (by decide) HA1.out.2.2 HI10.out HN7.out.1 HN7.out.2.1 HN7.out.2.2 HA1.out.2.1).mono ?_
  rintro e w11 ⟨rfl, G2, ho11, hg11, hc11⟩
  rw [HE0.out, show keyT = (⟨#[107, 101, 121]⟩ : ByteArray) from rfl]
  have HB11 := Lib.hid (HB10.out.trans (ho11.below HGF.out.2 HB10.out.size))
  have HC11 := Lib.hid hc11
  have HZ11 := Lib.hid (HZ10.out.off ho11 (fun h => by have := HG10.out _ h; omega))
  have HJ11 := Lib.hid (HJ10.out.aside ho11 HN9.out.1 HN9.out.2.1 HN9.out.2.2)
  have HN11 := Lib.hid (show (∀ b, A2 = some b → 0 < x2.sgn.sig.length → ¬ G2 b.block) ∧ (∀ b, B2 = some b → 0 < x2.sgn.path.length → ¬ G2 b.block) ∧ (∀ b, C2 = some b → 0 < x2.path.length → ¬ G2 b.block) from by
    refine ⟨fun b e l h => ?_, fun b e l h => ?_, fun b e l h => ?_⟩
    · rcases hg11 _ h with h1 | h1
      · exact HN9.out.1 b e l h1
      · have := HJ10.out.sig.lt b e l; omega
    · rcases hg11 _ h with h1 | h1
      · exact HN9.out.2.1 b e l h1
      · have := HJ10.out.path.lt b e l; omega
    · rcases hg11 _ h with h1 | h1
      · exact HN9.out.2.2 b e l h1
      · have := HJ10.out.way.lt b e l; omega)
  have HN12 := Lib.hid (hg11.base HGF.out.2 HB10.out.size)
  clear ho11 hg11 hc11 HC10 HJ10 HZ10
  obtain ⟨d0, d1, d2, d3, d4, d5, d6, d7, d8, d9, d10⟩ := an_cells HZ11.out
  go_wp2_with fail
  clear d0 d1 d2 d3 d4 d5 d6 d7 d8 d9 d10
  refine (FC.ask G2 pc ⟨pub, headsOf toldD2⟩ ⟨pub, headsOf toldD2⟩ bobT ⟨⟨x2.sgn, A2, ca2, B2, cb2⟩, C2, cc2, x2⟩ x2 ⟨#[]⟩ false 0 _ HC11.out (HK.out.below HB11.out HK.out.lt) (by rw [told_heads]; simp) (by decide) HA2.out.2.2 HJ11.out HN11.out.1 HN11.out.2.1 HN11.out.2.2 HA2.out.2.1).mono ?_
  rintro e w12 ⟨rfl, G3, ho12, hg12, hc12⟩
  rw [HE0.out]
  have HB12 := Lib.hid (HB11.out.trans (ho12.below (HN12.out) HB11.out.size))
  clear ho12 hg12 hc12
  go_wp2
  go_ret
  exact ⟨rfl, HB12.out⟩
end Go.Proofs.YtgjmbokfenpefaaGreatDoor
/- The keeps' few: acts few and short enough. (An act lies as a head does: a number and two texts.) -/
namespace Go.Proofs.YtgjmbokfenpefaaGreatDoor
open Go.RowKit

def longAct (x : Hd) : Bool := decide (40 < x.root.size) || decide (60 < x.prev.size)
set_option maxRecDepth 100000 in
theorem few1_any (x : Hd) (w : World) :
    Calls Tryz.prog 51 #[.agg #[.int .i64 x.epoch, .string x.root, .string x.prev]] w fun e w' => e = .returned (.bool (longAct x)) ∧ Below w.heap.size w w' := by
  have HB := Lib.hid (alloc_below w (.cells #[.int .i64 x.epoch, .string x.root, .string x.prev] 86))
  go_enter Tryz.func51, Tryz.ntmps51
  by_cases h : 40 < x.root.size
  · go_wp2
    go_ret
    exact ⟨by unfold longAct; simp [h], HB.out⟩
  · by_cases h2 : 60 < x.prev.size
    · go_wp2
      go_ret
      exact ⟨by unfold longAct; simp [h2]; omega, HB.out⟩
    · go_wp2
      go_ret
      exact ⟨by unfold longAct; simp [h, h2]; omega, HB.out⟩
set_option maxRecDepth 100000 in
theorem fewIx_any (L : List Hd) (A : Option Addr) (cap : Nat) (w : World) (hm : Hds w A L) (hl : L.length ≤ 1000000) :
    Calls Tryz.prog 85 #[.slice A L.length cap, .func (.func 51) #[] #[]] w fun e w' => Below w.heap.size w w' ∧ ∃ n : Int, e = .returned (.int .i64 n) ∧ (0 ≤ n ∨ n = -1 ∧ L.all (fun x => !longAct x) = true) := by
  have HM := Lib.hid hm
  clear hm
  go_enter Tryz.func85, Tryz.ntmps85
  go_wp2
  go_loopw [8] (fun i wr => ∃ k : Nat, k ≤ L.length ∧ i = .int .i64 (k : Int) ∧ Below w.heap.size w wr ∧ (L.take k).all (fun x => !longAct x) = true) (fun i _ => L.length - (intOf i).toNat)
  case atStart => exact ⟨0, by omega, rfl, Below.refl _ _, rfl⟩
  case round =>
    obtain ⟨k, hk, rfl, hb, hall⟩ := hrel
    have HB := Lib.hid hb
    have HALL := Lib.hid hall
    clear hb hall
    by_cases hlt : k < L.length
    · have hmk := Hds.below HM.out HB.out
      obtain ⟨a, rfl, hal, c0, c1, c2⟩ := hmk.at_ hlt
      have d1 : wr.cell? ⟨(a.add (k * 3)).block, (a.add (k * 3)).off + 1, none⟩ = some (.string (hdAt L k).root) := c1
      have d2 : wr.cell? ⟨(a.add (k * 3)).block, (a.add (k * 3)).off + 2, none⟩ = some (.string (hdAt L k).prev) := c2
      have HX := Lib.hid (show L[k]? = some (hdAt L k) by rw [List.getElem?_eq_getElem hlt, hdAt_of hlt])
      clear hmk c1 c2
      generalize hdAt L k = x at c0 d1 d2 HX
      go_wp2_with fail
      refine (few1_any x _).mono ?_
      rintro e w1 ⟨rfl, hb1⟩
      have HB1 := Lib.hid (HB.out.trans (hb1.mono HB.out.size))
      clear hb1 c0 d1 d2
      generalize hq : longAct x = q
      have HQ := Lib.hid hq
      clear hq
      cases q with
      | true =>
        go_wp2
        go_ret
        exact ⟨HB1.out, k, rfl, .inl (by omega)⟩
      | false =>
        go_wp2
        go_roundw
        case rel =>
          refine ⟨k + 1, by omega, by go_num, HB1.out, ?_⟩
          rw [List.take_add_one, HX.out, List.all_append, HALL.out]
          simp [HQ.out]
        case measure => simp [intOf]; omega
    · go_wp2
      go_ret
      have he : L.take k = L := List.take_of_length_le (by omega)
      exact ⟨HB.out, -1, rfl, .inr ⟨rfl, by have := HALL.out; rw [he] at this; exact this⟩⟩
theorem fewHas_any (L : List Hd) (A : Option Addr) (cap : Nat) (w : World) (hm : Hds w A L) (hl : L.length ≤ 1000000) :
    Calls Tryz.prog 50 #[.slice A L.length cap, .func (.func 51) #[] #[]] w fun e w' => Below w.heap.size w w' ∧ ∃ b, e = .returned (.bool b) ∧ (b = false → L.all (fun x => !longAct x) = true) := by
  have HM := Lib.hid hm
  clear hm
  go_enter Tryz.func50, Tryz.ntmps50
  go_wp2_with fail
  refine (fewIx_any L A cap _ HM.out hl).mono ?_
  rintro e w1 ⟨hb, n, rfl, hn⟩
  have HB := Lib.hid hb
  clear hb
  rcases hn with hn | ⟨rfl, hn⟩
  · go_wp2
    go_ret
    exact ⟨HB.out, true, rfl, fun h => by cases h⟩
  · have HN := Lib.hid hn
    clear hn
    go_wp2
    go_ret
    exact ⟨HB.out, false, rfl, fun _ => HN.out⟩
/-- Few acts, and short ones. -/
theorem few_any (L : List Hd) (A : Option Addr) (cap : Nat) (w : World) (hm : Hds w A L) :
    Calls Tryz.prog 22 #[.slice A L.length cap] w fun e w' => Below w.heap.size w w' ∧ ∃ b, e = .returned (.bool b) ∧ (b = true → L.length ≤ 20 ∧ ∀ x ∈ L, x.root.size ≤ 40 ∧ x.prev.size ≤ 60) := by
  have HM := Lib.hid hm
  clear hm
  by_cases hl : L.length ≤ 20
  · go_enter Tryz.func22, Tryz.ntmps22
    go_wp2_with fail
    refine (fewHas_any L A cap _ HM.out (by omega)).mono ?_
    rintro e w1 ⟨hb, b, rfl, hn⟩
    have HB := Lib.hid hb
    have HN := Lib.hid hn
    clear hb hn
    cases b with
    | true =>
      go_wp2
      go_ret
      exact ⟨HB.out, false, rfl, fun h => by cases h⟩
    | false =>
      have HN2 := Lib.hid (HN.out rfl)
      clear HN
      go_wp2
      go_ret
      refine ⟨HB.out, true, rfl, fun _ => ⟨hl, fun x hx => ?_⟩⟩
      have := List.all_eq_true.1 HN2.out x hx
      unfold longAct at this
      simp at this
      omega
  · go_enter Tryz.func22, Tryz.ntmps22
    go_wp2
    go_ret
    exact ⟨Below.refl _ _, rfl⟩
end Go.Proofs.YtgjmbokfenpefaaGreatDoor
/- The keeps' apart: no two names lie at one place. -/
namespace Go.Proofs.YtgjmbokfenpefaaGreatDoor
open Go.RowKit Go.Maps

/-- What the map of places tells. -/
structure ApAt (w wr : World) (mp : Nat) (N : List (ByteArray × ByteArray)) (T : List ByteArray) (k : Nat) : Prop where
  below : Below w.heap.size w wr
  map : MapIs kS wr mp N
  base : w.heap.size ≤ mp
  len : N.length ≤ k
  at' : ∀ s ∈ T, nameOk s.data.toList = true → look N (ofAns s).1 = some s
end Go.Proofs.YtgjmbokfenpefaaGreatDoor
