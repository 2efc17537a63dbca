/- Parts of the proof, one behind the other: SpoiltC, ClientLaw. -/
import Derived.WalkKit
import Derived.Lib.Hide
import Derived.WalkLawsBesides
import Derived.Deep.QuietTactic
import Derived.Deep.WholeRow
import Derived.ArgAppend
import Derived.Laws.AppendOwnNone
import Derived.Laws.CopyRow
import Derived.Deep.RegionLaw
import Derived.Laws.BytesString
import Derived.Laws.IdiomStrings
import Derived.Test.YtgjmbokfenpefaaGreatDoorProg
import Derived.StringKeys
import Derived.Maps.Own
import Derived.Maps.Views
import Derived.Maps.OwnSet
import Derived.Maps.OwnOps
import Derived.Maps.RangeWalk
import Derived.Sort.KeysCollected
import Derived.Laws.BitsAllLaws
import Derived.Outline
import Derived.BigQuiet
import Derived.Laws.CopyOwn
import Derived.RegionTactic
import Derived.StillTail
import Derived.Deep.Quiet
import Derived.Deep.RegionHeld3
import Derived.Deep.DeepCutAuto
import Derived.Laws.ResultCell
import Derived.IntWalk
import Derived.Sort.Walk0
import Derived.Tactics
import Derived.Orders
import Derived.LaidEql
import Derived.Stop.Asserts
import Derived.RowKitTokens
import Derived.OrdersHeld
import Derived.Sort.LotA
import Derived.Lib.SortBridge
import Derived.Deep.AppendSrc
import Derived.Shelf.SlSortFuncK.WholeK
import Derived.Ground.GgsProg
import Derived.Shelf.GgSortFunc.Tiny
import Derived.Deep.CutRange
import Derived.Shelf.Strings.Repeat
import Derived.KernelRfl
import Derived.Laws.StructEq
import Derived.WideKeyEntry
import Derived.Test.YtgjmbokfenpefaaGreatDoorM1
import Derived.Test.YtgjmbokfenpefaaGreatDoorM2
import Derived.Test.YtgjmbokfenpefaaGreatDoorM3
import Derived.Test.YtgjmbokfenpefaaGreatDoorM4
import Derived.Test.YtgjmbokfenpefaaGreatDoorM5
import Derived.Test.YtgjmbokfenpefaaGreatDoorM6
import Derived.Test.YtgjmbokfenpefaaGreatDoorM7
import Derived.Test.YtgjmbokfenpefaaGreatDoorM8
import Derived.Test.YtgjmbokfenpefaaGreatDoorM12
import Derived.Test.YtgjmbokfenpefaaGreatDoorM13
import Derived.Test.YtgjmbokfenpefaaGreatDoorM16
import Derived.Test.YtgjmbokfenpefaaGreatDoorM33
import Derived.Test.YtgjmbokfenpefaaGreatDoorM34
import Derived.Test.YtgjmbokfenpefaaGreatDoorM35
import Derived.Test.YtgjmbokfenpefaaGreatDoorM36
import Derived.Test.YtgjmbokfenpefaaGreatDoorM37
import Derived.Test.YtgjmbokfenpefaaGreatDoorM38
import Derived.Test.YtgjmbokfenpefaaGreatDoorM39
import Derived.Test.YtgjmbokfenpefaaGreatDoorM40
import Derived.Test.YtgjmbokfenpefaaGreatDoorM41
import Derived.Test.YtgjmbokfenpefaaGreatDoorM42
import Derived.Test.YtgjmbokfenpefaaGreatDoorM43
import Derived.Test.YtgjmbokfenpefaaGreatDoorM44
import Derived.Test.YtgjmbokfenpefaaGreatDoorM45
import Derived.Test.YtgjmbokfenpefaaGreatDoorM46
import Derived.Test.YtgjmbokfenpefaaGreatDoorM47
/- The law's spoilt: the first text of a seal. -/
namespace Go.Proofs.YtgjmbokfenpefaaGreatDoor
open Go.RowKit

set_option maxHeartbeats 4000000 in
set_option maxRecDepth 100000 in
theorem spoilt_8t (h : Hd) (key : Int) (S P W : List ByteArray) (x : It) (o vl : ByteArray) (A B C : Option Addr) (ca cb cc : Nat) (hs3 : 3 < S.length) (w : World) (hA : Strs w A S) (hB : Strs w B P) (hW : Strs w C W) (hls : S.length ≤ 1000) (_hlw : W.length ≤ 1000)
    (_ho : o.size ≤ 1000000) (_hv : vl.size ≤ 1000000) (_hx2 : x.2.size ≤ 1000000) (_hrt : h.root.size ≤ 1000000) (hca : S.length ≤ ca) (hsg : ∀ p ∈ S, p.size ≤ 1000000) :
    Calls Tryz.prog 15 #[.agg #[.int .i64 h.epoch, .string h.root, .string h.prev, .int .i64 key, .slice A S.length ca, .slice B P.length cb, .slice C W.length cc, .string x.1, .string x.2, .string o, .string vl], .int .i64 8] w fun e w' => ∃ m' : AnM,
      e = .returned (.agg m'.cells) ∧ AnIn w' m' (spoiltA ⟨⟨h, key, S, P⟩, W, x, o, vl⟩ 8) ∧ AnNear w ⟨⟨⟨h, key, S, P⟩, A, ca, B, cb⟩, C, cc, ⟨⟨h, key, S, P⟩, W, x, o, vl⟩⟩ m' ∧ Below w.heap.size w w' := by
  have HA := Lib.hid hA
  have HB := Lib.hid hB
  have HW := Lib.hid hW
  have HAL := Lib.hid hA.lt
  have HBL := Lib.hid hB.lt
  have HWL := Lib.hid hW.lt
  have HSG := Lib.hid hsg
  have HB0 := Lib.hid (show Below w.heap.size w ((w.alloc (.cells #[.int .i64 h.epoch, .string h.root, .string h.prev, .int .i64 key, .slice A S.length ca, .slice B P.length cb, .slice C W.length cc, .string x.1, .string x.2, .string o, .string vl] 63)).alloc (.cells #[.int .i64 0, .string ⟨#[]⟩, .string ⟨#[]⟩, .int .i64 0, .slice none 0 0, .slice none 0 0, .slice none 0 0, .string ⟨#[]⟩, .string ⟨#[]⟩, .string ⟨#[]⟩, .string ⟨#[]⟩] 63)) from
    ((Below.refl _ w).alloc (Nat.le_refl _) _).alloc (by simp) _)
  have HX0 := Lib.hid (show Holds ((w.alloc (.cells #[.int .i64 h.epoch, .string h.root, .string h.prev, .int .i64 key, .slice A S.length ca, .slice B P.length cb, .slice C W.length cc, .string x.1, .string x.2, .string o, .string vl] 63)).alloc (.cells #[.int .i64 0, .string ⟨#[]⟩, .string ⟨#[]⟩, .int .i64 0, .slice none 0 0, .slice none 0 0, .slice none 0 0, .string ⟨#[]⟩, .string ⟨#[]⟩, .string ⟨#[]⟩, .string ⟨#[]⟩] 63)) w.heap.size 11 (anF ⟨⟨h, key, S, P⟩, A, ca, B, cb⟩ C W.length cc x o vl) 63 from
    (Holds.new w 11 (anF ⟨⟨h, key, S, P⟩, A, ca, B, cb⟩ C W.length cc x o vl) 63).alloc _)
  have HZ0 := Lib.hid (show Holds ((w.alloc (.cells #[.int .i64 h.epoch, .string h.root, .string h.prev, .int .i64 key, .slice A S.length ca, .slice B P.length cb, .slice C W.length cc, .string x.1, .string x.2, .string o, .string vl] 63)).alloc (.cells #[.int .i64 0, .string ⟨#[]⟩, .string ⟨#[]⟩, .int .i64 0, .slice none 0 0, .slice none 0 0, .slice none 0 0, .string ⟨#[]⟩, .string ⟨#[]⟩, .string ⟨#[]⟩, .string ⟨#[]⟩] 63)) (w.heap.size + 1) 11 noAnF 63 from by
    have h1 := Holds.new (w.alloc (.cells #[.int .i64 h.epoch, .string h.root, .string h.prev, .int .i64 key, .slice A S.length ca, .slice B P.length cb, .slice C W.length cc, .string x.1, .string x.2, .string o, .string vl] 63)) 11 noAnF 63
    rw [World.size_alloc] at h1
    exact h1)
  clear hA hB hW hsg
  go_enter Tryz.func15, Tryz.ntmps15
  go_upto_region 1 with (fail)
  generalize ((w.alloc (.cells #[.int .i64 h.epoch, .string h.root, .string h.prev, .int .i64 key, .slice A S.length ca, .slice B P.length cb, .slice C W.length cc, .string x.1, .string x.2, .string o, .string vl] 63)).alloc (.cells #[.int .i64 0, .string ⟨#[]⟩, .string ⟨#[]⟩, .int .i64 0, .slice none 0 0, .slice none 0 0, .slice none 0 0, .string ⟨#[]⟩, .string ⟨#[]⟩, .string ⟨#[]⟩, .string ⟨#[]⟩] 63)) = w0 at HB0 HX0 HZ0 ⊢
  obtain ⟨c0, c1, c2, c3, c4, c5, c6, c7, c8, c9, c10⟩ := an_cells HX0.out
  have hs3' : (3 : Int) < (S.length : Int) := by omega
  obtain ⟨a, rfl, hal, s0⟩ := (HA.out.below HB0.out) 0 _ (List.getElem?_eq_getElem (show 0 < S.length by omega))
  obtain ⟨s, hs⟩ : ∃ s, S[0]'(by omega) = s := ⟨_, rfl⟩
  rw [hs] at s0
  have HSS := Lib.hid hs
  have HSZ := Lib.hid (show s.size ≤ 1000000 from HSG.out s (by rw [← hs]; exact List.getElem_mem _))
  clear hs
  have z0 : ∀ z : SpZ w.heap.size a S.length ca s, z.at'.cell? ⟨w.heap.size, 4, none⟩ = some (.slice (some a) S.length ca) := fun z => z.h0
  have z1 : ∀ z : SpZ w.heap.size a S.length ca s, z.at'.cell? (a.add 0) = some (.string s) := fun z => z.h1
  have z2 : ∀ z : SpZ w.heap.size a S.length ca s, z.at'.cell? a = some (.string s) := fun z => z.h2
  have zn : Nonempty (SpZ w.heap.size a S.length ca s) := ⟨⟨w0.drew, c4, s0, by rw [← show a.add 0 = a from rfl]; exact s0⟩⟩
  have i1 : (0 : Int) < (S.length : Int) := by omega
  have i2 : (1 : Int) ≤ (S.length : Int) := by omega
  have i3 : (S.length : Int) ≤ (ca : Int) := by omega
  have i4 : 1 ≤ S.length := by omega
  have i0 : 0 < S.length := by omega
  have i5 : ¬ ca = 1 := by omega
  go_upto_region 19 with (fail)
  refine wp_region_taken (fun w' => ∃ z : SpZ w.heap.size a S.length ca s, w' = z.at') [0, 1, 2, 3, 4, 5, 6, 9, 10, 11, 12, 13] [7, 8, 14, 15, 16, 17, 18] (by kernel_rfl) (by kernel_rfl) (by intro c d v a w h; cases d <;> exact h) ⟨⟨w0.drew, c4, s0, by rw [← show a.add 0 = a from rfl]; exact s0⟩, rfl⟩ ?_
  simp only [pickOps, List.filterMap_cons, List.filterMap_nil, List.getElem?_cons_zero, List.getElem?_cons_succ]
  repeat (first | go_big_quiet_step (fail) | quiet_step (fail))
  refine wpQuiet_nil ?_
  have HZZ := Lib.hid (show ∀ u : World, Below w0.heap.size w0 u → ∃ z : SpZ w.heap.size a S.length ca s, u = z.at' from fun u hu =>
    ⟨⟨u, (hu.cell (p := ⟨w.heap.size, 4, none⟩) HX0.out.lt).trans c4, (hu.cell (p := a.add 0) hal).trans s0, (hu.cell (p := a.add 0) hal).trans s0⟩, rfl⟩)
  have HAA := Lib.hid (show a.block < w.heap.size from HAL.out a rfl (by omega))
  clear z0 z1 z2 zn
  refine wpSeq_one rfl (fun K' hK => ?_)
  go_wp2_with fail
  refine (spoilX_any s _ HSZ.out).mono ?_
  rintro e w1 ⟨rfl, hb1⟩
  have HBA := Lib.hid (show Below w0.heap.size w0 w1 from (Below.refl _ _).drew.trans (hb1.mono (Nat.le_refl _)))
  clear hb1
  go_wp2
  refine hK _ _ (HZZ.out _ HBA.out) ?_
  clear hK K'
  refine wpSeq_one rfl (fun K' hK => ?_)
  go_wp2
  refine hK _ _ (HZZ.out _ (HBA.out.alloc HBA.out.size _)) ?_
  clear hK K'
  have HROW := Lib.hid (row_oneS w1 (spoilX s) 9)
  have HDR := Lib.hid (show Strs (w1.alloc (.cells #[.string (spoilX s)] 9)) (some ⟨a.block, a.off + 1, none⟩) (S.drop 1) from Strs.drop1 (((HA.out.below HB0.out).below HBA.out).below (alloc_below _ _)))
  refine wpSeq_one rfl (fun K' hK => ?_)
  refine wpList_append_texts rfl (.tmp 88) (.tmp 93) 53 rfl 9 Tryz.underlying53 _ infoStr rfl w1.heap.size 1 [spoilX s] rfl ⟨w1.heap.size, 0, none⟩ 1 rfl HROW.out (by simp) (by omega) (S.drop 1) (S.length - 1) (by simp) (some ⟨a.block, a.off + 1, none⟩) (ca - 1) rfl HDR.out (by omega) ?_
  intro v' w2 hrow2 hg2
  have hrow3 := hrow2.out
  rw [show 1 + (S.length - 1) = (spoilX s :: S.drop 1).length by simp; omega] at hrow3
  have hrow4 : Row w2 w1.heap.size 1 v' (spoilX s :: S.drop 1).length (stCells (spoilX s :: S.drop 1)) := hrow3
  have hb2 : Below w1.heap.size w1 w2 := ((Below.refl w1.heap.size w1).alloc (Nat.le_refl _) _).grown hg2.out (by simp) (fun j hj => (HROW.out.lt j hj).1)
  have HCAP := Lib.hid (show ∀ p c, v' = .slice p (spoilX s :: S.drop 1).length c → (spoilX s :: S.drop 1).length ≤ c from fun p c e => by
    rcases hrow4.2 with ⟨h1, h2⟩ | ⟨g, c', hv, _, _, hle, _⟩
    · simp at h2
    · rw [e] at hv
      injection hv with _ _ e3
      omega)
  obtain ⟨-, A', ca', rfl, hst⟩ := hrow4.strs
  have HBT := Lib.hid (show Below w0.heap.size w0 w2 from HBA.out.trans (hb2.mono HBA.out.size))
  have HB1 := Lib.hid (HB0.out.trans (HBT.out.mono HB0.out.size))
  have HX1 := Lib.hid (HX0.out.below HBT.out HX0.out.lt)
  have HZ1 := Lib.hid (HZ0.out.below HBT.out HZ0.out.lt)
  have HCB := Lib.hid (show ∀ b, A' = some b → w0.heap.size ≤ b.block from fun b e => Nat.le_trans HBA.out.size (hrow4.above b e (Nat.succ_pos _)))
  have HST := Lib.hid hst
  have HQL := Lib.hid (show w.heap.size + 1 < w0.heap.size from HZ0.out.lt)
  clear hrow2 hrow3 hrow4 hg2 hb2 hst c0 c1 c2 c3 c4 c5 c6 c7 c8 c9 c10 s0
  have t0 : w2.cell? ⟨w.heap.size, 4, none⟩ = some (.slice (some a) S.length ca) := HX1.out.cell 4 (by omega)
  have t1 : w2.frozen? ⟨w.heap.size, 4, none⟩ = false := HX1.out.free 4
  refine hK _ _ (HZZ.out _ HBT.out) ?_
  clear hK K'
  refine wpSeq_one rfl (fun K' hK => ?_)
  go_wp2
  refine hK _ _ (HZZ.out _ HBT.out) ?_
  clear hK K'
  refine wpSeq_one rfl (fun K' hK => ?_)
  go_wp2
  refine hK _ _ (HZZ.out _ HBT.out) ?_
  clear hK K'
  refine wpSeq_one rfl (fun K' hK => ?_)
  go_wp2
  refine hK _ _ (HZZ.out _ HBT.out) ?_
  clear hK K'
  refine wpSeq_last rfl (fun K' hK => ?_)
  go_wp2
  refine hK _ _ ?_
  clear hK K' t0 t1
  have HP := Lib.hid (show ∃ m' : AnM, SpAt w (w2.setCell ⟨w.heap.size, 4, none⟩ (.slice A' (spoilX s :: S.drop 1).length ca')) ⟨⟨⟨h, key, S, P⟩, some a, ca, B, cb⟩, C, cc, ⟨⟨h, key, S, P⟩, W, x, o, vl⟩⟩ m' (spoiltA ⟨⟨h, key, S, P⟩, W, x, o, vl⟩ 8) from ⟨⟨⟨⟨h, key, spoilX s :: S.drop 1, P⟩, A', ca', B, cb⟩, C, cc, ⟨⟨h, key, spoilX s :: S.drop 1, P⟩, W, x, o, vl⟩⟩, by
    rw [show spoiltA ⟨⟨h, key, S, P⟩, W, x, o, vl⟩ 8 = ⟨⟨h, key, spoilX s :: S.drop 1, P⟩, W, x, o, vl⟩ from by
      refine (if_pos hs3 : spoiltA ⟨⟨h, key, S, P⟩, W, x, o, vl⟩ 8 = _).trans ?_
      show (⟨⟨h, key, spoilX (S.getD 0 ⟨#[]⟩) :: S.drop 1, P⟩, W, x, o, vl⟩ : Answ) = _
      rw [show S.getD 0 ⟨#[]⟩ = s from by rw [List.getD_eq_getElem?_getD, List.getElem?_eq_getElem (show 0 < S.length by omega)]; exact HSS.out]]
    exact ⟨HX1.out.one 4 _ (fun j hj => by rcases (show j = 0 ∨ j = 1 ∨ j = 2 ∨ j = 3 ∨ j = 4 ∨ j = 5 ∨ j = 6 ∨ j = 7 ∨ j = 8 ∨ j = 9 ∨ j = 10 by omega) with rfl | rfl | rfl | rfl | rfl | rfl | rfl | rfl | rfl | rfl | rfl <;> rfl), HZ1.out.other (show w.heap.size + 1 ≠ w.heap.size by omega) _, HB1.out.setCell (Nat.le_refl _) _,
      ⟨rfl, rfl, Strs.box HST.out (fun b e l => by have := HCB.out b e; have := HQL.out; omega) _ _, Strs.box (HB.out.below HB1.out) (fun a e l => by have := HBL.out a e l; omega) _ _, Strs.box (HW.out.below HB1.out) (fun a e l => by have := HWL.out a e l; omega) _ _, HCAP.out A' ca' rfl⟩,
      ⟨.inr fun b e => by have := HCB.out b e; have := HQL.out; omega, ⟨rfl, rfl⟩, .inl ⟨rfl, rfl⟩⟩, (fun b e l => by have := HCB.out b e; have := HQL.out; omega), (fun a e l => by have := HBL.out a e l; omega), (fun a e l => by have := HWL.out a e l; omega)⟩⟩)
  rw [show (spoilX s :: S.drop 1).length = S.length by simp; omega] at HP
  clear hs3' i0 i1 i2 i3 i4 i5 hal HZZ HAA HSZ HSS HBA HBT HQL hs3
  go_upto_region 20 with (fail)
  clear HB1 HX1 HZ1 HB0 HX0 HZ0 HROW HST HDR HCAP HCB
  generalize w2.setCell ⟨w.heap.size, 4, none⟩ (.slice A' S.length ca') = wz at HP ⊢
  all_goals
    obtain ⟨m', hsp⟩ := HP.out
    have HSP := Lib.hid hsp
    obtain ⟨d0, d1, d2, d3, d4, d5, d6, d7, d8, d9, d10⟩ := an_cells (show Holds wz w.heap.size 11 (anF m'.sg m'.C m'.a.path.length m'.cc m'.a.leaf m'.a.opening m'.a.value) 63 from hsp.box)
    obtain ⟨z0, z1, z2, z3, z4, z5, z6, z7, z8, z9, z10⟩ := an_cells (show Holds wz (w.heap.size + 1) 11 (anF noM none 0 0 noIt ⟨#[]⟩ ⟨#[]⟩) 63 from hsp.res)
    have f0 := hsp.res.free 0
    have f1 := hsp.res.free 1
    have f2 := hsp.res.free 2
    have f3 := hsp.res.free 3
    have f4 := hsp.res.free 4
    have f5 := hsp.res.free 5
    have f6 := hsp.res.free 6
    have f7 := hsp.res.free 7
    have f8 := hsp.res.free 8
    have f9 := hsp.res.free 9
    have f10 := hsp.res.free 10
    have HFIN := Lib.hid (put11_holds hsp.res m'.sg m'.C m'.a.path.length m'.cc m'.a.leaf m'.a.opening m'.a.value)
    have HFB := Lib.hid (put11_below hsp.below (Nat.le_succ _) m'.sg m'.C m'.a.path.length m'.cc m'.a.leaf m'.a.opening m'.a.value)
    have HAN := Lib.hid (show AnIn (put11 wz (w.heap.size + 1) m'.sg m'.C m'.a.path.length m'.cc m'.a.leaf m'.a.opening m'.a.value) m' _ from
      ⟨hsp.is.is, hsp.is.sgn, put11_box hsp.is.sig (fun a e l => hsp.ga a e (by rw [hsp.is.sgn]; exact l)) _ _ _ _ _ _ _, put11_box hsp.is.path (fun a e l => hsp.gb a e (by rw [hsp.is.sgn]; exact l)) _ _ _ _ _ _ _, put11_box hsp.is.way (fun a e l => hsp.gc a e (by rw [hsp.is.is]; exact l)) _ _ _ _ _ _ _, hsp.is.cap⟩)
    clear hsp HP
    go_wp2
    refine bodyPost_ret (results_cell_row rfl _ _ (w.heap.size + 1) 63 (arr 11 (anFM m')) (0, 0) _ rfl HFIN.out Tryz.underlying63 rfl (by rw [arr_size]; exact infoAnsw)) rfl ?_
    exact ⟨m', rfl, HAN.out, HSP.out.near, HFB.out⟩
set_option maxRecDepth 100000 in
theorem spoilt_at (h : Hd) (key : Int) (S P W : List ByteArray) (x : It) (o vl : ByteArray) (A B C : Option Addr) (ca cb cc : Nat) (k : Int) (w : World) (hA : Strs w A S) (hB : Strs w B P) (hW : Strs w C W) (hls : S.length ≤ 1000) (hlw : W.length ≤ 1000)
    (ho : o.size ≤ 1000000) (hv : vl.size ≤ 1000000) (hx2 : x.2.size ≤ 1000000) (hrt : h.root.size ≤ 1000000) (hca : S.length ≤ ca) (hsg : ∀ p ∈ S, p.size ≤ 1000000) :
    Calls Tryz.prog 15 #[.agg #[.int .i64 h.epoch, .string h.root, .string h.prev, .int .i64 key, .slice A S.length ca, .slice B P.length cb, .slice C W.length cc, .string x.1, .string x.2, .string o, .string vl], .int .i64 k] w fun e w' => ∃ m' : AnM,
      e = .returned (.agg m'.cells) ∧ AnIn w' m' (spoiltA ⟨⟨h, key, S, P⟩, W, x, o, vl⟩ k) ∧ AnNear w ⟨⟨⟨h, key, S, P⟩, A, ca, B, cb⟩, C, cc, ⟨⟨h, key, S, P⟩, W, x, o, vl⟩⟩ m' ∧ Below w.heap.size w w' := by
  by_cases h7 : k = 7
  · subst h7
    exact spoilt_7 h key S P W x o vl A B C ca cb cc w hA hB hW hls hlw ho hv hx2 hrt hca hsg
  · by_cases h8 : k = 8
    · subst h8
      by_cases hs3 : 3 < S.length
      · exact spoilt_8t h key S P W x o vl A B C ca cb cc hs3 w hA hB hW hls hlw ho hv hx2 hrt hca hsg
      · exact spoilt_8f h key S P W x o vl A B C ca cb cc hs3 w hA hB hW hls hlw ho hv hx2 hrt hca hsg
    · exact spoilt_a h key S P W x o vl A B C ca cb cc k h7 h8 w hA hB hW hls hlw ho hv hx2 hrt hca hsg
end Go.Proofs.YtgjmbokfenpefaaGreatDoor
/- ClientSees, the walk, over whatever contracts the program's client keeps. -/
namespace Go.Proofs.YtgjmbokfenpefaaGreatDoor
open Go.RowKit

theorem t16_size : (⟨#[48, 49, 50, 51, 52, 53, 54, 55, 56, 57, 97, 98, 99, 100, 101, 102]⟩ : ByteArray).size = 16 := rfl
theorem field0_answ (v0 v1 v2 v3 v4 v5 v6 v7 v8 v9 v10 : Value) (u : World) : (Instr.field 63 (.agg #[v0, v1, v2, v3, v4, v5, v6, v7, v8, v9, v10]) 0).run Tryz.prog u = .ok (.agg #[v0, v1, v2, v3, v4, v5]) u := by kernel_rfl
theorem six_below {B : Nat} {u w : World} {b : Nat} {v0 v1 v2 v3 v4 v5 : Value} (h : Below B u w) (hb : B ≤ b) : Below B u ((((((w.setCell ⟨b, 0, none⟩ v0).setCell ⟨b, 1, none⟩ v1).setCell ⟨b, 2, none⟩ v2).setCell ⟨b, 3, none⟩ v3).setCell ⟨b, 4, none⟩ v4).setCell ⟨b, 5, none⟩ v5) :=
  (((((h.setCell (p := ⟨b, 0, none⟩) hb _).setCell (p := ⟨b, 1, none⟩) hb _).setCell (p := ⟨b, 2, none⟩) hb _).setCell (p := ⟨b, 3, none⟩) hb _).setCell (p := ⟨b, 4, none⟩) hb _).setCell (p := ⟨b, 5, none⟩) hb _
theorem sg_cellsC {w : World} {b : Nat} {h : Hd} {key : Int} {u v : Value} {t : TypeId} (hh : Holds w b 6 (sgF h key u v) t) :
    w.cell? ⟨b, 0, none⟩ = some (.int .i64 h.epoch) ∧ w.cell? ⟨b, 1, none⟩ = some (.string h.root) ∧ w.cell? ⟨b, 2, none⟩ = some (.string h.prev) ∧ w.cell? ⟨b, 3, none⟩ = some (.int .i64 key) ∧ w.cell? ⟨b, 4, none⟩ = some u ∧ w.cell? ⟨b, 5, none⟩ = some v :=
  ⟨hh.cell 0 (by omega), hh.cell 1 (by omega), hh.cell 2 (by omega), hh.cell 3 (by omega), hh.cell 4 (by omega), hh.cell 5 (by omega)⟩
/-- A signed head, spoilt, and where it lies. -/
structure SpoiltIn (w' : World) (N : Nat) (w : World) (mm : SgM) (s2 : Sgn) (A2 B2 : Option Addr) (s : Sgn) : Prop where
  is : s2 = s
  sig : Strs w' A2 s2.sig
  path : Strs w' B2 s2.path
  nearA : A2 = mm.A ∧ s2.sig.length = mm.s.sig.length ∨ ∀ b, A2 = some b → N ≤ b.block
  nearB : B2 = mm.B ∧ s2.path = mm.s.path
  below : Below w.heap.size w w'
/-- The same, stored in a box of its own. -/
structure SpoiltBox (wt : World) (sb : Nat) (w : World) (mm : SgM) (s2 : Sgn) (A2 B2 : Option Addr) (ca2 cb2 : Nat) (s : Sgn) : Prop where
  box : Holds wt sb 6 (sgF s2.head s2.key (.slice A2 s2.sig.length ca2) (.slice B2 s2.path.length cb2)) 57
  ge : w.heap.size ≤ sb
  is : s2 = s
  sig : Strs wt A2 s2.sig
  path : Strs wt B2 s2.path
  nearA : A2 = mm.A ∧ s2.sig.length = mm.s.sig.length ∨ ∀ b, A2 = some b → w.heap.size ≤ b.block
  nearB : B2 = mm.B ∧ s2.path = mm.s.path
  below : Below w.heap.size w wt
theorem SpoiltIn.later {w6 w : World} {mm : SgM} {s2 s : Sgn} {A2 B2 : Option Addr} {ca2 cb2 : Nat} (h : SpoiltIn w6 w.heap.size w mm s2 A2 B2 s) :
    SpoiltBox (w6.alloc (.cells #[.int .i64 s2.head.epoch, .string s2.head.root, .string s2.head.prev, .int .i64 s2.key, .slice A2 s2.sig.length ca2, .slice B2 s2.path.length cb2] 57)) w6.heap.size w mm s2 A2 B2 ca2 cb2 s :=
  ⟨Holds.new w6 6 (sgF s2.head s2.key (.slice A2 s2.sig.length ca2) (.slice B2 s2.path.length cb2)) 57, h.below.size, h.is, h.sig.below (alloc_below _ _), h.path.below (alloc_below _ _), h.nearA, h.nearB, h.below.alloc h.below.size _⟩
theorem SpoiltIn.stored {w6 w : World} {mm : SgM} {s2 s : Sgn} {A2 B2 : Option Addr} {ca2 cb2 : Nat} {f : Nat → Value} (h : SpoiltIn w6 (w.heap.size + 1) w mm s2 A2 B2 s) (hh : Holds w6 w.heap.size 6 f 57)
    (ha : ∀ a, mm.A = some a → 0 < mm.s.sig.length → a.block < w.heap.size) (hb : ∀ a, mm.B = some a → 0 < mm.s.path.length → a.block < w.heap.size) :
    SpoiltBox ((((((w6.setCell ⟨w.heap.size, 0, none⟩ (.int .i64 s2.head.epoch)).setCell ⟨w.heap.size, 1, none⟩ (.string s2.head.root)).setCell ⟨w.heap.size, 2, none⟩ (.string s2.head.prev)).setCell ⟨w.heap.size, 3, none⟩ (.int .i64 s2.key)).setCell ⟨w.heap.size, 4, none⟩ (.slice A2 s2.sig.length ca2)).setCell ⟨w.heap.size, 5, none⟩ (.slice B2 s2.path.length cb2)) w.heap.size w mm s2 A2 B2 ca2 cb2 s := by
  have hA : ∀ b, A2 = some b → 0 < s2.sig.length → b.block ≠ w.heap.size := fun b e l => by
    rcases h.nearA with ⟨h1, h2⟩ | h1
    · have := ha b (h1 ▸ e) (h2 ▸ l); omega
    · have := h1 b e; omega
  have hB : ∀ b, B2 = some b → 0 < s2.path.length → b.block ≠ w.heap.size := fun b e l => by
    have := hb b (h.nearB.1 ▸ e) (h.nearB.2 ▸ l); omega
  exact ⟨put6_holds hh s2.head s2.key (.slice A2 s2.sig.length ca2) (.slice B2 s2.path.length cb2), Nat.le_refl _, h.is, ((((((h.sig.box hA _ _).box hA _ _).box hA _ _).box hA _ _).box hA _ _).box hA _ _), ((((((h.path.box hB _ _).box hB _ _).box hB _ _).box hB _ _).box hB _ _).box hB _ _),
    h.nearA.imp id (fun g b e => by have := g b e; omega), h.nearB, six_below h.below (Nat.le_refl _)⟩
/-- Worlds in which a signed head lies. -/
structure SgZ (b : Nat) (s : Sgn) (A : Option Addr) (ca : Nat) (B : Option Addr) (cb : Nat) where
  at' : World
  h0 : at'.cell? ⟨b, 0, none⟩ = some (.int .i64 s.head.epoch)
  h1 : at'.cell? ⟨b, 1, none⟩ = some (.string s.head.root)
  h2 : at'.cell? ⟨b, 2, none⟩ = some (.string s.head.prev)
  h3 : at'.cell? ⟨b, 3, none⟩ = some (.int .i64 s.key)
  h4 : at'.cell? ⟨b, 4, none⟩ = some (.slice A s.sig.length ca)
  h5 : at'.cell? ⟨b, 5, none⟩ = some (.slice B s.path.length cb)
theorem Holds.beside {F : Nat → Prop} {w w' : World} {b n : Nat} {f : Nat → Value} {t : TypeId} (h : Holds w b n f t) (ho : Off F w w') (hn : ¬ F b) : Holds w' b n f t := by
  have hl := h.lt
  unfold Holds at h ⊢
  rw [ho.block b hl hn]; exact h
def SpoiltAt (e : Ending) (w' : World) (N : Nat) (w : World) (mm : SgM) (s : Sgn) : Prop := ∃ (s2 : Sgn) (A2 : Option Addr) (ca2 : Nat) (B2 : Option Addr) (cb2 : Nat) (v6 v7 v8 v9 v10 : Value), e = .returned (.agg #[.int .i64 s2.head.epoch, .string s2.head.root, .string s2.head.prev, .int .i64 s2.key, .slice A2 s2.sig.length ca2, .slice B2 s2.path.length cb2, v6, v7, v8, v9, v10]) ∧
  s2 = s ∧ Strs w' A2 s2.sig ∧ Strs w' B2 s2.path ∧ (A2 = mm.A ∧ s2.sig.length = mm.s.sig.length ∨ ∀ b, A2 = some b → N ≤ b.block) ∧ (B2 = mm.B ∧ s2.path = mm.s.path) ∧ Below w.heap.size w w'
end Go.Proofs.YtgjmbokfenpefaaGreatDoor
