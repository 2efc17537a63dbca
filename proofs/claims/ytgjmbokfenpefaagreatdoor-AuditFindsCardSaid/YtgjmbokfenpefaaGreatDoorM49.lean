/- Parts of the proof, one behind the other: AuditLaw. -/
import Derived.WalkKit
import Derived.Lib.Hide
import Derived.WalkLawsBesides
import Derived.Deep.QuietTactic
import Derived.Deep.WholeRow
import Derived.ArgAppend
import Derived.Laws.AppendOwnNone
import Derived.Laws.CopyRow
import Derived.Deep.RegionLaw
import Derived.Laws.BytesString
import Derived.Laws.IdiomStrings
import Derived.Test.YtgjmbokfenpefaaGreatDoorProg
import Derived.StringKeys
import Derived.Maps.Own
import Derived.Maps.Views
import Derived.Maps.OwnSet
import Derived.Maps.OwnOps
import Derived.Maps.RangeWalk
import Derived.Sort.KeysCollected
import Derived.Laws.BitsAllLaws
import Derived.Outline
import Derived.BigQuiet
import Derived.Laws.CopyOwn
import Derived.RegionTactic
import Derived.StillTail
import Derived.Deep.Quiet
import Derived.Deep.RegionHeld3
import Derived.Deep.DeepCutAuto
import Derived.Laws.ResultCell
import Derived.IntWalk
import Derived.Sort.Walk0
import Derived.Tactics
import Derived.Orders
import Derived.LaidEql
import Derived.Stop.Asserts
import Derived.RowKitTokens
import Derived.OrdersHeld
import Derived.Sort.LotA
import Derived.Lib.SortBridge
import Derived.Deep.AppendSrc
import Derived.Shelf.SlSortFuncK.WholeK
import Derived.Ground.GgsProg
import Derived.Shelf.GgSortFunc.Tiny
import Derived.Shelf.Strings.Repeat
import Derived.KernelRfl
import Derived.Laws.StructEq
import Derived.WideKeyEntry
import Derived.Deep.CutRange
import Derived.Test.YtgjmbokfenpefaaGreatDoorM1
import Derived.Test.YtgjmbokfenpefaaGreatDoorM2
import Derived.Test.YtgjmbokfenpefaaGreatDoorM3
import Derived.Test.YtgjmbokfenpefaaGreatDoorM4
import Derived.Test.YtgjmbokfenpefaaGreatDoorM5
import Derived.Test.YtgjmbokfenpefaaGreatDoorM6
import Derived.Test.YtgjmbokfenpefaaGreatDoorM7
import Derived.Test.YtgjmbokfenpefaaGreatDoorM8
import Derived.Test.YtgjmbokfenpefaaGreatDoorM9
import Derived.Test.YtgjmbokfenpefaaGreatDoorM12
import Derived.Test.YtgjmbokfenpefaaGreatDoorM13
import Derived.Test.YtgjmbokfenpefaaGreatDoorM14
import Derived.Test.YtgjmbokfenpefaaGreatDoorM15
import Derived.Test.YtgjmbokfenpefaaGreatDoorM16
import Derived.Test.YtgjmbokfenpefaaGreatDoorM33
import Derived.Test.YtgjmbokfenpefaaGreatDoorM34
import Derived.Test.YtgjmbokfenpefaaGreatDoorM35
import Derived.Test.YtgjmbokfenpefaaGreatDoorM36
import Derived.Test.YtgjmbokfenpefaaGreatDoorM37
import Derived.Test.YtgjmbokfenpefaaGreatDoorM38
import Derived.Test.YtgjmbokfenpefaaGreatDoorM39
import Derived.Test.YtgjmbokfenpefaaGreatDoorM40
import Derived.Test.YtgjmbokfenpefaaGreatDoorM41
import Derived.Test.YtgjmbokfenpefaaGreatDoorM42
import Derived.Test.YtgjmbokfenpefaaGreatDoorM43
import Derived.Test.YtgjmbokfenpefaaGreatDoorM44
import Derived.Test.YtgjmbokfenpefaaGreatDoorM45
import Derived.Test.YtgjmbokfenpefaaGreatDoorM46
import Derived.Test.YtgjmbokfenpefaaGreatDoorM47
import Derived.Test.YtgjmbokfenpefaaGreatDoorM48
/- AuditFinds, the walk, over whatever contracts the program's auditor keeps. -/
namespace Go.Proofs.YtgjmbokfenpefaaGreatDoor
open Go.RowKit

theorem stoodF : Tryz.prog.stoodInHeld 73 = false := by kernel_rfl
theorem forkFields : Tryz.prog.underlying 73 = some (.struct (Tryz.prog.fieldsOf 73)) := by kernel_rfl
theorem run_neq_fork (f : Fk) (w : World) : (binOp .neq 73 (.agg #[.string f.a, .string f.b, .int .i64 f.epoch]) (.agg #[.string f.a, .string f.b, .int .i64 f.epoch])).run Tryz.prog w = .ok (.bool false) w := by
  rw [run_neq_struct, run_equalIn_agg _ 9999 _ _ _ forkFields stoodF]
  go_simp
theorem AuOk.more {a : Au} {n : Nat} (h : AuOk a n) : AuOk a (n + 1) := ⟨h.pub, h.keys, h.short, Nat.le_succ_of_le h.few, fun s c hc => ⟨(h.mine s c hc).1, Nat.le_succ_of_le (h.mine s c hc).2⟩⟩
set_option maxHeartbeats 8000000 in
set_option maxRecDepth 100000 in
theorem auditFinds_any (FA : AuditFace) (L M : List Hd) (D : List Dd) (A B C : Option Addr) (ca cb cc : Nat) (w : World) (hk : HasK w) (ha : Hds w A L) (hb : Hds w B M) (hd : Dds w C D) (hg : w.cell? ⟨0, 0, none⟩ = some (.iface 247 (.agg #[hand 44]))) :
    Calls Tryz.prog 3 #[.slice A L.length ca, .slice B M.length cb, .slice C D.length cc] w fun e w' => e = .returned (.bool true) ∧ Below w.heap.size w w' := by
  have HLT := Lib.hid (show (0 : Nat) < w.heap.size from block_lt_of_cell hg)
  have HK := Lib.hid hk
  have HA := Lib.hid ha
  have HBM := Lib.hid hb
  have HD := Lib.hid hd
  have HG := Lib.hid hg
  have HAL := Lib.hid ha.lt
  have HBL := Lib.hid hb.lt
  have HDL := Lib.hid hd.lt
  clear hk ha hb hd hg
  go_enter Tryz.func3, Tryz.ntmps3
  go_wp2_with fail
  refine (acts_any L A ca _ HA.out).mono ?_
  rintro e w0 ⟨b, rfl, rfl, h1⟩
  cases b
  case false =>
    go_wp2
    go_ret
    exact ⟨rfl, Below.refl _ _⟩
  have HL := Lib.hid (h1 rfl)
  clear h1
  go_wp2_with fail
  refine (acts_any M B cb _ HBM.out).mono ?_
  rintro e w1 ⟨b, rfl, rfl, h1⟩
  cases b
  case false =>
    go_wp2
    go_ret
    exact ⟨rfl, Below.refl _ _⟩
  have HM := Lib.hid (h1 rfl)
  clear h1
  by_cases hdl : 15 < D.length
  · go_wp2
    go_ret
    exact ⟨rfl, Below.refl _ _⟩
  have HDN := Lib.hid (show D.length ≤ 15 by omega)
  go_wp2_with fail
  clear hdl
  refine (new_any _).mono ?_
  rintro e w2 ⟨r, rfl, hrb, hb2, hh2⟩
  have HB2 := Lib.hid hb2
  have HR2 := Lib.hid hh2
  clear hb2 hh2 hrb
  go_wp2_with fail
  refine (refNewDir_t r _ _ HR2.out t16_size).mono ?_
  rintro e w3 ⟨pa, Fa, rfl, hb3, hda, hfa⟩
  have HB3 := Lib.hid hb3
  have HDA := Lib.hid hda
  have HFA := Lib.hid hfa
  have HR3 := Lib.hid (HR2.out.below hb3 HR2.out.lt)
  clear hb3 hda hfa
  go_wp2_with fail
  refine (refNewDir_t r _ _ HR3.out t16_size).mono ?_
  rintro e w4 ⟨pb, Fb, rfl, hb4, hdb, hfb⟩
  have HB4 := Lib.hid (HB3.out.trans (hb4.mono HB3.out.size))
  have HDA4 := Lib.hid (HDA.out.below hb4)
  have HDB4 := Lib.hid hdb
  have HFB := Lib.hid (show ∀ k, Fb k → w2.heap.size ≤ k from fun k hk => Nat.le_trans HB3.out.size (hfb k hk))
  have HAB := Lib.hid (show ∀ k, Fb k → ¬ Fa k from fun k h1 h2 => by have := hfb k h1; have := HDA.out.lt k h2; omega)
  have HR4 := Lib.hid (HR3.out.below hb4 HR3.out.lt)
  clear hb4 hdb hfb HDA HR3
  go_wp2_with fail
  refine (plays_any Fa pa r (newDst _) L A ca _ HDA4.out (newDst_ok t16_size) HR4.out (fun e => by have := HFA.out _ e; have := HR2.out.lt; omega) (HA.out.below (HB2.out.trans (HB4.out.mono HB2.out.size))) (fun a e hl hF => by have := HFA.out _ hF; have := HAL.out a e hl; have := HB2.out.size; omega) HL.out.1 HL.out.2).mono ?_
  rintro e w5 ⟨Fa5, rfl, ho5, hg5, hda5⟩
  have HB5 := Lib.hid (show Below w2.heap.size w2 w5 from HB4.out.trans (ho5.below HFA.out HB4.out.size))
  have HDA5 := Lib.hid hda5
  have HFA5 := Lib.hid (hg5.base HFA.out HB4.out.size)
  have HDB5 := Lib.hid (HDB4.out.same (ho5.same HDB4.out.lt HAB.out))
  have HAB5 := Lib.hid (hg5.apart HDB4.out.lt HAB.out)
  have HR5 := Lib.hid (show Holds w5 r 72 refCells 97 from HR2.out.below HB5.out HR2.out.lt)
  clear ho5 hg5 hda5 HDA4 HDB4 HR4 HAB
  go_wp2_with fail
  refine (plays_any Fb pb r (newDst _) M B cb _ HDB5.out (newDst_ok t16_size) HR5.out (fun e => by have := HFB.out _ e; have := HR2.out.lt; omega) (HBM.out.below (HB2.out.trans (HB5.out.mono HB2.out.size))) (fun a e hl hF => by have := HFB.out _ hF; have := HBL.out a e hl; have := HB2.out.size; omega) HM.out.1 HM.out.2).mono ?_
  rintro e w6 ⟨Fb6, rfl, ho6, hg6, hdb6⟩
  have HB6 := Lib.hid (show Below w2.heap.size w2 w6 from HB5.out.trans (ho6.below HFB.out HB5.out.size))
  have HDB6 := Lib.hid hdb6
  have HFB6 := Lib.hid (hg6.base HFB.out HB5.out.size)
  have HDA6 := Lib.hid (HDA5.out.same (ho6.same HDA5.out.lt (fun k h1 h2 => HAB5.out k h2 h1)))
  have HR6 := Lib.hid (show Holds w6 r 72 refCells 97 from HR2.out.below HB6.out HR2.out.lt)
  clear ho6 hg6 hdb6 HDA5 HDB5 HR5 HAB5
  obtain ⟨da, hda⟩ : ∃ da, playD (newDst ⟨#[48, 49, 50, 51, 52, 53, 54, 55, 56, 57, 97, 98, 99, 100, 101, 102]⟩) L = da := ⟨_, rfl⟩
  obtain ⟨db, hdb⟩ : ∃ db, playD (newDst ⟨#[48, 49, 50, 51, 52, 53, 54, 55, 56, 57, 97, 98, 99, 100, 101, 102]⟩) M = db := ⟨_, rfl⟩
  have HOKA := Lib.hid (show DOk da ∧ EpsDim da from by rw [← hda]; exact ⟨playD_ok (newDst_ok t16_size) L, playD_dim (fun s hs => by cases hs) L⟩)
  have HOKB := Lib.hid (show DOk db ∧ EpsDim db from by rw [← hdb]; exact ⟨playD_ok (newDst_ok t16_size) M, playD_dim (fun s hs => by cases hs) M⟩)
  rw [hda] at HDA6
  rw [hdb] at HDB6
  clear hda hdb
  have HOPA := Lib.hid (show ∃ bb, w6.cell? ⟨pa, 2, none⟩ = some (.pointer (some ⟨bb, 0, none⟩)) ∧ BoxIs w6 bb (dirSeed da.secret) from by
    obtain ⟨bb, g, m1, m2, m3, v, N, hh⟩ := HDA6.out
    exact ⟨bb, hh.own.cell 2 (by omega), hh.box.is⟩)
  obtain ⟨bb, c2, hbx⟩ := HOPA.out
  have HBX := Lib.hid hbx
  have hpal : pa < w6.heap.size := block_lt_of_cell c2
  have HC2 := Lib.hid c2
  clear hbx HOPA
  have HPS := Lib.hid (show (boxPub (dirSeed da.secret)).size = 16 from rowsOf_size _ _ (by omega))
  go_wp2_with fail
  refine (refPublic_any bb (dirSeed da.secret) _ HBX.out).mono ?_
  rintro e w7 ⟨rfl, rfl⟩
  go_wp2_with fail
  refine (refNewAuditor_t r (boxPub (dirSeed da.secret)) _ HPS.out).mono ?_
  rintro e w8 ⟨pw, Fw0, rfl, hb8, hcl, hpw⟩
  have HB8 := Lib.hid (HB6.out.trans (hb8.mono HB6.out.size))
  have HDA8 := Lib.hid (HDA6.out.below hb8)
  have HDB8 := Lib.hid (HDB6.out.below hb8)
  have HCL8 := Lib.hid hcl
  have HPW := Lib.hid hpw
  have HBX8 := Lib.hid (HBX.out.below hb8)
  have HAWL := Lib.hid (show (∀ k, Fa5 k → k < w7.heap.size) ∧ ∀ k, Fb6 k → k < w7.heap.size from ⟨HDA6.out.lt, HDB6.out.lt⟩)
  have c2 : w8.cell? ⟨pa, 2, none⟩ = some (.pointer (some ⟨bb, 0, none⟩)) := (hb8.cell (p := ⟨pa, 2, none⟩) hpal).trans HC2.out
  clear hb8 hcl hpw HDA6 HDB6 HBX HC2
  go_wp2_with fail
  refine (refPublic_any bb (dirSeed da.secret) _ HBX8.out).mono ?_
  rintro e w9 ⟨rfl, rfl⟩
  go_wp2_with fail
  clear c2
  refine (FA.new (boxPub (dirSeed da.secret)) _ HPS.out (HK.out.below (HB2.out.trans (HB8.out.mono HB2.out.size)) HK.out.lt)).mono ?_
  rintro e wA ⟨pc, Fc, rfl, hbA, hcA, hfcA⟩
  have HCS := Lib.hid (show Qs FA w2 wA pa pb pw pc r Fa5 Fb6 Fw0 Fc da db ⟨boxPub (dirSeed da.secret), []⟩ ⟨boxPub (dirSeed da.secret), []⟩ from
    ⟨HB8.out.trans (hbA.mono HB8.out.size), HDA8.out.below hbA, HDB8.out.below hbA, HCL8.out.below hbA, hcA, (fun k e => Nat.le_trans HB6.out.size (HPW.out k e)), (fun k hk => Nat.le_trans HB8.out.size (hfcA k hk)),
      (fun k h1 h2 => by have := HAWL.out.1 k h1; have := HPW.out k h2; omega), (fun k h1 h2 => by have := HDA8.out.lt k h1; have := hfcA k h2; omega), (fun k h1 h2 => by have := HAWL.out.2 k h1; have := HPW.out k h2; omega), (fun k h1 h2 => by have := HDB8.out.lt k h1; have := hfcA k h2; omega),
      (fun k h1 h2 => by have := HCL8.out.lt k h2; have := hfcA k h1; omega)⟩)
  have HE0 := Lib.hid (show errOf 0 = Value.nilIface from rfl)
  clear hbA hcA hfcA HDA8 HDB8 HCL8 HBX8 HAWL HPW HR6
  have HGA := Lib.hid (show ∀ u : World, Below w2.heap.size w2 u → u.cell? ⟨0, 0, none⟩ = some (.iface 247 (.agg #[hand 44])) from fun u hu => ((HB2.out.trans (hu.mono HB2.out.size)).cell HLT.out).trans HG.out)
  have HBARE := Lib.hid (show Calls Tryz.prog 13 #[.nilIface, .int .i64 0] wA fun e w' => e = .returned (.bool true) ∧ Below wA.heap.size wA w' from by
    have h := bare_same 0 wA (HGA.out wA HCS.out.below)
    rwa [HE0.out] at h)
  go_wp2_with fail
  refine HBARE.out.mono ?_
  rintro e wB ⟨rfl, hbB⟩
  have HCB := Lib.hid (HCS.out.calm hbB)
  clear hbB HCS HBARE HB3 HB4 HB5 HB6 HB8
  go_wp2
  go_loopw [16] (fun i wr => ∃ k : Nat, k ≤ D.length ∧ i = .int .i64 (k : Int) ∧ Hid (∃ Fw Fc' cst, Qs FA w2 wr pa pb pw pc r Fa5 Fb6 Fw Fc' da db cst cst ∧ AuOk cst k)) (fun i _ => D.length - (intOf i).toNat)
  case atStart => exact ⟨0, by omega, rfl, Lib.hid ⟨_, _, _, HCB.out, auOk_new HPS.out⟩⟩
  case round =>
    obtain ⟨k, hkd, rfl, HU⟩ := hrel
    obtain ⟨Fw, Fc', cst, hcs, hlen⟩ := HU.out
    have HCS := Lib.hid hcs
    have HLEN := Lib.hid hlen
    clear hcs hlen HU
    by_cases hlt : k < D.length
    · have HDK := Lib.hid (show Dds wr C D from HD.out.below (HB2.out.trans (HCS.out.below.mono HB2.out.size)) HDL.out)
      obtain ⟨a, rfl, hal, c0, c1, c2, c3, c4⟩ := HDK.out.at_ hlt
      have d1 : wr.cell? ⟨(a.add (k * 5)).block, (a.add (k * 5)).off + 1, none⟩ = some (.int .i64 (ddAt D k).epoch) := c1
      have d2 : wr.cell? ⟨(a.add (k * 5)).block, (a.add (k * 5)).off + 2, none⟩ = some (.int .i64 (ddAt D k).spoil) := c2
      have d3 : wr.cell? ⟨(a.add (k * 5)).block, (a.add (k * 5)).off + 3, none⟩ = some (.bool (ddAt D k).other) := c3
      have d4 : wr.cell? ⟨(a.add (k * 5)).block, (a.add (k * 5)).off + 4, none⟩ = some (.string (ddAt D k).name) := c4
      generalize ddAt D k = x at c0 d1 d2 d3 d4
      clear c1 c2 c3 c4
      have hk0 : (0 : Int) ≤ (k : Int) := by omega
      have hk1 : (k : Int) < (D.length : Int) := by omega
      have HX := Lib.hid (show Holds (wr.alloc (.cells #[.int .i64 x.what, .int .i64 x.epoch, .int .i64 x.spoil, .bool x.other, .string x.name] 49)) wr.heap.size 5 (ddF x) 49 from Holds.new wr 5 (ddF x) 49)
      have HCX := Lib.hid (HCS.out.calm (alloc_below wr (.cells #[.int .i64 x.what, .int .i64 x.epoch, .int .i64 x.spoil, .bool x.other, .string x.name] 49)))
      have HQR := Lib.hid (show ∀ k, (Fa5 k ∨ Fb6 k ∨ Fw k ∨ Fc' k) → k < wr.heap.size from fun k hk => by
        rcases hk with e | e | e | e
        · exact HCS.out.da.lt k e
        · exact HCS.out.db.lt k e
        · exact HCS.out.rc.lt k e
        · exact FA.lt HCS.out.pc k e)
      go_wp2_with fail
      clear c0 d1 d2 d3 d4
      generalize wr.alloc (.cells #[.int .i64 x.what, .int .i64 x.epoch, .int .i64 x.spoil, .bool x.other, .string x.name] 49) = wx at HX HCX
      refine (long_any x.name _).mono ?_
      rintro e wy ⟨rfl, rfl⟩
      by_cases m1 : 60 < x.name.size
      · rw [decide_eq_true m1]
        clear m1
        go_wp2
        go_ret
        exact ⟨rfl, HB2.out.trans (HCX.out.below.mono HB2.out.size)⟩
      rw [decide_eq_false m1]
      have HNM := Lib.hid (show x.name.size ≤ 60 by omega)
      clear m1
      have HRX := Lib.hid (show Holds wy r 72 refCells 97 from HR2.out.below HCX.out.below HR2.out.lt)
      have x0 : wy.cell? ⟨wr.heap.size, 0, none⟩ = some (.int .i64 x.what) := HX.out.cell 0 (by omega)
      have x1 : wy.cell? ⟨wr.heap.size, 1, none⟩ = some (.int .i64 x.epoch) := HX.out.cell 1 (by omega)
      have x2 : wy.cell? ⟨wr.heap.size, 2, none⟩ = some (.int .i64 x.spoil) := HX.out.cell 2 (by omega)
      have x3 : wy.cell? ⟨wr.heap.size, 3, none⟩ = some (.bool x.other) := HX.out.cell 3 (by omega)
      have x4 : wy.cell? ⟨wr.heap.size, 4, none⟩ = some (.string x.name) := HX.out.cell 4 (by omega)
      cases hoth : x.other
      case false =>
        rw [hoth] at x3
        have HDD := Lib.hid HCX.out.da
        have HDW := Lib.hid (show (∀ k, Fa5 k → ¬ Fw k) ∧ (∀ k, Fa5 k → ¬ Fc' k) ∧ ∀ k, Fa5 k → k < wr.heap.size from ⟨HCX.out.aw, HCX.out.ac, fun k h => HQR.out k (.inl h)⟩)
        have HOK := HOKA
        clear hoth
        obtain ⟨bb', g', m1', m2', m3', v', N, hh⟩ := HDD.out
        obtain ⟨pv, cv, rfl⟩ := hh.row.any
        have HH := Lib.hid hh
        have c6a := hh.own.cell 6 (by omega)
        have c6 := (show _ = some (Value.slice pv N.length cv) from c6a)
        clear hh c6a
        by_cases he1 : x.epoch < 1
        · go_wp2
          go_quiet (fail)
          go_wp2
          go_roundw
          case rel => exact ⟨k + 1, by omega, by go_num, Lib.hid ⟨Fw, Fc', cst, HCX.out.calm (below_drewP (Below.refl _ _) _), HLEN.out.more⟩⟩
          case measure => simp [intOf]; omega
        have g1 : decide (x.epoch < 1) = false := decide_eq_false he1
        by_cases he2 : (N.length : Int) < x.epoch
        · have g2 : decide ((N.length : Int) < x.epoch) = true := decide_eq_true he2
          go_wp2
          refine wp_region_quiet_lit (by kernel_rfl) (by kernel_rfl) ?_
          repeat (go_big_quiet_step (fail))
          refine wpQuiet_nil ?_
          rintro w' ⟨nq, rfl⟩
          go_wp2
          go_roundw
          case rel => exact ⟨k + 1, by omega, by go_num, Lib.hid ⟨Fw, Fc', cst, HCX.out.calm (below_drewP (Below.refl _ _) _), HLEN.out.more⟩⟩
          case measure => simp [intOf]; omega
        have g2 : decide ((N.length : Int) < x.epoch) = false := decide_eq_false he2
        go_wp2
        refine wp_region_quiet_lit (by kernel_rfl) (by kernel_rfl) ?_
        repeat (go_big_quiet_step (fail))
        refine wpQuiet_nil ?_
        rintro w' ⟨nq, rfl⟩
        obtain ⟨j, hj⟩ : ∃ j : Nat, x.epoch = (j : Int) + 1 := ⟨(x.epoch - 1).toNat, by omega⟩
        have HJ := Lib.hid hj
        have hjn : j < N.length := by omega
        obtain ⟨mm, hm⟩ : ∃ mm, N[j]? = some mm := ⟨_, List.getElem?_eq_getElem hjn⟩
        have HSI := Lib.hid (HH.out.sgs mm (List.mem_of_getElem? hm))
        have HSD := Lib.hid (show SgnDim mm.s from HOK.out.2 mm.s (by rw [← HH.out.eps]; exact List.mem_map_of_mem (List.mem_of_getElem? hm)))
        obtain ⟨g5, cg, hv5, _, hgl, _, hpc, _⟩ := HH.out.row.shape (by omega)
        injection hv5 with hv5 _ _
        subst hv5
        have HCZ := Lib.hid (HCX.out.calm (below_drewP (Below.refl _ _) nq))
        have HXZ := Lib.hid (HX.out.below (below_drewP (Below.refl _ _) nq) HX.out.lt)
        have HSA := Lib.hid (HSI.out.sig.below (below_drewP (Below.refl _ _) nq))
        have HSB := Lib.hid (HSI.out.path.below (below_drewP (Below.refl _ _) nq))
        have f0 : (wy.drewN nq).cell? ⟨g5, j * 6, none⟩ = some (.int .i64 mm.s.head.epoch) := hpc _ _ ((sgCells_get N j mm 0 hm (by omega)).trans rfl)
        have f1 : (wy.drewN nq).cell? ⟨g5, j * 6 + 1, none⟩ = some (.string mm.s.head.root) := hpc _ _ ((sgCells_get N j mm 1 hm (by omega)).trans rfl)
        have f2 : (wy.drewN nq).cell? ⟨g5, j * 6 + 2, none⟩ = some (.string mm.s.head.prev) := hpc _ _ ((sgCells_get N j mm 2 hm (by omega)).trans rfl)
        have f3 : (wy.drewN nq).cell? ⟨g5, j * 6 + 3, none⟩ = some (.int .i64 mm.s.key) := hpc _ _ ((sgCells_get N j mm 3 hm (by omega)).trans rfl)
        have f4 : (wy.drewN nq).cell? ⟨g5, j * 6 + 4, none⟩ = some (.slice mm.A mm.s.sig.length mm.ca) := hpc _ _ ((sgCells_get N j mm 4 hm (by omega)).trans rfl)
        have f5 : (wy.drewN nq).cell? ⟨g5, j * 6 + 5, none⟩ = some (.slice mm.B mm.s.path.length mm.cb) := hpc _ _ ((sgCells_get N j mm 5 hm (by omega)).trans rfl)
        have e6 := (show (wy.drewN nq).cell? _ = some (Value.slice (some ⟨g5, 0, none⟩) N.length cv) from c6)
        have HSL := Lib.hid (show g5 < (wy.drewN nq).heap.size from hgl)
        have HPL := Lib.hid (block_lt_of_cell e6)
        have HWS := Lib.hid (show wr.heap.size < (wy.drewN nq).heap.size from HXZ.out.lt)
        clear c6 x0 x1 x2 x3 x4 hpc hgl g1 g2
        generalize wy.drewN nq = wz at HCZ HXZ HSA HSB f0 f1 f2 f3 f4 f5 e6 HSL HPL HWS ⊢
        have x1 : wz.cell? ⟨wr.heap.size, 1, none⟩ = some (.int .i64 x.epoch) := HXZ.out.cell 1 (by omega)
        have x2 : wz.cell? ⟨wr.heap.size, 2, none⟩ = some (.int .i64 x.spoil) := HXZ.out.cell 2 (by omega)
        have hwj : wrap64 (x.epoch - 1) = (j : Int) := by have h0 := HJ.out; have h2 := HOK.out.1.few; rw [← HH.out.eps, List.length_map] at h2; unfold wrap64; omega
        have hwi : IntKind.i64.wrap (x.epoch - 1) = (j : Int) := by have h0 := HJ.out; have h2 := HOK.out.1.few; rw [← HH.out.eps, List.length_map] at h2; rw [IntWalk.i64_in _ (by omega)]; omega
        have hj0 : (0 : Int) ≤ (j : Int) := by omega
        have hj1 : (j : Int) < (N.length : Int) := by omega
        clear hj he1 he2
        have hfd := field0_answ
        have HSS := Lib.hid (show ∀ u : World, Below wz.heap.size wz u → (u.cell? ⟨pa, 6, none⟩ = some (.slice (some ⟨g5, 0, none⟩) N.length cv) ∧ u.cell? ⟨wr.heap.size, 1, none⟩ = some (.int .i64 x.epoch) ∧ u.cell? ⟨wr.heap.size, 2, none⟩ = some (.int .i64 x.spoil) ∧ u.cell? ⟨g5, j * 6, none⟩ = some (.int .i64 mm.s.head.epoch) ∧ u.cell? ⟨g5, j * 6 + 1, none⟩ = some (.string mm.s.head.root) ∧ u.cell? ⟨g5, j * 6 + 2, none⟩ = some (.string mm.s.head.prev) ∧ u.cell? ⟨g5, j * 6 + 3, none⟩ = some (.int .i64 mm.s.key) ∧ u.cell? ⟨g5, j * 6 + 4, none⟩ = some (.slice mm.A mm.s.sig.length mm.ca) ∧ u.cell? ⟨g5, j * 6 + 5, none⟩ = some (.slice mm.B mm.s.path.length mm.cb)) ∧ Below wz.heap.size wz u from fun u hu =>
          ⟨⟨(hu.cell HPL.out).trans e6, (hu.cell (p := ⟨wr.heap.size, 1, none⟩) HWS.out).trans x1, (hu.cell (p := ⟨wr.heap.size, 2, none⟩) HWS.out).trans x2, (hu.cell (p := ⟨g5, j * 6, none⟩) HSL.out).trans f0, (hu.cell (p := ⟨g5, j * 6 + 1, none⟩) HSL.out).trans f1, (hu.cell (p := ⟨g5, j * 6 + 2, none⟩) HSL.out).trans f2, (hu.cell (p := ⟨g5, j * 6 + 3, none⟩) HSL.out).trans f3, (hu.cell (p := ⟨g5, j * 6 + 4, none⟩) HSL.out).trans f4, (hu.cell (p := ⟨g5, j * 6 + 5, none⟩) HSL.out).trans f5⟩, hu⟩)
        have HSPC := Lib.hid (show ∀ u : World, Below wz.heap.size wz u → Calls Tryz.prog 15 #[.agg #[.int .i64 mm.s.head.epoch, .string mm.s.head.root, .string mm.s.head.prev, .int .i64 mm.s.key, .slice mm.A mm.s.sig.length mm.ca, .slice mm.B mm.s.path.length mm.cb, .slice none 0 0, .string ⟨#[]⟩, .string ⟨#[]⟩, .string ⟨#[]⟩, .string ⟨#[]⟩], .int .i64 x.spoil] u fun e w' => ∃ (s2 : Sgn) (A2 : Option Addr) (ca2 : Nat) (B2 : Option Addr) (cb2 : Nat) (v6 v7 v8 v9 v10 : Value), e = .returned (.agg #[.int .i64 s2.head.epoch, .string s2.head.root, .string s2.head.prev, .int .i64 s2.key, .slice A2 s2.sig.length ca2, .slice B2 s2.path.length cb2, v6, v7, v8, v9, v10]) ∧ Hid (s2 = (spoiltA ⟨mm.s, [], noIt, ⟨#[]⟩, ⟨#[]⟩⟩ x.spoil).sgn ∧ Strs w' A2 s2.sig ∧ Strs w' B2 s2.path ∧ (A2 = mm.A ∧ s2.sig.length = mm.s.sig.length ∨ ∀ b, A2 = some b → u.heap.size ≤ b.block) ∧ (B2 = mm.B ∧ s2.path = mm.s.path)) ∧ Below u.heap.size u w' from fun u hu =>
          (spoilt_at mm.s.head mm.s.key mm.s.sig mm.s.path [] noIt ⟨#[]⟩ ⟨#[]⟩ mm.A mm.B none mm.ca mm.cb 0 x.spoil u (HSA.out.below hu) (HSB.out.below hu) (Strs.nil _ _) (by have := HSD.out.sig; omega) (Nat.zero_le _) (Nat.zero_le _) (Nat.zero_le _) (Nat.zero_le _) (by have := HSD.out.root; omega) HSI.out.cp (fun p hp => by have := HSD.out.sz p hp; omega)).mono fun e w' ⟨m', he, hin, hn, hb⟩ => by
            obtain ⟨⟨s', A2, ca2, B2, cb2⟩, C2, cc2, a2'⟩ := m'
            obtain rfl : s' = _ := hin.sgn
            exact ⟨_, A2, ca2, B2, cb2, _, _, _, _, _, he, Lib.hid ⟨rfl, hin.sig, hin.path, hn.sig, hn.path⟩, hb⟩)
        have HQZ := Lib.hid (show Below wz.heap.size wz (wz.alloc (.cells #[.int .i64 0, .string ⟨#[]⟩, .string ⟨#[]⟩, .int .i64 0, .slice none 0 0, .slice none 0 0] 57)).drew from ((Below.refl _ _).alloc (Nat.le_refl _) _).drew)
        have HSPA := Lib.hid ((HSPC.out wz.drew (Below.refl _ _).drew).mono fun e w' ⟨s2, A2, ca2, B2, cb2, v6, v7, v8, v9, v10, he, hi, hb⟩ => show SpoiltAt e w' wz.heap.size wz mm (spoiltA ⟨mm.s, [], noIt, ⟨#[]⟩, ⟨#[]⟩⟩ x.spoil).sgn from
          ⟨s2, A2, ca2, B2, cb2, v6, v7, v8, v9, v10, he, hi.out.1, hi.out.2.1, hi.out.2.2.1, hi.out.2.2.2.1, hi.out.2.2.2.2, (Below.refl _ _).drew.trans (hb.mono (Nat.le_refl _))⟩)
        have HSPB := Lib.hid ((HSPC.out (wz.alloc (.cells #[.int .i64 0, .string ⟨#[]⟩, .string ⟨#[]⟩, .int .i64 0, .slice none 0 0, .slice none 0 0] 57)).drew HQZ.out).mono fun e w' ⟨s2, A2, ca2, B2, cb2, v6, v7, v8, v9, v10, he, hi, hb⟩ => show SpoiltAt e w' (wz.heap.size + 1) wz mm (spoiltA ⟨mm.s, [], noIt, ⟨#[]⟩, ⟨#[]⟩⟩ x.spoil).sgn ∧ Holds w' wz.heap.size 6 (sgF noHd 0 (.slice none 0 0) (.slice none 0 0)) 57 from
          ⟨⟨s2, A2, ca2, B2, cb2, v6, v7, v8, v9, v10, he, hi.out.1, hi.out.2.1, hi.out.2.2.1, (by rcases hi.out.2.2.2.1 with h | h; exact .inl h; exact .inr fun b e => by have := h b e; have e2 : (wz.alloc (.cells #[.int .i64 0, .string ⟨#[]⟩, .string ⟨#[]⟩, .int .i64 0, .slice none 0 0, .slice none 0 0] 57)).drew.heap.size = wz.heap.size + 1 := (World.size_alloc _ _); omega), hi.out.2.2.2.2, HQZ.out.trans (hb.mono HQZ.out.size)⟩, (Holds.new wz 6 (sgF noHd 0 (.slice none 0 0) (.slice none 0 0)) 57).drew.below hb (by show wz.heap.size < (wz.alloc _).heap.size; simp)⟩)
        have HS0 := Lib.hid (HSS.out _ (Below.refl _ _).drew)
        have HS1 := Lib.hid (HSS.out _ HQZ.out)
        clear HSPC
        go_wp2
        go_region_held3 (fun u => (u.cell? ⟨pa, 6, none⟩ = some (.slice (some ⟨g5, 0, none⟩) N.length cv) ∧ u.cell? ⟨wr.heap.size, 1, none⟩ = some (.int .i64 x.epoch) ∧ u.cell? ⟨wr.heap.size, 2, none⟩ = some (.int .i64 x.spoil) ∧ u.cell? ⟨g5, j * 6, none⟩ = some (.int .i64 mm.s.head.epoch) ∧ u.cell? ⟨g5, j * 6 + 1, none⟩ = some (.string mm.s.head.root) ∧ u.cell? ⟨g5, j * 6 + 2, none⟩ = some (.string mm.s.head.prev) ∧ u.cell? ⟨g5, j * 6 + 3, none⟩ = some (.int .i64 mm.s.key) ∧ u.cell? ⟨g5, j * 6 + 4, none⟩ = some (.slice mm.A mm.s.sig.length mm.ca) ∧ u.cell? ⟨g5, j * 6 + 5, none⟩ = some (.slice mm.B mm.s.path.length mm.cb)) ∧ Below wz.heap.size wz u)
          (first
            | with_reducible exact HS0.out
            | with_reducible exact HS1.out
            | with_reducible exact T6
            | with_reducible exact T7 _
            | with_reducible exact T8 _ _ _ _ _ _)
          (first
            | (go_at_call 15; refine HSPA.out.mono ?_; rintro e w6 ⟨s2, A2, ca2, B2, cb2, v6, v7, v8, v9, v10, rfl, hs2, i1, i2, i3, i4, hb6⟩; have HI6 := Lib.hid (show SpoiltIn w6 wz.heap.size wz mm s2 A2 B2 _ from ⟨hs2, i1, i2, i3, i4, hb6⟩); have T6 := HSS.out w6 hb6; have T7 := fun o => HSS.out (w6.alloc o) (hb6.alloc hb6.size o); clear hs2 i1 i2 i3 i4 hb6)
            | (go_at_call 15; refine HSPB.out.mono ?_; rintro e w6 ⟨⟨s2, A2, ca2, B2, cb2, v6, v7, v8, v9, v10, rfl, hs2, i1, i2, i3, i4, hb6⟩, hh6⟩; have HI6 := Lib.hid (show SpoiltIn w6 (wz.heap.size + 1) wz mm s2 A2 B2 _ from ⟨hs2, i1, i2, i3, i4, hb6⟩); have HH6 := Lib.hid hh6; have T6 := HSS.out w6 hb6; have T8 := fun v0 v1 v2 v3 v4 v5 => HSS.out _ (six_below (v0 := v0) (v1 := v1) (v2 := v2) (v3 := v3) (v4 := v4) (v5 := v5) hb6 (Nat.le_refl wz.heap.size)); obtain ⟨q0, q1, q2, q3, q4, q5⟩ := sg_cellsC hh6; have r0 := hh6.free 0; have r1 := hh6.free 1; have r2 := hh6.free 2; have r3 := hh6.free 3; have r4 := hh6.free 4; have r5 := hh6.free 5; clear hs2 i1 i2 i3 i4 hb6 hh6))
        have HWT := Lib.hid (HI6.out.later (ca2 := ca2) (cb2 := cb2))
        clear T6 T7 HI6
        generalize w6.heap.size = sb at HWT ⊢
        generalize w6.alloc (.cells #[.int .i64 s2.head.epoch, .string s2.head.root, .string s2.head.prev, .int .i64 s2.key, .slice A2 s2.sig.length ca2, .slice B2 s2.path.length cb2] 57) = wt at HWT ⊢
        rotate_left
        have HWT := Lib.hid (HI6.out.stored (ca2 := ca2) (cb2 := cb2) HH6.out HSA.out.lt HSB.out.lt)
        clear T6 T8 HI6 HH6 q0 q1 q2 q3 q4 q5 r0 r1 r2 r3 r4 r5
        generalize (((((w6.setCell ⟨wz.heap.size, 0, none⟩ (.int .i64 s2.head.epoch)).setCell ⟨wz.heap.size, 1, none⟩ (.string s2.head.root)).setCell ⟨wz.heap.size, 2, none⟩ (.string s2.head.prev)).setCell ⟨wz.heap.size, 3, none⟩ (.int .i64 s2.key)).setCell ⟨wz.heap.size, 4, none⟩ (.slice A2 s2.sig.length ca2)).setCell ⟨wz.heap.size, 5, none⟩ (.slice B2 s2.path.length cb2) = wt at HWT ⊢
        generalize hsb : wz.heap.size = sb at HWT ⊢
        clear hsb
        all_goals
          have HCT := Lib.hid (HCZ.out.calm HWT.out.below)
          have HDIM := Lib.hid (show SpDim (spoiltA ⟨mm.s, [], noIt, ⟨#[]⟩, ⟨#[]⟩⟩ x.spoil) from spoilt_dim ⟨HSD.out, Nat.zero_le _, Nat.zero_le _, Nat.zero_le _, Nat.zero_le _, Nat.zero_le _⟩ x.spoil)
          have HSG := Lib.hid (show s2.head.epoch < 9223372036854775808 ∧ s2.sig.length ≤ 35 ∧ s2.path.length ≤ 3 from by rw [HWT.out.is]; exact ⟨HDIM.out.ep, HDIM.out.sig, HDIM.out.path⟩)
          have HNF := Lib.hid (show (∀ b, A2 = some b → 0 < s2.sig.length → ¬ Fc' b.block) ∧ (∀ b, B2 = some b → 0 < s2.path.length → ¬ Fc' b.block) from
            ⟨fun b e l h => by
              rcases HWT.out.nearA with ⟨h1, h2⟩ | h1
              · exact HDW.out.2.1 _ (HSI.out.fs b (h1 ▸ e) (h2 ▸ l)).1 h
              · have := h1 b e; have := HQR.out _ (.inr (.inr (.inr h))); have := HWS.out; omega,
            fun b e l h => HDW.out.2.1 _ (HSI.out.fp b (HWT.out.nearB.1 ▸ e) (HWT.out.nearB.2 ▸ l)).1 h⟩)
          obtain ⟨c', n, htl⟩ : ∃ c' n, tellAns cst x.name ⟨s2.head, s2.key, s2.sig, s2.path⟩ = (c', n) := ⟨_, _, rfl⟩
          have HTL := Lib.hid htl
          have HLN := Lib.hid (show AuOk c' (k + 1) from by have h := HLEN.out.told x.name ⟨s2.head, s2.key, s2.sig, s2.path⟩ (by have := HNM.out; omega); rw [htl] at h; exact h)
          clear htl
          have HXT := Lib.hid (show Holds wt.drew wr.heap.size 5 (ddF x) 49 from HXZ.out.below (HWT.out.below.trans ((Below.refl _ _).drew.mono HWT.out.below.size)) HXZ.out.lt)
          have HCD := Lib.hid (HCT.out.calm (Below.refl _ _).drew)
          have HBX := Lib.hid (show Holds wt.drew sb 6 (sgF s2.head s2.key (.slice A2 s2.sig.length ca2) (.slice B2 s2.path.length cb2)) 57 from HWT.out.box)
          have HA7 := Lib.hid (HWT.out.sig.below (Below.refl _ _).drew)
          have HB7 := Lib.hid (HWT.out.path.below (Below.refl _ _).drew)
          have HGE := Lib.hid (show wr.heap.size < sb from by have := HWT.out.ge; have := HWS.out; omega)
          have HZT := Lib.hid (show ∀ u : World, Holds u wr.heap.size 5 (ddF x) 49 → Holds u sb 6 (sgF s2.head s2.key (.slice A2 s2.sig.length ca2) (.slice B2 s2.path.length cb2)) 57 → (u.cell? ⟨wr.heap.size, 4, none⟩ = some (.string x.name) ∧ u.cell? ⟨sb, 0, none⟩ = some (.int .i64 s2.head.epoch) ∧ u.cell? ⟨sb, 1, none⟩ = some (.string s2.head.root) ∧ u.cell? ⟨sb, 2, none⟩ = some (.string s2.head.prev) ∧ u.cell? ⟨sb, 3, none⟩ = some (.int .i64 s2.key) ∧ u.cell? ⟨sb, 4, none⟩ = some (.slice A2 s2.sig.length ca2) ∧ u.cell? ⟨sb, 5, none⟩ = some (.slice B2 s2.path.length cb2)) from fun u h1 h2 => ⟨h1.cell 4 (by omega), sg_cellsC h2⟩)
          have T5 := Lib.hid (HZT.out wt (show Holds wt wr.heap.size 5 (ddF x) 49 from HXZ.out.below HWT.out.below HXZ.out.lt) HWT.out.box)
          have T6 := Lib.hid (HZT.out wt.drew HXT.out HBX.out)
          have HKN := Lib.hid (show k + 1 ≤ 500 from by have := HDN.out; omega)
          clear HWT HCT
          go_upto_region 23 with (fail)
          go_region_held3 (fun u => u.cell? ⟨wr.heap.size, 4, none⟩ = some (.string x.name) ∧ u.cell? ⟨sb, 0, none⟩ = some (.int .i64 s2.head.epoch) ∧ u.cell? ⟨sb, 1, none⟩ = some (.string s2.head.root) ∧ u.cell? ⟨sb, 2, none⟩ = some (.string s2.head.prev) ∧ u.cell? ⟨sb, 3, none⟩ = some (.int .i64 s2.key) ∧ u.cell? ⟨sb, 4, none⟩ = some (.slice A2 s2.sig.length ca2) ∧ u.cell? ⟨sb, 5, none⟩ = some (.slice B2 s2.path.length cb2))
            (first | with_reducible exact T6.out | with_reducible exact T7.out | with_reducible exact T8.out | with_reducible exact T9.out | with_reducible exact TL.out | with_reducible exact TM.out | with_reducible exact T5.out)
            (first
              | (go_at_call 16; refine (FA.tell Fc' pc cst c' k x.name s2.head s2.key s2.sig s2.path A2 B2 ca2 cb2 n wt.drew HCD.out.pc (HK.out.below (HB2.out.trans (HCD.out.below.mono HB2.out.size)) HK.out.lt) HLEN.out (by have := HKN.out; omega) (by have := HNM.out; omega) (by have := HSG.out.2.1; omega) (by have := HSG.out.2.2; omega) HSG.out.1 HA7.out HB7.out HNF.out.1 HNF.out.2 HTL.out).mono ?_; rintro e w8 ⟨rfl, Fc2, ho8, hg8, hp8⟩; have HC8 := Lib.hid (HCD.out.prog ho8 hg8 hp8); have HXT8 := Lib.hid (HXT.out.beside ho8 (fun h => by have := HQR.out _ (.inr (.inr (.inr h))); omega)); have HBX8 := Lib.hid (HBX.out.beside ho8 (fun h => by have := HQR.out _ (.inr (.inr (.inr h))); have := HGE.out; omega)); have HA8 := Lib.hid (HA7.out.off ho8 HNF.out.1); have HB8 := Lib.hid (HB7.out.off ho8 HNF.out.2); have T7 := Lib.hid (HZT.out w8 HXT8.out HBX8.out); clear ho8 hg8 hp8)
              | (go_at_call 17; refine (refTell_is Fw pw r cst c' k x.name s2.head s2.key s2.sig s2.path A2 B2 ca2 cb2 n w8 HC8.out.rc HLEN.out (by have := HKN.out; omega) (HR2.out.below HC8.out.below HR2.out.lt) (by have := HNM.out; omega) (by have := HSG.out.2.1; omega) (by have := HSG.out.2.2; omega) HSG.out.1 HA8.out HB8.out HTL.out).mono ?_; rintro e w9 ⟨rfl, Fw2, ho9, hg9, hr9⟩; have HC9 := Lib.hid (HC8.out.ref ho9 hg9 hr9); have HXT9 := Lib.hid (HXT8.out.beside ho9 (fun h => by have := HQR.out _ (.inr (.inr (.inl h))); omega)); have HBX9 := Lib.hid (HBX8.out.beside ho9 (fun h => by have := HQR.out _ (.inr (.inr (.inl h))); have := HGE.out; omega)); have T8 := Lib.hid (HZT.out w9 HXT9.out HBX9.out); clear ho9 hg9 hr9)
              | (go_at_call 13; refine (bare_same n w9 (HGA.out w9 HC9.out.below)).mono ?_; rintro e w10 ⟨rfl, hb10⟩; have HC10 := Lib.hid (HC9.out.calm hb10); have HXT10 := Lib.hid (HXT9.out.below hb10 HXT9.out.lt); have HBX10 := Lib.hid (HBX9.out.below hb10 HBX9.out.lt); have T9 := Lib.hid (HZT.out w10 HXT10.out HBX10.out); clear hb10)
              | (go_at_call 18; refine (FA.last Fc2 pc c' (k + 1) w10 HC10.out.pc (HK.out.below (HB2.out.trans (HC10.out.below.mono HB2.out.size)) HK.out.lt) HLN.out HKN.out).mono ?_; rintro e w11 ⟨l1, rfl, hl1, hb11⟩; have HL1 := Lib.hid hl1; have HC11 := Lib.hid (HC10.out.calm hb11); have HXT11 := Lib.hid (HXT10.out.below hb11 HXT10.out.lt); have HBX11 := Lib.hid (HBX10.out.below hb11 HBX10.out.lt); have TL := Lib.hid (HZT.out w11 HXT11.out HBX11.out); clear hb11 hl1)
              | (go_at_call 19; refine (refLast_is Fw2 pw r c' (k + 1) w11 HC11.out.rc HLN.out (by have := HKN.out; omega)).mono ?_; rintro e w12 ⟨l2, rfl, hl2, hb12⟩; obtain rfl := HL1.out.one hl2; have HC12 := Lib.hid (HC11.out.calm hb12); have HXT12 := Lib.hid (HXT11.out.below hb12 HXT11.out.lt); have HBX12 := Lib.hid (HBX11.out.below hb12 HBX11.out.lt); have TM := Lib.hid (HZT.out w12 HXT12.out HBX12.out); clear hb12 hl2))
          all_goals
            have HF12 := Lib.hid (show FA.Is Fc2 w12 pc c' from HC12.out.pc)
            clear T5 T6 T7 T8 T9 TL TM HXT HXT8 HXT9 HXT10 HXT11 HXT12 HBX HBX8 HBX9 HBX10 HBX11 HBX12 HA7 HA8 HB7 HB8 HCD HC8 HC9 HC10 HC11 HZT
            go_wp2_with (first
              | (go_at_call 20; refine (FA.forks Fc2 pc c' (k + 1) w12 HF12.out (HK.out.below (HB2.out.trans (HC12.out.below.mono HB2.out.size)) HK.out.lt) HLN.out HKN.out).mono ?_; rintro e w13 ⟨P1, cp1, L1, rfl, hf1, hll, hfk1, hb13⟩; have HFO := Lib.hid hf1; have HLL := Lib.hid hll; have HFK1 := Lib.hid hfk1; have HC13 := Lib.hid (HC12.out.calm hb13); clear hf1 hll hfk1 hb13)
              | (go_at_call 21; refine (refForks_is Fw2 pw r c' (k + 1) w13 HC13.out.rc HLN.out HKN.out).mono ?_; rintro e w14 ⟨P2, cp2, L2, base, rfl, hf2, hl2n, hrow2, hb14⟩; obtain rfl := HFO.out.one hf2; have HFK2 := Lib.hid hrow2.fks; have HFK3 := Lib.hid (HFK1.out.below hb14); have HC14 := Lib.hid (HC13.out.calm hb14); clear hf2 hl2n hrow2 hb14))
            clear HF12 HC12 HC13 HFK1
            have HLB := Lib.hid HLL.out
            go_loopw [22] (fun i wq => ∃ j : Nat, j ≤ L1.length ∧ i = .int .i64 (j : Int) ∧ Hid (Below w14.heap.size w14 wq)) (fun i _ => L1.length - (intOf i).toNat)
            case' atStart => exact ⟨0, by omega, rfl, Lib.hid (Below.refl _ _)⟩
            case' round =>
              obtain ⟨j, hjl, rfl, HBJ⟩ := hrel
              by_cases hj : j < L1.length
              · obtain ⟨f, hf⟩ : ∃ f, L1[j]? = some f := ⟨_, List.getElem?_eq_getElem hj⟩
                obtain ⟨a1, rfl, _, b0, b1, b2⟩ := (HFK3.out.below HBJ.out) j f hf
                obtain ⟨a2, rfl, _, e0, e1, e2⟩ := (HFK2.out.below HBJ.out) j f hf
                have hjj : j ≤ 1000000 := by have := HLB.out; omega
                have d1 : wr.cell? ⟨(a1.add (j * 3)).block, (a1.add (j * 3)).off + 1, none⟩ = some (.string f.b) := b1
                have d2 : wr.cell? ⟨(a1.add (j * 3)).block, (a1.add (j * 3)).off + 2, none⟩ = some (.int .i64 f.epoch) := b2
                have g1 : wr.cell? ⟨(a2.add (j * 3)).block, (a2.add (j * 3)).off + 1, none⟩ = some (.string f.b) := e1
                have g2 : wr.cell? ⟨(a2.add (j * 3)).block, (a2.add (j * 3)).off + 2, none⟩ = some (.int .i64 f.epoch) := e2
                clear b1 b2 e1 e2
                have hne := run_neq_fork f
                go_wp2
                go_quiet (fail)
                go_wp2
                go_roundw
                case rel => exact ⟨j + 1, by omega, by go_num, Lib.hid (HBJ.out.trans (below_drewP (Below.refl _ _) _))⟩
                case measure => simp [intOf]; omega
              · go_wp2
                go_roundw
                case rel => exact ⟨k + 1, by omega, by go_num, Lib.hid ⟨Fw2, Fc2, c', HC14.out.calm HBJ.out, HLN.out⟩⟩
                case measure => simp [intOf]; omega
      case true =>
        rw [hoth] at x3
        have HDD := Lib.hid HCX.out.db
        have HDW := Lib.hid (show (∀ k, Fb6 k → ¬ Fw k) ∧ (∀ k, Fb6 k → ¬ Fc' k) ∧ ∀ k, Fb6 k → k < wr.heap.size from ⟨HCX.out.dw, HCX.out.dc, fun k h => HQR.out k (.inr (.inl h))⟩)
        have HOK := HOKB
        clear hoth
        obtain ⟨bb', g', m1', m2', m3', v', N, hh⟩ := HDD.out
        obtain ⟨pv, cv, rfl⟩ := hh.row.any
        have HH := Lib.hid hh
        have c6a := hh.own.cell 6 (by omega)
        have c6 := (show _ = some (Value.slice pv N.length cv) from c6a)
        clear hh c6a
        by_cases he1 : x.epoch < 1
        · go_wp2
          go_quiet (fail)
          go_wp2
          go_roundw
          case rel => exact ⟨k + 1, by omega, by go_num, Lib.hid ⟨Fw, Fc', cst, HCX.out.calm (below_drewP (Below.refl _ _) _), HLEN.out.more⟩⟩
          case measure => simp [intOf]; omega
        have g1 : decide (x.epoch < 1) = false := decide_eq_false he1
        by_cases he2 : (N.length : Int) < x.epoch
        · have g2 : decide ((N.length : Int) < x.epoch) = true := decide_eq_true he2
          go_wp2
          refine wp_region_quiet_lit (by kernel_rfl) (by kernel_rfl) ?_
          repeat (go_big_quiet_step (fail))
          refine wpQuiet_nil ?_
          rintro w' ⟨nq, rfl⟩
          go_wp2
          go_roundw
          case rel => exact ⟨k + 1, by omega, by go_num, Lib.hid ⟨Fw, Fc', cst, HCX.out.calm (below_drewP (Below.refl _ _) _), HLEN.out.more⟩⟩
          case measure => simp [intOf]; omega
        have g2 : decide ((N.length : Int) < x.epoch) = false := decide_eq_false he2
        go_wp2
        refine wp_region_quiet_lit (by kernel_rfl) (by kernel_rfl) ?_
        repeat (go_big_quiet_step (fail))
        refine wpQuiet_nil ?_
        rintro w' ⟨nq, rfl⟩
        obtain ⟨j, hj⟩ : ∃ j : Nat, x.epoch = (j : Int) + 1 := ⟨(x.epoch - 1).toNat, by omega⟩
        have HJ := Lib.hid hj
        have hjn : j < N.length := by omega
        obtain ⟨mm, hm⟩ : ∃ mm, N[j]? = some mm := ⟨_, List.getElem?_eq_getElem hjn⟩
        have HSI := Lib.hid (HH.out.sgs mm (List.mem_of_getElem? hm))
        have HSD := Lib.hid (show SgnDim mm.s from HOK.out.2 mm.s (by rw [← HH.out.eps]; exact List.mem_map_of_mem (List.mem_of_getElem? hm)))
        obtain ⟨g5, cg, hv5, _, hgl, _, hpc, _⟩ := HH.out.row.shape (by omega)
        injection hv5 with hv5 _ _
        subst hv5
        have HCZ := Lib.hid (HCX.out.calm (below_drewP (Below.refl _ _) nq))
        have HXZ := Lib.hid (HX.out.below (below_drewP (Below.refl _ _) nq) HX.out.lt)
        have HSA := Lib.hid (HSI.out.sig.below (below_drewP (Below.refl _ _) nq))
        have HSB := Lib.hid (HSI.out.path.below (below_drewP (Below.refl _ _) nq))
        have f0 : (wy.drewN nq).cell? ⟨g5, j * 6, none⟩ = some (.int .i64 mm.s.head.epoch) := hpc _ _ ((sgCells_get N j mm 0 hm (by omega)).trans rfl)
        have f1 : (wy.drewN nq).cell? ⟨g5, j * 6 + 1, none⟩ = some (.string mm.s.head.root) := hpc _ _ ((sgCells_get N j mm 1 hm (by omega)).trans rfl)
        have f2 : (wy.drewN nq).cell? ⟨g5, j * 6 + 2, none⟩ = some (.string mm.s.head.prev) := hpc _ _ ((sgCells_get N j mm 2 hm (by omega)).trans rfl)
        have f3 : (wy.drewN nq).cell? ⟨g5, j * 6 + 3, none⟩ = some (.int .i64 mm.s.key) := hpc _ _ ((sgCells_get N j mm 3 hm (by omega)).trans rfl)
        have f4 : (wy.drewN nq).cell? ⟨g5, j * 6 + 4, none⟩ = some (.slice mm.A mm.s.sig.length mm.ca) := hpc _ _ ((sgCells_get N j mm 4 hm (by omega)).trans rfl)
        have f5 : (wy.drewN nq).cell? ⟨g5, j * 6 + 5, none⟩ = some (.slice mm.B mm.s.path.length mm.cb) := hpc _ _ ((sgCells_get N j mm 5 hm (by omega)).trans rfl)
        have e6 := (show (wy.drewN nq).cell? _ = some (Value.slice (some ⟨g5, 0, none⟩) N.length cv) from c6)
        have HSL := Lib.hid (show g5 < (wy.drewN nq).heap.size from hgl)
        have HPL := Lib.hid (block_lt_of_cell e6)
        have HWS := Lib.hid (show wr.heap.size < (wy.drewN nq).heap.size from HXZ.out.lt)
        clear c6 x0 x1 x2 x3 x4 hpc hgl g1 g2
        generalize wy.drewN nq = wz at HCZ HXZ HSA HSB f0 f1 f2 f3 f4 f5 e6 HSL HPL HWS ⊢
        have x1 : wz.cell? ⟨wr.heap.size, 1, none⟩ = some (.int .i64 x.epoch) := HXZ.out.cell 1 (by omega)
        have x2 : wz.cell? ⟨wr.heap.size, 2, none⟩ = some (.int .i64 x.spoil) := HXZ.out.cell 2 (by omega)
        have hwj : wrap64 (x.epoch - 1) = (j : Int) := by have h0 := HJ.out; have h2 := HOK.out.1.few; rw [← HH.out.eps, List.length_map] at h2; unfold wrap64; omega
        have hwi : IntKind.i64.wrap (x.epoch - 1) = (j : Int) := by have h0 := HJ.out; have h2 := HOK.out.1.few; rw [← HH.out.eps, List.length_map] at h2; rw [IntWalk.i64_in _ (by omega)]; omega
        have hj0 : (0 : Int) ≤ (j : Int) := by omega
        have hj1 : (j : Int) < (N.length : Int) := by omega
        clear hj he1 he2
        have hfd := field0_answ
        have HSS := Lib.hid (show ∀ u : World, Below wz.heap.size wz u → (u.cell? ⟨pb, 6, none⟩ = some (.slice (some ⟨g5, 0, none⟩) N.length cv) ∧ u.cell? ⟨wr.heap.size, 1, none⟩ = some (.int .i64 x.epoch) ∧ u.cell? ⟨wr.heap.size, 2, none⟩ = some (.int .i64 x.spoil) ∧ u.cell? ⟨g5, j * 6, none⟩ = some (.int .i64 mm.s.head.epoch) ∧ u.cell? ⟨g5, j * 6 + 1, none⟩ = some (.string mm.s.head.root) ∧ u.cell? ⟨g5, j * 6 + 2, none⟩ = some (.string mm.s.head.prev) ∧ u.cell? ⟨g5, j * 6 + 3, none⟩ = some (.int .i64 mm.s.key) ∧ u.cell? ⟨g5, j * 6 + 4, none⟩ = some (.slice mm.A mm.s.sig.length mm.ca) ∧ u.cell? ⟨g5, j * 6 + 5, none⟩ = some (.slice mm.B mm.s.path.length mm.cb)) ∧ Below wz.heap.size wz u from fun u hu =>
          ⟨⟨(hu.cell HPL.out).trans e6, (hu.cell (p := ⟨wr.heap.size, 1, none⟩) HWS.out).trans x1, (hu.cell (p := ⟨wr.heap.size, 2, none⟩) HWS.out).trans x2, (hu.cell (p := ⟨g5, j * 6, none⟩) HSL.out).trans f0, (hu.cell (p := ⟨g5, j * 6 + 1, none⟩) HSL.out).trans f1, (hu.cell (p := ⟨g5, j * 6 + 2, none⟩) HSL.out).trans f2, (hu.cell (p := ⟨g5, j * 6 + 3, none⟩) HSL.out).trans f3, (hu.cell (p := ⟨g5, j * 6 + 4, none⟩) HSL.out).trans f4, (hu.cell (p := ⟨g5, j * 6 + 5, none⟩) HSL.out).trans f5⟩, hu⟩)
        have HSPC := Lib.hid (show ∀ u : World, Below wz.heap.size wz u → Calls Tryz.prog 15 #[.agg #[.int .i64 mm.s.head.epoch, .string mm.s.head.root, .string mm.s.head.prev, .int .i64 mm.s.key, .slice mm.A mm.s.sig.length mm.ca, .slice mm.B mm.s.path.length mm.cb, .slice none 0 0, .string ⟨#[]⟩, .string ⟨#[]⟩, .string ⟨#[]⟩, .string ⟨#[]⟩], .int .i64 x.spoil] u fun e w' => ∃ (s2 : Sgn) (A2 : Option Addr) (ca2 : Nat) (B2 : Option Addr) (cb2 : Nat) (v6 v7 v8 v9 v10 : Value), e = .returned (.agg #[.int .i64 s2.head.epoch, .string s2.head.root, .string s2.head.prev, .int .i64 s2.key, .slice A2 s2.sig.length ca2, .slice B2 s2.path.length cb2, v6, v7, v8, v9, v10]) ∧ Hid (s2 = (spoiltA ⟨mm.s, [], noIt, ⟨#[]⟩, ⟨#[]⟩⟩ x.spoil).sgn ∧ Strs w' A2 s2.sig ∧ Strs w' B2 s2.path ∧ (A2 = mm.A ∧ s2.sig.length = mm.s.sig.length ∨ ∀ b, A2 = some b → u.heap.size ≤ b.block) ∧ (B2 = mm.B ∧ s2.path = mm.s.path)) ∧ Below u.heap.size u w' from fun u hu =>
          (spoilt_at mm.s.head mm.s.key mm.s.sig mm.s.path [] noIt ⟨#[]⟩ ⟨#[]⟩ mm.A mm.B none mm.ca mm.cb 0 x.spoil u (HSA.out.below hu) (HSB.out.below hu) (Strs.nil _ _) (by have := HSD.out.sig; omega) (Nat.zero_le _) (Nat.zero_le _) (Nat.zero_le _) (Nat.zero_le _) (by have := HSD.out.root; omega) HSI.out.cp (fun p hp => by have := HSD.out.sz p hp; omega)).mono fun e w' ⟨m', he, hin, hn, hb⟩ => by
            obtain ⟨⟨s', A2, ca2, B2, cb2⟩, C2, cc2, a2'⟩ := m'
            obtain rfl : s' = _ := hin.sgn
            exact ⟨_, A2, ca2, B2, cb2, _, _, _, _, _, he, Lib.hid ⟨rfl, hin.sig, hin.path, hn.sig, hn.path⟩, hb⟩)
        have HQZ := Lib.hid (show Below wz.heap.size wz (wz.alloc (.cells #[.int .i64 0, .string ⟨#[]⟩, .string ⟨#[]⟩, .int .i64 0, .slice none 0 0, .slice none 0 0] 57)).drew from ((Below.refl _ _).alloc (Nat.le_refl _) _).drew)
        have HSPA := Lib.hid ((HSPC.out wz.drew (Below.refl _ _).drew).mono fun e w' ⟨s2, A2, ca2, B2, cb2, v6, v7, v8, v9, v10, he, hi, hb⟩ => show SpoiltAt e w' wz.heap.size wz mm (spoiltA ⟨mm.s, [], noIt, ⟨#[]⟩, ⟨#[]⟩⟩ x.spoil).sgn from
          ⟨s2, A2, ca2, B2, cb2, v6, v7, v8, v9, v10, he, hi.out.1, hi.out.2.1, hi.out.2.2.1, hi.out.2.2.2.1, hi.out.2.2.2.2, (Below.refl _ _).drew.trans (hb.mono (Nat.le_refl _))⟩)
        have HSPB := Lib.hid ((HSPC.out (wz.alloc (.cells #[.int .i64 0, .string ⟨#[]⟩, .string ⟨#[]⟩, .int .i64 0, .slice none 0 0, .slice none 0 0] 57)).drew HQZ.out).mono fun e w' ⟨s2, A2, ca2, B2, cb2, v6, v7, v8, v9, v10, he, hi, hb⟩ => show SpoiltAt e w' (wz.heap.size + 1) wz mm (spoiltA ⟨mm.s, [], noIt, ⟨#[]⟩, ⟨#[]⟩⟩ x.spoil).sgn ∧ Holds w' wz.heap.size 6 (sgF noHd 0 (.slice none 0 0) (.slice none 0 0)) 57 from
          ⟨⟨s2, A2, ca2, B2, cb2, v6, v7, v8, v9, v10, he, hi.out.1, hi.out.2.1, hi.out.2.2.1, (by rcases hi.out.2.2.2.1 with h | h; exact .inl h; exact .inr fun b e => by have := h b e; have e2 : (wz.alloc (.cells #[.int .i64 0, .string ⟨#[]⟩, .string ⟨#[]⟩, .int .i64 0, .slice none 0 0, .slice none 0 0] 57)).drew.heap.size = wz.heap.size + 1 := (World.size_alloc _ _); omega), hi.out.2.2.2.2, HQZ.out.trans (hb.mono HQZ.out.size)⟩, (Holds.new wz 6 (sgF noHd 0 (.slice none 0 0) (.slice none 0 0)) 57).drew.below hb (by show wz.heap.size < (wz.alloc _).heap.size; simp)⟩)
        have HS0 := Lib.hid (HSS.out _ (Below.refl _ _).drew)
        have HS1 := Lib.hid (HSS.out _ HQZ.out)
        clear HSPC
        go_wp2
        go_region_held3 (fun u => (u.cell? ⟨pb, 6, none⟩ = some (.slice (some ⟨g5, 0, none⟩) N.length cv) ∧ u.cell? ⟨wr.heap.size, 1, none⟩ = some (.int .i64 x.epoch) ∧ u.cell? ⟨wr.heap.size, 2, none⟩ = some (.int .i64 x.spoil) ∧ u.cell? ⟨g5, j * 6, none⟩ = some (.int .i64 mm.s.head.epoch) ∧ u.cell? ⟨g5, j * 6 + 1, none⟩ = some (.string mm.s.head.root) ∧ u.cell? ⟨g5, j * 6 + 2, none⟩ = some (.string mm.s.head.prev) ∧ u.cell? ⟨g5, j * 6 + 3, none⟩ = some (.int .i64 mm.s.key) ∧ u.cell? ⟨g5, j * 6 + 4, none⟩ = some (.slice mm.A mm.s.sig.length mm.ca) ∧ u.cell? ⟨g5, j * 6 + 5, none⟩ = some (.slice mm.B mm.s.path.length mm.cb)) ∧ Below wz.heap.size wz u)
          (first
            | with_reducible exact HS0.out
            | with_reducible exact HS1.out
            | with_reducible exact T6
            | with_reducible exact T7 _
            | with_reducible exact T8 _ _ _ _ _ _)
          (first
            | (go_at_call 15; refine HSPA.out.mono ?_; rintro e w6 ⟨s2, A2, ca2, B2, cb2, v6, v7, v8, v9, v10, rfl, hs2, i1, i2, i3, i4, hb6⟩; have HI6 := Lib.hid (show SpoiltIn w6 wz.heap.size wz mm s2 A2 B2 _ from ⟨hs2, i1, i2, i3, i4, hb6⟩); have T6 := HSS.out w6 hb6; have T7 := fun o => HSS.out (w6.alloc o) (hb6.alloc hb6.size o); clear hs2 i1 i2 i3 i4 hb6)
            | (go_at_call 15; refine HSPB.out.mono ?_; rintro e w6 ⟨⟨s2, A2, ca2, B2, cb2, v6, v7, v8, v9, v10, rfl, hs2, i1, i2, i3, i4, hb6⟩, hh6⟩; have HI6 := Lib.hid (show SpoiltIn w6 (wz.heap.size + 1) wz mm s2 A2 B2 _ from ⟨hs2, i1, i2, i3, i4, hb6⟩); have HH6 := Lib.hid hh6; have T6 := HSS.out w6 hb6; have T8 := fun v0 v1 v2 v3 v4 v5 => HSS.out _ (six_below (v0 := v0) (v1 := v1) (v2 := v2) (v3 := v3) (v4 := v4) (v5 := v5) hb6 (Nat.le_refl wz.heap.size)); obtain ⟨q0, q1, q2, q3, q4, q5⟩ := sg_cellsC hh6; have r0 := hh6.free 0; have r1 := hh6.free 1; have r2 := hh6.free 2; have r3 := hh6.free 3; have r4 := hh6.free 4; have r5 := hh6.free 5; clear hs2 i1 i2 i3 i4 hb6 hh6))
        have HWT := Lib.hid (HI6.out.later (ca2 := ca2) (cb2 := cb2))
        clear T6 T7 HI6
        generalize w6.heap.size = sb at HWT ⊢
        generalize w6.alloc (.cells #[.int .i64 s2.head.epoch, .string s2.head.root, .string s2.head.prev, .int .i64 s2.key, .slice A2 s2.sig.length ca2, .slice B2 s2.path.length cb2] 57) = wt at HWT ⊢
        rotate_left
        have HWT := Lib.hid (HI6.out.stored (ca2 := ca2) (cb2 := cb2) HH6.out HSA.out.lt HSB.out.lt)
        clear T6 T8 HI6 HH6 q0 q1 q2 q3 q4 q5 r0 r1 r2 r3 r4 r5
        generalize (((((w6.setCell ⟨wz.heap.size, 0, none⟩ (.int .i64 s2.head.epoch)).setCell ⟨wz.heap.size, 1, none⟩ (.string s2.head.root)).setCell ⟨wz.heap.size, 2, none⟩ (.string s2.head.prev)).setCell ⟨wz.heap.size, 3, none⟩ (.int .i64 s2.key)).setCell ⟨wz.heap.size, 4, none⟩ (.slice A2 s2.sig.length ca2)).setCell ⟨wz.heap.size, 5, none⟩ (.slice B2 s2.path.length cb2) = wt at HWT ⊢
        generalize hsb : wz.heap.size = sb at HWT ⊢
        clear hsb
        all_goals
          have HCT := Lib.hid (HCZ.out.calm HWT.out.below)
          have HDIM := Lib.hid (show SpDim (spoiltA ⟨mm.s, [], noIt, ⟨#[]⟩, ⟨#[]⟩⟩ x.spoil) from spoilt_dim ⟨HSD.out, Nat.zero_le _, Nat.zero_le _, Nat.zero_le _, Nat.zero_le _, Nat.zero_le _⟩ x.spoil)
          have HSG := Lib.hid (show s2.head.epoch < 9223372036854775808 ∧ s2.sig.length ≤ 35 ∧ s2.path.length ≤ 3 from by rw [HWT.out.is]; exact ⟨HDIM.out.ep, HDIM.out.sig, HDIM.out.path⟩)
          have HNF := Lib.hid (show (∀ b, A2 = some b → 0 < s2.sig.length → ¬ Fc' b.block) ∧ (∀ b, B2 = some b → 0 < s2.path.length → ¬ Fc' b.block) from
            ⟨fun b e l h => by
              rcases HWT.out.nearA with ⟨h1, h2⟩ | h1
              · exact HDW.out.2.1 _ (HSI.out.fs b (h1 ▸ e) (h2 ▸ l)).1 h
              · have := h1 b e; have := HQR.out _ (.inr (.inr (.inr h))); have := HWS.out; omega,
            fun b e l h => HDW.out.2.1 _ (HSI.out.fp b (HWT.out.nearB.1 ▸ e) (HWT.out.nearB.2 ▸ l)).1 h⟩)
          obtain ⟨c', n, htl⟩ : ∃ c' n, tellAns cst x.name ⟨s2.head, s2.key, s2.sig, s2.path⟩ = (c', n) := ⟨_, _, rfl⟩
          have HTL := Lib.hid htl
          have HLN := Lib.hid (show AuOk c' (k + 1) from by have h := HLEN.out.told x.name ⟨s2.head, s2.key, s2.sig, s2.path⟩ (by have := HNM.out; omega); rw [htl] at h; exact h)
          clear htl
          have HXT := Lib.hid (show Holds wt.drew wr.heap.size 5 (ddF x) 49 from HXZ.out.below (HWT.out.below.trans ((Below.refl _ _).drew.mono HWT.out.below.size)) HXZ.out.lt)
          have HCD := Lib.hid (HCT.out.calm (Below.refl _ _).drew)
          have HBX := Lib.hid (show Holds wt.drew sb 6 (sgF s2.head s2.key (.slice A2 s2.sig.length ca2) (.slice B2 s2.path.length cb2)) 57 from HWT.out.box)
          have HA7 := Lib.hid (HWT.out.sig.below (Below.refl _ _).drew)
          have HB7 := Lib.hid (HWT.out.path.below (Below.refl _ _).drew)
          have HGE := Lib.hid (show wr.heap.size < sb from by have := HWT.out.ge; have := HWS.out; omega)
          have HZT := Lib.hid (show ∀ u : World, Holds u wr.heap.size 5 (ddF x) 49 → Holds u sb 6 (sgF s2.head s2.key (.slice A2 s2.sig.length ca2) (.slice B2 s2.path.length cb2)) 57 → (u.cell? ⟨wr.heap.size, 4, none⟩ = some (.string x.name) ∧ u.cell? ⟨sb, 0, none⟩ = some (.int .i64 s2.head.epoch) ∧ u.cell? ⟨sb, 1, none⟩ = some (.string s2.head.root) ∧ u.cell? ⟨sb, 2, none⟩ = some (.string s2.head.prev) ∧ u.cell? ⟨sb, 3, none⟩ = some (.int .i64 s2.key) ∧ u.cell? ⟨sb, 4, none⟩ = some (.slice A2 s2.sig.length ca2) ∧ u.cell? ⟨sb, 5, none⟩ = some (.slice B2 s2.path.length cb2)) from fun u h1 h2 => ⟨h1.cell 4 (by omega), sg_cellsC h2⟩)
          have T5 := Lib.hid (HZT.out wt (show Holds wt wr.heap.size 5 (ddF x) 49 from HXZ.out.below HWT.out.below HXZ.out.lt) HWT.out.box)
          have T6 := Lib.hid (HZT.out wt.drew HXT.out HBX.out)
          have HKN := Lib.hid (show k + 1 ≤ 500 from by have := HDN.out; omega)
          clear HWT HCT
          go_upto_region 23 with (fail)
          go_region_held3 (fun u => u.cell? ⟨wr.heap.size, 4, none⟩ = some (.string x.name) ∧ u.cell? ⟨sb, 0, none⟩ = some (.int .i64 s2.head.epoch) ∧ u.cell? ⟨sb, 1, none⟩ = some (.string s2.head.root) ∧ u.cell? ⟨sb, 2, none⟩ = some (.string s2.head.prev) ∧ u.cell? ⟨sb, 3, none⟩ = some (.int .i64 s2.key) ∧ u.cell? ⟨sb, 4, none⟩ = some (.slice A2 s2.sig.length ca2) ∧ u.cell? ⟨sb, 5, none⟩ = some (.slice B2 s2.path.length cb2))
            (first | with_reducible exact T6.out | with_reducible exact T7.out | with_reducible exact T8.out | with_reducible exact T9.out | with_reducible exact TL.out | with_reducible exact TM.out | with_reducible exact T5.out)
            (first
              | (go_at_call 16; refine (FA.tell Fc' pc cst c' k x.name s2.head s2.key s2.sig s2.path A2 B2 ca2 cb2 n wt.drew HCD.out.pc (HK.out.below (HB2.out.trans (HCD.out.below.mono HB2.out.size)) HK.out.lt) HLEN.out (by have := HKN.out; omega) (by have := HNM.out; omega) (by have := HSG.out.2.1; omega) (by have := HSG.out.2.2; omega) HSG.out.1 HA7.out HB7.out HNF.out.1 HNF.out.2 HTL.out).mono ?_; rintro e w8 ⟨rfl, Fc2, ho8, hg8, hp8⟩; have HC8 := Lib.hid (HCD.out.prog ho8 hg8 hp8); have HXT8 := Lib.hid (HXT.out.beside ho8 (fun h => by have := HQR.out _ (.inr (.inr (.inr h))); omega)); have HBX8 := Lib.hid (HBX.out.beside ho8 (fun h => by have := HQR.out _ (.inr (.inr (.inr h))); have := HGE.out; omega)); have HA8 := Lib.hid (HA7.out.off ho8 HNF.out.1); have HB8 := Lib.hid (HB7.out.off ho8 HNF.out.2); have T7 := Lib.hid (HZT.out w8 HXT8.out HBX8.out); clear ho8 hg8 hp8)
              | (go_at_call 17; refine (refTell_is Fw pw r cst c' k x.name s2.head s2.key s2.sig s2.path A2 B2 ca2 cb2 n w8 HC8.out.rc HLEN.out (by have := HKN.out; omega) (HR2.out.below HC8.out.below HR2.out.lt) (by have := HNM.out; omega) (by have := HSG.out.2.1; omega) (by have := HSG.out.2.2; omega) HSG.out.1 HA8.out HB8.out HTL.out).mono ?_; rintro e w9 ⟨rfl, Fw2, ho9, hg9, hr9⟩; have HC9 := Lib.hid (HC8.out.ref ho9 hg9 hr9); have HXT9 := Lib.hid (HXT8.out.beside ho9 (fun h => by have := HQR.out _ (.inr (.inr (.inl h))); omega)); have HBX9 := Lib.hid (HBX8.out.beside ho9 (fun h => by have := HQR.out _ (.inr (.inr (.inl h))); have := HGE.out; omega)); have T8 := Lib.hid (HZT.out w9 HXT9.out HBX9.out); clear ho9 hg9 hr9)
              | (go_at_call 13; refine (bare_same n w9 (HGA.out w9 HC9.out.below)).mono ?_; rintro e w10 ⟨rfl, hb10⟩; have HC10 := Lib.hid (HC9.out.calm hb10); have HXT10 := Lib.hid (HXT9.out.below hb10 HXT9.out.lt); have HBX10 := Lib.hid (HBX9.out.below hb10 HBX9.out.lt); have T9 := Lib.hid (HZT.out w10 HXT10.out HBX10.out); clear hb10)
              | (go_at_call 18; refine (FA.last Fc2 pc c' (k + 1) w10 HC10.out.pc (HK.out.below (HB2.out.trans (HC10.out.below.mono HB2.out.size)) HK.out.lt) HLN.out HKN.out).mono ?_; rintro e w11 ⟨l1, rfl, hl1, hb11⟩; have HL1 := Lib.hid hl1; have HC11 := Lib.hid (HC10.out.calm hb11); have HXT11 := Lib.hid (HXT10.out.below hb11 HXT10.out.lt); have HBX11 := Lib.hid (HBX10.out.below hb11 HBX10.out.lt); have TL := Lib.hid (HZT.out w11 HXT11.out HBX11.out); clear hb11 hl1)
              | (go_at_call 19; refine (refLast_is Fw2 pw r c' (k + 1) w11 HC11.out.rc HLN.out (by have := HKN.out; omega)).mono ?_; rintro e w12 ⟨l2, rfl, hl2, hb12⟩; obtain rfl := HL1.out.one hl2; have HC12 := Lib.hid (HC11.out.calm hb12); have HXT12 := Lib.hid (HXT11.out.below hb12 HXT11.out.lt); have HBX12 := Lib.hid (HBX11.out.below hb12 HBX11.out.lt); have TM := Lib.hid (HZT.out w12 HXT12.out HBX12.out); clear hb12 hl2))
          all_goals
            have HF12 := Lib.hid (show FA.Is Fc2 w12 pc c' from HC12.out.pc)
            clear T5 T6 T7 T8 T9 TL TM HXT HXT8 HXT9 HXT10 HXT11 HXT12 HBX HBX8 HBX9 HBX10 HBX11 HBX12 HA7 HA8 HB7 HB8 HCD HC8 HC9 HC10 HC11 HZT
            go_wp2_with (first
              | (go_at_call 20; refine (FA.forks Fc2 pc c' (k + 1) w12 HF12.out (HK.out.below (HB2.out.trans (HC12.out.below.mono HB2.out.size)) HK.out.lt) HLN.out HKN.out).mono ?_; rintro e w13 ⟨P1, cp1, L1, rfl, hf1, hll, hfk1, hb13⟩; have HFO := Lib.hid hf1; have HLL := Lib.hid hll; have HFK1 := Lib.hid hfk1; have HC13 := Lib.hid (HC12.out.calm hb13); clear hf1 hll hfk1 hb13)
              | (go_at_call 21; refine (refForks_is Fw2 pw r c' (k + 1) w13 HC13.out.rc HLN.out HKN.out).mono ?_; rintro e w14 ⟨P2, cp2, L2, base, rfl, hf2, hl2n, hrow2, hb14⟩; obtain rfl := HFO.out.one hf2; have HFK2 := Lib.hid hrow2.fks; have HFK3 := Lib.hid (HFK1.out.below hb14); have HC14 := Lib.hid (HC13.out.calm hb14); clear hf2 hl2n hrow2 hb14))
            clear HF12 HC12 HC13 HFK1
            have HLB := Lib.hid HLL.out
            go_loopw [22] (fun i wq => ∃ j : Nat, j ≤ L1.length ∧ i = .int .i64 (j : Int) ∧ Hid (Below w14.heap.size w14 wq)) (fun i _ => L1.length - (intOf i).toNat)
            case' atStart => exact ⟨0, by omega, rfl, Lib.hid (Below.refl _ _)⟩
            case' round =>
              obtain ⟨j, hjl, rfl, HBJ⟩ := hrel
              by_cases hj : j < L1.length
              · obtain ⟨f, hf⟩ : ∃ f, L1[j]? = some f := ⟨_, List.getElem?_eq_getElem hj⟩
                obtain ⟨a1, rfl, _, b0, b1, b2⟩ := (HFK3.out.below HBJ.out) j f hf
                obtain ⟨a2, rfl, _, e0, e1, e2⟩ := (HFK2.out.below HBJ.out) j f hf
                have hjj : j ≤ 1000000 := by have := HLB.out; omega
                have d1 : wr.cell? ⟨(a1.add (j * 3)).block, (a1.add (j * 3)).off + 1, none⟩ = some (.string f.b) := b1
                have d2 : wr.cell? ⟨(a1.add (j * 3)).block, (a1.add (j * 3)).off + 2, none⟩ = some (.int .i64 f.epoch) := b2
                have g1 : wr.cell? ⟨(a2.add (j * 3)).block, (a2.add (j * 3)).off + 1, none⟩ = some (.string f.b) := e1
                have g2 : wr.cell? ⟨(a2.add (j * 3)).block, (a2.add (j * 3)).off + 2, none⟩ = some (.int .i64 f.epoch) := e2
                clear b1 b2 e1 e2
                have hne := run_neq_fork f
                go_wp2
                go_quiet (fail)
                go_wp2
                go_roundw
                case rel => exact ⟨j + 1, by omega, by go_num, Lib.hid (HBJ.out.trans (below_drewP (Below.refl _ _) _))⟩
                case measure => simp [intOf]; omega
              · go_wp2
                go_roundw
                case rel => exact ⟨k + 1, by omega, by go_num, Lib.hid ⟨Fw2, Fc2, c', HC14.out.calm HBJ.out, HLN.out⟩⟩
                case measure => simp [intOf]; omega
    · go_wp2
      go_ret
      exact ⟨rfl, HB2.out.trans (HCS.out.below.mono HB2.out.size)⟩
end Go.Proofs.YtgjmbokfenpefaaGreatDoor
