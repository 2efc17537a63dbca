/- Parts of the proof, one behind the other: RSee, DKeep. -/
import Derived.WalkKit
import Derived.Lib.Hide
import Derived.WalkLawsBesides
import Derived.Deep.QuietTactic
import Derived.Deep.WholeRow
import Derived.ArgAppend
import Derived.Laws.AppendOwnNone
import Derived.Laws.CopyRow
import Derived.Deep.RegionLaw
import Derived.Laws.BytesString
import Derived.Laws.IdiomStrings
import Derived.Test.YtgjmbokfenpefaaGreatDoorProg
import Derived.StringKeys
import Derived.Maps.Own
import Derived.Maps.Views
import Derived.Maps.OwnSet
import Derived.Maps.OwnOps
import Derived.Maps.RangeWalk
import Derived.Sort.KeysCollected
import Derived.Laws.BitsAllLaws
import Derived.Outline
import Derived.BigQuiet
import Derived.Laws.CopyOwn
import Derived.RegionTactic
import Derived.StillTail
import Derived.Deep.Quiet
import Derived.Deep.RegionHeld3
import Derived.Deep.DeepCutAuto
import Derived.Laws.ResultCell
import Derived.IntWalk
import Derived.Sort.Walk0
import Derived.Tactics
import Derived.Orders
import Derived.LaidEql
import Derived.Stop.Asserts
import Derived.RowKitTokens
import Derived.OrdersHeld
import Derived.Sort.LotA
import Derived.Lib.SortBridge
import Derived.Shelf.SlSortFuncK.WholeK
import Derived.Ground.GgsProg
import Derived.Shelf.GgSortFunc.Tiny
import Derived.Shelf.Strings.Repeat
import Derived.KernelRfl
import Derived.Laws.StructEq
import Derived.WideKeyEntry
import Derived.Deep.CutRange
import Derived.Test.YtgjmbokfenpefaaGreatDoorM1
import Derived.Test.YtgjmbokfenpefaaGreatDoorM2
import Derived.Test.YtgjmbokfenpefaaGreatDoorM3
import Derived.Test.YtgjmbokfenpefaaGreatDoorM4
import Derived.Test.YtgjmbokfenpefaaGreatDoorM5
import Derived.Test.YtgjmbokfenpefaaGreatDoorM6
import Derived.Test.YtgjmbokfenpefaaGreatDoorM7
import Derived.Test.YtgjmbokfenpefaaGreatDoorM8
import Derived.Test.YtgjmbokfenpefaaGreatDoorM12
import Derived.Test.YtgjmbokfenpefaaGreatDoorM16
import Derived.Test.YtgjmbokfenpefaaGreatDoorM33
import Derived.Test.YtgjmbokfenpefaaGreatDoorM34
import Derived.Test.YtgjmbokfenpefaaGreatDoorM35
import Derived.Test.YtgjmbokfenpefaaGreatDoorM36
import Derived.Test.YtgjmbokfenpefaaGreatDoorM37
import Derived.Test.YtgjmbokfenpefaaGreatDoorM38
import Derived.Test.YtgjmbokfenpefaaGreatDoorM39
import Derived.Test.YtgjmbokfenpefaaGreatDoorM40
import Derived.Test.YtgjmbokfenpefaaGreatDoorM41
import Derived.Test.YtgjmbokfenpefaaGreatDoorM42
/- The document's client: See. -/
namespace Go.Proofs.YtgjmbokfenpefaaGreatDoor
open Go.RowKit

set_option maxHeartbeats 4000000 in
set_option maxRecDepth 100000 in
theorem refSee_is (F : Nat → Prop) (p rb : Nat) (c c' : Cl) (h : Hd) (key : Int) (S P : List ByteArray) (A B : Option Addr) (ca cb : Nat) (n : Int) (w : World) (hc : RCl F w p rb c) (hr : Holds w rb 72 refCells 97)
    (hl : c.heads.length ≤ 1000000) (hls : S.length ≤ 1000000) (hlp : P.length ≤ 1000000) (he : h.epoch < 9223372036854775808) (hs : Strs w A S) (hp : Strs w B P) (ha : seeAns c ⟨h, key, S, P⟩ = (c', n)) :
    Calls Tryz.prog 42 #[.pointer (some ⟨p, 0, none⟩), .agg #[.int .i64 h.epoch, .string h.root, .string h.prev, .int .i64 key, .slice A S.length ca, .slice B P.length cb]] w fun e w' => e = .returned (.int .i64 n) ∧ ∃ F' : Nat → Prop, Off F w w' ∧ Grew w F F' ∧ RCl F' w' p rb c' := by
  obtain ⟨v, hc⟩ := hc
  obtain ⟨pv, cv, rfl⟩ := hc.row.any
  obtain ⟨w0, hw0⟩ : ∃ w0, w.alloc (.cells #[.int .i64 h.epoch, .string h.root, .string h.prev, .int .i64 key, .slice A S.length ca, .slice B P.length cb] 57) = w0 := ⟨_, rfl⟩
  have hb0 : Below w.heap.size w w0 := by rw [← hw0]; exact alloc_below _ _
  have HB0 := Lib.hid hb0
  have HX0 := Lib.hid (show Holds w0 w.heap.size 6 (sgF h key (.slice A S.length ca) (.slice B P.length cb)) 57 by rw [← hw0]; exact Holds.new w 6 (sgF h key (.slice A S.length ca) (.slice B P.length cb)) 57)
  have HC0 := Lib.hid (hc.same (same_of_below hb0 hc.lt))
  have HR0 := Lib.hid (hr.below hb0 hr.lt)
  have HS0 := Lib.hid (hs.below hb0)
  have HP0 := Lib.hid (hp.below hb0)
  have HCW := Lib.hid hc
  clear hb0 hc hr hs hp
  have HP0L := Lib.hid (show p < w0.heap.size from HC0.out.own.lt)
  have HQ0L := Lib.hid (show w.heap.size < w0.heap.size from HX0.out.lt)
  have HL := Lib.hid hl
  have HA := Lib.hid ha
  have HE := Lib.hid he
  obtain ⟨L, hLe⟩ : ∃ L, c.heads.length = L := ⟨_, rfl⟩
  have HLE := Lib.hid hLe
  rw [hLe] at HC0 HCW
  clear ha hl he hLe
  obtain ⟨mk, m, hmk⟩ : ∃ mk m, headMarkAns h = (mk, m) := ⟨_, _, rfl⟩
  have HMK := Lib.hid hmk
  go_enter Tryz.func42, Tryz.ntmps42
  have hw0' := hw0
  go_wp2
  have HFZ := Lib.hid (show ∀ z : Later w0.heap.size w0, z.at'.cell? ⟨p, 0, none⟩ = some (.pointer (some ⟨rb, 0, none⟩)) ∧ z.at'.cell? ⟨w.heap.size, 0, none⟩ = some (.int .i64 h.epoch) ∧ z.at'.cell? ⟨w.heap.size, 1, none⟩ = some (.string h.root) ∧ z.at'.cell? ⟨w.heap.size, 2, none⟩ = some (.string h.prev) from fun z =>
    ⟨(z.below.cell (p := ⟨p, 0, none⟩) HP0L.out).trans (HC0.out.own.cell 0 (by omega)), (z.below.cell (p := ⟨w.heap.size, 0, none⟩) HQ0L.out).trans (HX0.out.cell 0 (by omega)), (z.below.cell (p := ⟨w.heap.size, 1, none⟩) HQ0L.out).trans (HX0.out.cell 1 (by omega)), (z.below.cell (p := ⟨w.heap.size, 2, none⟩) HQ0L.out).trans (HX0.out.cell 2 (by omega))⟩)
  have z0 : ∀ z : Later w0.heap.size w0, z.at'.cell? ⟨p, 0, none⟩ = some (.pointer (some ⟨rb, 0, none⟩)) := fun z => (HFZ.out z).1
  have z1 : ∀ z : Later w0.heap.size w0, z.at'.cell? ⟨w.heap.size, 0, none⟩ = some (.int .i64 h.epoch) := fun z => (HFZ.out z).2.1
  have z2 : ∀ z : Later w0.heap.size w0, z.at'.cell? ⟨w.heap.size, 1, none⟩ = some (.string h.root) := fun z => (HFZ.out z).2.2.1
  have z3 : ∀ z : Later w0.heap.size w0, z.at'.cell? ⟨w.heap.size, 2, none⟩ = some (.string h.prev) := fun z => (HFZ.out z).2.2.2
  have HMZ := Lib.hid (show ∀ z : Later w0.heap.size w0, Calls Tryz.prog 70 #[.pointer (some ⟨rb, 0, none⟩), .agg #[.int .i64 h.epoch, .string h.root, .string h.prev]] z.at' fun e w' => e = .returned (.tuple #[.string mk, .int .i64 m]) ∧ Below z.at'.heap.size z.at' w' from fun z => refHeadMark_is rb h mk m _ (HR0.out.below z.below HR0.out.lt) HMK.out)
  refine wp_region_later (by kernel_rfl) (by kernel_rfl) ?_
  repeat (go_big_quiet_step ((first | (go_at_call 70; refine later_of (HMZ.out _)))))
  refine wpQuiet_nil ?_
  rintro w1 ⟨⟨w1, hb1⟩, rfl⟩
  have HB1 := Lib.hid hb1
  clear z0 z1 z2 z3 hb1 HFZ HMZ
  have HR1 := Lib.hid (HR0.out.below HB1.out HR0.out.lt)
  have HC1 := Lib.hid (HC0.out.same (same_of_below HB1.out HC0.out.lt))
  have HX1 := Lib.hid (HX0.out.below HB1.out HX0.out.lt)
  have HS1 := Lib.hid (HS0.out.below HB1.out)
  have HP1 := Lib.hid (HP0.out.below HB1.out)
  have HBW := Lib.hid (HB0.out.trans (HB1.out.mono HB0.out.size))
  have HP1L := Lib.hid (show p < w1.heap.size from HC1.out.own.lt)
  have HQ1L := Lib.hid (show w.heap.size < w1.heap.size from HX1.out.lt)
  clear HC0 HR0 HS0 HP0 HX0 HP0L HQ0L hw0 hw0' HB0 HB1
  have HF2 := Lib.hid (show ∀ z : Later w1.heap.size w1, (z.at'.cell? ⟨p, 0, none⟩ = some (.pointer (some ⟨rb, 0, none⟩)) ∧ z.at'.cell? ⟨p, 1, none⟩ = some (.string c.pub)) ∧ (z.at'.cell? ⟨w.heap.size, 0, none⟩ = some (.int .i64 h.epoch) ∧ z.at'.cell? ⟨w.heap.size, 3, none⟩ = some (.int .i64 key)) ∧ z.at'.cell? ⟨w.heap.size, 4, none⟩ = some (.slice A S.length ca) ∧ z.at'.cell? ⟨w.heap.size, 5, none⟩ = some (.slice B P.length cb) from fun z =>
    ⟨⟨(z.below.cell (p := ⟨p, 0, none⟩) HP1L.out).trans (HC1.out.own.cell 0 (by omega)), (z.below.cell (p := ⟨p, 1, none⟩) HP1L.out).trans (HC1.out.own.cell 1 (by omega))⟩, ⟨(z.below.cell (p := ⟨w.heap.size, 0, none⟩) HQ1L.out).trans (HX1.out.cell 0 (by omega)), (z.below.cell (p := ⟨w.heap.size, 3, none⟩) HQ1L.out).trans (HX1.out.cell 3 (by omega))⟩, (z.below.cell (p := ⟨w.heap.size, 4, none⟩) HQ1L.out).trans (HX1.out.cell 4 (by omega)), (z.below.cell (p := ⟨w.heap.size, 5, none⟩) HQ1L.out).trans (HX1.out.cell 5 (by omega))⟩)
  have z0 : ∀ z : Later w1.heap.size w1, z.at'.cell? ⟨p, 0, none⟩ = some (.pointer (some ⟨rb, 0, none⟩)) := fun z => (HF2.out z).1.1
  have z1 : ∀ z : Later w1.heap.size w1, z.at'.cell? ⟨p, 1, none⟩ = some (.string c.pub) := fun z => (HF2.out z).1.2
  have z2 : ∀ z : Later w1.heap.size w1, z.at'.cell? ⟨w.heap.size, 0, none⟩ = some (.int .i64 h.epoch) := fun z => (HF2.out z).2.1.1
  have z3 : ∀ z : Later w1.heap.size w1, z.at'.cell? ⟨w.heap.size, 3, none⟩ = some (.int .i64 key) := fun z => (HF2.out z).2.1.2
  have z4 : ∀ z : Later w1.heap.size w1, z.at'.cell? ⟨w.heap.size, 4, none⟩ = some (.slice A S.length ca) := fun z => (HF2.out z).2.2.1
  have z5 : ∀ z : Later w1.heap.size w1, z.at'.cell? ⟨w.heap.size, 5, none⟩ = some (.slice B P.length cb) := fun z => (HF2.out z).2.2.2
  unfold headMarkAns at hmk
  by_cases hrt : rightHead h = true
  · rw [if_pos hrt] at hmk
    obtain ⟨rfl, rfl⟩ := Prod.mk.inj hmk
    obtain ⟨k, hk⟩ : ∃ k : Nat, h.epoch = (k : Int) + 1 := ⟨(h.epoch - 1).toNat, by have := (rightHead_facts hrt).1; omega⟩
    have HK := Lib.hid hk
    have hwk : wrap64 (h.epoch - 1) = (k : Int) := by have := HE.out; unfold wrap64; omega
    have HRT := Lib.hid hrt
    clear hrt hmk hk
    by_cases hkey : key = (k : Int)
    · have e1 : (key == (k : Int)) = true := by rw [beq_iff_eq]; exact hkey
      have e2 : (key != (k : Int)) = false := by simp [bne, e1]
      have HKEY := Lib.hid hkey
      clear hkey
      obtain ⟨T, hT⟩ : ∃ T, sealOk c.pub (headMark h) key S P = T := ⟨_, rfl⟩
      have HT := Lib.hid hT
      have HVZ := Lib.hid (show ∀ z : Later w1.heap.size w1, Calls Tryz.prog 74 #[.pointer (some ⟨rb, 0, none⟩), .string c.pub, .string (headMark h), .agg #[.int .i64 key, .slice A S.length ca, .slice B P.length cb]] z.at' fun e w' => e = .returned (.bool T) ∧ Below z.at'.heap.size z.at' w' from fun z => by
        rw [← HT.out]
        exact refSealVerify_any rb c.pub (headMark h) key S P A B ca cb z.at' hls hlp (HR1.out.below z.below HR1.out.lt) (HS1.out.below z.below) (HP1.out.below z.below))
      clear hT
      cases T
      · go_wp2
        refine wp_region_later (by kernel_rfl) (by kernel_rfl) ?_
        repeat (go_big_quiet_step ((first | (go_at_call 74; refine later_of (HVZ.out _)))))
        refine wpQuiet_nil ?_
        rintro w2 ⟨⟨w2, hb2⟩, rfl⟩
        have HB2 := Lib.hid (HBW.out.trans (hb2.mono HBW.out.size))
        clear z0 z1 z2 z3 z4 z5 hb2 HF2 HVZ
        go_wp2
        go_ret
        have hh := HA.out
        unfold seeAns at hh
        rw [if_neg (by rintro ⟨_, _, h3⟩; have h4 := HT.out; rw [h4] at h3; cases h3)] at hh
        obtain ⟨rfl, rfl⟩ := Prod.mk.inj hh
        exact ⟨rfl, F, Off.of_below HB2.out, Grew.refl _ _, ⟨_, by rw [← HLE.out] at HCW; exact HCW.out.same (same_of_below HB2.out HCW.out.lt)⟩⟩
      · go_wp2
        refine wp_region_later (by kernel_rfl) (by kernel_rfl) ?_
        repeat (go_big_quiet_step ((first | (go_at_call 74; refine later_of (HVZ.out _)))))
        refine wpQuiet_nil ?_
        rintro w2 ⟨⟨w2, hb2⟩, rfl⟩
        have HB2 := Lib.hid (HBW.out.trans (hb2.mono HBW.out.size))
        have HR2 := Lib.hid (HR1.out.below hb2 HR1.out.lt)
        have HC2 := Lib.hid (HC1.out.same (same_of_below hb2 HC1.out.lt))
        have HX2 := Lib.hid (HX1.out.below hb2 HX1.out.lt)
        clear z0 z1 z2 z3 z4 z5 hb2 HF2 HVZ HR1 HC1 HX1 HS1 HP1 HBW
        have HVAL := Lib.hid (show seeAns c ⟨h, key, S, P⟩ = (if (c.heads.length : Int) < h.epoch - 1 then (c, 10) else if h.epoch - 1 < (c.heads.length : Int) then (if hdAt c.heads (h.epoch - 1).toNat = h then (c, 0) else (c, 13)) else if nextAns c.heads h.root = (h, 0) then ({ c with heads := c.heads ++ [h] }, 0) else (c, 13)) from by
          unfold seeAns
          rw [if_pos ⟨HRT.out, by show key = h.epoch - 1; rw [HKEY.out, HK.out]; omega, HT.out⟩])
        have hh := HA.out
        rw [HVAL.out, HLE.out, HK.out, show (k : Int) + 1 - 1 = (k : Int) by omega] at hh
        have HH := Lib.hid hh
        have HHD := Lib.hid (show Hds w2 pv c.heads from by
          obtain ⟨hn, A', cap', e', hd'⟩ := HC2.out.row.hds
          injection e' with e1' e2' e3'
          rw [e1']; exact hd')
        have HP2L := Lib.hid (show p < w2.heap.size from HC2.out.own.lt)
        have HQ2L := Lib.hid (show w.heap.size < w2.heap.size from HX2.out.lt)
        clear hh e1 e2 HVAL HA HMK
        have c2 : w2.cell? ⟨p, 2, none⟩ = some (.slice pv L cv) := HC2.out.own.cell 2 (by omega)
        have x0 : w2.cell? ⟨w.heap.size, 0, none⟩ = some (.int .i64 h.epoch) := HX2.out.cell 0 (by omega)
        by_cases g1 : (L : Int) < (k : Int)
        · go_wp2
          go_ret
          have hh := HH.out
          rw [if_pos g1] at hh
          obtain ⟨rfl, rfl⟩ := Prod.mk.inj hh
          exact ⟨rfl, F, Off.of_below HB2.out, Grew.refl _ _, ⟨_, by rw [← HLE.out] at HCW; exact HCW.out.same (same_of_below HB2.out HCW.out.lt)⟩⟩
        by_cases g2 : (k : Int) < (L : Int)
        · obtain ⟨a, rfl, hal, y0, y1, y2⟩ := HHD.out.at_ (i := k) (by have := HLE.out; omega)
          have d1 : w2.cell? ⟨(a.add (k * 3)).block, (a.add (k * 3)).off + 1, none⟩ = some (.string (hdAt c.heads k).root) := y1
          have d2 : w2.cell? ⟨(a.add (k * 3)).block, (a.add (k * 3)).off + 2, none⟩ = some (.string (hdAt c.heads k).prev) := y2
          have x1 : w2.cell? ⟨w.heap.size, 1, none⟩ = some (.string h.root) := HX2.out.cell 1 (by omega)
          have x2 : w2.cell? ⟨w.heap.size, 2, none⟩ = some (.string h.prev) := HX2.out.cell 2 (by omega)
          obtain ⟨X, hX⟩ : ∃ X, hdAt c.heads k = X := ⟨_, rfl⟩
          rw [hX] at y0 d1 d2
          have HX := Lib.hid hX
          have hk0 : (0 : Int) ≤ (k : Int) := by omega
          clear y1 y2 hX hal
          by_cases hxh : X = h
          · have hne : ∀ u : World, (binOp .eql 52 (.agg #[.int .i64 X.epoch, .string X.root, .string X.prev]) (.agg #[.int .i64 h.epoch, .string h.root, .string h.prev])).run Tryz.prog u = .ok (.bool true) u := fun u => by rw [run_eql_heads, decide_eq_true hxh]
            have HXH := Lib.hid hxh
            clear hxh
            go_wp2
            go_quiet (fail)
            go_wp2
            go_ret
            have hh := HH.out
            rw [if_neg (by omega), if_pos g2, show ((k : Int)).toNat = k by omega, HX.out, if_pos HXH.out] at hh
            obtain ⟨rfl, rfl⟩ := Prod.mk.inj hh
            exact ⟨rfl, F, (Off.of_below HB2.out).drewN _, Grew.refl _ _, ⟨_, by rw [← HLE.out] at HCW; exact HCW.out.same (same_of_below (below_drewP HB2.out _) HCW.out.lt)⟩⟩
          · have hne : ∀ u : World, (binOp .eql 52 (.agg #[.int .i64 X.epoch, .string X.root, .string X.prev]) (.agg #[.int .i64 h.epoch, .string h.root, .string h.prev])).run Tryz.prog u = .ok (.bool false) u := fun u => by rw [run_eql_heads, decide_eq_false hxh]
            have HXH := Lib.hid hxh
            clear hxh
            go_wp2
            go_quiet (fail)
            go_wp2
            go_ret
            have hh := HH.out
            rw [if_neg (by omega), if_pos g2, show ((k : Int)).toNat = k by omega, HX.out, if_neg HXH.out] at hh
            obtain ⟨rfl, rfl⟩ := Prod.mk.inj hh
            exact ⟨rfl, F, (Off.of_below HB2.out).drewN _, Grew.refl _ _, ⟨_, by rw [← HLE.out] at HCW; exact HCW.out.same (same_of_below (below_drewP HB2.out _) HCW.out.lt)⟩⟩
        have HKL := Lib.hid (show k = L by omega)
        obtain ⟨Y, my, hn⟩ : ∃ Y m, nextAns c.heads h.root = (Y, m) := ⟨_, _, rfl⟩
        have HN := Lib.hid hn
        have hh := HH.out
        rw [if_neg (by omega), if_neg (by omega), hn] at hh
        have HH' := Lib.hid hh
        clear hn hh HH
        have c0 : w2.cell? ⟨p, 0, none⟩ = some (.pointer (some ⟨rb, 0, none⟩)) := HC2.out.own.cell 0 (by omega)
        have x1 : w2.cell? ⟨w.heap.size, 1, none⟩ = some (.string h.root) := HX2.out.cell 1 (by omega)
        have HSS := Lib.hid (show ∀ u : World, Below w2.heap.size w2 u → (u.cell? ⟨p, 0, none⟩ = some (.pointer (some ⟨rb, 0, none⟩)) ∧ u.cell? ⟨p, 2, none⟩ = some (.slice pv L cv) ∧ u.cell? ⟨w.heap.size, 1, none⟩ = some (.string h.root)) ∧ Below w2.heap.size w2 u from fun u hu =>
          ⟨⟨(hu.cell (p := ⟨p, 0, none⟩) HP2L.out).trans c0, (hu.cell (p := ⟨p, 2, none⟩) HP2L.out).trans c2, (hu.cell (p := ⟨w.heap.size, 1, none⟩) HQ2L.out).trans x1⟩, hu⟩)
        have HCALL := Lib.hid (show ∀ u : World, Below w2.heap.size w2 u → Calls Tryz.prog 69 #[.pointer (some ⟨rb, 0, none⟩), .slice pv L cv, .string h.root] u (fun e w' => e = .returned (.tuple #[.agg #[.int .i64 Y.epoch, .string Y.root, .string Y.prev], .int .i64 my]) ∧ Below u.heap.size u w') from fun u hu => by
          have := refNext_is rb c.heads pv cv h.root Y my u HL.out (HR2.out.below hu HR2.out.lt) (HHD.out.below hu) HN.out
          rwa [HLE.out] at this)
        go_wp2
        go_region_held3 (fun w' => (w'.cell? ⟨p, 0, none⟩ = some (.pointer (some ⟨rb, 0, none⟩)) ∧ w'.cell? ⟨p, 2, none⟩ = some (.slice pv L cv) ∧ w'.cell? ⟨w.heap.size, 1, none⟩ = some (.string h.root)) ∧ Below w2.heap.size w2 w')
          (first
            | exact HSS.out _ (Below.refl _ _).drew
            | exact HSS.out _ ((Below.refl _ _).alloc (Nat.le_refl _) _).drew
            | exact HSS.out _ ((Below.refl _ _).drew.trans (hb3.mono (Nat.le_refl _)))
            | exact HSS.out _ (((Below.refl _ _).drew.trans (hb3.mono (Nat.le_refl _))).alloc hb3.size _)
            | exact HSS.out _ (((Below.refl _ _).alloc (Nat.le_refl _) _).drew.trans (hb3.mono (by simp)))
            | exact HSS.out _ ((((((Below.refl _ _).alloc (Nat.le_refl _) _).drew.trans (hb3.mono (by simp))).setCell (Nat.le_refl _) _).setCell (Nat.le_refl _) _).setCell (Nat.le_refl _) _))
          (first | (go_at_call 69; refine (HCALL.out _ (And.right (by assumption))).mono ?_; rintro e w3 ⟨rfl, hb3⟩; try (have hnew := newFacts hb3; obtain ⟨q0, q1, q2, f0, f1, f2⟩ := hnew)))
        all_goals
          first
            | (have HXB := Lib.hid (newHolds hb3 Y).1
               have HBW := Lib.hid (newHolds hb3 Y).2
               generalize (((w3.setCell ⟨w2.heap.size, 0, none⟩ (.int .i64 Y.epoch)).setCell ⟨w2.heap.size, 1, none⟩ (.string Y.root)).setCell ⟨w2.heap.size, 2, none⟩ (.string Y.prev)) = W at HXB HBW ⊢
               have y0 : W.cell? ⟨w2.heap.size, 0, none⟩ = some (.int .i64 Y.epoch) := HXB.out.cell 0 (by omega)
               have y1 : W.cell? ⟨w2.heap.size, 1, none⟩ = some (.string Y.root) := HXB.out.cell 1 (by omega)
               have y2 : W.cell? ⟨w2.heap.size, 2, none⟩ = some (.string Y.prev) := HXB.out.cell 2 (by omega)
               clear q0 q1 q2 f0 f1 f2)
            | (have HXB := Lib.hid (show Holds (w3.alloc (.cells #[.int .i64 Y.epoch, .string Y.root, .string Y.prev] 52)) w3.heap.size 3 (hdF Y) 52 from Holds.new w3 3 (hdF Y) 52)
               have HBW := Lib.hid (show Below w2.heap.size w2 (w3.alloc (.cells #[.int .i64 Y.epoch, .string Y.root, .string Y.prev] 52)) from ((Below.refl _ _).drew.trans (hb3.mono (Nat.le_refl _))).alloc hb3.size _)
               generalize (w3.alloc (.cells #[.int .i64 Y.epoch, .string Y.root, .string Y.prev] 52)) = W at HXB HBW ⊢
               have y0 : W.cell? ⟨w3.heap.size, 0, none⟩ = some (.int .i64 Y.epoch) := HXB.out.cell 0 (by omega)
               have y1 : W.cell? ⟨w3.heap.size, 1, none⟩ = some (.string Y.root) := HXB.out.cell 1 (by omega)
               have y2 : W.cell? ⟨w3.heap.size, 2, none⟩ = some (.string Y.prev) := HXB.out.cell 2 (by omega))
          rename_i hheld
          have HBT := Lib.hid (HB2.out.trans (HBW.out.mono HB2.out.size))
          have HXW := Lib.hid (HX2.out.below HBW.out HX2.out.lt)
          have HCT := Lib.hid (HC2.out.same (same_of_below HBW.out HC2.out.lt))
          clear hheld hb3 c0 c2 x0 x1 HSS HCALL hwk
          have l0 : W.cell? ⟨w.heap.size, 0, none⟩ = some (.int .i64 h.epoch) := HXW.out.cell 0 (by omega)
          have l1 : W.cell? ⟨w.heap.size, 1, none⟩ = some (.string h.root) := HXW.out.cell 1 (by omega)
          have l2 : W.cell? ⟨w.heap.size, 2, none⟩ = some (.string h.prev) := HXW.out.cell 2 (by omega)
          by_cases hm0 : my = 0
          · subst hm0
            by_cases hyx : Y = h
            · have hne : ∀ u : World, (binOp .neq 52 (.agg #[.int .i64 Y.epoch, .string Y.root, .string Y.prev]) (.agg #[.int .i64 h.epoch, .string h.root, .string h.prev])).run Tryz.prog u = .ok (.bool false) u := fun u => by rw [run_neq_heads, decide_eq_true hyx]; rfl
              have HYX := Lib.hid hyx
              clear hyx
              have r0 : W.cell? ⟨p, 2, none⟩ = some (.slice pv L cv) := HCT.out.own.cell 2 (by omega)
              have z0 : ∀ z : SeeZ p w.heap.size (.slice pv L cv) h, z.at'.cell? ⟨p, 2, none⟩ = some (.slice pv L cv) := fun z => z.h0
              have z1 : ∀ z : SeeZ p w.heap.size (.slice pv L cv) h, z.at'.cell? ⟨w.heap.size, 0, none⟩ = some (.int .i64 h.epoch) := fun z => z.h1
              have z2 : ∀ z : SeeZ p w.heap.size (.slice pv L cv) h, z.at'.cell? ⟨w.heap.size, 1, none⟩ = some (.string h.root) := fun z => z.h2
              have z3 : ∀ z : SeeZ p w.heap.size (.slice pv L cv) h, z.at'.cell? ⟨w.heap.size, 2, none⟩ = some (.string h.prev) := fun z => z.h3
              have zn : Nonempty (SeeZ p w.heap.size (.slice pv L cv) h) := ⟨⟨W.drew, r0, l0, l1, l2⟩⟩
              go_wp2
              refine wp_region_taken (fun w' => ∃ z : SeeZ p w.heap.size (.slice pv L cv) h, w' = z.at') [0, 1, 2, 3, 4, 5, 6] [7, 8, 9, 10, 11] (by kernel_rfl) (by kernel_rfl) (by intro c d v a w h; cases d <;> exact h) ⟨⟨W.drew, r0, l0, l1, l2⟩, rfl⟩ ?_
              simp only [pickOps, List.filterMap_cons, List.filterMap_nil, List.getElem?_cons_zero, List.getElem?_cons_succ]
              repeat (first | go_big_quiet_step (fail) | quiet_step (fail))
              refine wpQuiet_nil ?_
              have HZZ := Lib.hid (show ∀ u : World, Below W.heap.size W u → ∃ z : SeeZ p w.heap.size (.slice pv L cv) h, u = z.at' from fun u hu =>
                ⟨⟨u, (hu.cell (p := ⟨p, 2, none⟩) HCT.out.own.lt).trans r0, (hu.cell (p := ⟨w.heap.size, 0, none⟩) HXW.out.lt).trans l0, (hu.cell (p := ⟨w.heap.size, 1, none⟩) HXW.out.lt).trans l1, (hu.cell (p := ⟨w.heap.size, 2, none⟩) HXW.out.lt).trans l2⟩, rfl⟩)
              clear z0 z1 z2 z3 zn
              refine wpSeq_one rfl (fun K' hK => ?_)
              go_wp2
              refine hK _ _ (HZZ.out _ ((Below.refl _ _).alloc (Nat.le_refl _) _).drew) ?_
              clear hK K'
              have HROW := Lib.hid (show Row W.drew (p + 1) 3 (.slice pv L cv) L (hdCells c.heads) from by have := HCT.out.row.drew; rwa [HLE.out] at this)
              refine wpSeq_one rfl (fun K' hK => ?_)
              refine wpList_append_cells rfl (.tmp 104) (.tmp 107) 129 rfl 52 Tryz.underlying129 _ 3 40 infoHd rfl (by decide) (by decide) (p + 1) (.slice pv L cv) L (hdCells c.heads) rfl (HROW.out.alloc _) (by have := HCT.out.own.lt; simp; omega) (by have := HL.out; have := HLE.out; omega) h.cells rfl (by intro u hu; simp [Hd.cells] at hu; rcases hu with rfl | rfl | rfl <;> rfl) W.heap.size rfl 52 (heap_alloc_new _ _) ?_
              intro v7 w7 hrow7 hgrow7 hmove7
              obtain ⟨q7, cap7, rfl⟩ := hrow7.out.any
              have HPU := Lib.hid (RClM.pushed (u := W.drew) (h := h) (HCT.out.same ⟨Nat.le_refl _, fun _ _ => rfl⟩) (by rw [HLE.out]; exact hrow7.out) hgrow7.out hmove7.out)
              have HBLK := Lib.hid (show ∀ k, k < W.heap.size → (Value.slice pv L cv).ownBlock ≠ some k → w7.heap[k]? = W.heap[k]? from fun k hk hv =>
                (hgrow7.out.block k (by simp; omega) (fun e => hv e.symm)).trans ((alloc_below W.drew _).block k hk))
              have HPV := Lib.hid (show (Value.slice pv L cv).ownBlock ≠ some p from HCT.out.row.fresh (Nat.lt_succ_self p))
              have HQV := Lib.hid (show (Value.slice pv L cv).ownBlock ≠ some w.heap.size from fun e => by have := HCW.out.lt _ (HCW.out.fv _ e); omega)
              have HZ7 := Lib.hid (show ∃ z : SeeZ p w.heap.size (.slice pv L cv) h, w7 = z.at' from by
                have b1 := HBLK.out p HCT.out.own.lt HPV.out
                have b2 := HBLK.out w.heap.size HXW.out.lt HQV.out
                exact ⟨⟨w7, (World.cell?_of_block (w := W) (a := ⟨p, 2, none⟩) b1).trans r0, (World.cell?_of_block (w := W) (a := ⟨w.heap.size, 0, none⟩) b2).trans l0, (World.cell?_of_block (w := W) (a := ⟨w.heap.size, 1, none⟩) b2).trans l1, (World.cell?_of_block (w := W) (a := ⟨w.heap.size, 2, none⟩) b2).trans l2⟩, rfl⟩)
              have HP7 := Lib.hid (show Holds w7 p 3 (clF rb c.pub (.slice pv L cv)) 132 from by
                have h1 := HCT.out.own
                unfold Holds at h1 ⊢
                rw [HBLK.out p HCT.out.own.lt HPV.out]; exact h1)
              have t6 : w7.cell? ⟨p, 2, none⟩ = some (.slice pv L cv) := HP7.out.cell 2 (by omega)
              have t6f : w7.frozen? ⟨p, 2, none⟩ = false := HP7.out.free 2
              have HOFF := Lib.hid (show Off F w (w7.setCell ⟨p, 2, none⟩ (.slice q7 (L + 1) cap7)) from
                ((((Off.of_below HBT.out).drew.alloc _).trans (Off.of_grown hgrow7.out (F := F) (fun k hk => HCW.out.fv k hk)) (fun _ _ h => h)).setCell (.inr HCW.out.fp) _))
              clear r0 l0 l1 l2 y0 y1 y2
              refine hK _ _ HZ7.out ?_
              clear hK K'
              refine wpSeq_one rfl (fun K' hK => ?_)
              go_wp2
              refine hK _ _ HZ7.out ?_
              clear hK K'
              refine wpSeq_one rfl (fun K' hK => ?_)
              go_wp2
              refine hK _ _ HZ7.out ?_
              clear hK K'
              refine wpSeq_last rfl (fun K' hK => ?_)
              go_wp2
              refine hK _ _ ?_
              clear hK K' t6 t6f
              go_wp2
              go_ret
              have hh := HH'.out
              rw [if_pos (by rw [HYX.out])] at hh
              obtain ⟨rfl, rfl⟩ := Prod.mk.inj hh
              exact ⟨rfl, _, HOFF.out, (fun k hk => by
                rcases hk.1 with e | e
                · exact .inl e
                · exact .inr (Nat.le_trans HBT.out.size e)), ⟨_, HPU.out⟩⟩
            · have hne : ∀ u : World, (binOp .neq 52 (.agg #[.int .i64 Y.epoch, .string Y.root, .string Y.prev]) (.agg #[.int .i64 h.epoch, .string h.root, .string h.prev])).run Tryz.prog u = .ok (.bool true) u := fun u => by rw [run_neq_heads, decide_eq_false hyx]; rfl
              have HYX := Lib.hid hyx
              clear hyx
              go_wp2
              go_ret
              have hh := HH'.out
              rw [if_neg (fun e => HYX.out (Prod.mk.inj e).1)] at hh
              obtain ⟨rfl, rfl⟩ := Prod.mk.inj hh
              exact ⟨rfl, F, Off.of_below HBT.out, Grew.refl _ _, ⟨_, HCT.out⟩⟩
          · have e1 : (my == 0) = false := by rw [beq_eq_false_iff_ne]; exact hm0
            have e2 : (my != 0) = true := by simpa using hm0
            have HM0 := Lib.hid hm0
            clear hm0
            go_wp2
            go_ret
            have hh := HH'.out
            rw [if_neg (fun e => HM0.out (Prod.mk.inj e).2)] at hh
            obtain ⟨rfl, rfl⟩ := Prod.mk.inj hh
            exact ⟨rfl, F, Off.of_below HBT.out, Grew.refl _ _, ⟨_, HCT.out⟩⟩
    · have e1 : (key == (k : Int)) = false := by rw [beq_eq_false_iff_ne]; exact hkey
      have e2 : (key != (k : Int)) = true := by simp [bne, e1]
      have HKEY := Lib.hid hkey
      clear hkey
      go_wp2
      refine wp_region_later (by kernel_rfl) (by kernel_rfl) ?_
      repeat (go_big_quiet_step (fail))
      refine wpQuiet_nil ?_
      rintro w2 ⟨⟨w2, hb2⟩, rfl⟩
      have HB2 := Lib.hid (HBW.out.trans (hb2.mono HBW.out.size))
      clear z0 z1 z2 z3 z4 z5 hb2 HF2
      go_wp2
      go_ret
      have hh := HA.out
      unfold seeAns at hh
      rw [if_neg (by rintro ⟨_, h2, _⟩; exact HKEY.out (h2.trans (by show h.epoch - 1 = _; rw [HK.out]; omega)))] at hh
      obtain ⟨rfl, rfl⟩ := Prod.mk.inj hh
      exact ⟨rfl, F, Off.of_below HB2.out, Grew.refl _ _, ⟨_, by rw [← HLE.out] at HCW; exact HCW.out.same (same_of_below HB2.out HCW.out.lt)⟩⟩
  · rw [if_neg hrt] at hmk
    obtain ⟨rfl, rfl⟩ := Prod.mk.inj hmk
    clear hmk
    go_wp2
    refine wp_region_later (by kernel_rfl) (by kernel_rfl) ?_
    repeat (go_big_quiet_step (fail))
    refine wpQuiet_nil ?_
    rintro w2 ⟨⟨w2, hb2⟩, rfl⟩
    have HB2 := Lib.hid (HBW.out.trans (hb2.mono HBW.out.size))
    clear z0 z1 z2 z3 z4 z5 hb2 HF2
    go_wp2
    go_ret
    have hh := HA.out
    unfold seeAns at hh
    rw [if_neg (fun e => hrt e.1)] at hh
    obtain ⟨rfl, rfl⟩ := Prod.mk.inj hh
    exact ⟨rfl, F, Off.of_below HB2.out, Grew.refl _ _, ⟨_, by rw [← HLE.out] at HCW; exact HCW.out.same (same_of_below HB2.out HCW.out.lt)⟩⟩
end Go.Proofs.YtgjmbokfenpefaaGreatDoor
/- What holds of a directory is kept by what is put, and published. -/
namespace Go.Proofs.YtgjmbokfenpefaaGreatDoor
open Go.RowKit

theorem DOk.vals_len {d : Dst} (h : DOk d) : d.vals.length ≤ 61 := by
  have := nodup_le h.vk (B := keysL (allNames d ⟨#[]⟩)) fun x hx => (mem_names h.vk h.wk _ _).2 (.inr (.inl hx))
  rw [keysL_length, keysL_length] at this
  have := h.room
  omega
end Go.Proofs.YtgjmbokfenpefaaGreatDoor
