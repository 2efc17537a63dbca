/- Parts of the proof, one behind the other: RDirN, DirF, ClientF, RTell, RLast. -/
import Derived.WalkKit
import Derived.Lib.Hide
import Derived.WalkLawsBesides
import Derived.Deep.QuietTactic
import Derived.Deep.WholeRow
import Derived.ArgAppend
import Derived.Laws.AppendOwnNone
import Derived.Laws.CopyRow
import Derived.Deep.RegionLaw
import Derived.Laws.BytesString
import Derived.Laws.IdiomStrings
import Derived.Test.YtgjmbokfenpefaaGreatDoorProg
import Derived.StringKeys
import Derived.Maps.Own
import Derived.Maps.Views
import Derived.Maps.OwnSet
import Derived.Maps.OwnOps
import Derived.Maps.RangeWalk
import Derived.Sort.KeysCollected
import Derived.Laws.BitsAllLaws
import Derived.Outline
import Derived.BigQuiet
import Derived.Laws.CopyOwn
import Derived.RegionTactic
import Derived.StillTail
import Derived.Deep.Quiet
import Derived.Deep.RegionHeld3
import Derived.Deep.DeepCutAuto
import Derived.Laws.ResultCell
import Derived.IntWalk
import Derived.Sort.Walk0
import Derived.Tactics
import Derived.Orders
import Derived.LaidEql
import Derived.Stop.Asserts
import Derived.RowKitTokens
import Derived.OrdersHeld
import Derived.Sort.LotA
import Derived.Lib.SortBridge
import Derived.Deep.AppendSrc
import Derived.Shelf.SlSortFuncK.WholeK
import Derived.Ground.GgsProg
import Derived.Shelf.GgSortFunc.Tiny
import Derived.Shelf.Strings.Repeat
import Derived.KernelRfl
import Derived.WideKeyEntry
import Derived.Deep.CutRange
import Derived.Laws.StructEq
import Derived.Test.YtgjmbokfenpefaaGreatDoorM1
import Derived.Test.YtgjmbokfenpefaaGreatDoorM2
import Derived.Test.YtgjmbokfenpefaaGreatDoorM3
import Derived.Test.YtgjmbokfenpefaaGreatDoorM4
import Derived.Test.YtgjmbokfenpefaaGreatDoorM5
import Derived.Test.YtgjmbokfenpefaaGreatDoorM6
import Derived.Test.YtgjmbokfenpefaaGreatDoorM7
import Derived.Test.YtgjmbokfenpefaaGreatDoorM8
import Derived.Test.YtgjmbokfenpefaaGreatDoorM12
import Derived.Test.YtgjmbokfenpefaaGreatDoorM13
import Derived.Test.YtgjmbokfenpefaaGreatDoorM15
import Derived.Test.YtgjmbokfenpefaaGreatDoorM16
import Derived.Test.YtgjmbokfenpefaaGreatDoorM33
import Derived.Test.YtgjmbokfenpefaaGreatDoorM34
import Derived.Test.YtgjmbokfenpefaaGreatDoorM35
import Derived.Test.YtgjmbokfenpefaaGreatDoorM36
import Derived.Test.YtgjmbokfenpefaaGreatDoorM37
import Derived.Test.YtgjmbokfenpefaaGreatDoorM38
import Derived.Test.YtgjmbokfenpefaaGreatDoorM39
import Derived.Test.YtgjmbokfenpefaaGreatDoorM40
import Derived.Test.YtgjmbokfenpefaaGreatDoorM41
import Derived.Test.YtgjmbokfenpefaaGreatDoorM42
import Derived.Test.YtgjmbokfenpefaaGreatDoorM43
import Derived.Test.YtgjmbokfenpefaaGreatDoorM44
import Derived.Test.YtgjmbokfenpefaaGreatDoorM45
/- The document's NewDir. -/
namespace Go.Proofs.YtgjmbokfenpefaaGreatDoor
open Go.RowKit

set_option maxRecDepth 100000 in
theorem refNewDir_t (rb : Nat) (secret : ByteArray) (w : World) (hr : Holds w rb 72 refCells 97) (h16 : secret.size = 16) :
    Calls Tryz.prog 8 #[.pointer (some ⟨rb, 0, none⟩), .string secret] w fun e w' => ∃ (p : Nat) (F : Nat → Prop), e = .returned (.tuple #[.pointer (some ⟨p, 0, none⟩), .int .i64 0]) ∧ Below w.heap.size w w' ∧ RDir F w' p rb (newDst secret) ∧ ∀ k, F k → w.heap.size ≤ k := by
  have HR := Lib.hid hr
  have H16 := Lib.hid h16
  clear hr
  go_enter Tryz.func8, Tryz.ntmps8
  go_wp2_with fail
  refine (isMark_t secret _ h16).mono ?_
  rintro e w0 ⟨rfl, rfl⟩
  clear h16
  go_wp2_with fail
  refine (refMark_any rb 107 [secret] (some ⟨w0.heap.size, 0, none⟩) 1 _ (HR.out.alloc _) (by have := H16.out; simp [total]; omega) (by simp) (strs_new w0 [secret] 9)).mono ?_
  rintro e w1 ⟨rfl, hb1⟩
  have HB1 := Lib.hid ((alloc_below w0 (.cells #[.string secret] 9)).trans (hb1.mono (by simp)))
  have HR1 := Lib.hid (HR.out.below HB1.out HR.out.lt)
  have HS := Lib.hid (show (markOf 107 [secret]).size = 16 from markOf_len _ _)
  clear hb1
  go_wp2_with fail
  refine (refNewBox_t rb (markOf 107 [secret]) _ HR1.out HS.out).mono ?_
  rintro e w2 ⟨bb, bv, rfl, hbx⟩
  obtain ⟨g, hgb, hba⟩ := hbx.at'
  have HB2 := Lib.hid (HB1.out.trans (hbx.below.mono HB1.out.size))
  have HBL := Lib.hid (show w0.heap.size ≤ bb from Nat.le_trans HB1.out.size hbx.lt)
  have HGB := Lib.hid hgb
  have HBA := Lib.hid hba
  clear hbx hgb hba
  have hmm := @run_makeMap Tryz.prog
  go_wp2
  clear hmm
  refine bodyPost_ret (results_tmp2 rfl _ _ _) rfl ?_
  have l1 := HBA.out.lt
  have l2 := HBA.out.ltg
  have l3 := HB2.out.size
  have l4 := HBL.out
  have l5 := HGB.out
  obtain ⟨w3, h3⟩ : ∃ w3, w2.alloc (.map #[] 0) = w3 := ⟨_, rfl⟩
  obtain ⟨w4, h4⟩ : ∃ w4, w3.alloc (.map #[] 0) = w4 := ⟨_, rfl⟩
  obtain ⟨w5, h5⟩ : ∃ w5, w4.alloc (.map #[] 0) = w5 := ⟨_, rfl⟩
  rw [h3, h4, h5]
  have z3 : w3.heap.size = w2.heap.size + 1 := by rw [← h3]; simp
  have z4 : w4.heap.size = w2.heap.size + 2 := by rw [← h4, World.size_alloc, z3]
  have z5 : w5.heap.size = w2.heap.size + 3 := by rw [← h5, World.size_alloc, z4]
  have b3 : Below w2.heap.size w2 w3 := by rw [← h3]; exact alloc_below _ _
  have b4 : Below w3.heap.size w3 w4 := by rw [← h4]; exact alloc_below _ _
  have b5 : Below w4.heap.size w4 w5 := by rw [← h5]; exact alloc_below _ _
  have m3 : MapIs kS w3 w2.heap.size [] := by rw [← h3]; exact MapIs.made kS w2
  have m4 : MapIs kS w4 (w2.heap.size + 1) [] := by rw [← h4, ← z3]; exact MapIs.made kS w3
  have m5 : MapIs kI w5 (w2.heap.size + 2) [] := by rw [← h5, ← z4]; exact MapIs.made kI w4
  clear h3 h4 h5
  have b6 := alloc_below w5 (.cells #[.pointer (some ⟨rb, 0, none⟩), .string secret, .pointer (some ⟨bb, 0, none⟩), .map (some w2.heap.size), .map (some (w2.heap.size + 1)), .map (some (w2.heap.size + 2)), .slice none 0 0] 40)
  have hall : Below w2.heap.size w2 (w5.alloc (.cells #[.pointer (some ⟨rb, 0, none⟩), .string secret, .pointer (some ⟨bb, 0, none⟩), .map (some w2.heap.size), .map (some (w2.heap.size + 1)), .map (some (w2.heap.size + 2)), .slice none 0 0] 40)) :=
    ((b3.trans (b4.mono (by omega))).trans (b5.mono (by omega))).trans (b6.mono (by omega))
  refine ⟨w5.heap.size, fun k => w0.heap.size ≤ k ∧ k < w5.heap.size + 1, (by rw [z5]; rfl), HB2.out.trans (hall.mono l3), ⟨bb, g, w2.heap.size, w2.heap.size + 1, w2.heap.size + 2, .slice none 0 0, [], ?_⟩, fun k hk => hk.1⟩
  exact {
    own := Holds.new w5 7 (rdF rb bb w2.heap.size (w2.heap.size + 1) (w2.heap.size + 2) secret (.slice none 0 0)) 40
    box := HBA.out.same (F := fun k => k < w2.heap.size) (same_of_below hall fun k hk => hk) l1 l2
    wait := m3.block ((b6.block _ (by omega)).trans ((b5.block _ (by omega)).trans (b4.block _ (by omega))))
    vals := m4.block ((b6.block _ (by omega)).trans (b5.block _ (by omega)))
    since := m5.block (b6.block _ (by omega))
    row := Row.nil _ _ _
    eps := rfl
    sgs := fun m hm => by cases hm
    fp := ⟨by omega, by omega⟩
    fb := ⟨by omega, by omega⟩
    fg := ⟨by omega, by omega⟩
    f1 := ⟨by omega, by omega⟩
    f2 := ⟨by omega, by omega⟩
    f3 := ⟨by omega, by omega⟩
    fv := fun k hk => by cases hk
    n12 := by omega
    n13 := by omega
    n23 := by omega
    lb := by omega
    lg := by omega
    out := fun k hk => by rcases hk with rfl | rfl | hk; exact ⟨by omega, by omega, by omega⟩; exact ⟨by omega, by omega, by omega⟩; cases hk
    lt := fun k hk => by rw [World.size_alloc]; exact hk.2 }
end Go.Proofs.YtgjmbokfenpefaaGreatDoor
/- What the program's directory answers (a Face). -/
namespace Go.Proofs.YtgjmbokfenpefaaGreatDoor
open Go.RowKit

theorem Ds.ref {DF : DirFace} {w1 wr w2 : World} {pw pd rb : Nat} {Fw Fw' Fd : Nat → Prop} {d d' d2 : Dst} (h : Ds DF w1 wr pw pd rb Fw Fd d d2) (ho : Off Fw wr w2) (hg : Grew wr Fw Fw') (hr : RDir Fw' w2 pw rb d') : Ds DF w1 w2 pw pd rb Fw' Fd d' d2 where
  below := h.below.trans (ho.below h.bw h.below.size)
  rd := hr
  pd := DF.same h.pd (ho.same (DF.lt h.pd) h.ap)
  bw := hg.base h.bw h.below.size
  bd := h.bd
  ap := hg.apart (DF.lt h.pd) h.ap
end Go.Proofs.YtgjmbokfenpefaaGreatDoor
/- What the program's client answers (a Face), and what ClientSees keeps from deed to deed. -/
namespace Go.Proofs.YtgjmbokfenpefaaGreatDoor
open Go.RowKit

def ddF (x : Dd) : Nat → Value := fun i => [Value.int .i64 x.what, .int .i64 x.epoch, .int .i64 x.spoil, .bool x.other, .string x.name].getD i undef
theorem Cs.ref {FC : ClientFace} {w1 wr w2 : World} {pa pb pw pc rb : Nat} {Fa Fb Fw Fw' Fc : Nat → Prop} {da db : Dst} {c c' c2 : Cl} (h : Cs FC w1 wr pa pb pw pc rb Fa Fb Fw Fc da db c c2) (ho : Off Fw wr w2) (hg : Grew wr Fw Fw') (hr : RCl Fw' w2 pw rb c') : Cs FC w1 w2 pa pb pw pc rb Fa Fb Fw' Fc da db c' c2 where
  below := h.below.trans (ho.below h.bw h.below.size)
  da := h.da.same (ho.same h.da.lt h.aw)
  db := h.db.same (ho.same h.db.lt h.dw)
  rc := hr
  pc := FC.same h.pc (ho.same (FC.lt h.pc) h.cw)
  bw := hg.base h.bw h.below.size
  bc := h.bc
  aw := hg.apart h.da.lt h.aw
  ac := h.ac
  dw := hg.apart h.db.lt h.dw
  dc := h.dc
  cw := hg.apart (FC.lt h.pc) h.cw
end Go.Proofs.YtgjmbokfenpefaaGreatDoor
/- The document's auditor: Tell. -/
namespace Go.Proofs.YtgjmbokfenpefaaGreatDoor
open Go.RowKit

set_option maxHeartbeats 1000000 in
set_option maxRecDepth 100000 in
theorem refTell_is (F : Nat → Prop) (p rb : Nat) (a a' : Au) (N : Nat) (name : ByteArray) (h : Hd) (key : Int) (S P : List ByteArray) (A B : Option Addr) (ca cb : Nat) (n : Int) (w : World) (ha : RAu F w p rb a) (hok : AuOk a N) (hN : N ≤ 1000) (hr : Holds w rb 72 refCells 97)
    (hn : name.size ≤ 1000000) (hls : S.length ≤ 1000000) (hlp : P.length ≤ 1000000) (he : h.epoch < 9223372036854775808) (hs : Strs w A S) (hp : Strs w B P) (ht : tellAns a name ⟨h, key, S, P⟩ = (a', n)) :
    Calls Tryz.prog 17 #[.pointer (some ⟨p, 0, none⟩), .string name, .agg #[.int .i64 h.epoch, .string h.root, .string h.prev, .int .i64 key, .slice A S.length ca, .slice B P.length cb]] w fun e w' => e = .returned (.int .i64 n) ∧ ∃ F' : Nat → Prop, Off F w w' ∧ Grew w F F' ∧ RAu F' w' p rb a' := by
  obtain ⟨b, W, G, ha⟩ := ha
  obtain ⟨w0, hw0⟩ : ∃ w0, w.alloc (.cells #[.int .i64 h.epoch, .string h.root, .string h.prev, .int .i64 key, .slice A S.length ca, .slice B P.length cb] 57) = w0 := ⟨_, rfl⟩
  have hb0 : Below w.heap.size w w0 := by rw [← hw0]; exact alloc_below _ _
  have HB0 := Lib.hid hb0
  have HX0 := Lib.hid (show Holds w0 w.heap.size 6 (sgF h key (.slice A S.length ca) (.slice B P.length cb)) 57 by rw [← hw0]; exact Holds.new w 6 (sgF h key (.slice A S.length ca) (.slice B P.length cb)) 57)
  have HA0 := Lib.hid (ha.same (same_of_below hb0 ha.lt))
  have HR0 := Lib.hid (hr.below hb0 hr.lt)
  have HS0 := Lib.hid (hs.below hb0)
  have HP0 := Lib.hid (hp.below hb0)
  have HAW := Lib.hid ha
  have HOK := Lib.hid hok
  have HN := Lib.hid hN
  have HNM := Lib.hid hn
  have HT := Lib.hid ht
  have HE := Lib.hid he
  have HPW := Lib.hid (ha.lt p ha.fp)
  clear hb0 ha hr hs hp hok hN hn ht he
  have g0 : w0.cell? ⟨p, 0, none⟩ = some (.pointer (some ⟨rb, 0, none⟩)) := HA0.out.own.cell 0 (by omega)
  have g1 : w0.cell? ⟨p, 1, none⟩ = some (.string a.pub) := HA0.out.own.cell 1 (by omega)
  have g2 : w0.cell? ⟨p, 2, none⟩ = some (.map (some b)) := HA0.out.own.cell 2 (by omega)
  obtain ⟨c', n2, hse⟩ : ∃ c' n2, seeAns (auCl a name) ⟨h, key, S, P⟩ = (c', n2) := ⟨_, _, rfl⟩
  have HSE := Lib.hid hse
  clear hse
  cases hlk : look a.who name with
  | none =>
    have HLK := Lib.hid hlk
    have hlw : look W name = none := by
      have := HA0.out.all name
      rw [hlk] at this
      cases hq : look W name with
      | none => rfl
      | some x => rw [hq] at this; cases this
    have hlk1 : (Instr.lookup 108 (.map (some b)) (.string name) true).run Tryz.prog w0 = .ok (.tuple #[.pointer none, .bool false]) w0 := by
      have := HA0.out.map.lookOk HNM.out
      rw [hlw] at this
      exact this
    clear hlw hlk
    go_enter Tryz.func17, Tryz.ntmps17
    have hw0' := hw0
    have HP0L := Lib.hid (HA0.out.own.lt)
    have HSS := Lib.hid (show ∀ u : World, Below w0.heap.size w0 u → (u.cell? ⟨p, 0, none⟩ = some (.pointer (some ⟨rb, 0, none⟩)) ∧ u.cell? ⟨p, 1, none⟩ = some (.string a.pub)) from fun u hu => ⟨(hu.cell (p := ⟨p, 0, none⟩) HP0L.out).trans g0, (hu.cell (p := ⟨p, 1, none⟩) HP0L.out).trans g1⟩)
    have T5 := Lib.hid (HSS.out w0 (Below.refl _ _))
    have T6 := Lib.hid (HSS.out w0.drew (Below.refl _ _).drew)
    have HPU := Lib.hid (show a.pub.size = 16 from HOK.out.pub)
    go_wp2_with fail
    go_region_held3 (fun u => u.cell? ⟨p, 0, none⟩ = some (.pointer (some ⟨rb, 0, none⟩)) ∧ u.cell? ⟨p, 1, none⟩ = some (.string a.pub))
      (first | with_reducible exact T6.out | with_reducible exact T7.out | with_reducible exact T5.out)
      (first | (go_at_call 41; refine (refNewClient_t rb a.pub w0.drew HPU.out).mono ?_; rintro e w1 ⟨q, rfl, hb1, hc1, hq1⟩; have HB1 := Lib.hid hb1; have HC1 := Lib.hid hc1; have HQ1 := Lib.hid hq1; have T7 := Lib.hid (HSS.out w1 ((Below.refl _ _).drew.trans hb1)); clear hb1 hc1 hq1))
    clear T5 T6 T7 HSS g0 g1 g2 hlk1 HA0 HP0L
    obtain ⟨H, hH⟩ : ∃ H : Nat → Prop, H = fun k => k = q := ⟨_, rfl⟩
    rw [← hH] at HC1
    have HHQ := Lib.hid (show ∀ k, H k → ((look a.who name).isSome = true ∧ G name k) ∨ w.heap.size ≤ k from fun k hk => .inr (by
      rw [hH] at hk
      have h1 := HQ1.out
      have h2 := HB0.out.size
      subst hk
      exact Nat.le_trans h2 h1))
    have HQW := Lib.hid (show ∀ c, look a.who name = some c → look W name = some (some q) from fun c hc => by rw [HLK.out] at hc; cases hc)
    replace HC1 := Lib.hid (show RCl H w1 q rb (auCl a name) from by have := HC1.out; rwa [show (⟨a.pub, []⟩ : Cl) = auCl a name by unfold auCl; rw [HLK.out]; rfl] at this)
    replace HB1 := Lib.hid (show Below w0.heap.size w0 w1 from (Below.refl _ _).drew.trans HB1.out)
    clear hH HQ1 HLK HPU
    have HBW := Lib.hid (HB0.out.trans (HB1.out.mono HB0.out.size))
    have HX1 := Lib.hid (HX0.out.below HB1.out HX0.out.lt)
    have HR1 := Lib.hid (HR0.out.below HB1.out HR0.out.lt)
    have HS1 := Lib.hid (HS0.out.below HB1.out)
    have HP1 := Lib.hid (HP0.out.below HB1.out)
    clear HX0 HR0 HS0 HP0 HB0 HB1 hw0
    have x0 : w1.cell? ⟨w.heap.size, 0, none⟩ = some (.int .i64 h.epoch) := HX1.out.cell 0 (by omega)
    have x1 : w1.cell? ⟨w.heap.size, 1, none⟩ = some (.string h.root) := HX1.out.cell 1 (by omega)
    have x2 : w1.cell? ⟨w.heap.size, 2, none⟩ = some (.string h.prev) := HX1.out.cell 2 (by omega)
    have x3 : w1.cell? ⟨w.heap.size, 3, none⟩ = some (.int .i64 key) := HX1.out.cell 3 (by omega)
    have x4 : w1.cell? ⟨w.heap.size, 4, none⟩ = some (.slice A S.length ca) := HX1.out.cell 4 (by omega)
    have x5 : w1.cell? ⟨w.heap.size, 5, none⟩ = some (.slice B P.length cb) := HX1.out.cell 5 (by omega)
    go_wp2_with fail
    refine (refSee_is H q rb (auCl a name) c' h key S P A B ca cb n2 w1 HC1.out HR1.out (by have := (HOK.out.cl name).2; have := HN.out; omega) hls hlp HE.out HS1.out HP1.out HSE.out).mono ?_
    rintro e w2 ⟨rfl, H2, ho2, hg2, hc2⟩
    have HO2 := Lib.hid (show Off (fun k => (look a.who name).isSome = true ∧ G name k) w w2 from (Off.of_below HBW.out).trans ho2 (fun i hi hh => (HHQ.out i hh).resolve_right (by omega)))
    have HH2 := Lib.hid (show ∀ k, H2 k → ((look a.who name).isSome = true ∧ G name k) ∨ w.heap.size ≤ k from fun k hk => by
      rcases hg2 k hk with h1 | h1
      · exact HHQ.out k h1
      · exact .inr (by have := HBW.out.size; omega))
    have HC2 := Lib.hid hc2
    have HOW := Lib.hid (HAW.out.keep HO2.out)
    have HOF := Lib.hid (show Off F w w2 from HO2.out.mono (fun k hk => (HAW.out.inF name k hk.1 hk.2).1))
    clear x0 x1 x2 x3 x4 x5 ho2 hg2 hc2 HX1 HR1 HS1 HP1 HC1 HBW HHQ
    by_cases hz : n2 = 0
    · subst hz
      have g6 : w2.cell? ⟨p, 2, none⟩ = some (.map (some b)) := HOW.out.1.cell 2 (by omega)
      have HTA := Lib.hid (show ({ a with who := ups a.who name c' }, (0 : Int)) = (a', n) from by have := HT.out; unfold tellAns at this; rw [HSE.out, if_pos rfl] at this; exact this)
      go_wp2_with (first | (at_mapUpdate; refine wpList_mapPut kC rfl (.tmp 41) (.tmp 42) (.tmp 43) rfl b W rfl HOW.out.2 (by rw [HAW.out.len HOK.out.keys]; have := HOK.out.few; have := HN.out; omega) name HNM.out rfl (some q) trivial rfl ?_; intro w3 hm3 hg3))
      go_ret
      obtain ⟨rfl, rfl⟩ := Prod.mk.inj HTA.out
      refine ⟨rfl, _, HOF.out.trans (Off.of_grown hg3.out (fun k hk => by cases hk; exact HAW.out.fb)) (fun i _ hi => hi), fun k hk => hk.1, ⟨b, _, _, HAW.out.told HO2.out HH2.out HC2.out hm3.out hg3.out⟩⟩
    · have HTA := Lib.hid (show (a, n2) = (a', n) from by have := HT.out; unfold tellAns at this; rw [HSE.out, if_neg hz] at this; exact this)
      have HCN := Lib.hid (show c' = auCl a name from by have := seeAns_not (c := auCl a name) (s := ⟨h, key, S, P⟩) (by rw [HSE.out]; exact hz); rw [HSE.out] at this; exact this)
      go_wp2
      go_ret
      obtain ⟨rfl, rfl⟩ := Prod.mk.inj HTA.out
      have hc2 := HC2.out
      rw [HCN.out] at hc2
      refine ⟨rfl, _, HOF.out, fun k hk => hk.1, ⟨b, _, _, HAW.out.seen HO2.out HH2.out hc2 HQW.out⟩⟩
  | some c =>
    obtain ⟨q, hlw, hcl⟩ := HA0.out.cl name c hlk
    have hlk1 : (Instr.lookup 108 (.map (some b)) (.string name) true).run Tryz.prog w0 = .ok (.tuple #[.pointer (some ⟨q, 0, none⟩), .bool true]) w0 := by
      have := HA0.out.map.lookOk HNM.out
      rw [hlw] at this
      exact this
    have HHQ := Lib.hid (show ∀ k, G name k → ((look a.who name).isSome = true ∧ G name k) ∨ w.heap.size ≤ k from fun k hk => .inl ⟨by rw [hlk]; rfl, hk⟩)
    have HQW := Lib.hid (show ∀ c, look a.who name = some c → look W name = some (some q) from fun _ _ => hlw)
    have HC0 := Lib.hid (show RCl (G name) w0 q rb (auCl a name) from by rwa [show auCl a name = c by unfold auCl; rw [hlk]; rfl])
    clear hlw hlk hcl
    go_enter Tryz.func17, Tryz.ntmps17
    have hw0' := hw0
    have HB1 := Lib.hid (Below.refl w0.heap.size w0)
    go_upto_region 4 with (fail)
    clear hw0' g0 g1 g2 hlk1 HA0
    have HC1 := Lib.hid HC0.out
    clear HC0
    have HBW := Lib.hid (HB0.out.trans (HB1.out.mono HB0.out.size))
    have HX1 := Lib.hid (HX0.out.below HB1.out HX0.out.lt)
    have HR1 := Lib.hid (HR0.out.below HB1.out HR0.out.lt)
    have HS1 := Lib.hid (HS0.out.below HB1.out)
    have HP1 := Lib.hid (HP0.out.below HB1.out)
    clear HX0 HR0 HS0 HP0 HB0 HB1
    have x0 : w0.cell? ⟨w.heap.size, 0, none⟩ = some (.int .i64 h.epoch) := HX1.out.cell 0 (by omega)
    have x1 : w0.cell? ⟨w.heap.size, 1, none⟩ = some (.string h.root) := HX1.out.cell 1 (by omega)
    have x2 : w0.cell? ⟨w.heap.size, 2, none⟩ = some (.string h.prev) := HX1.out.cell 2 (by omega)
    have x3 : w0.cell? ⟨w.heap.size, 3, none⟩ = some (.int .i64 key) := HX1.out.cell 3 (by omega)
    have x4 : w0.cell? ⟨w.heap.size, 4, none⟩ = some (.slice A S.length ca) := HX1.out.cell 4 (by omega)
    have x5 : w0.cell? ⟨w.heap.size, 5, none⟩ = some (.slice B P.length cb) := HX1.out.cell 5 (by omega)
    go_wp2_with fail
    refine (refSee_is (G name) q rb (auCl a name) c' h key S P A B ca cb n2 w0 HC1.out HR1.out (by have := (HOK.out.cl name).2; have := HN.out; omega) hls hlp HE.out HS1.out HP1.out HSE.out).mono ?_
    rintro e w2 ⟨rfl, H2, ho2, hg2, hc2⟩
    have HO2 := Lib.hid (show Off (fun k => (look a.who name).isSome = true ∧ G name k) w w2 from (Off.of_below HBW.out).trans ho2 (fun i hi hh => (HHQ.out i hh).resolve_right (by omega)))
    have HH2 := Lib.hid (show ∀ k, H2 k → ((look a.who name).isSome = true ∧ G name k) ∨ w.heap.size ≤ k from fun k hk => by
      rcases hg2 k hk with h1 | h1
      · exact HHQ.out k h1
      · exact .inr (by have := HBW.out.size; omega))
    have HC2 := Lib.hid hc2
    have HOW := Lib.hid (HAW.out.keep HO2.out)
    have HOF := Lib.hid (show Off F w w2 from HO2.out.mono (fun k hk => (HAW.out.inF name k hk.1 hk.2).1))
    clear x0 x1 x2 x3 x4 x5 ho2 hg2 hc2 HX1 HR1 HS1 HP1 HC1 HBW HHQ
    by_cases hz : n2 = 0
    · subst hz
      have g6 : w2.cell? ⟨p, 2, none⟩ = some (.map (some b)) := HOW.out.1.cell 2 (by omega)
      have HTA := Lib.hid (show ({ a with who := ups a.who name c' }, (0 : Int)) = (a', n) from by have := HT.out; unfold tellAns at this; rw [HSE.out, if_pos rfl] at this; exact this)
      go_wp2_with (first | (at_mapUpdate; refine wpList_mapPut kC rfl (.tmp 41) (.tmp 42) (.tmp 43) rfl b W rfl HOW.out.2 (by rw [HAW.out.len HOK.out.keys]; have := HOK.out.few; have := HN.out; omega) name HNM.out rfl (some q) trivial rfl ?_; intro w3 hm3 hg3))
      go_ret
      obtain ⟨rfl, rfl⟩ := Prod.mk.inj HTA.out
      refine ⟨rfl, _, HOF.out.trans (Off.of_grown hg3.out (fun k hk => by cases hk; exact HAW.out.fb)) (fun i _ hi => hi), fun k hk => hk.1, ⟨b, _, _, HAW.out.told HO2.out HH2.out HC2.out hm3.out hg3.out⟩⟩
    · have HTA := Lib.hid (show (a, n2) = (a', n) from by have := HT.out; unfold tellAns at this; rw [HSE.out, if_neg hz] at this; exact this)
      have HCN := Lib.hid (show c' = auCl a name from by have := seeAns_not (c := auCl a name) (s := ⟨h, key, S, P⟩) (by rw [HSE.out]; exact hz); rw [HSE.out] at this; exact this)
      go_wp2
      go_ret
      obtain ⟨rfl, rfl⟩ := Prod.mk.inj HTA.out
      have hc2 := HC2.out
      rw [HCN.out] at hc2
      refine ⟨rfl, _, HOF.out, fun k hk => hk.1, ⟨b, _, _, HAW.out.seen HO2.out HH2.out hc2 HQW.out⟩⟩
end Go.Proofs.YtgjmbokfenpefaaGreatDoor
/- The document's auditor: Last. -/
namespace Go.Proofs.YtgjmbokfenpefaaGreatDoor
open Go.RowKit Go.Maps

set_option maxRecDepth 100000 in
theorem refLast_is (F : Nat → Prop) (p rb : Nat) (a : Au) (N : Nat) (w : World) (ha : RAu F w p rb a) (hok : AuOk a N) (hN : N ≤ 1000) :
    Calls Tryz.prog 19 #[.pointer (some ⟨p, 0, none⟩)] w fun e w' => ∃ n : Int, e = .returned (.int .i64 n) ∧ LastIs a n ∧ Below w.heap.size w w' := by
  obtain ⟨b, W, G, ha⟩ := ha
  have HA := Lib.hid ha
  have HOK := Lib.hid hok
  have HN := Lib.hid hN
  have HM := Lib.hid ha.map
  have g2 : w.cell? ⟨p, 2, none⟩ = some (.map (some b)) := ha.own.cell 2 (by omega)
  clear ha hok hN
  go_enter Tryz.func19, Tryz.ntmps19
  go_wp2_with (first | (at_range; refine wpList_mapRange kC rfl (.tmp 9) rfl b W rfl HM.out ?_; intro w2 hrg2 hg2 hs2))
  go_frame
  have HB2 := Lib.hid (grownBy.below hg2.out (Nat.le_refl _) (fun k hk => by cases hk))
  clear hs2 hg2 g2
  go_loopw [3] (fun v wr => ∃ (S : List ByteArray) (cnt : Nat) (n : Int), v = .int .i64 n ∧ Hid (Rng kC wr b w.heap.size W S cnt) ∧ Hid (Below w.heap.size w wr) ∧ Hid ((∀ s ∈ S, ∀ c, look a.who s = some c → (c.heads.length : Int) ≤ n) ∧ (n = 0 ∨ ∃ s c, look a.who s = some c ∧ n = (c.heads.length : Int)))) (fun _ wr => wr.rangeLeft b w.heap.size)
  case atStart => exact ⟨[], _, 0, rfl, hrg2, HB2, Lib.hid ⟨(fun s hs => by cases hs), .inl rfl⟩⟩
  case round =>
    clear hrg2 HB2
    obtain ⟨S, cnt, n, rfl, HR, HB, HX⟩ := hrel
    go_wp2_with (first | (at_next; refine wpList_mapNext kC rfl (.tmp 10) rfl b w.heap.size W S cnt rfl HR.out ?_ ?_))
    · intro hperm
      have HLA := Lib.hid (show LastIs a n from ⟨fun s c hc => HX.out.1 s (hperm.mem_iff.2 (look_isSome.1 (by rw [HA.out.all s, hc]; rfl))) c hc, HX.out.2⟩)
      clear hperm
      go_wp2
      go_ret
      exact ⟨n, rfl, HLA.out, HB.out⟩
    · intro s x w3 cnt' hlk hns hgood HR3 HC3 HG3 HS3 hen
      have HB3 := Lib.hid (HB.out.grown HG3.out HB.out.size (fun k hk => by cases hk; exact Nat.le_refl _))
      obtain ⟨c, hc⟩ : ∃ c, look a.who s = some c := Option.isSome_iff_exists.1 (by rw [← HA.out.all s, hlk]; rfl)
      obtain ⟨q, hq, hcl⟩ := HA.out.cl s c hc
      rw [hlk] at hq
      obtain rfl := Option.some.inj hq
      have hcl3 := hcl.same (same_of_below HB3.out hcl.lt)
      obtain ⟨v, hv⟩ := hcl3
      obtain ⟨pv, cv, rfl⟩ := hv.row.any
      have q2 : w3.cell? ⟨q, 2, none⟩ = some (.slice pv c.heads.length cv) := hv.own.cell 2 (by omega)
      have hen' : (Instr.entry (.pointer (some ⟨w.heap.size, 0, none⟩))).run Tryz.prog w3 = .ok (.tuple #[.string s, .pointer (some ⟨q, 0, none⟩)]) w3 := hen
      have HL := Lib.hid (show c.heads.length ≤ N ∧ N ≤ 1000 from ⟨(HOK.out.mine s c hc).2, HN.out⟩)
      have HLK := Lib.hid hc
      clear hen hgood HS3 hv hcl hq hlk hns hc
      by_cases hgt : n < (c.heads.length : Int)
      · go_wp2
        go_roundw
        case rel =>
          refine ⟨S ++ [s], cnt', _, rfl, HR3, HB3, Lib.hid ⟨fun t ht d hd => ?_, .inr ⟨s, c, HLK.out, rfl⟩⟩⟩
          rcases List.mem_append.1 ht with ht | ht
          · have := HX.out.1 t ht d hd; omega
          · rw [List.mem_singleton] at ht; subst ht; rw [HLK.out] at hd; cases hd; omega
        case measure => rw [HR3.out.left_eq, HR.out.left_eq]; exact HC3.out
      · go_wp2
        go_roundw
        case rel =>
          refine ⟨S ++ [s], cnt', _, rfl, HR3, HB3, Lib.hid ⟨fun t ht d hd => ?_, HX.out.2⟩⟩
          rcases List.mem_append.1 ht with ht | ht
          · exact HX.out.1 t ht d hd
          · rw [List.mem_singleton] at ht; subst ht; rw [HLK.out] at hd; cases hd; omega
        case measure => rw [HR3.out.left_eq, HR.out.left_eq]; exact HC3.out
end Go.Proofs.YtgjmbokfenpefaaGreatDoor
