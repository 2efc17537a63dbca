/- The program's auditor: New, clientOf, Tell. -/
import Derived.WalkKit
import Derived.Lib.Hide
import Derived.WalkLawsBesides
import Derived.Deep.QuietTactic
import Derived.Deep.WholeRow
import Derived.ArgAppend
import Derived.Laws.AppendOwnNone
import Derived.Laws.CopyRow
import Derived.Deep.RegionLaw
import Derived.Laws.BytesString
import Derived.Laws.IdiomStrings
import Derived.Test.YtgjmbokfenpefaaGreatDoorProg
import Derived.StringKeys
import Derived.Maps.Own
import Derived.Maps.Views
import Derived.Maps.OwnSet
import Derived.Maps.OwnOps
import Derived.Maps.RangeWalk
import Derived.Sort.KeysCollected
import Derived.Laws.BitsAllLaws
import Derived.Outline
import Derived.BigQuiet
import Derived.Laws.CopyOwn
import Derived.RegionTactic
import Derived.StillTail
import Derived.Deep.Quiet
import Derived.Deep.RegionHeld3
import Derived.Deep.DeepCutAuto
import Derived.Laws.ResultCell
import Derived.IntWalk
import Derived.Sort.Walk0
import Derived.Tactics
import Derived.Orders
import Derived.LaidEql
import Derived.Stop.Asserts
import Derived.RowKitTokens
import Derived.OrdersHeld
import Derived.Sort.LotA
import Derived.Lib.SortBridge
import Derived.Deep.AppendSrc
import Derived.Shelf.SlSortFuncK.WholeK
import Derived.Ground.GgsProg
import Derived.Shelf.GgSortFunc.Tiny
import Derived.Shelf.Strings.Repeat
import Derived.KernelRfl
import Derived.Laws.StructEq
import Derived.WideKeyEntry
import Derived.Deep.CutRange
import Derived.Test.YtgjmbokfenpefaaGreatDoorM1
import Derived.Test.YtgjmbokfenpefaaGreatDoorM2
import Derived.Test.YtgjmbokfenpefaaGreatDoorM3
import Derived.Test.YtgjmbokfenpefaaGreatDoorM4
import Derived.Test.YtgjmbokfenpefaaGreatDoorM5
import Derived.Test.YtgjmbokfenpefaaGreatDoorM6
import Derived.Test.YtgjmbokfenpefaaGreatDoorM7
import Derived.Test.YtgjmbokfenpefaaGreatDoorM8
import Derived.Test.YtgjmbokfenpefaaGreatDoorM9
import Derived.Test.YtgjmbokfenpefaaGreatDoorM10
import Derived.Test.YtgjmbokfenpefaaGreatDoorM11
import Derived.Test.YtgjmbokfenpefaaGreatDoorPAu
namespace Go.Proofs.YtgjmbokfenpefaaGreatDoor
open Go.RowKit

theorem pNewAuditor_t (pub : ByteArray) (w : World) (h16 : pub.size = 16) :
    Calls Tryz.prog 12 #[.string pub] w fun e w' => ∃ (p : Nat) (F : Nat → Prop), e = .returned (.tuple #[.pointer (some ⟨p, 0, none⟩), .nilIface]) ∧ Below w.heap.size w w' ∧ PAu F w' p ⟨pub, []⟩ ∧ ∀ k, F k → w.heap.size ≤ k := by
  have h1 : ((pub.size : Int) != 16) = false := by simp; omega
  clear h16
  go_enter Tryz.func12, Tryz.ntmps12
  have hmm := @run_makeMap Tryz.prog
  go_wp2
  clear hmm
  refine bodyPost_ret (results_tmp2 rfl _ _ _) rfl ?_
  obtain ⟨w3, h3⟩ : ∃ w3, w.alloc (.map #[] 0) = w3 := ⟨_, rfl⟩
  rw [h3]
  have z3 : w3.heap.size = w.heap.size + 1 := by rw [← h3]; simp
  have b3 : Below w.heap.size w w3 := by rw [← h3]; exact alloc_below _ _
  have m3 : MapIs kQ w3 w.heap.size [] := by rw [← h3]; exact MapIs.made kQ w
  clear h3
  have b4 := alloc_below w3 (.cells #[.string pub, .map (some w.heap.size)] 115)
  refine ⟨w3.heap.size, fun k => w.heap.size ≤ k ∧ k < w3.heap.size + 1, (by rw [z3]; rfl), b3.trans (b4.mono (by omega)), ⟨w.heap.size, [], fun _ _ => False, ?_⟩, fun k hk => hk.1⟩
  exact {
    own := Holds.new w3 2 (paF w.heap.size pub) 115
    map := m3.block (b4.block _ (by omega))
    all := fun s => rfl
    cl := fun s c hc => by simp [look_nil] at hc
    inF := fun s k _ hk => hk.elim
    apart := fun s t k _ _ _ hk => hk.elim
    fp := ⟨by omega, by omega⟩
    fb := ⟨by omega, by omega⟩
    pb := by omega
    lt := fun k hk => by rw [World.size_alloc]; exact hk.2 }
theorem errOf_of {n : Int} (h : ¬ n = 0) : errOf n = .iface 28 (.int .i64 n) := by unfold errOf; rw [if_neg h]
/-- A name's client, or a new one. -/
theorem pClientOf_is (F : Nat → Prop) (p : Nat) (a : Au) (b : Nat) (W : List (ByteArray × Option Nat)) (G : ByteArray → Nat → Prop) (N : Nat) (name : ByteArray) (w : World) (ha : PAuM F w p a b W G) (hok : AuOk a N) (hn : name.size ≤ 1000000) :
    Calls Tryz.prog 39 #[.pointer (some ⟨p, 0, none⟩), .string name] w fun e w' => ∃ (q : Nat) (H : Nat → Prop), e = .returned (.tuple #[.pointer (some ⟨q, 0, none⟩), .nilIface]) ∧ Below w.heap.size w w' ∧ PCl H w' q (auCl a name) ∧
      (∀ k, H k → ((look a.who name).isSome = true ∧ G name k) ∨ w.heap.size ≤ k) ∧ (∀ c, look a.who name = some c → look W name = some (some q)) := by
  have HA := Lib.hid ha
  have g0 : w.cell? ⟨p, 0, none⟩ = some (.string a.pub) := ha.own.cell 0 (by omega)
  have g1 : w.cell? ⟨p, 1, none⟩ = some (.map (some b)) := ha.own.cell 1 (by omega)
  have HPU := Lib.hid hok.pub
  clear ha hok
  cases hlk : look a.who name with
  | none =>
    have hlw : look W name = none := by
      have := HA.out.all name
      rw [hlk] at this
      cases hq : look W name with
      | none => rfl
      | some x => rw [hq] at this; cases this
    have hlk1 : (Instr.lookup 113 (.map (some b)) (.string name) true).run Tryz.prog w = .ok (.tuple #[.pointer none, .bool false]) w := by
      have := HA.out.map.lookOk hn
      rw [hlw] at this
      exact this
    have HCL := Lib.hid (show auCl a name = ⟨a.pub, []⟩ from by unfold auCl; rw [hlk]; rfl)
    clear hlw hlk
    go_enter Tryz.func39, Tryz.ntmps39
    go_wp2_with fail
    refine (pNewClient_t a.pub _ HPU.out).mono ?_
    rintro e w1 ⟨q, H, rfl, hb1, hc1, hq1⟩
    have HB1 := Lib.hid hb1
    have HC1 := Lib.hid hc1
    have HQ1 := Lib.hid hq1
    clear hb1 hc1 hq1
    go_wp2
    refine bodyPost_ret (results_tmp2 rfl _ _ _) rfl ?_
    exact ⟨q, H, rfl, HB1.out, by rw [HCL.out]; exact HC1.out, fun k hk => .inr (HQ1.out k hk), fun c hc => by cases hc⟩
  | some c =>
    obtain ⟨q, hlw, hcl⟩ := HA.out.cl name c hlk
    have hlk1 : (Instr.lookup 113 (.map (some b)) (.string name) true).run Tryz.prog w = .ok (.tuple #[.pointer (some ⟨q, 0, none⟩), .bool true]) w := by
      have := HA.out.map.lookOk hn
      rw [hlw] at this
      exact this
    have HC1 := Lib.hid (show PCl (G name) w q (auCl a name) from by rwa [show auCl a name = c by unfold auCl; rw [hlk]; rfl])
    have HLW := Lib.hid hlw
    clear hlw hlk hcl
    go_enter Tryz.func39, Tryz.ntmps39
    go_wp2
    refine bodyPost_ret (results_tmp2 rfl _ _ _) rfl ?_
    exact ⟨q, G name, rfl, Below.refl _ _, HC1.out, fun k hk => .inl ⟨rfl, hk⟩, fun _ _ => HLW.out⟩
set_option maxHeartbeats 1000000 in
set_option maxRecDepth 100000 in
theorem pTell_is (F : Nat → Prop) (p : Nat) (a a' : Au) (N : Nat) (name : ByteArray) (h : Hd) (key : Int) (S P : List ByteArray) (A B : Option Addr) (ca cb : Nat) (n : Int) (w : World) (ha : PAu F w p a) (hk : HasK w) (hok : AuOk a N) (hN : N ≤ 1000)
    (hn : name.size ≤ 1000000) (hls : S.length ≤ 1000000) (hlp : P.length ≤ 1000000) (he : h.epoch < 9223372036854775808) (hs : Strs w A S) (hp : Strs w B P) (ht : tellAns a name ⟨h, key, S, P⟩ = (a', n)) :
    Calls Tryz.prog 16 #[.pointer (some ⟨p, 0, none⟩), .string name, .agg #[.int .i64 h.epoch, .string h.root, .string h.prev, .int .i64 key, .slice A S.length ca, .slice B P.length cb]] w fun e w' => e = .returned (errOf n) ∧ ∃ F' : Nat → Prop, Off F w w' ∧ Grew w F F' ∧ PAu F' w' p a' := by
  obtain ⟨b, W, G, ha⟩ := ha
  obtain ⟨w0, hw0⟩ : ∃ w0, w.alloc (.cells #[.int .i64 h.epoch, .string h.root, .string h.prev, .int .i64 key, .slice A S.length ca, .slice B P.length cb] 57) = w0 := ⟨_, rfl⟩
  have hb0 : Below w.heap.size w w0 := by rw [← hw0]; exact alloc_below _ _
  have HB0 := Lib.hid hb0
  have HX0 := Lib.hid (show Holds w0 w.heap.size 6 (sgF h key (.slice A S.length ca) (.slice B P.length cb)) 57 by rw [← hw0]; exact Holds.new w 6 (sgF h key (.slice A S.length ca) (.slice B P.length cb)) 57)
  have HA0 := Lib.hid (ha.same (same_of_below hb0 ha.lt))
  have HK0 := Lib.hid (hk.below hb0 hk.lt)
  have HS0 := Lib.hid (hs.below hb0)
  have HP0 := Lib.hid (hp.below hb0)
  have HAW := Lib.hid ha
  have HOK := Lib.hid hok
  have HN := Lib.hid hN
  have HNM := Lib.hid hn
  have HT := Lib.hid ht
  have HE := Lib.hid he
  clear hb0 ha hk hs hp hok hN hn ht he
  obtain ⟨c', n2, hse⟩ : ∃ c' n2, seeAns (auCl a name) ⟨h, key, S, P⟩ = (c', n2) := ⟨_, _, rfl⟩
  have HSE := Lib.hid hse
  clear hse
  go_enter Tryz.func16, Tryz.ntmps16
  have hw0' := hw0
  go_wp2_with fail
  clear hw0' hw0
  refine (pClientOf_is F p a b W G N name w0 HA0.out HOK.out HNM.out).mono ?_
  rintro e w1 ⟨q, H, rfl, hb1, hc1, hH, hq⟩
  have HC1 := Lib.hid hc1
  have HHQ := Lib.hid (show ∀ k, H k → ((look a.who name).isSome = true ∧ G name k) ∨ w.heap.size ≤ k from fun k hk => (hH k hk).imp id fun h => Nat.le_trans HB0.out.size h)
  have HQW := Lib.hid hq
  have HBW := Lib.hid (HB0.out.trans (hb1.mono HB0.out.size))
  have HX1 := Lib.hid (HX0.out.below hb1 HX0.out.lt)
  have HK1 := Lib.hid (HK0.out.below hb1 HK0.out.lt)
  have HS1 := Lib.hid (HS0.out.below hb1)
  have HP1 := Lib.hid (HP0.out.below hb1)
  clear hb1 hc1 hH hq HX0 HK0 HS0 HP0 HB0 HA0
  have x0 : w1.cell? ⟨w.heap.size, 0, none⟩ = some (.int .i64 h.epoch) := HX1.out.cell 0 (by omega)
  have x1 : w1.cell? ⟨w.heap.size, 1, none⟩ = some (.string h.root) := HX1.out.cell 1 (by omega)
  have x2 : w1.cell? ⟨w.heap.size, 2, none⟩ = some (.string h.prev) := HX1.out.cell 2 (by omega)
  have x3 : w1.cell? ⟨w.heap.size, 3, none⟩ = some (.int .i64 key) := HX1.out.cell 3 (by omega)
  have x4 : w1.cell? ⟨w.heap.size, 4, none⟩ = some (.slice A S.length ca) := HX1.out.cell 4 (by omega)
  have x5 : w1.cell? ⟨w.heap.size, 5, none⟩ = some (.slice B P.length cb) := HX1.out.cell 5 (by omega)
  go_wp2_with fail
  refine (pSee_is H q (auCl a name) c' h key S P A B ca cb n2 w1 HC1.out HK1.out (by have := (HOK.out.cl name).2; have := HN.out; omega) hls hlp HE.out HS1.out HP1.out HSE.out).mono ?_
  rintro e w2 ⟨rfl, H2, ho2, hg2, hc2⟩
  have HO2 := Lib.hid (show Off (fun k => (look a.who name).isSome = true ∧ G name k) w w2 from (Off.of_below HBW.out).trans ho2 (fun i hi hh => (HHQ.out i hh).resolve_right (by omega)))
  have HH2 := Lib.hid (show ∀ k, H2 k → ((look a.who name).isSome = true ∧ G name k) ∨ w.heap.size ≤ k from fun k hk => by
    rcases hg2 k hk with h1 | h1
    · exact HHQ.out k h1
    · exact .inr (by have := HBW.out.size; omega))
  have HC2 := Lib.hid hc2
  have HOW := Lib.hid (HAW.out.keep HO2.out)
  have HOF := Lib.hid (show Off F w w2 from HO2.out.mono (fun k hk => (HAW.out.inF name k hk.1 hk.2).1))
  clear x0 x1 x2 x3 x4 x5 ho2 hg2 hc2 HX1 HK1 HS1 HP1 HC1 HBW HHQ
  by_cases hz : n2 = 0
  · subst hz
    rw [show errOf 0 = .nilIface from rfl]
    have g6 : w2.cell? ⟨p, 1, none⟩ = some (.map (some b)) := HOW.out.1.cell 1 (by omega)
    have HTA := Lib.hid (show ({ a with who := ups a.who name c' }, (0 : Int)) = (a', n) from by have := HT.out; unfold tellAns at this; rw [HSE.out, if_pos rfl] at this; exact this)
    go_wp2_with (first | (at_mapUpdate; refine wpList_mapPut kQ rfl (.tmp 28) (.tmp 29) (.tmp 30) rfl b W rfl HOW.out.2 (by rw [HAW.out.len HOK.out.keys]; have := HOK.out.few; have := HN.out; omega) name HNM.out rfl (some q) trivial rfl ?_; intro w3 hm3 hg3))
    go_wp2
    go_ret
    obtain ⟨rfl, rfl⟩ := Prod.mk.inj HTA.out
    refine ⟨rfl, _, HOF.out.trans (Off.of_grown hg3.out (fun k hk => by cases hk; exact HAW.out.fb)) (fun i _ hi => hi), fun k hk => hk.1, ⟨b, _, _, HAW.out.told HO2.out HH2.out HC2.out hm3.out hg3.out⟩⟩
  · have HTA := Lib.hid (show (a, n2) = (a', n) from by have := HT.out; unfold tellAns at this; rw [HSE.out, if_neg hz] at this; exact this)
    have HCN := Lib.hid (show c' = auCl a name from by have := seeAns_not (c := auCl a name) (s := ⟨h, key, S, P⟩) (by rw [HSE.out]; exact hz); rw [HSE.out] at this; exact this)
    rw [errOf_of hz]
    have HZ := Lib.hid hz
    clear hz
    go_wp2
    go_ret
    obtain ⟨rfl, rfl⟩ := Prod.mk.inj HTA.out
    have hc2 := HC2.out
    rw [HCN.out] at hc2
    refine ⟨by rw [errOf_of HZ.out]; rfl, _, HOF.out, fun k hk => hk.1, ⟨b, _, _, HAW.out.seen HO2.out HH2.out hc2 HQW.out⟩⟩
end Go.Proofs.YtgjmbokfenpefaaGreatDoor
