/- The program's auditor: Last. -/
import Derived.WalkKit
import Derived.Lib.Hide
import Derived.WalkLawsBesides
import Derived.Deep.QuietTactic
import Derived.Deep.WholeRow
import Derived.ArgAppend
import Derived.Laws.AppendOwnNone
import Derived.Laws.CopyRow
import Derived.Deep.RegionLaw
import Derived.Laws.BytesString
import Derived.Laws.IdiomStrings
import Derived.Test.YtgjmbokfenpefaaGreatDoorProg
import Derived.StringKeys
import Derived.Maps.Own
import Derived.Maps.Views
import Derived.Maps.OwnSet
import Derived.Maps.OwnOps
import Derived.Maps.RangeWalk
import Derived.Sort.KeysCollected
import Derived.Laws.BitsAllLaws
import Derived.Outline
import Derived.BigQuiet
import Derived.Laws.CopyOwn
import Derived.RegionTactic
import Derived.StillTail
import Derived.Deep.Quiet
import Derived.Deep.RegionHeld3
import Derived.Deep.DeepCutAuto
import Derived.Laws.ResultCell
import Derived.IntWalk
import Derived.Sort.Walk0
import Derived.Tactics
import Derived.Orders
import Derived.LaidEql
import Derived.Stop.Asserts
import Derived.RowKitTokens
import Derived.OrdersHeld
import Derived.Sort.LotA
import Derived.Lib.SortBridge
import Derived.Deep.AppendSrc
import Derived.Test.YtgjmbokfenpefaaGreatDoorM1
import Derived.Test.YtgjmbokfenpefaaGreatDoorM2
import Derived.Test.YtgjmbokfenpefaaGreatDoorM3
import Derived.Test.YtgjmbokfenpefaaGreatDoorM4
import Derived.Test.YtgjmbokfenpefaaGreatDoorM5
import Derived.Test.YtgjmbokfenpefaaGreatDoorM6
import Derived.Test.YtgjmbokfenpefaaGreatDoorM7
import Derived.Test.YtgjmbokfenpefaaGreatDoorPAu
namespace Go.Proofs.YtgjmbokfenpefaaGreatDoor
open Go.RowKit Go.Maps

/-- A client's heads, copied to where nothing was. -/
theorem pHeads_new (F : Nat → Prop) (p : Nat) (c : Cl) (w : World) (hc : PCl F w p c) (hl : c.heads.length ≤ 1000000) :
    Calls Tryz.prog 43 #[.pointer (some ⟨p, 0, none⟩)] w fun e w' => ∃ A cap, e = .returned (.slice A c.heads.length cap) ∧ Below w.heap.size w w' ∧ Hds w' A c.heads ∧ ∀ a, A = some a → 0 < c.heads.length → w.heap.size ≤ a.block := by
  obtain ⟨v, hc⟩ := hc
  obtain ⟨-, A, cap, hv, hh⟩ := hc.row.hds
  have h1 : w.cell? ⟨p, 1, none⟩ = some v := hc.own.cell 1 (by omega)
  rw [hv] at h1
  have HH := Lib.hid hh
  have HL := Lib.hid hl
  clear hc hv hh hl
  go_enter Tryz.func43, Tryz.ntmps43
  go_wp2_with fail
  refine (cloneHeads_any c.heads A cap _ HL.out HH.out).mono ?_
  rintro e w1 ⟨v', rfl, hb1, hr1⟩
  have HN := Lib.hid (show ∀ k, v'.ownBlock = some k → w.heap.size ≤ k from fun k hk => (hr1.lt k hk).1)
  have HSH := Lib.hid (show 0 < c.heads.length → ∃ g cap, v' = .slice (some ⟨g, 0, none⟩) c.heads.length cap from fun h0 => by obtain ⟨g, cg, e, _⟩ := hr1.shape h0; exact ⟨g, cg, e⟩)
  obtain ⟨-, B, cb, rfl, hhb⟩ := hr1.hds
  have HB := Lib.hid hb1
  have HHB := Lib.hid hhb
  clear hb1 hr1 hhb h1
  go_wp2
  go_ret
  refine ⟨B, cb, rfl, HB.out, HHB.out, fun a ha h0 => ?_⟩
  obtain ⟨g, cg, e⟩ := HSH.out h0
  injection e with e _ _
  subst ha
  obtain rfl := Option.some.inj e
  exact HN.out g rfl
set_option maxRecDepth 100000 in
theorem pLast_is (F : Nat → Prop) (p : Nat) (a : Au) (N : Nat) (w : World) (ha : PAu F w p a) (hok : AuOk a N) (hN : N ≤ 1000) :
    Calls Tryz.prog 18 #[.pointer (some ⟨p, 0, none⟩)] w fun e w' => ∃ n : Int, e = .returned (.int .i64 n) ∧ LastIs a n ∧ Below w.heap.size w w' := by
  obtain ⟨b, W, G, ha⟩ := ha
  have HA := Lib.hid ha
  have HOK := Lib.hid hok
  have HN := Lib.hid hN
  have HM := Lib.hid ha.map
  have g2 : w.cell? ⟨p, 1, none⟩ = some (.map (some b)) := ha.own.cell 1 (by omega)
  clear ha hok hN
  go_enter Tryz.func18, Tryz.ntmps18
  go_wp2_with (first | (at_range; refine wpList_mapRange kQ rfl (.tmp 9) rfl b W rfl HM.out ?_; intro w2 hrg2 hg2 hs2))
  go_frame
  have HB2 := Lib.hid (grownBy.below hg2.out (Nat.le_refl _) (fun k hk => by cases hk))
  clear hs2 hg2 g2
  go_loopw [3] (fun v wr => ∃ (S : List ByteArray) (cnt : Nat) (n : Int), v = .int .i64 n ∧ 0 ≤ n ∧ Hid (Rng kQ wr b w.heap.size W S cnt) ∧ Hid (Below w.heap.size w wr) ∧ Hid ((∀ s ∈ S, ∀ c, look a.who s = some c → (c.heads.length : Int) ≤ n) ∧ (n = 0 ∨ ∃ s c, look a.who s = some c ∧ n = (c.heads.length : Int)))) (fun _ wr => wr.rangeLeft b w.heap.size)
  case atStart => exact ⟨[], _, 0, rfl, by omega, hrg2, HB2, Lib.hid ⟨(fun s hs => by cases hs), .inl rfl⟩⟩
  case round =>
    clear hrg2 HB2
    obtain ⟨S, cnt, n, rfl, hn0, HR, HB, HX⟩ := hrel
    go_wp2_with (first | (at_next; refine wpList_mapNext kQ rfl (.tmp 10) rfl b w.heap.size W S cnt rfl HR.out ?_ ?_))
    · intro hperm
      have HLA := Lib.hid (show LastIs a n from ⟨fun s c hc => HX.out.1 s (hperm.mem_iff.2 (look_isSome.1 (by rw [HA.out.all s, hc]; rfl))) c hc, HX.out.2⟩)
      clear hperm
      go_wp2
      go_ret
      exact ⟨n, rfl, HLA.out, HB.out⟩
    · intro s x w3 cnt' hlk hns hgood HR3 HC3 HG3 HS3 hen
      have HB3 := Lib.hid (HB.out.grown HG3.out HB.out.size (fun k hk => by cases hk; exact Nat.le_refl _))
      obtain ⟨c, hc⟩ : ∃ c, look a.who s = some c := Option.isSome_iff_exists.1 (by rw [← HA.out.all s, hlk]; rfl)
      obtain ⟨q, hq, hcl⟩ := HA.out.cl s c hc
      rw [hlk] at hq
      obtain rfl := Option.some.inj hq
      have HCL3 := Lib.hid (hcl.same (same_of_below HB3.out hcl.lt))
      have hen' : (Instr.entry (.pointer (some ⟨w.heap.size, 0, none⟩))).run Tryz.prog w3 = .ok (.tuple #[.string s, .pointer (some ⟨q, 0, none⟩)]) w3 := hen
      have HL := Lib.hid (show c.heads.length ≤ N ∧ N ≤ 1000 from ⟨(HOK.out.mine s c hc).2, HN.out⟩)
      have HLK := Lib.hid hc
      clear hen hgood HS3 hcl hq hlk hns hc
      go_wp2_with fail
      clear hen'
      refine (pHeads_new (G s) q c w3 HCL3.out (by have := HL.out; omega)).mono ?_
      rintro e w4 ⟨Ah, ch, rfl, hb4, -, -⟩
      have HB4 := Lib.hid (HB3.out.trans (hb4.mono HB3.out.size))
      have HR4 := Lib.hid (HR3.out.block (hb4.block _ HR3.out.map.lt) (hb4.block _ HR3.out.lt))
      clear hb4
      by_cases hgt : n < (c.heads.length : Int)
      · have hmax : max n (c.heads.length : Int) = (c.heads.length : Int) := by omega
        go_wp2
        go_roundw
        case rel =>
          refine ⟨S ++ [s], cnt', _, rfl, by omega, HR4, HB4, Lib.hid ⟨fun t ht d hd => ?_, .inr ⟨s, c, HLK.out, rfl⟩⟩⟩
          rcases List.mem_append.1 ht with ht | ht
          · have := HX.out.1 t ht d hd; omega
          · rw [List.mem_singleton] at ht; subst ht; rw [HLK.out] at hd; cases hd; omega
        case measure => rw [HR4.out.left_eq, HR.out.left_eq]; exact HC3.out
      · have hmax : max n (c.heads.length : Int) = n := by omega
        go_wp2
        go_roundw
        case rel =>
          refine ⟨S ++ [s], cnt', _, rfl, by omega, HR4, HB4, Lib.hid ⟨fun t ht d hd => ?_, HX.out.2⟩⟩
          rcases List.mem_append.1 ht with ht | ht
          · exact HX.out.1 t ht d hd
          · rw [List.mem_singleton] at ht; subst ht; rw [HLK.out] at hd; cases hd; omega
        case measure => rw [HR4.out.left_eq, HR.out.left_eq]; exact HC3.out
end Go.Proofs.YtgjmbokfenpefaaGreatDoor
