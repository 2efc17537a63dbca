/- Parts of the proof, one behind the other: TurnP, ForkEq. -/
import Derived.WalkKit
import Derived.Lib.Hide
import Derived.WalkLawsBesides
import Derived.Deep.QuietTactic
import Derived.Deep.WholeRow
import Derived.ArgAppend
import Derived.Laws.AppendOwnNone
import Derived.Laws.CopyRow
import Derived.Deep.RegionLaw
import Derived.Laws.BytesString
import Derived.Laws.IdiomStrings
import Derived.Test.YtgjmbokfenpefaaGreatDoorProg
import Derived.StringKeys
import Derived.Maps.Own
import Derived.Maps.Views
import Derived.Maps.OwnSet
import Derived.Maps.OwnOps
import Derived.Maps.RangeWalk
import Derived.Sort.KeysCollected
import Derived.Laws.BitsAllLaws
import Derived.Outline
import Derived.BigQuiet
import Derived.Laws.CopyOwn
import Derived.RegionTactic
import Derived.StillTail
import Derived.Deep.Quiet
import Derived.Deep.RegionHeld3
import Derived.Deep.DeepCutAuto
import Derived.Laws.ResultCell
import Derived.IntWalk
import Derived.Sort.Walk0
import Derived.Tactics
import Derived.Orders
import Derived.LaidEql
import Derived.Stop.Asserts
import Derived.RowKitTokens
import Derived.OrdersHeld
import Derived.Sort.LotA
import Derived.Lib.SortBridge
import Derived.Deep.AppendSrc
import Derived.Shelf.SlSortFuncK.WholeK
import Derived.Ground.GgsProg
import Derived.Shelf.GgSortFunc.Tiny
import Derived.Shelf.Strings.Repeat
import Derived.KernelRfl
import Derived.Laws.StructEq
import Derived.WideKeyEntry
import Derived.Deep.CutRange
import Derived.Test.YtgjmbokfenpefaaGreatDoorM1
import Derived.Test.YtgjmbokfenpefaaGreatDoorM2
import Derived.Test.YtgjmbokfenpefaaGreatDoorM3
import Derived.Test.YtgjmbokfenpefaaGreatDoorM4
import Derived.Test.YtgjmbokfenpefaaGreatDoorM5
import Derived.Test.YtgjmbokfenpefaaGreatDoorM6
import Derived.Test.YtgjmbokfenpefaaGreatDoorM7
import Derived.Test.YtgjmbokfenpefaaGreatDoorM8
import Derived.Test.YtgjmbokfenpefaaGreatDoorM9
import Derived.Test.YtgjmbokfenpefaaGreatDoorM12
import Derived.Test.YtgjmbokfenpefaaGreatDoorM13
import Derived.Test.YtgjmbokfenpefaaGreatDoorM14
import Derived.Test.YtgjmbokfenpefaaGreatDoorM15
import Derived.Test.YtgjmbokfenpefaaGreatDoorM17
import Derived.Test.YtgjmbokfenpefaaGreatDoorM18
import Derived.Test.YtgjmbokfenpefaaGreatDoorM19
import Derived.Test.YtgjmbokfenpefaaGreatDoorM21
import Derived.Test.YtgjmbokfenpefaaGreatDoorM24
import Derived.Test.YtgjmbokfenpefaaGreatDoorM26
import Derived.Test.YtgjmbokfenpefaaGreatDoorM27
import Derived.Test.YtgjmbokfenpefaaGreatDoorM31
/- Whoever is told first: plain facts for AuditOrder. -/
namespace Go.Proofs.YtgjmbokfenpefaaGreatDoor
open Go.RowKit

/-- What a name has seen of a directory's heads, when it was told the first n. -/
def seenOf (pub : ByteArray) (H : List Hd) (n : Nat) : Option Cl := if n = 0 then none else some ⟨pub, H.take n⟩
/-- An auditor that told ann the first i heads of one directory, and bob the first k of another, in whatever order. -/
structure AbIs (pub : ByteArray) (H K : List Hd) (i k : Nat) (a : Au) : Prop where
  is : a.pub = pub
  ok : AuOk a (i + k)
  ann : look a.who annT = seenOf pub H i
  bob : look a.who bobT = seenOf pub K k
  none : ∀ s, s ≠ annT → s ≠ bobT → look a.who s = none
theorem ann_bobT : annT ≠ bobT := by decide
theorem abNew {pub : ByteArray} (h : pub.size = 16) (H K : List Hd) : AbIs pub H K 0 0 ⟨pub, []⟩ := ⟨rfl, auOk_new h, rfl, rfl, fun _ _ _ => rfl⟩
theorem seenOf_cl (pub : ByteArray) (H : List Hd) (n : Nat) : (seenOf pub H n).getD ⟨pub, []⟩ = ⟨pub, H.take n⟩ := by
  unfold seenOf
  by_cases h : n = 0
  · rw [if_pos h, h]; rfl
  · rw [if_neg h]; rfl
theorem AbIs.tellAnn {d : Dst} (h : DOk d) (hc : Chained d) {K : List Hd} {i k : Nat} {a : Au} (ha : AbIs (dirPub d.secret) (headsOf d) K i k a) {s : Sgn} (hs : d.eps[i]? = some s) :
    ∃ a', tellAns a annT s = (a', 0) ∧ AbIs (dirPub d.secret) (headsOf d) K (i + 1) k a' := by
  have hi : i < d.eps.length := (List.getElem?_eq_some_iff.1 hs).1
  have h1 := see_eps h hc hs (n := i) (by omega)
  rw [if_neg (Nat.lt_irrefl i), if_pos rfl] at h1
  have hcl : auCl a annT = ⟨dirPub d.secret, (headsOf d).take i⟩ := by unfold auCl; rw [ha.ann, ha.is]; exact seenOf_cl _ _ _
  have ht : tellAns a annT s = ({ a with who := ups a.who annT ⟨dirPub d.secret, (headsOf d).take (i + 1)⟩ }, 0) := by unfold tellAns; rw [hcl, h1, if_pos rfl]
  have hok := ha.ok.told annT s (by decide)
  rw [ht] at hok
  refine ⟨_, ht, ha.is, by rw [show i + 1 + k = i + k + 1 by omega]; exact hok, ?_, ?_, fun t h1 h2 => ?_⟩
  · show look (ups a.who annT _) annT = _
    rw [look_ups_same]; unfold seenOf; rw [if_neg (Nat.succ_ne_zero i)]
  · show look (ups a.who annT _) bobT = _
    rw [look_ups_other _ _ _ _ (Ne.symm ann_bobT)]; exact ha.bob
  · show look (ups a.who annT _) t = _
    rw [look_ups_other _ _ _ _ h1]; exact ha.none t h1 h2
theorem AbIs.tellBob {d : Dst} (h : DOk d) (hc : Chained d) {H : List Hd} {i k : Nat} {a : Au} (ha : AbIs (dirPub d.secret) H (headsOf d) i k a) {s : Sgn} (hs : d.eps[k]? = some s) :
    ∃ a', tellAns a bobT s = (a', 0) ∧ AbIs (dirPub d.secret) H (headsOf d) i (k + 1) a' := by
  have hi : k < d.eps.length := (List.getElem?_eq_some_iff.1 hs).1
  have h1 := see_eps h hc hs (n := k) (by omega)
  rw [if_neg (Nat.lt_irrefl k), if_pos rfl] at h1
  have hcl : auCl a bobT = ⟨dirPub d.secret, (headsOf d).take k⟩ := by unfold auCl; rw [ha.bob, ha.is]; exact seenOf_cl _ _ _
  have ht : tellAns a bobT s = ({ a with who := ups a.who bobT ⟨dirPub d.secret, (headsOf d).take (k + 1)⟩ }, 0) := by unfold tellAns; rw [hcl, h1, if_pos rfl]
  have hok := ha.ok.told bobT s (by decide)
  rw [ht] at hok
  refine ⟨_, ht, ha.is, hok, ?_, ?_, fun t h1 h2 => ?_⟩
  · show look (ups a.who bobT _) annT = _
    rw [look_ups_other _ _ _ _ ann_bobT]; exact ha.ann
  · show look (ups a.who bobT _) bobT = _
    rw [look_ups_same]; unfold seenOf; rw [if_neg (Nat.succ_ne_zero k)]
  · show look (ups a.who bobT _) t = _
    rw [look_ups_other _ _ _ _ h2]; exact ha.none t h1 h2
/-- Two that were told the same look the same. -/
theorem AbIs.same {pub : ByteArray} {H K : List Hd} {i k : Nat} {a b : Au} (h : AbIs pub H K i k a) (g : AbIs pub H K i k b) (s : ByteArray) : look a.who s = look b.who s := by
  by_cases h1 : s = annT
  · rw [h1, h.ann, g.ann]
  · by_cases h2 : s = bobT
    · rw [h2, h.bob, g.bob]
    · rw [h.none s h1 h2, g.none s h1 h2]
theorem isFork_same {a b : Au} (h : ∀ s, look a.who s = look b.who s) {f : Fk} (hf : IsFork a f) : IsFork b f := by
  obtain ⟨c, d, i, h1, h2, h3, h4, h5⟩ := hf
  exact ⟨c, d, i, by rw [← h]; exact h1, by rw [← h]; exact h2, h3, h4, h5⟩
theorem forks_same {a b : Au} (h : ∀ s, look a.who s = look b.who s) {L M : List Fk} (hl : ForksIs a L) (hm : ForksIs b M) : L = M :=
  forks_one hl.1 hm.1 fun f => (hl.2 f).trans ⟨fun hf => (hm.2 f).2 (isFork_same h hf), fun hf => isFork_same (fun s => (h s).symm) ((hm.2 f).1 hf)⟩
theorem last_same {a b : Au} (h : ∀ s, look a.who s = look b.who s) {n m : Int} (hn : LastIs a n) (hm : LastIs b m) : n = m := by
  refine hn.one ⟨fun s c hc => hm.1 s c (by rw [← h]; exact hc), ?_⟩
  rcases hm.2 with e | ⟨s, c, hc, e⟩
  · exact .inl e
  · exact .inr ⟨s, c, by rw [h]; exact hc, e⟩
end Go.Proofs.YtgjmbokfenpefaaGreatDoor
/- slices.Equal of the same forks (the auditor's own type). -/
namespace Go.Proofs.YtgjmbokfenpefaaGreatDoor
open Go.RowKit

theorem stoodFA : Tryz.prog.stoodInHeld 74 = false := by kernel_rfl
theorem forkFieldsA : Tryz.prog.underlying 74 = some (.struct (Tryz.prog.fieldsOf 74)) := by kernel_rfl
theorem run_neq_forkA (f : Fk) (w : World) : (binOp .neq 74 (.agg #[.string f.a, .string f.b, .int .i64 f.epoch]) (.agg #[.string f.a, .string f.b, .int .i64 f.epoch])).run Tryz.prog w = .ok (.bool false) w := by
  rw [run_neq_struct, run_equalIn_agg _ 9999 _ _ _ forkFieldsA stoodFA]
  go_simp
set_option maxRecDepth 100000 in
theorem equalForks_same (L : List Fk) (A B : Option Addr) (cap cap' : Nat) (w : World) (hl : L.length ≤ 1000000) (ha : Fks w A L) (hb : Fks w B L) :
    Calls Tryz.prog 28 #[.slice A L.length cap, .slice B L.length cap'] w fun e w' => e = .returned (.bool true) ∧ Below w.heap.size w w' := by
  have HA := Lib.hid ha
  have HB := Lib.hid hb
  clear ha hb
  go_enter Tryz.func28, Tryz.ntmps28
  go_wp2
  go_loopw [13] (fun i wr => ∃ k : Nat, k ≤ L.length ∧ i = .int .i64 (k : Int) ∧ Hid (Below w.heap.size w wr)) (fun i _ => L.length - (intOf i).toNat)
  case atStart => exact ⟨0, by omega, rfl, Lib.hid (Below.refl _ _)⟩
  case round =>
    obtain ⟨k, hk, rfl, HBJ⟩ := hrel
    by_cases hlt : k < L.length
    · obtain ⟨f, hf⟩ : ∃ f, L[k]? = some f := ⟨_, List.getElem?_eq_getElem hlt⟩
      obtain ⟨a1, rfl, _, b0, b1, b2⟩ := (HA.out.below HBJ.out) k f hf
      obtain ⟨a2, rfl, _, e0, e1, e2⟩ := (HB.out.below HBJ.out) k f hf
      have d1 : wr.cell? ⟨(a1.add (k * 3)).block, (a1.add (k * 3)).off + 1, none⟩ = some (.string f.b) := b1
      have d2 : wr.cell? ⟨(a1.add (k * 3)).block, (a1.add (k * 3)).off + 2, none⟩ = some (.int .i64 f.epoch) := b2
      have g1 : wr.cell? ⟨(a2.add (k * 3)).block, (a2.add (k * 3)).off + 1, none⟩ = some (.string f.b) := e1
      have g2 : wr.cell? ⟨(a2.add (k * 3)).block, (a2.add (k * 3)).off + 2, none⟩ = some (.int .i64 f.epoch) := e2
      clear b1 b2 e1 e2
      have hne := run_neq_forkA f
      go_wp2
      go_quiet (fail)
      go_wp2
      go_roundw
      case rel => exact ⟨k + 1, by omega, by go_num, Lib.hid (HBJ.out.trans (below_drewP (Below.refl _ _) _))⟩
      case measure => simp [intOf]; omega
    · go_wp2
      go_ret
      exact ⟨rfl, HBJ.out⟩
end Go.Proofs.YtgjmbokfenpefaaGreatDoor
