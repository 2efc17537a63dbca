/- What the program's auditor answers: all contracts of the Face. -/
import Derived.WalkKit
import Derived.Lib.Hide
import Derived.WalkLawsBesides
import Derived.Deep.QuietTactic
import Derived.Deep.WholeRow
import Derived.ArgAppend
import Derived.Laws.AppendOwnNone
import Derived.Laws.CopyRow
import Derived.Deep.RegionLaw
import Derived.Laws.BytesString
import Derived.Laws.IdiomStrings
import Derived.Test.YtgjmbokfenpefaaGreatDoorProg
import Derived.StringKeys
import Derived.Maps.Own
import Derived.Maps.Views
import Derived.Maps.OwnSet
import Derived.Maps.OwnOps
import Derived.Maps.RangeWalk
import Derived.Sort.KeysCollected
import Derived.Laws.BitsAllLaws
import Derived.Outline
import Derived.BigQuiet
import Derived.Laws.CopyOwn
import Derived.RegionTactic
import Derived.StillTail
import Derived.Deep.Quiet
import Derived.Deep.RegionHeld3
import Derived.Deep.DeepCutAuto
import Derived.Laws.ResultCell
import Derived.IntWalk
import Derived.Sort.Walk0
import Derived.Tactics
import Derived.Orders
import Derived.LaidEql
import Derived.Stop.Asserts
import Derived.RowKitTokens
import Derived.OrdersHeld
import Derived.Sort.LotA
import Derived.Lib.SortBridge
import Derived.Deep.AppendSrc
import Derived.Shelf.SlSortFuncK.WholeK
import Derived.Ground.GgsProg
import Derived.Shelf.GgSortFunc.Tiny
import Derived.Shelf.Strings.Repeat
import Derived.KernelRfl
import Derived.Laws.StructEq
import Derived.WideKeyEntry
import Derived.Deep.CutRange
import Derived.Shelf.SlGeneric
import Derived.Shelf.SlIter.Nil
import Derived.Shelf.SortM.Plain
import Derived.Shelf.SortM.SortNone
import Derived.Ground.GgzProg
import Derived.Ground.SlgmProg
import Derived.RangeFuncNested
import Derived.RangeFuncBound
import Derived.RangeFuncCalls
import Derived.RangeFuncLeaves
import Derived.Shelf.Abstract
import Derived.Shelf.RegionOpen
import Derived.OwnWalkIn
import Derived.TacticsInMore
import Derived.LoopNIn
import Derived.LoopIn
import Derived.OrdersIn
import Derived.TacticsIn
import Derived.Shelf.Small.Strs
import Derived.Test.YtgjmbokfenpefaaGreatDoorM1
import Derived.Test.YtgjmbokfenpefaaGreatDoorM2
import Derived.Test.YtgjmbokfenpefaaGreatDoorM3
import Derived.Test.YtgjmbokfenpefaaGreatDoorM4
import Derived.Test.YtgjmbokfenpefaaGreatDoorM5
import Derived.Test.YtgjmbokfenpefaaGreatDoorM6
import Derived.Test.YtgjmbokfenpefaaGreatDoorM7
import Derived.Test.YtgjmbokfenpefaaGreatDoorM8
import Derived.Test.YtgjmbokfenpefaaGreatDoorM9
import Derived.Test.YtgjmbokfenpefaaGreatDoorM10
import Derived.Test.YtgjmbokfenpefaaGreatDoorM11
import Derived.Test.YtgjmbokfenpefaaGreatDoorM12
import Derived.Test.YtgjmbokfenpefaaGreatDoorM13
import Derived.Test.YtgjmbokfenpefaaGreatDoorM14
import Derived.Test.YtgjmbokfenpefaaGreatDoorPAu
import Derived.Test.YtgjmbokfenpefaaGreatDoorForkU
import Derived.Test.YtgjmbokfenpefaaGreatDoorIterC
import Derived.Test.YtgjmbokfenpefaaGreatDoorPTell
import Derived.Test.YtgjmbokfenpefaaGreatDoorPLast
import Derived.Test.YtgjmbokfenpefaaGreatDoorPHeadsOf
import Derived.Test.YtgjmbokfenpefaaGreatDoorPNames
import Derived.Test.YtgjmbokfenpefaaGreatDoorPForks
namespace Go.Proofs.YtgjmbokfenpefaaGreatDoor
open Go.RowKit

def auditFace : AuditFace where
  Is F w p a := PAu F w p a ∧ AuEps a
  lt h := h.1.lt
  same h hs := ⟨h.1.same hs, h.2⟩
  new := fun pub w h16 hk => by
    refine (pNewAuditor_t pub w h16).mono ?_
    rintro e w' ⟨p, F, rfl, hb, hc, hf⟩
    exact ⟨p, F, rfl, hb, ⟨hc, auEps_new pub⟩, hf⟩
  tell := fun F p a a' N name h key S P A B ca cb n w ha hk hok hN hn hls hlp he hs hp _ _ ht => by
    refine (pTell_is F p a a' N name h key S P A B ca cb n w ha.1 hk hok (by omega) hn (by omega) (by omega) he hs hp ht).mono ?_
    rintro e w' ⟨rfl, F', ho, hg, hc'⟩
    exact ⟨rfl, F', ho, hg, hc', by have := ha.2.told name ⟨h, key, S, P⟩; rwa [ht] at this⟩
  last := fun F p a N w ha _ hok hN => pLast_is F p a N w ha.1 hok (by omega)
  forks := fun F p a N w ha _ hok hN => by
    refine (pForks_is F p a N w ha.1 ha.2 hok hN).mono ?_
    rintro e w' ⟨A, cap, L, base, rfl, hf, hl, hr, hb⟩
    have := Nat.mul_le_mul hN hN
    exact ⟨A, cap, L, rfl, hf, by omega, hr.fks, hb⟩
end Go.Proofs.YtgjmbokfenpefaaGreatDoor
