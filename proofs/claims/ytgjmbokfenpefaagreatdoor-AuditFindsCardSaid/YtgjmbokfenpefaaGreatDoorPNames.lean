/- The program's auditor: its names, rising. -/
import Derived.WalkKit
import Derived.Lib.Hide
import Derived.WalkLawsBesides
import Derived.Deep.QuietTactic
import Derived.Deep.WholeRow
import Derived.ArgAppend
import Derived.Laws.AppendOwnNone
import Derived.Laws.CopyRow
import Derived.Deep.RegionLaw
import Derived.Laws.BytesString
import Derived.Laws.IdiomStrings
import Derived.Test.YtgjmbokfenpefaaGreatDoorProg
import Derived.StringKeys
import Derived.Maps.Own
import Derived.Maps.Views
import Derived.Maps.OwnSet
import Derived.Maps.OwnOps
import Derived.Maps.RangeWalk
import Derived.Sort.KeysCollected
import Derived.Laws.BitsAllLaws
import Derived.Outline
import Derived.BigQuiet
import Derived.Laws.CopyOwn
import Derived.RegionTactic
import Derived.StillTail
import Derived.Deep.Quiet
import Derived.Deep.RegionHeld3
import Derived.Deep.DeepCutAuto
import Derived.Laws.ResultCell
import Derived.IntWalk
import Derived.Sort.Walk0
import Derived.Tactics
import Derived.Orders
import Derived.LaidEql
import Derived.Stop.Asserts
import Derived.RowKitTokens
import Derived.OrdersHeld
import Derived.Sort.LotA
import Derived.Lib.SortBridge
import Derived.Deep.AppendSrc
import Derived.Shelf.SlSortFuncK.WholeK
import Derived.Ground.GgsProg
import Derived.Shelf.GgSortFunc.Tiny
import Derived.Shelf.Strings.Repeat
import Derived.KernelRfl
import Derived.WideKeyEntry
import Derived.Deep.CutRange
import Derived.Shelf.SlGeneric
import Derived.Shelf.SlIter.Nil
import Derived.Shelf.SortM.Plain
import Derived.Shelf.SortM.SortNone
import Derived.Ground.GgzProg
import Derived.Ground.SlgmProg
import Derived.Laws.StructEq
import Derived.RangeFuncNested
import Derived.RangeFuncBound
import Derived.RangeFuncCalls
import Derived.RangeFuncLeaves
import Derived.Shelf.Abstract
import Derived.Shelf.RegionOpen
import Derived.OwnWalkIn
import Derived.TacticsInMore
import Derived.LoopNIn
import Derived.LoopIn
import Derived.OrdersIn
import Derived.TacticsIn
import Derived.Shelf.Small.Strs
import Derived.Test.YtgjmbokfenpefaaGreatDoorM1
import Derived.Test.YtgjmbokfenpefaaGreatDoorM2
import Derived.Test.YtgjmbokfenpefaaGreatDoorM3
import Derived.Test.YtgjmbokfenpefaaGreatDoorM4
import Derived.Test.YtgjmbokfenpefaaGreatDoorM5
import Derived.Test.YtgjmbokfenpefaaGreatDoorM6
import Derived.Test.YtgjmbokfenpefaaGreatDoorM7
import Derived.Test.YtgjmbokfenpefaaGreatDoorM8
import Derived.Test.YtgjmbokfenpefaaGreatDoorM9
import Derived.Test.YtgjmbokfenpefaaGreatDoorM10
import Derived.Test.YtgjmbokfenpefaaGreatDoorM12
import Derived.Test.YtgjmbokfenpefaaGreatDoorM13
import Derived.Test.YtgjmbokfenpefaaGreatDoorPAu
import Derived.Test.YtgjmbokfenpefaaGreatDoorIterC
namespace Go.Proofs.YtgjmbokfenpefaaGreatDoor
open Go.RowKit Go.Maps

/-- The names of a map to clients, rising, in a new list. -/
theorem sortedNames_any (mf : Nat) (Fr : List (ByteArray × Option Nat)) (w : World) (hf : MapIs kQ w mf Fr) (hl : Fr.length ≤ 100000) :
    Calls Tryz.prog 44 #[.func (.func 78) #[] #[.pointer (some ⟨w.heap.size, 0, none⟩)]] (w.alloc (.cells #[.map (some mf)] 113)) fun e w' =>
      ∃ (S : List ByteArray) (A : Option Addr) (c : Nat), e = .returned (.slice A S.length c) ∧ Below w.heap.size w w' ∧ Strs w' A S ∧ S.Perm (keysL Fr) ∧ S.Pairwise (fun s t => s.data.toList < t.data.toList) := by
  obtain ⟨D, hown, hsz, hp⟩ := hf.strs
  refine (Tryz.sortedCl_any mf _ D _ w hown (by rw [hsz]; unfold maxLen; omega) (by rw [hsz]; omega)).mono ?_
  rintro e w' ⟨v, ss, rfl, hS, hrow, -, hb⟩
  have hpS : ((ss.mergeSort leB).map textOf).Perm (keysL Fr) := by
    have h1 := ((List.mergeSort_perm ss leB).trans (hp ss hS)).map textOf
    rw [List.map_map] at h1
    have h2 : (keysL Fr).map (textOf ∘ bytesOf) = keysL Fr := by
      rw [show (textOf ∘ bytesOf) = id from funext text_bytes]; exact List.map_id _
    rwa [h2] at h1
  have hl2 : ss.length = ((ss.mergeSort leB).map textOf).length := by rw [List.length_map, List.length_mergeSort]
  have hr : Row w' (w.alloc (.cells #[.map (some mf)] 113)).heap.size 1 v ss.length (stCells ((ss.mergeSort leB).map textOf)) := by
    have h := Row.of_owns hrow
    have e : (ss.mergeSort (fun x y => decide (x ≤ y))).map encStr = stCells ((ss.mergeSort leB).map textOf) := by
      unfold stCells
      rw [List.map_map]
      rfl
    rw [e] at h
    exact h
  rw [hl2] at hr
  obtain ⟨-, A, c, rfl, hst⟩ := hr.strs
  refine ⟨(ss.mergeSort leB).map textOf, A, c, rfl, (alloc_below w _).trans (hb.mono (by simp)), hst, hpS, ?_⟩
  have hnd : ((ss.mergeSort leB).map textOf).Nodup := hpS.symm.nodup hf.keys
  rw [List.pairwise_map]
  unfold List.Nodup at hnd
  rw [List.pairwise_map] at hnd
  refine ((sort_le ss).and hnd).imp fun {a b} h => ?_
  show a < b
  by_cases e : a < b
  · exact e
  · exact absurd (congrArg textOf (List.le_antisymm h.1 (List.not_lt.1 e))) h.2
end Go.Proofs.YtgjmbokfenpefaaGreatDoor
