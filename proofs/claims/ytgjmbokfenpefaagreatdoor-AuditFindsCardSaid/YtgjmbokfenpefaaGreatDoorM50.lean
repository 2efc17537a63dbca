/- Parts of the proof, one behind the other: OpenD. -/
import Derived.WalkKit
import Derived.Lib.Hide
import Derived.WalkLawsBesides
import Derived.Deep.QuietTactic
import Derived.Deep.WholeRow
import Derived.ArgAppend
import Derived.Laws.AppendOwnNone
import Derived.Laws.CopyRow
import Derived.Deep.RegionLaw
import Derived.Laws.BytesString
import Derived.Laws.IdiomStrings
import Derived.Test.YtgjmbokfenpefaaGreatDoorProg
import Derived.StringKeys
import Derived.Maps.Own
import Derived.Maps.Views
import Derived.Maps.OwnSet
import Derived.Maps.OwnOps
import Derived.Maps.RangeWalk
import Derived.Sort.KeysCollected
import Derived.Laws.BitsAllLaws
import Derived.Outline
import Derived.BigQuiet
import Derived.Laws.CopyOwn
import Derived.RegionTactic
import Derived.StillTail
import Derived.Deep.Quiet
import Derived.Deep.RegionHeld3
import Derived.Deep.DeepCutAuto
import Derived.Laws.ResultCell
import Derived.IntWalk
import Derived.Sort.Walk0
import Derived.Tactics
import Derived.Orders
import Derived.LaidEql
import Derived.Stop.Asserts
import Derived.RowKitTokens
import Derived.OrdersHeld
import Derived.Sort.LotA
import Derived.Lib.SortBridge
import Derived.Deep.AppendSrc
import Derived.Shelf.SlSortFuncK.WholeK
import Derived.Ground.GgsProg
import Derived.Shelf.GgSortFunc.Tiny
import Derived.Shelf.Strings.Repeat
import Derived.KernelRfl
import Derived.Laws.StructEq
import Derived.WideKeyEntry
import Derived.Deep.CutRange
import Derived.Deep.Slices
import Derived.Deep.Fields
import Derived.ChangeSame
import Derived.Lib.SmallJoins
import Derived.SliceStrings
import Derived.OpenShut
import Derived.Test.YtgjmbokfenpefaaGreatDoorM1
import Derived.Test.YtgjmbokfenpefaaGreatDoorM2
import Derived.Test.YtgjmbokfenpefaaGreatDoorM3
import Derived.Test.YtgjmbokfenpefaaGreatDoorM4
import Derived.Test.YtgjmbokfenpefaaGreatDoorM5
import Derived.Test.YtgjmbokfenpefaaGreatDoorM6
import Derived.Test.YtgjmbokfenpefaaGreatDoorM7
import Derived.Test.YtgjmbokfenpefaaGreatDoorM8
import Derived.Test.YtgjmbokfenpefaaGreatDoorM12
import Derived.Test.YtgjmbokfenpefaaGreatDoorM13
import Derived.Test.YtgjmbokfenpefaaGreatDoorM14
import Derived.Test.YtgjmbokfenpefaaGreatDoorM16
import Derived.Test.YtgjmbokfenpefaaGreatDoorM33
import Derived.Test.YtgjmbokfenpefaaGreatDoorM34
import Derived.Test.YtgjmbokfenpefaaGreatDoorM35
import Derived.Test.YtgjmbokfenpefaaGreatDoorM36
import Derived.Test.YtgjmbokfenpefaaGreatDoorM37
import Derived.Test.YtgjmbokfenpefaaGreatDoorM38
import Derived.Test.YtgjmbokfenpefaaGreatDoorM39
import Derived.Test.YtgjmbokfenpefaaGreatDoorM40
import Derived.Test.YtgjmbokfenpefaaGreatDoorM41
import Derived.Test.YtgjmbokfenpefaaGreatDoorM42
import Derived.Test.YtgjmbokfenpefaaGreatDoorM43
import Derived.Test.YtgjmbokfenpefaaGreatDoorM44
import Derived.Test.YtgjmbokfenpefaaGreatDoorM45
import Derived.Test.YtgjmbokfenpefaaGreatDoorM46
/- Arguments opened: lists of deeds (three numbers, a bool, a text). -/
namespace Go.Proofs.YtgjmbokfenpefaaGreatDoor
open Go.ChangeShapes Go.WideShapes Go.Deep Go.RowKit

section
variable {H : Type} {enc : TypeId × Value → H} {P : Program} {w : World} {base : Nat} {spare : Nat → Bool} {held : Bool}
/-- A list of structs of three numbers, a bool and a text, as deeds. -/
theorem open_deeds {t e : TypeId} {f0 f1 f2 f3 f4 : Field} {a0 : Option Addr} {len cap : Nat} {d : DataW H} {p : List MemPlace} (ht : P.underlying t = some (.slice e)) (he : P.underlying e = some (.struct #[f0, f1, f2, f3, f4]))
    (hone : oneCellFields P #[f0, f1, f2, f3, f4] = true) (hC : P.cellsOf e = 5) (h0 : P.underlying f0.type = some (.int .i64)) (h1 : P.underlying f1.type = some (.int .i64)) (h2 : P.underlying f2.type = some (.int .i64)) (h3 : P.underlying f3.type = some .bool) (h4 : P.underlying f4.type = some .string)
    (h : DataW.Trod enc P w base spare held t (.slice a0 len cap) d p) : ∃ L : List Dd, L.length = len ∧ len ≤ cap ∧ Dds w a0 L := by
  obtain ⟨fuel, hf⟩ := h
  rcases open_slice_fields ht he hone hC hf with ⟨hcs, _⟩ | ⟨a, len', cap', m, hcs, hl, hm, hi⟩
  · simp [Value.cells] at hcs
    obtain ⟨rfl, rfl, rfl⟩ := hcs
    exact ⟨[], rfl, Nat.le_refl 0, Dds.nil _ _⟩
  · simp [Value.cells] at hcs
    obtain ⟨rfl, rfl, rfl⟩ := hcs
    have hlm : len ≤ m := by rw [hm]; split <;> omega
    have key : ∀ i, i < len → ∃ x : Dd, w.cell? (a.add (i * 5)) = some (.int .i64 x.what) ∧ w.cell? ((a.add (i * 5)).add 1) = some (.int .i64 x.epoch) ∧ w.cell? ((a.add (i * 5)).add 2) = some (.int .i64 x.spoil) ∧ w.cell? ((a.add (i * 5)).add 3) = some (.bool x.other) ∧ w.cell? ((a.add (i * 5)).add 4) = some (.string x.name) := by
      intro i hil
      obtain ⟨ys, n, _, hj⟩ := hi i (by omega)
      obtain ⟨v0, y0, c0, _, z0⟩ := hj 0 f0 rfl
      obtain ⟨v1, y1, c1, _, z1⟩ := hj 1 f1 rfl
      obtain ⟨v2, y2, c2, _, z2⟩ := hj 2 f2 rfl
      obtain ⟨v3, y3, c3, _, z3⟩ := hj 3 f3 rfl
      obtain ⟨v4, y4, c4, _, z4⟩ := hj 4 f4 rfl
      obtain ⟨n0, e0, _, _⟩ := DataW.trod_int h0 z0
      obtain ⟨n1, e1, _, _⟩ := DataW.trod_int h1 z1
      obtain ⟨n2, e2, _, _⟩ := DataW.trod_int h2 z2
      obtain ⟨b3, e3, _⟩ := DataW.trod_bool h3 z3
      obtain ⟨s4, e4, _, _⟩ := DataW.trod_string h4 z4
      obtain rfl := List.singleton_inj.1 e0
      obtain rfl := List.singleton_inj.1 e1
      obtain rfl := List.singleton_inj.1 e2
      obtain rfl := List.singleton_inj.1 e3
      obtain rfl := List.singleton_inj.1 e4
      exact ⟨⟨n0, n1, n2, b3, s4⟩, c0, by rw [add_add']; exact c1, by rw [add_add']; exact c2, by rw [add_add']; exact c3, by rw [add_add']; exact c4⟩
    refine ⟨(List.range len).map fun i => if hi : i < len then (key i hi).choose else noDd, by simp, hl, ?_⟩
    intro i x hx
    have hil : i < len := by have := (List.getElem?_eq_some_iff.1 hx).1; simpa using this
    have hk := (key i hil).choose_spec
    rw [List.getElem?_map, List.getElem?_range hil, Option.map_some, dif_pos hil] at hx
    rw [Option.some.inj hx] at hk
    exact ⟨a, rfl, by have := block_lt_of_cell hk.1; rwa [block_add] at this, hk.1, hk.2.1, hk.2.2.1, hk.2.2.2.1, hk.2.2.2.2⟩
end
end Go.Proofs.YtgjmbokfenpefaaGreatDoor
