/- Parts of the proof, one behind the other: ForkP, Iter, PHead, VLeaf, VPlain, VMarks, QMarks, QWalk. -/
import Derived.WalkKit
import Derived.Lib.Hide
import Derived.WalkLawsBesides
import Derived.Deep.QuietTactic
import Derived.Deep.WholeRow
import Derived.ArgAppend
import Derived.Laws.AppendOwnNone
import Derived.Laws.CopyRow
import Derived.Deep.RegionLaw
import Derived.Laws.BytesString
import Derived.Laws.IdiomStrings
import Derived.Test.YtgjmbokfenpefaaGreatDoorProg
import Derived.StringKeys
import Derived.Maps.Own
import Derived.Maps.Views
import Derived.Maps.OwnSet
import Derived.Maps.OwnOps
import Derived.Maps.RangeWalk
import Derived.Sort.KeysCollected
import Derived.Laws.BitsAllLaws
import Derived.Outline
import Derived.BigQuiet
import Derived.Laws.CopyOwn
import Derived.RegionTactic
import Derived.StillTail
import Derived.Deep.Quiet
import Derived.Deep.RegionHeld3
import Derived.Deep.DeepCutAuto
import Derived.Laws.ResultCell
import Derived.IntWalk
import Derived.Sort.Walk0
import Derived.Tactics
import Derived.Orders
import Derived.LaidEql
import Derived.Stop.Asserts
import Derived.RowKitTokens
import Derived.OrdersHeld
import Derived.Sort.LotA
import Derived.Lib.SortBridge
import Derived.Shelf.SlSortFuncK.WholeK
import Derived.Ground.GgsProg
import Derived.Shelf.GgSortFunc.Tiny
import Derived.Shelf.Strings.Repeat
import Derived.KernelRfl
import Derived.Laws.StructEq
import Derived.WideKeyEntry
import Derived.Deep.CutRange
import Derived.Shelf.SlGeneric
import Derived.Shelf.SlIter.Nil
import Derived.Shelf.SortM.Plain
import Derived.Shelf.SortM.SortNone
import Derived.Ground.GgzProg
import Derived.Ground.SlgmProg
import Derived.Test.YtgjmbokfenpefaaGreatDoorM1
import Derived.Test.YtgjmbokfenpefaaGreatDoorM2
import Derived.Test.YtgjmbokfenpefaaGreatDoorM3
import Derived.Test.YtgjmbokfenpefaaGreatDoorM4
import Derived.Test.YtgjmbokfenpefaaGreatDoorM5
import Derived.Test.YtgjmbokfenpefaaGreatDoorM6
import Derived.Test.YtgjmbokfenpefaaGreatDoorM7
import Derived.Test.YtgjmbokfenpefaaGreatDoorM8
/- The document's forks: what they are, and how they lie while they are found. -/
namespace Go.Proofs.YtgjmbokfenpefaaGreatDoor
open Go.RowKit

/-- i is the first at which both have a head, and not one. -/
def PartAt (H K : List Hd) (i : Nat) : Prop := i < H.length ∧ i < K.length ∧ hdAt H i ≠ hdAt K i ∧ ∀ j, j < i → hdAt H j = hdAt K j
theorem PartAt.one {H K : List Hd} {i j : Nat} (h : PartAt H K i) (k : PartAt H K j) : i = j := by
  rcases Nat.lt_trichotomy i j with e | e | e
  · exact absurd (k.2.2.2 i e) h.2.2.1
  · exact e
  · exact absurd (h.2.2.2 j e) k.2.2.1
def IsFork (a : Au) (f : Fk) : Prop := ∃ c d i, look a.who f.a = some c ∧ look a.who f.b = some d ∧ f.a.data.toList < f.b.data.toList ∧ PartAt c.heads d.heads i ∧ f.epoch = (i : Int) + 1
theorem IsFork.one {a : Au} {f g : Fk} (h : IsFork a f) (k : IsFork a g) (e : f.a = g.a ∧ f.b = g.b) : f = g := by
  obtain ⟨c, d, i, h1, h2, _, h4, h5⟩ := h
  obtain ⟨c', d', j, k1, k2, _, k4, k5⟩ := k
  obtain ⟨fa, fb, fe⟩ := f
  obtain ⟨ga, gb, ge⟩ := g
  obtain ⟨rfl, rfl⟩ := e
  rw [h1] at k1; cases k1
  rw [h2] at k2; cases k2
  have := h4.one k4
  subst this
  simp only at h5 k5
  rw [h5, k5]
/-- The forks of an auditor, in their order. -/
def ForksIs (a : Au) (L : List Fk) : Prop := L.Pairwise ltF ∧ ∀ f, f ∈ L ↔ IsFork a f
theorem ForksIs.one {a : Au} {L M : List Fk} (h : ForksIs a L) (k : ForksIs a M) : L = M := forks_one h.1 k.1 fun f => (h.2 f).trans (k.2 f).symm
/-- What has been found, of those names that have come (S), and of s with T. -/
structure Found (a : Au) (S : List ByteArray) (s : ByteArray) (T : List ByteArray) (N : Nat) (K : List Fk) : Prop where
  mem : ∀ f, f ∈ K ↔ IsFork a f ∧ (f.a ∈ S ∨ (f.a = s ∧ f.b ∈ T))
  once : K.Pairwise (fun x y => ¬ (x.a = y.a ∧ x.b = y.b))
  few : K.length ≤ S.length * N + T.length
theorem Found.none (a : Au) (s : ByteArray) (N : Nat) : Found a [] s [] N [] := ⟨fun f => by simp, List.Pairwise.nil, Nat.zero_le _⟩
/-- The next outer name begins. -/
theorem Found.start {a : Au} {S : List ByteArray} {s t : ByteArray} {N : Nat} {K : List Fk} (h : Found a S s [] N K) : Found a S t [] N K := ⟨fun f => by rw [h.mem]; simp, h.once, h.few⟩
/-- An outer name is done. -/
theorem Found.done {a : Au} {S : List ByteArray} {s t : ByteArray} {T : List ByteArray} {N : Nat} {K : List Fk} (h : Found a S s T N K) (hT : ∀ u, (look a.who u).isSome = true → u ∈ T) (hl : T.length ≤ N) : Found a (S ++ [s]) t [] N K where
  mem f := by
    rw [h.mem]
    constructor
    · rintro ⟨h1, h2 | ⟨h2, _⟩⟩
      · exact ⟨h1, .inl (List.mem_append_left _ h2)⟩
      · exact ⟨h1, .inl (List.mem_append_right _ (by rw [h2]; exact List.mem_singleton.2 rfl))⟩
    · rintro ⟨h1, h2 | ⟨_, h2⟩⟩
      · rcases List.mem_append.1 h2 with h3 | h3
        · exact ⟨h1, .inl h3⟩
        · refine ⟨h1, .inr ⟨List.mem_singleton.1 h3, hT _ ?_⟩⟩
          obtain ⟨_, d, _, _, k2, _⟩ := h1
          rw [k2]; rfl
      · cases h2
  once := h.once
  few := by
    have h1 := h.few
    rw [List.length_append, List.length_singleton, Nat.succ_mul]
    simp only [List.length_nil]
    omega
/-- An inner name that parts nowhere. -/
theorem Found.skip {a : Au} {S : List ByteArray} {s t : ByteArray} {T : List ByteArray} {N : Nat} {K : List Fk} (h : Found a S s T N K) (hn : ∀ f, IsFork a f → ¬ (f.a = s ∧ f.b = t)) : Found a S s (T ++ [t]) N K where
  mem f := by
    rw [h.mem]
    constructor
    · rintro ⟨h1, h2 | ⟨h2, h3⟩⟩
      · exact ⟨h1, .inl h2⟩
      · exact ⟨h1, .inr ⟨h2, List.mem_append_left _ h3⟩⟩
    · rintro ⟨h1, h2 | ⟨h2, h3⟩⟩
      · exact ⟨h1, .inl h2⟩
      · rcases List.mem_append.1 h3 with h4 | h4
        · exact ⟨h1, .inr ⟨h2, h4⟩⟩
        · exact absurd ⟨h2, List.mem_singleton.1 h4⟩ (hn f h1)
  once := h.once
  few := by have := h.few; rw [List.length_append, List.length_singleton]; omega
/-- An inner name that parts. -/
theorem Found.more {a : Au} {S : List ByteArray} {s t : ByteArray} {T : List ByteArray} {N : Nat} {K : List Fk} {f : Fk} (h : Found a S s T N K) (hf : IsFork a f) (e : f.a = s ∧ f.b = t) (hs : s ∉ S) (ht : t ∉ T) : Found a S s (T ++ [t]) N (K ++ [f]) where
  mem g := by
    rw [List.mem_append, h.mem, List.mem_singleton]
    constructor
    · rintro (⟨h1, h2 | ⟨h2, h3⟩⟩ | rfl)
      · exact ⟨h1, .inl h2⟩
      · exact ⟨h1, .inr ⟨h2, List.mem_append_left _ h3⟩⟩
      · exact ⟨hf, .inr ⟨e.1, List.mem_append_right _ (by rw [e.2]; exact List.mem_singleton.2 rfl)⟩⟩
    · rintro ⟨h1, h2 | ⟨h2, h3⟩⟩
      · exact .inl ⟨h1, .inl h2⟩
      · rcases List.mem_append.1 h3 with h4 | h4
        · exact .inl ⟨h1, .inr ⟨h2, h4⟩⟩
        · exact .inr (h1.one hf ⟨h2.trans e.1.symm, (List.mem_singleton.1 h4).trans e.2.symm⟩)
  once := by
    rw [List.pairwise_append]
    refine ⟨h.once, by simp, fun x hx y hy => ?_⟩
    rw [List.mem_singleton] at hy
    subst hy
    rintro ⟨e1, e2⟩
    rcases ((h.mem x).1 hx).2 with h1 | ⟨_, h1⟩
    · rw [e1, e.1] at h1; exact hs h1
    · rw [e2, e.2] at h1; exact ht h1
  few := by have := h.few; rw [List.length_append, List.length_append, List.length_singleton, List.length_singleton]; omega
/-- The list that is built: its own cell lb, its row behind. -/
structure FkRel (lb : Nat) (w wr : World) (K : List Fk) (v : Value) : Prop where
  below : Below w.heap.size w wr
  lt : w.heap.size ≤ lb
  own : Holds wr lb 1 (fun _ => v) 70
  row : Row wr (lb + 1) 3 v K.length (cellsK encF K)
theorem FkRel.later {lb : Nat} {w wr w2 : World} {K : List Fk} {v : Value} (h : FkRel lb w wr K v) (hb : Below wr.heap.size wr w2) : FkRel lb w w2 K v :=
  ⟨h.below.trans (hb.mono h.below.size), h.lt, h.own.below hb h.own.lt, h.row.belowAll hb⟩
theorem FkRel.other {lb r : Nat} {w wr w2 : World} {K : List Fk} {v : Value} (h : FkRel lb w wr K v) (hg : wr.grownBy w2 (some r)) (hr : lb < r) (hv : v.ownBlock ≠ some r) : FkRel lb w w2 K v := by
  refine ⟨h.below.grown hg h.below.size (fun k hk => by cases hk; have := h.lt; omega), h.lt, ?_, h.row.kept (fun k hk => hg.block k (h.row.lt k hk).2 (fun e => hv (hk.trans e))) hg.size⟩
  have := h.own
  have hl := this.lt
  unfold Holds at this ⊢
  rw [hg.block lb hl (fun e => by have := Option.some.inj e; omega)]; exact this
theorem FkRel.put {lb : Nat} {w w2 w3 : World} {K K' : List Fk} {v v' : Value} {X : Obj} (h : FkRel lb w w2 K v) (hrow : Row w3 (lb + 1) 3 v' K'.length (cellsK encF K')) (hg : (w2.alloc X).grownBy w3 v.ownBlock) : FkRel lb w (w3.setCell ⟨lb, 0, none⟩ v') K' v' := by
  have hl := h.own.lt
  have hlt := h.lt
  have h4 : Holds w3 lb 1 (fun _ => v) 70 := by
    have hown := h.own
    unfold Holds at hown ⊢
    rw [hg.block lb (by simp; omega) (fun e => by have := (h.row.lt lb e.symm).1; omega), Below.heap_alloc _ _ _ hl]
    exact hown
  refine ⟨((h.below.alloc h.below.size X).grown hg (Nat.le_trans h.below.size (by simp)) (fun c hc => by have := (h.row.lt c hc).1; omega)).setCell (p := ⟨lb, 0, none⟩) hlt _, hlt, ?_, hrow.setOther (hrow.fresh (show lb < lb + 1 by omega)) _⟩
  refine (h4.set 0 v').congr fun i hi => ?_
  have : i = 0 := by omega
  subst this; rfl
theorem FkRel.after {lb : Nat} {w w2 w3 : World} {K : List Fk} {v : Value} {X : Obj} (h : FkRel lb w w2 K v) (hg : (w2.alloc X).grownBy w3 v.ownBlock) : Holds w3 lb 1 (fun _ => v) 70 := by
  have hown := h.own
  have hob := hown.lt
  unfold Holds at hown ⊢
  rw [hg.block lb (by simp; omega) (fun e => by have := (h.row.lt lb e.symm).1; omega), Below.heap_alloc _ _ _ hob]
  exact hown
end Go.Proofs.YtgjmbokfenpefaaGreatDoor
/- slices.Sorted(maps.Keys(m)), laid by name, no walk. -/
namespace Go.Proofs
open Go.Shelf
def Tryz.sortedTxt_ren : Go.Shelf.Ren := ⟨fun | 6 => 44 | 8 => 76 | 9 => 77 | 11 => 120 | 13 => 83 | 12 => 121 | 23 => 131 | 24 => 132 | 14 => 181 | 15 => 182 | 16 => 183 | 17 => 184 | 18 => 185 | 19 => 186 | 20 => 187 | 21 => 188 | 22 => 189 | 25 => 230 | 26 => 231 | 27 => 232 | 28 => 233 | 29 => 234 | 30 => 235 | 31 => 253 | n => n, fun | 26 => 9 | 28 => 135 | 24 => 53 | 0 => 0 | 3 => 3 | 37 => 198 | 48 => 93 | 50 => 101 | 4 => 4 | 40 => 307 | 39 => 306 | 45 => 257 | 5 => 5 | 9 => 9 | 51 => 349 | 55 => 316 | 57 => 366 | 58 => 353 | 33 => 50 | n => n, fun | n => n⟩
theorem Tryz.sortedTxt : Go.Proofs.SlLaysZ.n6 Tryz.prog Tryz.sortedTxt_ren := {
  mixed := by kernel_rfl
  f6 := ⟨Tryz.f44.name, by decide, Tryz.func44.trans (congrArg some (by kernel_rfl))⟩
  f8 := ⟨Tryz.f76.name, by decide, Tryz.func76.trans (congrArg some (by kernel_rfl))⟩
  f11 := ⟨Tryz.f120.name, by decide, Tryz.func120.trans (congrArg some (by kernel_rfl))⟩
  t0 := Tryz.underlying0
  a0 := Tryz.isAgg0
  z0 := Tryz.sizeOf0
  v0 := Tryz.zeroValue0
  t24 := Tryz.underlying53
  a24 := Tryz.isAgg53
  z24 := Tryz.sizeOf53
  v24 := Tryz.zeroValue53
  t26 := Tryz.underlying9
  a26 := Tryz.isAgg9
  z26 := Tryz.sizeOf9
  v26 := Tryz.zeroValue9
  t28 := Tryz.underlying135
  a28 := Tryz.isAgg135
  z28 := Tryz.sizeOf135
  v28 := Tryz.zeroValue135
  i26 := by kernel_rfl }
def Tryz.sortTxt_ren : Go.Shelf.Ren := ⟨fun | 6 => 77 | 8 => 83 | 9 => 121 | 19 => 131 | 20 => 132 | 21 => 181 | 22 => 182 | 23 => 183 | 24 => 184 | 25 => 185 | 26 => 186 | 27 => 187 | 28 => 188 | 29 => 189 | 36 => 230 | 31 => 231 | 32 => 232 | 37 => 233 | 38 => 234 | 39 => 235 | 41 => 253 | n => n, fun | 27 => 53 | 29 => 9 | 3 => 3 | 32 => 198 | 26 => 53 | 0 => 0 | 44 => 93 | 46 => 101 | 4 => 4 | 36 => 307 | 35 => 306 | 41 => 257 | 5 => 5 | 9 => 9 | 53 => 349 | 57 => 316 | 63 => 366 | 64 => 353 | n => n, fun | n => n⟩
theorem Tryz.sortTxt : Go.Proofs.SlLaysM.n6 Tryz.prog Tryz.sortTxt_ren := {
  mixed := by kernel_rfl
  f6 := ⟨Tryz.f77.name, by decide, Tryz.func77.trans (congrArg some (by kernel_rfl))⟩
  f8 := Tryz.func83.trans (congrArg some (by kernel_rfl))
  f9 := ⟨Tryz.f121.name, by decide, Tryz.func121.trans (congrArg some (by kernel_rfl))⟩
  f19 := Tryz.func131.trans (congrArg some (by kernel_rfl))
  f20 := Tryz.func132.trans (congrArg some (by kernel_rfl))
  f21 := ⟨Tryz.f181.name, by decide, Tryz.func181.trans (congrArg some (by kernel_rfl))⟩
  f22 := ⟨Tryz.f182.name, by decide, Tryz.func182.trans (congrArg some (by kernel_rfl))⟩
  f23 := ⟨Tryz.f183.name, by decide, Tryz.func183.trans (congrArg some (by kernel_rfl))⟩
  f24 := ⟨Tryz.f184.name, by decide, Tryz.func184.trans (congrArg some (by kernel_rfl))⟩
  f25 := ⟨Tryz.f185.name, by decide, Tryz.func185.trans (congrArg some (by kernel_rfl))⟩
  f26 := ⟨Tryz.f186.name, by decide, Tryz.func186.trans (congrArg some (by kernel_rfl))⟩
  f27 := ⟨Tryz.f187.name, by decide, Tryz.func187.trans (congrArg some (by kernel_rfl))⟩
  f28 := ⟨Tryz.f188.name, by decide, Tryz.func188.trans (congrArg some (by kernel_rfl))⟩
  f29 := ⟨Tryz.f189.name, by decide, Tryz.func189.trans (congrArg some (by kernel_rfl))⟩
  f31 := Tryz.func231.trans (congrArg some (by kernel_rfl))
  f32 := Tryz.func232.trans (congrArg some (by kernel_rfl))
  f36 := ⟨Tryz.f230.name, by decide, Tryz.func230.trans (congrArg some (by kernel_rfl))⟩
  f37 := ⟨Tryz.f233.name, by decide, Tryz.func233.trans (congrArg some (by kernel_rfl))⟩
  f38 := ⟨Tryz.f234.name, by decide, Tryz.func234.trans (congrArg some (by kernel_rfl))⟩
  f39 := ⟨Tryz.f235.name, by decide, Tryz.func235.trans (congrArg some (by kernel_rfl))⟩
  f41 := ⟨Tryz.f253.name, by decide, Tryz.func253.trans (congrArg some (by kernel_rfl))⟩
  t0 := Tryz.underlying0
  a0 := Tryz.isAgg0
  z0 := Tryz.sizeOf0
  v0 := Tryz.zeroValue0
  t3 := Tryz.underlying3
  a3 := Tryz.isAgg3
  z3 := Tryz.sizeOf3
  v3 := Tryz.zeroValue3
  t4 := Tryz.underlying4
  a4 := Tryz.isAgg4
  z4 := Tryz.sizeOf4
  v4 := Tryz.zeroValue4
  t5 := Tryz.underlying5
  a5 := Tryz.isAgg5
  z5 := Tryz.sizeOf5
  v5 := Tryz.zeroValue5
  t9 := Tryz.underlying9
  a9 := Tryz.isAgg9
  z9 := Tryz.sizeOf9
  v9 := Tryz.zeroValue9
  t26 := Tryz.underlying53
  a26 := Tryz.isAgg53
  z26 := Tryz.sizeOf53
  v26 := Tryz.zeroValue53
  t27 := Tryz.underlying53
  a27 := Tryz.isAgg53
  z27 := Tryz.sizeOf53
  v27 := Tryz.zeroValue53
  t29 := Tryz.underlying9
  a29 := Tryz.isAgg9
  z29 := Tryz.sizeOf9
  v29 := Tryz.zeroValue9
  t32 := Tryz.underlying198
  a32 := Tryz.isAgg198
  z32 := Tryz.sizeOf198
  v32 := Tryz.zeroValue198
  t35 := Tryz.underlying306
  a35 := Tryz.isAgg306
  z35 := Tryz.sizeOf306
  v35 := Tryz.zeroValue306
  t36 := Tryz.underlying307
  a36 := Tryz.isAgg307
  z36 := Tryz.sizeOf307
  v36 := Tryz.zeroValue307
  t41 := Tryz.underlying257
  a41 := Tryz.isAgg257
  z41 := Tryz.sizeOf257
  v41 := Tryz.zeroValue257
  t44 := Tryz.underlying93
  a44 := Tryz.isAgg93
  z44 := Tryz.sizeOf93
  v44 := Tryz.zeroValue93
  t46 := Tryz.underlying101
  a46 := Tryz.isAgg101
  z46 := Tryz.sizeOf101
  v46 := Tryz.zeroValue101
  t53 := Tryz.underlying349
  a53 := Tryz.isAgg349
  z53 := Tryz.sizeOf349
  v53 := Tryz.zeroValue349
  t57 := Tryz.underlying316
  a57 := Tryz.isAgg316
  z57 := Tryz.sizeOf316
  v57 := Tryz.zeroValue316
  t63 := Tryz.underlying366
  a63 := Tryz.isAgg366
  z63 := Tryz.sizeOf366
  v63 := Tryz.zeroValue366
  t64 := Tryz.underlying353
  a64 := Tryz.isAgg353
  z64 := Tryz.sizeOf353
  v64 := Tryz.zeroValue353 }

open Go.RowKit Go.Maps Go.Sort
theorem Tryz.sortsTxt (m : Nat) : AnyZ.SortsIn Tryz.prog Tryz.sortedTxt_ren Fence.wide m :=
  ⟨fun blk off cap ss W hH hblk hsz => callsIn_wide.2 (AnyM.slices_Sort_string Tryz.sortTxt blk off cap ss W hH hblk hsz),
   fun p cap W => callsIn_wide.2 (AnyM.slices_Sort_string_none Tryz.sortTxt p cap W)⟩
end Go.Proofs
/- The program's Right and Mark of heads. -/
namespace Go.Proofs.YtgjmbokfenpefaaGreatDoor
open Go.RowKit

theorem pcIsMark_any (s : ByteArray) (w : World) : Calls Tryz.prog 180 #[.string s] w fun e w' => e = .returned (.bool (decide (s.size = 16))) ∧ w' = w := by
  by_cases h : s.size = 16
  · rw [decide_eq_true h]
    have hi : ((s.size : Int) == 16) = true := by rw [beq_iff_eq]; omega
    go_enter Tryz.func180, Tryz.ntmps180
    go_wp2
    go_ret
    exact ⟨rfl, rfl⟩
  · rw [decide_eq_false h]
    have hi : ((s.size : Int) == 16) = false := by rw [beq_eq_false_iff_ne]; omega
    go_enter Tryz.func180, Tryz.ntmps180
    go_wp2
    go_ret
    exact ⟨rfl, rfl⟩
set_option maxRecDepth 100000 in
theorem pHdRight_any (h : Hd) (w : World) :
    Calls Tryz.prog 117 #[.agg #[.int .i64 h.epoch, .string h.root, .string h.prev]] w fun e w' => e = .returned (.bool (rightHead h)) ∧ Below w.heap.size w w' := by
  have HBW := Lib.hid (alloc_below w (.cells #[.int .i64 h.epoch, .string h.root, .string h.prev] 52))
  obtain ⟨T, hT⟩ : ∃ T, rightHead h = T := ⟨_, rfl⟩
  rw [hT]
  have HT := Lib.hid hT
  clear hT
  by_cases h1 : 1 ≤ h.epoch
  · have h1' : 0 < h.epoch := by omega
    obtain ⟨E, hE⟩ : ∃ E, decide (h.root.size = 16) = E := ⟨_, rfl⟩
    obtain ⟨G, hG⟩ : ∃ G, decide (h.prev.size = 16) = G := ⟨_, rfl⟩
    have hF : T = (E && G) := by rw [← HT.out, ← hE, ← hG]; unfold rightHead; rw [decide_eq_true h1']; rfl
    subst hF
    have HE := Lib.hid hE
    have HG := Lib.hid hG
    clear hE hG h1'
    cases E
    · go_enter Tryz.func117, Tryz.ntmps117
      go_wp2_with fail
      refine (pcIsMark_any _ _).mono ?_
      rintro e w1 ⟨rfl, rfl⟩
      rw [HE.out]
      go_wp2
      go_ret
      exact ⟨rfl, HBW.out⟩
    · go_enter Tryz.func117, Tryz.ntmps117
      go_wp2_with fail
      refine (pcIsMark_any _ _).mono ?_
      rintro e w1 ⟨rfl, rfl⟩
      rw [HE.out]
      go_wp2_with fail
      refine (pcIsMark_any _ _).mono ?_
      rintro e w1 ⟨rfl, rfl⟩
      rw [HG.out]
      go_wp2
      go_ret
      exact ⟨rfl, HBW.out⟩
  · have hF : T = false := by rw [← HT.out]; unfold rightHead; rw [decide_eq_false (show ¬ 0 < h.epoch by omega)]; simp
    subst hF
    go_enter Tryz.func117, Tryz.ntmps117
    go_wp2
    go_ret
    exact ⟨rfl, HBW.out⟩
set_option maxRecDepth 100000 in
theorem pHdMark_is (h : Hd) (s : ByteArray) (n : Int) (w : World) (hk : HasK w) (hh : headMarkAns h = (s, n)) :
    Calls Tryz.prog 115 #[.agg #[.int .i64 h.epoch, .string h.root, .string h.prev]] w fun e w' => e = .returned (.tuple #[.string s, errOf n]) ∧ Below w.heap.size w w' := by
  have HB0 := Lib.hid (alloc_below w (.cells #[.int .i64 h.epoch, .string h.root, .string h.prev] 52))
  have HH0 := Lib.hid (show Holds (w.alloc (.cells #[.int .i64 h.epoch, .string h.root, .string h.prev] 52)) w.heap.size 3 (hdF h) 52 from Holds.new w 3 (hdF h) 52)
  have HR := Lib.hid (hk.below HB0.out hk.lt)
  clear hk
  have HLD0 := Lib.hid (show (w.alloc (.cells #[.int .i64 h.epoch, .string h.root, .string h.prev] 52)).cell? ⟨w.heap.size, 0, none⟩ = some (.int .i64 h.epoch) ∧ (w.alloc (.cells #[.int .i64 h.epoch, .string h.root, .string h.prev] 52)).cell? ⟨w.heap.size, 1, none⟩ = some (.string h.root) ∧ (w.alloc (.cells #[.int .i64 h.epoch, .string h.root, .string h.prev] 52)).cell? ⟨w.heap.size, 2, none⟩ = some (.string h.prev) from ⟨HH0.out.cell 0 (by omega), HH0.out.cell 1 (by omega), HH0.out.cell 2 (by omega)⟩)
  unfold headMarkAns at hh
  by_cases hk : rightHead h = true
  · rw [if_pos hk] at hh
    obtain ⟨rfl, rfl⟩ := Prod.mk.inj hh
    have HK := Lib.hid hk
    have HE0 := Lib.hid (show errOf 0 = Value.nilIface from rfl)
    clear hh hk
    rw [HE0.out]
    go_enter Tryz.func115, Tryz.ntmps115
    go_wp2_with fail
    refine (pHdRight_any h _).mono ?_
    rintro e w1 ⟨rfl, hb1⟩
    rw [HK.out]
    have HB1 := Lib.hid (HB0.out.trans (hb1.mono HB0.out.size))
    have HH1 := Lib.hid (HH0.out.below hb1 HH0.out.lt)
    have HR1 := Lib.hid (HR.out.below hb1 HR.out.lt)
    clear hb1
    have HN1 := Lib.hid HH1.out.lt
    have HC1 := Lib.hid (show w1.cell? ⟨w.heap.size, 0, none⟩ = some (.int .i64 h.epoch) ∧ w1.cell? ⟨w.heap.size, 1, none⟩ = some (.string h.root) ∧ w1.cell? ⟨w.heap.size, 2, none⟩ = some (.string h.prev) from ⟨HH1.out.cell 0 (by omega), HH1.out.cell 1 (by omega), HH1.out.cell 2 (by omega)⟩)
    go_wp2
    have HS0 := Lib.hid (show w1.cell? ⟨w.heap.size, 0, none⟩ = some (.int .i64 h.epoch) ∧ w1.cell? ⟨w.heap.size, 1, none⟩ = some (.string h.root) ∧ w1.cell? ⟨w.heap.size, 2, none⟩ = some (.string h.prev) ∧ Below w1.heap.size w1 w1.drew from ⟨HC1.out.1, HC1.out.2.1, HC1.out.2.2, (Below.refl _ _).drew⟩)
    have HKEEP := Lib.hid (show ∀ u v : World, (u.cell? ⟨w.heap.size, 0, none⟩ = some (.int .i64 h.epoch) ∧ u.cell? ⟨w.heap.size, 1, none⟩ = some (.string h.root) ∧ u.cell? ⟨w.heap.size, 2, none⟩ = some (.string h.prev) ∧ Below w1.heap.size w1 u) → Below u.heap.size u v → (v.cell? ⟨w.heap.size, 0, none⟩ = some (.int .i64 h.epoch) ∧ v.cell? ⟨w.heap.size, 1, none⟩ = some (.string h.root) ∧ v.cell? ⟨w.heap.size, 2, none⟩ = some (.string h.prev) ∧ Below w1.heap.size w1 v) from
      fun u v ⟨h0, h1, h2, hb⟩ hv => ⟨(hv.cell (Nat.lt_of_lt_of_le HN1.out hb.size)).trans h0, (hv.cell (Nat.lt_of_lt_of_le HN1.out hb.size)).trans h1, (hv.cell (Nat.lt_of_lt_of_le HN1.out hb.size)).trans h2, hb.trans (hv.mono hb.size)⟩)
    have HHOLD := Lib.hid (show ∀ u : World, (u.cell? ⟨w.heap.size, 0, none⟩ = some (.int .i64 h.epoch) ∧ u.cell? ⟨w.heap.size, 1, none⟩ = some (.string h.root) ∧ u.cell? ⟨w.heap.size, 2, none⟩ = some (.string h.prev) ∧ Below w1.heap.size w1 u) → HasK u from fun u hu => HR1.out.below hu.2.2.2 HR1.out.lt)
    have HTOT := Lib.hid (show total [txt (num8 h.epoch), h.root, h.prev] ≤ 1073741800 by obtain ⟨_, h2, h3⟩ := rightHead_facts HK.out; simp [total, num_size]; omega)
    go_region_held3 (fun w' => w'.cell? ⟨w.heap.size, 0, none⟩ = some (.int .i64 h.epoch) ∧ w'.cell? ⟨w.heap.size, 1, none⟩ = some (.string h.root) ∧ w'.cell? ⟨w.heap.size, 2, none⟩ = some (.string h.prev) ∧ Below w1.heap.size w1 w')
      (first | exact HS0.out | (refine HKEEP.out _ _ ?_ (by assumption); first | exact HS0.out | assumption | exact ⟨by assumption, by assumption, by assumption, by assumption⟩) | (refine HKEEP.out _ _ ?_ (alloc_below _ _); first | exact HS0.out | assumption | exact ⟨by assumption, by assumption, by assumption, by assumption⟩))
      (first | (go_at_call 145; refine (num_any h.epoch _).mono ?_; rintro e w2 ⟨rfl, hb2⟩) | (go_at_call 87; refine (mark_any 104 [txt (num8 h.epoch), h.root, h.prev] (some ⟨_, 0, none⟩) 3 _ (HHOLD.out _ (by assumption)) HTOT.out (by simp) (strs_new _ [txt (num8 h.epoch), h.root, h.prev] 9)).mono ?_; rintro e w2 ⟨rfl, hb2⟩))
    rename_i hheld
    have HB2 := Lib.hid (HB1.out.trans (hheld.2.2.2.mono HB1.out.size))
    clear hheld
    go_wp2
    refine bodyPost_ret (results_tmp2 rfl _ _ _) rfl ?_
    exact ⟨rfl, HB2.out⟩
  · rw [if_neg hk] at hh
    obtain ⟨rfl, rfl⟩ := Prod.mk.inj hh
    have HK := Lib.hid (show rightHead h = false by simpa using hk)
    clear hh hk
    go_enter Tryz.func115, Tryz.ntmps115
    go_wp2_with fail
    refine (pHdRight_any h _).mono ?_
    rintro e w1 ⟨rfl, hb1⟩
    rw [HK.out]
    have HB1 := Lib.hid (HB0.out.trans (hb1.mono HB0.out.size))
    clear hb1
    go_wp2
    refine bodyPost_ret (results_tmp2 rfl _ _ _) rfl ?_
    exact ⟨rfl, HB1.out⟩
end Go.Proofs.YtgjmbokfenpefaaGreatDoor
/- The program's seal: a key's leaf, two marks joined, which number is a key's, and the way up along a path. -/
namespace Go.Proofs.YtgjmbokfenpefaaGreatDoor
open Go.RowKit

def sLeaf (k : Int) (p : ByteArray) : ByteArray := markOf 116 [txt (num8 k), p]
def twoM (a b : ByteArray) : ByteArray := markOf 117 [a, b]
theorem sLeaf_size (k : Int) (p : ByteArray) : (sLeaf k p).size = 16 := markOf_len _ _
theorem twoM_size (a b : ByteArray) : (twoM a b).size = 16 := markOf_len _ _

set_option maxRecDepth 100000 in
theorem vLeaf_any (k : Int) (p : ByteArray) (w : World) (hk : HasK w) (hs : p.size = 16) :
    Calls Tryz.prog 196 #[.int .i64 k, .string p] w fun e w' => e = .returned (.string (sLeaf k p)) ∧ Below w.heap.size w w' := by
  have HK := Lib.hid hk
  have HS := Lib.hid hs
  clear hk hs
  go_enter Tryz.func196, Tryz.ntmps196
  go_wp2_with fail
  refine (num_any k _).mono ?_
  rintro e w1 ⟨rfl, hb1⟩
  have HB1 := Lib.hid hb1
  clear hb1
  go_wp2_with fail
  refine (mark_any 116 [txt (num8 k), p] (some ⟨w1.heap.size, 0, none⟩) 2 _ (HK.out.below (HB1.out.trans ((alloc_below w1 _).mono HB1.out.size)) HK.out.lt) (by have := HS.out; simp [total, num_size]; omega) (by simp) (strs_new w1 [txt (num8 k), p] 9)).mono ?_
  rintro e w3 ⟨rfl, hb3⟩
  have HB3 := Lib.hid ((HB1.out.trans ((alloc_below w1 (.cells #[.string (txt (num8 k)), .string p] 9)).mono HB1.out.size)).trans (hb3.mono (Nat.le_trans HB1.out.size (by simp))))
  clear hb3
  go_wp2
  go_ret
  exact ⟨rfl, HB3.out⟩
set_option maxRecDepth 100000 in
theorem vJoin_any (a b : ByteArray) (w : World) (hk : HasK w) (ha : a.size = 16) (hb : b.size = 16) :
    Calls Tryz.prog 198 #[.string a, .string b] w fun e w' => e = .returned (.string (twoM a b)) ∧ Below w.heap.size w w' := by
  have HK := Lib.hid hk
  have HA := Lib.hid ha
  have HB := Lib.hid hb
  clear hk ha hb
  go_enter Tryz.func198, Tryz.ntmps198
  go_wp2_with fail
  refine (mark_any 117 [a, b] (some ⟨w.heap.size, 0, none⟩) 2 _ (HK.out.below (alloc_below w _) HK.out.lt) (by have := HA.out; have := HB.out; simp [total]; omega) (by simp) (strs_new w [a, b] 9)).mono ?_
  rintro e w3 ⟨rfl, hb3⟩
  have HB3 := Lib.hid ((alloc_below w (.cells #[.string a, .string b] 9)).trans (hb3.mono (by simp)))
  clear hb3
  go_wp2
  go_ret
  exact ⟨rfl, HB3.out⟩
theorem vKey_any (k : Int) (w : World) :
    Calls Tryz.prog 176 #[.int .i64 k] w fun e w' => e = .returned (.bool (decide (0 ≤ k ∧ k ≤ 7))) ∧ w' = w := by
  by_cases h0 : 0 ≤ k
  · by_cases h8 : k < 8
    · rw [decide_eq_true (show 0 ≤ k ∧ k ≤ 7 from ⟨h0, by omega⟩)]
      go_enter Tryz.func176, Tryz.ntmps176
      go_wp2
      go_ret
      exact ⟨rfl, rfl⟩
    · rw [decide_eq_false (show ¬ (0 ≤ k ∧ k ≤ 7) from fun h => h8 (by omega))]
      go_enter Tryz.func176, Tryz.ntmps176
      go_wp2
      go_ret
      exact ⟨rfl, rfl⟩
  · rw [decide_eq_false (show ¬ (0 ≤ k ∧ k ≤ 7) from fun h => h0 h.1)]
    go_enter Tryz.func176, Tryz.ntmps176
    go_wp2
    go_ret
    exact ⟨rfl, rfl⟩

/-- Along the path from its place i on, the key's bits from there on. -/
theorem upFrom_step {P : List ByteArray} {i : Nat} {p t : ByteArray} (h : P[i]? = some p) (k : Nat) : upFrom (P.drop i) t (k / 2 ^ i) = upFrom (P.drop (i + 1)) (if k / 2 ^ i % 2 = 1 then twoM p t else twoM t p) (k / 2 ^ (i + 1)) := by
  have hi : i < P.length := (List.getElem?_eq_some_iff.1 h).1
  rw [List.getElem?_eq_getElem hi] at h
  rw [List.drop_eq_getElem_cons hi, Option.some.inj h, upFrom, Nat.pow_succ, Nat.div_div_eq_div_mul]
  rfl
theorem keyBit (k i : Nat) (hk : k ≤ 7) (hi : i < 3) : bits BinOp.and IntKind.i64 ((k : Int) / 2 ^ i) 1 = ((k / 2 ^ i % 2 : Nat) : Int) := by
  rcases (by omega : k = 0 ∨ k = 1 ∨ k = 2 ∨ k = 3 ∨ k = 4 ∨ k = 5 ∨ k = 6 ∨ k = 7) with rfl | rfl | rfl | rfl | rfl | rfl | rfl | rfl <;>
    rcases (by omega : i = 0 ∨ i = 1 ∨ i = 2) with rfl | rfl | rfl <;> decide +kernel
set_option maxRecDepth 100000 in
theorem vClimb_any (k : Nat) (s : ByteArray) (P : List ByteArray) (A : Option Addr) (cap : Nat) (w : World) (hk : HasK w) (hk7 : k ≤ 7) (hs : s.size = 16) (h3 : P.length = 3) (hP : marksOk P = true) (hm : Strs w A P) :
    Calls Tryz.prog 179 #[.int .i64 (k : Int), .string s, .slice A P.length cap] w fun e w' => e = .returned (.string (upFrom P (sLeaf (k : Int) s) k)) ∧ Below w.heap.size w w' := by
  have HK := Lib.hid hk
  have HM := Lib.hid hm
  have HP := Lib.hid hP
  have H3 := Lib.hid h3
  obtain ⟨T, hT⟩ : ∃ T, upFrom P (sLeaf (k : Int) s) k = T := ⟨_, rfl⟩
  rw [hT]
  have HT := Lib.hid (show upFrom (P.drop 0) (sLeaf (k : Int) s) (k / 2 ^ 0) = T by rw [Nat.pow_zero, Nat.div_one]; exact hT)
  clear hk hm hP hT
  go_enter Tryz.func179, Tryz.ntmps179
  go_wp2_with fail
  refine (vLeaf_any (k : Int) s _ HK.out hs).mono ?_
  rintro e w1 ⟨rfl, hb1⟩
  have HB1 := Lib.hid hb1
  clear hb1 h3 hs
  go_wp2
  go_loopw [7, 15] (fun tv iv wr => ∃ (i : Nat) (t : ByteArray), i ≤ P.length ∧ iv = .int .i64 (i : Int) ∧ tv = .string t ∧ Hid (t.size = 16 ∧ upFrom (P.drop i) t (k / 2 ^ i) = T ∧ Below w.heap.size w wr)) (fun _ iv _ => P.length - (intOf iv).toNat)
  case atStart => exact ⟨0, _, Nat.zero_le _, rfl, rfl, Lib.hid ⟨sLeaf_size _ _, HT.out, HB1.out⟩⟩
  case round =>
    obtain ⟨i, t, hi, rfl, rfl, HU⟩ := hrel
    by_cases hlt : i < P.length
    · obtain ⟨p, hp⟩ : ∃ p, P[i]? = some p := ⟨_, List.getElem?_eq_getElem hlt⟩
      obtain ⟨a, rfl, _, c0⟩ := HM.out.below HU.out.2.2 i p hp
      have HPS := Lib.hid (marksOk_get HP.out hp)
      have HNX := Lib.hid (show upFrom (P.drop (i + 1)) (if k / 2 ^ i % 2 = 1 then twoM p t else twoM t p) (k / 2 ^ (i + 1)) = T from (upFrom_step hp k).symm.trans HU.out.2.1)
      have hi3 : i < 3 := by have := H3.out; omega
      have hib : i ≤ 3 := by omega
      have hbt := keyBit k i hk7 hi3
      have HKW := Lib.hid (HK.out.below HU.out.2.2 HK.out.lt)
      clear hp hi3
      generalize k / 2 ^ i = q at hbt HNX
      by_cases hodd : q % 2 = 1
      · rw [if_pos hodd] at HNX
        replace hbt : bits BinOp.and IntKind.i64 ((k : Int) / 2 ^ i) 1 = 1 := by rw [hbt, hodd]; rfl
        clear hodd
        go_wp2_with fail
        refine (vJoin_any p t _ HKW.out HPS.out HU.out.1).mono ?_
        rintro e w5 ⟨rfl, hb5⟩
        have HB5 := Lib.hid (HU.out.2.2.trans (hb5.mono HU.out.2.2.size))
        clear hb5 hbt
        go_wp2
        go_roundw
        case rel => exact ⟨i + 1, _, by omega, by go_num, rfl, Lib.hid ⟨twoM_size _ _, HNX.out, HB5.out⟩⟩
        case measure => simp [intOf]; omega
      · rw [if_neg hodd] at HNX
        replace hbt : bits BinOp.and IntKind.i64 ((k : Int) / 2 ^ i) 1 = 0 := by rw [hbt, show q % 2 = 0 by omega]; rfl
        clear hodd
        go_wp2_with fail
        refine (vJoin_any t p _ HKW.out HU.out.1 HPS.out).mono ?_
        rintro e w5 ⟨rfl, hb5⟩
        have HB5 := Lib.hid (HU.out.2.2.trans (hb5.mono HU.out.2.2.size))
        clear hb5 hbt
        go_wp2
        go_roundw
        case rel => exact ⟨i + 1, _, by omega, by go_num, rfl, Lib.hid ⟨twoM_size _ _, HNX.out, HB5.out⟩⟩
        case measure => simp [intOf]; omega
    · obtain rfl : i = P.length := by omega
      have HE := Lib.hid (show t = T by have := HU.out.2.1; rwa [List.drop_of_length_le (Nat.le_refl _), upFrom] at this)
      have HBF := Lib.hid HU.out.2.2
      go_wp2
      go_ret
      exact ⟨by rw [HE.out]; rfl, HBF.out⟩
end Go.Proofs.YtgjmbokfenpefaaGreatDoor
/- A box's rows, one above the other, as plain lists; and how they lie in the document's one list. -/
namespace Go.Proofs.YtgjmbokfenpefaaGreatDoor
open Go.RowKit

def upRow (P : List ByteArray) : List ByteArray := (List.range (P.length / 2)).map fun j : Nat => twoM (P.getD (2 * j) ⟨#[]⟩) (P.getD (2 * j + 1) ⟨#[]⟩)
def lvl (seed : ByteArray) : Nat → List ByteArray
  | 0 => rows0 seed 8
  | t + 1 => upRow (lvl seed t)
theorem upRow_length (P : List ByteArray) : (upRow P).length = P.length / 2 := by simp [upRow]
theorem lvl0_length (seed : ByteArray) : (lvl seed 0).length = 8 := rows0_length seed 8
theorem lvl1_length (seed : ByteArray) : (lvl seed 1).length = 4 := by rw [lvl, upRow_length, lvl0_length]
theorem lvl2_length (seed : ByteArray) : (lvl seed 2).length = 2 := by rw [lvl, upRow_length, lvl1_length]
theorem lvl3_length (seed : ByteArray) : (lvl seed 3).length = 1 := by rw [lvl, upRow_length, lvl2_length]
theorem lvl_length (seed : ByteArray) (t : Nat) (h : t ≤ 3) : (lvl seed t).length = rowLen t := by
  rcases (by omega : t = 0 ∨ t = 1 ∨ t = 2 ∨ t = 3) with rfl | rfl | rfl | rfl
  · exact lvl0_length _
  · exact lvl1_length _
  · exact lvl2_length _
  · exact lvl3_length _
end Go.Proofs.YtgjmbokfenpefaaGreatDoor
/- The program's seal: whether all texts are marks, by slices.ContainsFunc. -/
namespace Go.Proofs.YtgjmbokfenpefaaGreatDoor
open Go.RowKit

theorem vNoMark_any (s : ByteArray) (w : World) : Calls Tryz.prog 226 #[.string s] w fun e w' => e = .returned (.bool (!decide (s.size = 16))) ∧ w' = w := by
  by_cases h : s.size = 16
  · rw [decide_eq_true h]
    have hi : ((s.size : Int) == 16) = true := by rw [beq_iff_eq]; omega
    have hj : ((s.size : Int) != 16) = false := by simp [bne, hi]
    go_enter Tryz.func226, Tryz.ntmps226
    go_wp2
    go_ret
    exact ⟨rfl, rfl⟩
  · rw [decide_eq_false h]
    have hi : ((s.size : Int) == 16) = false := by rw [beq_eq_false_iff_ne]; omega
    have hj : ((s.size : Int) != 16) = true := by simp [bne, hi]
    go_enter Tryz.func226, Tryz.ntmps226
    go_wp2
    go_ret
    exact ⟨rfl, rfl⟩
set_option maxRecDepth 100000 in
theorem vMarksIx_any (P : List ByteArray) (A : Option Addr) (cap : Nat) (w : World) (hl : P.length ≤ 1000000) (hm : Strs w A P) :
    Calls Tryz.prog 250 #[.slice A P.length cap, .func (.func 226) #[] #[]] w fun e w' => w' = w ∧ ∃ n : Int, e = .returned (.int .i64 n) ∧ ((0 ≤ n ∧ marksOk P = false) ∨ (n = -1 ∧ marksOk P = true)) := by
  have HM := Lib.hid hm
  clear hm
  go_enter Tryz.func250, Tryz.ntmps250
  go_wp2
  go_loopw [8] (fun t wr => ∃ j : Nat, j ≤ P.length ∧ t = .int .i64 (j : Int) ∧ wr = w ∧ marksUpto P j = true) (fun t _ => P.length - (intOf t).toNat)
  case atStart => exact ⟨0, by omega, rfl, rfl, rfl⟩
  case round =>
    obtain ⟨j, hj, rfl, rfl, hall⟩ := hrel
    have HALL := Lib.hid hall
    clear hall
    by_cases hlt : j < P.length
    · obtain ⟨p, hp⟩ : ∃ p, P[j]? = some p := ⟨_, List.getElem?_eq_getElem hlt⟩
      obtain ⟨a, rfl, hal, c0⟩ := HM.out j p hp
      have HP := Lib.hid hp
      clear hp
      go_wp2_with fail
      refine (vNoMark_any p _).mono ?_
      rintro e w1 ⟨rfl, rfl⟩
      by_cases he : p.size = 16
      · rw [decide_eq_true he]
        have HE := Lib.hid he
        clear he
        go_wp2
        go_roundw
        case rel =>
          refine ⟨j + 1, by omega, by go_num, ?_, ?_⟩
          · first | rfl | trivial
          · have := HALL.out
            unfold marksUpto marksOk at this ⊢
            rw [List.take_add_one, HP.out, List.all_append, this]
            simp [HE.out]
        case measure => simp [intOf]; omega
      · rw [decide_eq_false he]
        have HE := Lib.hid he
        clear he
        go_wp2
        go_ret
        exact ⟨rfl, j, rfl, .inl ⟨by omega, marksOk_false HP.out HE.out⟩⟩
    · go_wp2
      go_ret
      exact ⟨rfl, -1, rfl, .inr ⟨rfl, by have h := HALL.out; unfold marksUpto at h; rwa [List.take_of_length_le (by omega)] at h⟩⟩
theorem vMarks_any (P : List ByteArray) (A : Option Addr) (cap : Nat) (w : World) (hl : P.length ≤ 1000000) (hm : Strs w A P) :
    Calls Tryz.prog 225 #[.slice A P.length cap, .func (.func 226) #[] #[]] w fun e w' => e = .returned (.bool (!marksOk P)) ∧ w' = w := by
  go_enter Tryz.func225, Tryz.ntmps225
  go_wp2_with fail
  refine (vMarksIx_any P A cap _ hl hm).mono ?_
  rintro e w1 ⟨rfl, n, rfl, ⟨h0, hf⟩ | ⟨rfl, hf⟩⟩
  · have HF := Lib.hid hf
    clear hf
    go_wp2
    go_ret
    exact ⟨by rw [HF.out]; rfl, rfl⟩
  · have HF := Lib.hid hf
    clear hf
    go_wp2
    go_ret
    exact ⟨by rw [HF.out]; rfl, rfl⟩
theorem vAre_any (P : List ByteArray) (A : Option Addr) (cap : Nat) (w : World) (hl : P.length ≤ 1000000) (hm : Strs w A P) :
    Calls Tryz.prog 177 #[.slice A P.length cap] w fun e w' => e = .returned (.bool (marksOk P)) ∧ w' = w := by
  obtain ⟨M, hM⟩ : ∃ M, marksOk P = M := ⟨_, rfl⟩
  have HM := Lib.hid hM
  rw [hM]
  clear hM
  go_enter Tryz.func177, Tryz.ntmps177
  go_wp2_with fail
  refine (vMarks_any P A cap _ hl hm).mono ?_
  rintro e w1 ⟨rfl, rfl⟩
  rw [HM.out]
  go_wp2
  go_ret
  exact ⟨rfl, rfl⟩
end Go.Proofs.YtgjmbokfenpefaaGreatDoor
/- The program's once: whether all texts are marks, by slices.ContainsFunc. -/
namespace Go.Proofs.YtgjmbokfenpefaaGreatDoor
open Go.RowKit

theorem qNoMark_any (s : ByteArray) (w : World) : Calls Tryz.prog 251 #[.string s] w fun e w' => e = .returned (.bool (!decide (s.size = 16))) ∧ w' = w := by
  by_cases h : s.size = 16
  · rw [decide_eq_true h]
    have hi : ((s.size : Int) == 16) = true := by rw [beq_iff_eq]; omega
    have hj : ((s.size : Int) != 16) = false := by simp [bne, hi]
    go_enter Tryz.func251, Tryz.ntmps251
    go_wp2
    go_ret
    exact ⟨rfl, rfl⟩
  · rw [decide_eq_false h]
    have hi : ((s.size : Int) == 16) = false := by rw [beq_eq_false_iff_ne]; omega
    have hj : ((s.size : Int) != 16) = true := by simp [bne, hi]
    go_enter Tryz.func251, Tryz.ntmps251
    go_wp2
    go_ret
    exact ⟨rfl, rfl⟩
set_option maxRecDepth 100000 in
theorem qMarksIx_any (P : List ByteArray) (A : Option Addr) (cap : Nat) (w : World) (hl : P.length ≤ 1000000) (hm : Strs w A P) :
    Calls Tryz.prog 250 #[.slice A P.length cap, .func (.func 251) #[] #[]] w fun e w' => w' = w ∧ ∃ n : Int, e = .returned (.int .i64 n) ∧ ((0 ≤ n ∧ marksOk P = false) ∨ (n = -1 ∧ marksOk P = true)) := by
  have HM := Lib.hid hm
  clear hm
  go_enter Tryz.func250, Tryz.ntmps250
  go_wp2
  go_loopw [8] (fun t wr => ∃ j : Nat, j ≤ P.length ∧ t = .int .i64 (j : Int) ∧ wr = w ∧ marksUpto P j = true) (fun t _ => P.length - (intOf t).toNat)
  case atStart => exact ⟨0, by omega, rfl, rfl, rfl⟩
  case round =>
    obtain ⟨j, hj, rfl, rfl, hall⟩ := hrel
    have HALL := Lib.hid hall
    clear hall
    by_cases hlt : j < P.length
    · obtain ⟨p, hp⟩ : ∃ p, P[j]? = some p := ⟨_, List.getElem?_eq_getElem hlt⟩
      obtain ⟨a, rfl, hal, c0⟩ := HM.out j p hp
      have HP := Lib.hid hp
      clear hp
      go_wp2_with fail
      refine (qNoMark_any p _).mono ?_
      rintro e w1 ⟨rfl, rfl⟩
      by_cases he : p.size = 16
      · rw [decide_eq_true he]
        have HE := Lib.hid he
        clear he
        go_wp2
        go_roundw
        case rel =>
          refine ⟨j + 1, by omega, by go_num, ?_, ?_⟩
          · first | rfl | trivial
          · have := HALL.out
            unfold marksUpto marksOk at this ⊢
            rw [List.take_add_one, HP.out, List.all_append, this]
            simp [HE.out]
        case measure => simp [intOf]; omega
      · rw [decide_eq_false he]
        have HE := Lib.hid he
        clear he
        go_wp2
        go_ret
        exact ⟨rfl, j, rfl, .inl ⟨by omega, marksOk_false HP.out HE.out⟩⟩
    · go_wp2
      go_ret
      exact ⟨rfl, -1, rfl, .inr ⟨rfl, by have h := HALL.out; unfold marksUpto at h; rwa [List.take_of_length_le (by omega)] at h⟩⟩
theorem qMarks_any (P : List ByteArray) (A : Option Addr) (cap : Nat) (w : World) (hl : P.length ≤ 1000000) (hm : Strs w A P) :
    Calls Tryz.prog 225 #[.slice A P.length cap, .func (.func 251) #[] #[]] w fun e w' => e = .returned (.bool (!marksOk P)) ∧ w' = w := by
  go_enter Tryz.func225, Tryz.ntmps225
  go_wp2_with fail
  refine (qMarksIx_any P A cap _ hl hm).mono ?_
  rintro e w1 ⟨rfl, n, rfl, ⟨h0, hf⟩ | ⟨rfl, hf⟩⟩
  · have HF := Lib.hid hf
    clear hf
    go_wp2
    go_ret
    exact ⟨by rw [HF.out]; rfl, rfl⟩
  · have HF := Lib.hid hf
    clear hf
    go_wp2
    go_ret
    exact ⟨by rw [HF.out]; rfl, rfl⟩
theorem qAre_any (P : List ByteArray) (A : Option Addr) (cap : Nat) (w : World) (hl : P.length ≤ 1000000) (hm : Strs w A P) :
    Calls Tryz.prog 227 #[.slice A P.length cap] w fun e w' => e = .returned (.bool (marksOk P)) ∧ w' = w := by
  obtain ⟨M, hM⟩ : ∃ M, marksOk P = M := ⟨_, rfl⟩
  have HM := Lib.hid hM
  rw [hM]
  clear hM
  go_enter Tryz.func227, Tryz.ntmps227
  go_wp2_with fail
  refine (qMarks_any P A cap _ hl hm).mono ?_
  rintro e w1 ⟨rfl, rfl⟩
  rw [HM.out]
  go_wp2
  go_ret
  exact ⟨rfl, rfl⟩
end Go.Proofs.YtgjmbokfenpefaaGreatDoor
/- The program's once: where a chain begins, and the way along it. -/
namespace Go.Proofs.YtgjmbokfenpefaaGreatDoor
open Go.RowKit

set_option maxRecDepth 100000 in
theorem qWalk_any (s : ByteArray) (c : Int) (k tt : Nat) (w : World) (hr : HasK w) (hs : s.size = 16) (hk : k ≤ tt) (ht : tt ≤ 15) :
    Calls Tryz.prog 229 #[.string s, .int .i64 c, .int .i64 (k : Int), .int .i64 (tt : Int)] w fun e w' => e = .returned (.string (alongFrom c (tt - k) k s)) ∧ Below w.heap.size w w' := by
  have HR := Lib.hid hr
  obtain ⟨T, hT⟩ : ∃ T, alongFrom c (tt - k) k s = T := ⟨_, rfl⟩
  rw [hT]
  have HT := Lib.hid hT
  have HS := Lib.hid hs
  clear hr hT hs
  go_enter Tryz.func229, Tryz.ntmps229
  go_wp2
  go_loopw [0, 9] (fun sv i wr => ∃ (j : Nat) (u : ByteArray), j ≤ tt ∧ i = .int .i64 (j : Int) ∧ sv = .string u ∧ Hid (u.size = 16 ∧ alongFrom c (tt - j) j u = T ∧ Below w.heap.size w wr)) (fun _ i _ => tt - (intOf i).toNat)
  case atStart => exact ⟨k, s, hk, rfl, rfl, Lib.hid ⟨HS.out, HT.out, Below.refl _ _⟩⟩
  case round =>
    obtain ⟨j, u, hj, rfl, rfl, HU⟩ := hrel
    by_cases hlt : j < tt
    · go_wp2_with fail
      refine (num_any c _).mono ?_
      rintro e w1 ⟨rfl, hb1⟩
      have HB1 := Lib.hid (HU.out.2.2.trans (hb1.mono HU.out.2.2.size))
      clear hb1
      go_wp2_with fail
      refine (num_any (j : Int) _).mono ?_
      rintro e w2 ⟨rfl, hb2⟩
      have HB2 := Lib.hid (HB1.out.trans (hb2.mono HB1.out.size))
      clear hb2
      go_wp2_with fail
      refine (mark_any 119 [u, txt (num8 c), txt (num8 (j : Int))] (some ⟨w2.heap.size, 0, none⟩) 3 _ (HR.out.below (HB2.out.trans ((alloc_below w2 _).mono HB2.out.size)) HR.out.lt) (by have := HU.out.1; simp [total, num_size]; omega) (by simp) (strs_new w2 [u, txt (num8 c), txt (num8 (j : Int))] 9)).mono ?_
      rintro e w3 ⟨rfl, hb3⟩
      have HB3 := Lib.hid ((HB2.out.trans ((alloc_below w2 (.cells #[.string u, .string (txt (num8 c)), .string (txt (num8 (j : Int)))] 9)).mono HB2.out.size)).trans (hb3.mono (Nat.le_trans HB2.out.size (by simp))))
      have HNX := Lib.hid (show alongFrom c (tt - (j + 1)) (j + 1) (markOf 119 [u, txt (num8 c), txt (num8 (j : Int))]) = T by
        have := HU.out.2.1
        rwa [show tt - j = (tt - (j + 1)) + 1 by omega, alongFrom] at this)
      clear hb3
      go_wp2
      go_roundw
      case rel => exact ⟨j + 1, _, by omega, by go_num, rfl, Lib.hid ⟨markOf_len _ _, HNX.out, HB3.out⟩⟩
      case measure => simp [intOf]; omega
    · obtain rfl : j = tt := by omega
      go_wp2
      go_ret
      have := HU.out.2.1
      rw [Nat.sub_self, alongFrom] at this
      have HB := HU.out.2.2
      subst this
      exact ⟨rfl, HB⟩
end Go.Proofs.YtgjmbokfenpefaaGreatDoor
