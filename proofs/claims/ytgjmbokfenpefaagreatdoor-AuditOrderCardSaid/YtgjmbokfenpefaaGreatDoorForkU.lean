/- The program's forks, plainly: epochs as numbers, where two lists part, what is found in its order. -/
import Derived.WalkKit
import Derived.Lib.Hide
import Derived.WalkLawsBesides
import Derived.Deep.QuietTactic
import Derived.Deep.WholeRow
import Derived.ArgAppend
import Derived.Laws.AppendOwnNone
import Derived.Laws.CopyRow
import Derived.Deep.RegionLaw
import Derived.Laws.BytesString
import Derived.Laws.IdiomStrings
import Derived.Test.YtgjmbokfenpefaaGreatDoorProg
import Derived.StringKeys
import Derived.Maps.Own
import Derived.Maps.Views
import Derived.Maps.OwnSet
import Derived.Maps.OwnOps
import Derived.Maps.RangeWalk
import Derived.Sort.KeysCollected
import Derived.Laws.BitsAllLaws
import Derived.Outline
import Derived.BigQuiet
import Derived.Laws.CopyOwn
import Derived.RegionTactic
import Derived.StillTail
import Derived.Deep.Quiet
import Derived.Deep.RegionHeld3
import Derived.Deep.DeepCutAuto
import Derived.Laws.ResultCell
import Derived.IntWalk
import Derived.Sort.Walk0
import Derived.Tactics
import Derived.Orders
import Derived.LaidEql
import Derived.Stop.Asserts
import Derived.RowKitTokens
import Derived.OrdersHeld
import Derived.Sort.LotA
import Derived.Lib.SortBridge
import Derived.Shelf.SlSortFuncK.WholeK
import Derived.Ground.GgsProg
import Derived.Shelf.GgSortFunc.Tiny
import Derived.Shelf.Strings.Repeat
import Derived.KernelRfl
import Derived.Laws.StructEq
import Derived.WideKeyEntry
import Derived.Deep.CutRange
import Derived.Test.YtgjmbokfenpefaaGreatDoorM1
import Derived.Test.YtgjmbokfenpefaaGreatDoorM2
import Derived.Test.YtgjmbokfenpefaaGreatDoorM3
import Derived.Test.YtgjmbokfenpefaaGreatDoorM4
import Derived.Test.YtgjmbokfenpefaaGreatDoorM5
import Derived.Test.YtgjmbokfenpefaaGreatDoorM6
import Derived.Test.YtgjmbokfenpefaaGreatDoorM7
import Derived.Test.YtgjmbokfenpefaaGreatDoorM8
import Derived.Test.YtgjmbokfenpefaaGreatDoorM9
namespace Go.Proofs.YtgjmbokfenpefaaGreatDoor
open Go.RowKit

/-- Heads of the epochs from 1 on. -/
def EpsOk (L : List Hd) : Prop := ∀ (i : Nat) (h : Hd), L[i]? = some h → h.epoch = (i : Int) + 1
theorem EpsOk.nil : EpsOk [] := fun i h hi => by simp at hi
theorem EpsOk.snoc {L : List Hd} {h : Hd} (hL : EpsOk L) (he : h.epoch = (L.length : Int) + 1) : EpsOk (L ++ [h]) := fun i x hi => by
  by_cases hl : i < L.length
  · rw [List.getElem?_append_left hl] at hi
    exact hL i x hi
  · rw [List.getElem?_append_right (by omega)] at hi
    have h0 : i - L.length = 0 := by
      have := (List.getElem?_eq_some_iff.1 hi).1
      simp at this
      omega
    rw [h0] at hi
    simp at hi
    subst hi
    rw [he]
    omega
theorem seeAns_epsOk {c : Cl} (s : Sgn) (h : EpsOk c.heads) : EpsOk (seeAns c s).1.heads := by
  unfold seeAns
  split
  · split
    · exact h
    · rename_i h2
      split
      · split <;> exact h
      · rename_i h3
        split
        · exact h.snoc (by omega)
        · exact h
  · exact h
def AuEps (a : Au) : Prop := ∀ s c, look a.who s = some c → EpsOk c.heads
theorem auEps_new (pub : ByteArray) : AuEps ⟨pub, []⟩ := fun s c h => by simp [look_nil] at h
theorem AuEps.cl {a : Au} (h : AuEps a) (name : ByteArray) : EpsOk (auCl a name).heads := by
  unfold auCl
  cases e : look a.who name with
  | none => exact EpsOk.nil
  | some c => exact h _ _ e
theorem AuEps.told {a : Au} (h : AuEps a) (name : ByteArray) (s : Sgn) : AuEps (tellAns a name s).1 := by
  unfold tellAns
  split
  · intro t c hc
    by_cases e : t = name
    · subst e
      rw [show look (ups a.who t _) t = _ from look_ups_same _ _ _] at hc
      obtain rfl := Option.some.inj hc
      exact seeAns_epsOk s (h.cl t)
    · rw [show look (ups a.who name _) t = look a.who t from look_ups_other _ _ _ _ e] at hc
      exact h t c hc
  · exact h

theorem partsFrom_spec (a b : List Hd) : ∀ f i, i + f = a.length → i ≤ b.length → (∀ j, j < i → hdAt a j = hdAt b j) →
    partsFrom a b f i ≤ a.length ∧ partsFrom a b f i ≤ b.length ∧ (∀ j, j < partsFrom a b f i → hdAt a j = hdAt b j) ∧ (partsFrom a b f i < a.length → partsFrom a b f i < b.length → hdAt a (partsFrom a b f i) ≠ hdAt b (partsFrom a b f i)) := by
  intro f
  induction f with
  | zero =>
    intro i hf hb he
    obtain rfl : i = a.length := by omega
    unfold partsFrom
    exact ⟨Nat.le_refl _, hb, he, fun h => by omega⟩
  | succ f ih =>
    intro i hf hb he
    rw [partsFrom]
    split
    · rename_i hc
      exact ih (i + 1) (by omega) (by omega) fun j hj => by
        rcases Nat.lt_succ_iff_lt_or_eq.1 hj with h | h
        · exact he j h
        · subst h; exact hc.2.symm
    · rename_i hc
      exact ⟨by omega, hb, he, fun _ h2 e => hc ⟨h2, e.symm⟩⟩
theorem partsAns_spec (a b : List Hd) : partsAns a b ≤ a.length ∧ partsAns a b ≤ b.length ∧ (∀ j, j < partsAns a b → hdAt a j = hdAt b j) ∧ (partsAns a b < a.length → partsAns a b < b.length → hdAt a (partsAns a b) ≠ hdAt b (partsAns a b)) :=
  partsFrom_spec a b a.length 0 (by omega) (Nat.zero_le _) (fun j hj => by omega)
/-- Where they part: that epoch, or 0. -/
def partNo (a b : List Hd) : Int := if partsAns a b = min a.length b.length then 0 else (partsAns a b : Int) + 1
theorem partNo_not {a b : List Hd} (h : ¬ 0 < partNo a b) (i : Nat) : ¬ PartAt a b i := fun hp => by
  obtain ⟨h1, h2, h3, _⟩ := partsAns_spec a b
  have h4 : partsAns a b = min a.length b.length := Classical.byContradiction fun e => h (by unfold partNo; rw [if_neg e]; omega)
  have := hp.1
  have := hp.2.1
  exact hp.2.2.1 (h3 i (by omega))
theorem partNo_at {a b : List Hd} (h : 0 < partNo a b) : PartAt a b (partsAns a b) ∧ partNo a b = (partsAns a b : Int) + 1 := by
  obtain ⟨h1, h2, h3, h4⟩ := partsAns_spec a b
  have h5 : ¬ partsAns a b = min a.length b.length := fun e => by unfold partNo at h; rw [if_pos e] at h; omega
  exact ⟨⟨by omega, by omega, h4 (by omega) (by omega), h3⟩, by unfold partNo; rw [if_neg h5]⟩

/-- The inner names that are no greater have come. -/
theorem Found.jump {a : Au} {S : List ByteArray} {s : ByteArray} {T : List ByteArray} {N : Nat} {K : List Fk} (h : Found a S s [] N K) (hn : ∀ f, IsFork a f → f.a = s → f.b ∉ T) : Found a S s T N K where
  mem f := by
    rw [h.mem]
    constructor
    · rintro ⟨h1, h2 | ⟨_, h2⟩⟩
      · exact ⟨h1, .inl h2⟩
      · cases h2
    · rintro ⟨h1, h2 | ⟨h2, h3⟩⟩
      · exact ⟨h1, .inl h2⟩
      · exact absurd h3 (hn f h1 h2)
  once := h.once
  few := by have := h.few; simp only [List.length_nil] at this; omega
/-- What is found next is behind all that was found. -/
theorem Found.behind {a : Au} {S : List ByteArray} {s : ByteArray} {T : List ByteArray} {N : Nat} {K : List Fk} {f : Fk} (h : Found a S s T N K) (e : f.a = s) (hS : ∀ t ∈ S, t.data.toList < s.data.toList) (hT : ∀ t ∈ T, t.data.toList < f.b.data.toList) (hK : K.Pairwise ltF) : (K ++ [f]).Pairwise ltF := by
  rw [List.pairwise_append]
  refine ⟨hK, by simp, fun x hx y hy => ?_⟩
  rw [List.mem_singleton] at hy
  subst hy
  rcases ((h.mem x).1 hx).2 with h1 | ⟨h1, h2⟩
  · exact .inl (by rw [e]; exact hS _ h1)
  · exact .inr ⟨by rw [h1, e], hT _ h2⟩
/-- Of rising names those ahead of one are less. -/
theorem rising_take {S : List ByteArray} (h : S.Pairwise fun s t => s.data.toList < t.data.toList) {i : Nat} (hi : i < S.length) : ∀ t ∈ S.take i, t.data.toList < (S[i]).data.toList := fun t ht => by
  obtain ⟨j, hj, rfl⟩ := List.mem_iff_getElem.1 ht
  rw [List.length_take] at hj
  rw [List.getElem_take]
  exact (List.pairwise_iff_getElem.1 h) j i (by omega) hi (by omega)
theorem take_snoc {S : List ByteArray} {i : Nat} (hi : i < S.length) : S.take (i + 1) = S.take i ++ [S[i]] := by rw [List.take_add_one, List.getElem?_eq_getElem hi]; rfl
theorem rising_not {S : List ByteArray} (h : S.Pairwise fun s t => s.data.toList < t.data.toList) {i : Nat} (hi : i < S.length) : S[i] ∉ S.take i := fun hm => List.lt_irrefl _ (rising_take h hi _ hm)
/-- No fork of a name has one no greater behind it. -/
theorem rising_jump {a : Au} {S : List ByteArray} (h : S.Pairwise fun s t => s.data.toList < t.data.toList) {i : Nat} (hi : i < S.length) : ∀ f, IsFork a f → f.a = S[i] → f.b ∉ S.take (i + 1) := fun f hf he hm => by
  obtain ⟨_, _, _, _, _, hlt, _⟩ := hf
  rw [he] at hlt
  rw [take_snoc hi, List.mem_append, List.mem_singleton] at hm
  rcases hm with hm | hm
  · exact List.lt_irrefl _ (List.lt_trans hlt (rising_take h hi _ hm))
  · rw [hm] at hlt; exact List.lt_irrefl _ hlt
end Go.Proofs.YtgjmbokfenpefaaGreatDoor
