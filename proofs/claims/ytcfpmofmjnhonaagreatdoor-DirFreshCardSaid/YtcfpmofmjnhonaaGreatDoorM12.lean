/- Parts of the proof, one behind the other: Over, MapO, MapC, Chunk, VLeaf. -/
import Derived.Test.YtcfpmofmjnhonaaGreatDoorM11
import Derived.Test.YtcfpmofmjnhonaaGreatDoorM9
import Derived.Test.YtcfpmofmjnhonaaGreatDoorM2
import Derived.KernelRfl
import Derived.RangeFuncNested
import Derived.RangeFuncBound
import Derived.RangeFuncCalls
import Derived.RangeFuncLeaves
import Derived.Shelf.Abstract
import Derived.Shelf.RegionOpen
import Derived.WalkKit
import Derived.OwnWalkIn
import Derived.TacticsInMore
import Derived.LoopNIn
import Derived.LoopIn
import Derived.Test.YtcfpmofmjnhonaaGreatDoorM5
import Derived.Test.YtcfpmofmjnhonaaGreatDoorM8
import Derived.Test.YtcfpmofmjnhonaaGreatDoorM7
import Derived.IntWalk
/- The items that a directory keeps where two names may lie at one place: of those the one that was put last, of one epoch the greatest. -/
namespace Go.Proofs.YtcfpmofmjnhonaaGreatDoor
open Go.RowKit

abbrev ixOf (s : ByteArray) : ByteArray := (ofAns s).1
def sinceOf (d : Dst) (s : ByteArray) : Int := (look d.since s).getD 0
def Beats (d : Dst) (q p : ByteArray) : Prop := ixOf q = ixOf p ∧ (sinceOf d p < sinceOf d q ∨ (sinceOf d p = sinceOf d q ∧ p.data.toList < q.data.toList))
instance (d : Dst) (q p : ByteArray) : Decidable (Beats d q p) := by unfold Beats; infer_instance
def topVals (d : Dst) : List (ByteArray × ByteArray) := d.vals.filter fun p => !(d.vals.any fun q => decide (Beats d q.1 p.1))
def overIts (d : Dst) : List It := sortIts ((topVals d).map (itemOf d))
theorem top_mem {d : Dst} {p : ByteArray × ByteArray} : p ∈ topVals d ↔ p ∈ d.vals ∧ ∀ q ∈ d.vals, ¬ Beats d q.1 p.1 := by
  unfold topVals
  rw [List.mem_filter]
  simp
theorem over_mem {d : Dst} {y : It} : y ∈ overIts d ↔ ∃ p ∈ d.vals, (∀ q ∈ d.vals, ¬ Beats d q.1 p.1) ∧ itemOf d p = y := by
  rw [show (y ∈ overIts d ↔ y ∈ (topVals d).map (itemOf d)) from (sortIts_perm _).mem_iff, List.mem_map]
  constructor
  · rintro ⟨p, hp, e⟩
    obtain ⟨h1, h2⟩ := top_mem.1 hp
    exact ⟨p, h1, h2, e⟩
  · rintro ⟨p, h1, h2, e⟩
    exact ⟨p, top_mem.2 ⟨h1, h2⟩, e⟩
theorem beats_total {d : Dst} {q p : ByteArray} (hi : ixOf q = ixOf p) (hne : q ≠ p) : Beats d q p ∨ Beats d p q := by
  by_cases h1 : sinceOf d p < sinceOf d q
  · exact .inl ⟨hi, .inl h1⟩
  · by_cases h2 : sinceOf d q < sinceOf d p
    · exact .inr ⟨hi.symm, .inl h2⟩
    · have e : sinceOf d p = sinceOf d q := by omega
      by_cases h3 : p.data.toList < q.data.toList
      · exact .inl ⟨hi, .inr ⟨e, h3⟩⟩
      · by_cases h4 : q.data.toList < p.data.toList
        · exact .inr ⟨hi.symm, .inr ⟨e.symm, h4⟩⟩
        · exact absurd (text_of (List.le_antisymm (List.not_lt.1 h3) (List.not_lt.1 h4))) hne
theorem beats_self {d : Dst} {p : ByteArray} : ¬ Beats d p p := by
  rintro ⟨_, h | ⟨_, h⟩⟩
  · omega
  · exact List.lt_irrefl _ h
/-- Sorted, and apart: right. -/
theorem sorted_right {L : List It} (hd : L.Pairwise fun x y => x.1 ≠ y.1) (hg : ∀ x ∈ L, goodI x = true) (hl : L.length ≤ 60) : rightItems (sortIts L) = true := by
  have hd' : (sortIts L).Pairwise fun x y => x.1 ≠ y.1 := ((sortIts_perm L).symm.pairwise_iff (fun h e => h e.symm)).1 hd
  refine right_of (((sortIts_sorted L).and hd').imp fun hxy => ?_) (fun x hx => hg x ((sortIts_perm L).mem_iff.1 hx)) (by rw [(sortIts_perm L).length_eq]; exact hl)
  rename_i x y
  by_cases e : ltI x y
  · exact e
  · exact absurd (ltI_total e hxy.2) hxy.1
theorem over_right {d : Dst} (h : DOk d) : rightItems (overIts d) = true := by
  refine sorted_right ?_ (fun x hx => ?_) ?_
  · rw [List.pairwise_map]
    have hk := h.vk
    unfold keysL at hk
    rw [List.Nodup, List.pairwise_map] at hk
    refine List.Pairwise.imp_of_mem (fun {a b} ha hb hab e => ?_) (hk.filter _)
    obtain ⟨a1, a2⟩ := top_mem.1 ha
    obtain ⟨b1, b2⟩ := top_mem.1 hb
    rcases beats_total (d := d) (show ixOf a.1 = ixOf b.1 from e) hab with k | k
    · exact b2 a a1 k
    · exact a2 b b1 k
  · obtain ⟨p, hp, rfl⟩ := List.mem_map.1 hx
    exact item_good h (top_mem.1 hp).1
  · rw [List.length_map]
    exact Nat.le_trans (List.length_filter_le _ _) h.vals60
/-- Where the document's are right they are the same. -/
theorem over_plain {d : Dst} (hr : rightItems (itemsOf d) = true) : overIts d = itemsOf d := by
  have hd : (itemsRaw d).Pairwise fun x y => x.1 ≠ y.1 := ((sortIts_perm (itemsRaw d)).pairwise_iff (fun h e => h e.symm)).1 ((right_sorted hr).imp fun hxy e => by
    rename_i x y
    have h1 : x.1.data.toList < y.1.data.toList := hxy
    rw [e] at h1
    exact List.lt_irrefl _ h1)
  have ht : topVals d = d.vals := by
    refine List.filter_eq_self.2 fun p hp => ?_
    rw [Bool.not_eq_true', List.any_eq_false]
    intro q hq hb
    have hb : Beats d q.1 p.1 := of_decide_eq_true hb
    obtain ⟨i, hi, rfl⟩ := List.getElem_of_mem hp
    obtain ⟨j, hj, rfl⟩ := List.getElem_of_mem hq
    unfold itemsRaw at hd
    rw [List.pairwise_map, List.pairwise_iff_getElem] at hd
    rcases Nat.lt_trichotomy i j with h | h | h
    · exact hd i j hi hj h hb.1.symm
    · subst h; exact beats_self hb
    · exact hd j i hj hi h hb.1
  unfold overIts itemsOf itemsRaw
  rw [ht]
/-- Two rising lists of the same items are one list. -/
theorem its_one : ∀ {L M : List It}, L.Pairwise ltI → M.Pairwise ltI → (∀ f, f ∈ L ↔ f ∈ M) → L = M
  | [], [], _, _, _ => rfl
  | [], y :: M, _, _, h => by have := (h y).2 (List.mem_cons_self ..); cases this
  | x :: L, [], _, _, h => by have := (h x).1 (List.mem_cons_self ..); cases this
  | x :: L, y :: M, hL, hM, h => by
    obtain ⟨hx, hL'⟩ := List.pairwise_cons.1 hL
    obtain ⟨hy, hM'⟩ := List.pairwise_cons.1 hM
    have e : x = y := by
      rcases List.mem_cons.1 ((h x).1 (List.mem_cons_self ..)) with e | h1
      · exact e
      · rcases List.mem_cons.1 ((h y).2 (List.mem_cons_self ..)) with e | h2
        · exact e.symm
        · exact absurd (ltI_trans (hy x h1) (hx y h2)) (List.lt_irrefl _)
    subst e
    rw [its_one hL' hM' fun f => ?_]
    constructor
    · intro hf
      rcases List.mem_cons.1 ((h f).1 (List.mem_cons_of_mem _ hf)) with e | h1
      · subst e; exact absurd (hx f hf) (List.lt_irrefl _)
      · exact h1
    · intro hf
      rcases List.mem_cons.1 ((h f).2 (List.mem_cons_of_mem _ hf)) with e | h1
      · subst e; exact absurd (hy f hf) (List.lt_irrefl _)
      · exact h1
/-- One more is set, where there is room. -/
theorem set_ok {L : List It} {x : It} {N : List ByteArray} (hr : rightItems L = true) (hx : goodI x = true) (hs : ∀ y ∈ L, y.1 ∈ N) (hn : x.1 ∈ N) (hl : N.length ≤ 60) :
    setOf L x = (insIt x (others L x), 0) ∧ rightItems (insIt x (others L x)) = true ∧ (∀ y, y ∈ insIt x (others L x) ↔ y = x ∨ (y ∈ L ∧ y.1 ≠ x.1)) := by
  have hm : ∀ y, y ∈ insIt x (others L x) ↔ y = x ∨ (y ∈ L ∧ y.1 ≠ x.1) := fun y => by
    rw [(insIt_perm x (others L x)).mem_iff, List.mem_cons]
    unfold others
    rw [List.mem_filter]
    simp
  have hso := insIt_sorted x _ (others_sorted (right_sorted hr) x) (others_ne L x)
  have hlen : (insIt x (others L x)).length ≤ 60 := by
    have hnd : ((insIt x (others L x)).map (·.1)).Nodup := by
      rw [List.Nodup, List.pairwise_map]
      exact hso.imp fun hxy e => by
        rename_i a b
        have h1 : a.1.data.toList < b.1.data.toList := hxy
        rw [e] at h1
        exact List.lt_irrefl _ h1
    have h := nodup_le hnd (B := N) fun s h => by
      obtain ⟨y, hy, rfl⟩ := List.mem_map.1 h
      rcases (hm y).1 hy with rfl | ⟨hy, _⟩
      · exact hn
      · exact hs y hy
    rw [List.length_map] at h
    omega
  have hgood : ∀ y ∈ insIt x (others L x), goodI y = true := fun y hy => by
    rcases (hm y).1 hy with rfl | ⟨hy, _⟩
    · exact hx
    · have := right_sizes hr y hy
      unfold goodI
      rw [this.1, this.2]
      rfl
  refine ⟨?_, right_of hso hgood hlen, hm⟩
  unfold setOf
  have hp := (insIt_perm x (others L x)).length_eq
  rw [List.length_cons] at hp
  rw [if_pos ⟨hr, (right_one x).trans hx⟩, if_neg (by omega)]
/-- Items that are set one behind the other, each of a name. -/
def layOf (x : ByteArray → It) (S : List ByteArray) (L : List It) : List It := S.foldl (fun L s => (setOf L (x s)).1) L
theorem layOf_next {x : ByteArray → It} {S : List ByteArray} {L : List It} {k : Nat} {s : ByteArray} (h : S[k]? = some s) : layOf x (S.take (k + 1)) L = (setOf (layOf x (S.take k) L) (x s)).1 := by
  unfold layOf
  rw [List.take_add_one, h, List.foldl_append]
  rfl
theorem lay_fold {x : ByteArray → It} {N : List ByteArray} (hl : N.length ≤ 60) : ∀ (S : List ByteArray) (L : List It), (∀ s ∈ S, goodI (x s) = true ∧ (x s).1 ∈ N) → S.Pairwise (fun s t => s.data.toList < t.data.toList) → rightItems L = true → (∀ y ∈ L, y.1 ∈ N) →
    rightItems (layOf x S L) = true ∧ (∀ y ∈ layOf x S L, y.1 ∈ N) ∧ ∀ y, y ∈ layOf x S L ↔ (∃ s ∈ S, y = x s ∧ ∀ t ∈ S, s.data.toList < t.data.toList → (x t).1 ≠ (x s).1) ∨ (y ∈ L ∧ ∀ s ∈ S, (x s).1 ≠ y.1)
  | [], L, _, _, hr, hn => ⟨hr, hn, fun y => ⟨fun h => .inr ⟨h, fun s hs => by cases hs⟩, fun h => by
      rcases h with ⟨s, hs, _⟩ | h
      · cases hs
      · exact h.1⟩⟩
  | s :: S, L, hx, hp, hr, hn => by
    obtain ⟨p1, p2⟩ := List.pairwise_cons.1 hp
    obtain ⟨g1, g2⟩ := hx s (List.mem_cons_self ..)
    obtain ⟨e1, e2, e3⟩ := set_ok hr g1 hn g2 hl
    have hstep : layOf x (s :: S) L = layOf x S (insIt (x s) (others L (x s))) := by
      show layOf x S (setOf L (x s)).1 = _
      rw [e1]
    rw [hstep]
    obtain ⟨i1, i2, i3⟩ := lay_fold hl S (insIt (x s) (others L (x s))) (fun t ht => hx t (List.mem_cons_of_mem _ ht)) p2 e2 (fun y hy => by
      rcases (e3 y).1 hy with rfl | ⟨hy, _⟩
      · exact g2
      · exact hn y hy)
    refine ⟨i1, i2, fun y => ?_⟩
    rw [i3 y, e3 y]
    constructor
    · rintro (⟨t, ht, rfl, h⟩ | ⟨rfl | ⟨hy, hne⟩, h⟩)
      · refine .inl ⟨t, List.mem_cons_of_mem _ ht, rfl, fun u hu hlt => ?_⟩
        rcases List.mem_cons.1 hu with rfl | hu
        · exact absurd (List.lt_trans hlt (p1 t ht)) (List.lt_irrefl _)
        · exact h u hu hlt
      · refine .inl ⟨s, List.mem_cons_self .., rfl, fun u hu hlt => ?_⟩
        rcases List.mem_cons.1 hu with rfl | hu
        · exact absurd hlt (List.lt_irrefl _)
        · exact h u hu
      · refine .inr ⟨hy, fun u hu => ?_⟩
        rcases List.mem_cons.1 hu with rfl | hu
        · exact fun e => hne e.symm
        · exact h u hu
    · rintro (⟨t, ht, rfl, h⟩ | ⟨hy, h⟩)
      · rcases List.mem_cons.1 ht with rfl | ht
        · exact .inr ⟨.inl rfl, fun u hu => h u (List.mem_cons_of_mem _ hu) (p1 u hu)⟩
        · exact .inl ⟨t, ht, rfl, fun u hu hlt => h u (List.mem_cons_of_mem _ hu) hlt⟩
      · exact .inr ⟨.inr ⟨hy, fun e => h s (List.mem_cons_self ..) e.symm⟩, fun u hu => h u (List.mem_cons_of_mem _ hu)⟩
/-- What lies where a name does that waits, once it is published. -/
def freshIt (d : Dst) (s : ByteArray) : It := itemOf (settled d) (s, (look d.wait s).getD ⟨#[]⟩)
/-- These are the names that wait, rising. -/
structure Waits (d : Dst) (S : List ByteArray) : Prop where
  mem : ∀ s, s ∈ S ↔ (look d.wait s).isSome = true
  rise : S.Pairwise fun s t => s.data.toList < t.data.toList
theorem since_le {d : Dst} (h : DOk d) (s : ByteArray) : sinceOf d s ≤ (d.eps.length : Int) := by
  unfold sinceOf
  cases e : look d.since s with
  | none => show (0 : Int) ≤ _; omega
  | some n => exact (h.epoch s n e).2
theorem since_fresh {d : Dst} (h : DOk d) {s : ByteArray} (hw : (look d.wait s).isSome = true) : sinceOf (settled d) s = (d.eps.length : Int) + 1 := by
  unfold sinceOf
  rw [(settled_look h s).2]
  cases e : look d.wait s with
  | none => rw [e] at hw; cases hw
  | some v => rfl
theorem since_old {d : Dst} (h : DOk d) {s : ByteArray} (hw : ¬ (look d.wait s).isSome = true) : sinceOf (settled d) s = sinceOf d s ∧ look (settled d).vals s = look d.vals s ∧ openOf (settled d) s = openOf d s := by
  have e : look d.wait s = none := by
    cases e : look d.wait s with
    | none => rfl
    | some v => rw [e] at hw; exact absurd rfl hw
  have h1 : look (settled d).since s = look d.since s := by rw [(settled_look h s).2, e]; rfl
  refine ⟨by unfold sinceOf; rw [h1], by rw [(settled_look h s).1, e]; rfl, ?_⟩
  unfold openOf
  rw [h1]
  rfl
theorem since_new {d : Dst} (h : DOk d) (s : ByteArray) : sinceOf (settled d) s ≤ (d.eps.length : Int) + 1 ∧ (sinceOf (settled d) s = (d.eps.length : Int) + 1 → (look d.wait s).isSome = true) := by
  by_cases hw : (look d.wait s).isSome = true
  · rw [since_fresh h hw]; exact ⟨Int.le_refl _, fun _ => hw⟩
  · rw [(since_old h hw).1]
    have := since_le h s
    exact ⟨by omega, fun e => by omega⟩
theorem vals_nodup {d : Dst} (h : DOk d) : (keysL (settled d).vals).Nodup := upsAll_nodup h.vk _
theorem settled_fresh {d : Dst} (h : DOk d) {s : ByteArray} (hw : (look d.wait s).isSome = true) : (s, (look d.wait s).getD ⟨#[]⟩) ∈ (settled d).vals := by
  refine look_mem ?_
  rw [(settled_look h s).1]
  cases e : look d.wait s with
  | none => rw [e] at hw; cases hw
  | some v => rfl
theorem settled_old {d : Dst} (h : DOk d) {p : ByteArray × ByteArray} (hw : ¬ (look d.wait p.1).isSome = true) : p ∈ (settled d).vals ↔ p ∈ d.vals := by
  obtain ⟨s, v⟩ := p
  have e := (since_old h (s := s) hw).2.1
  constructor
  · intro hp
    exact look_mem (e ▸ look_of_mem (vals_nodup h) hp)
  · intro hp
    exact look_mem (e.trans (look_of_mem h.vk hp))
theorem item_old {d : Dst} (h : DOk d) {p : ByteArray × ByteArray} (hw : ¬ (look d.wait p.1).isSome = true) : itemOf (settled d) p = itemOf d p := by
  unfold itemOf
  rw [(since_old h hw).2.2]
/-- What is kept behind an epoch is what was kept ahead of it, each name that waited set in its turn. -/
theorem over_settled {d : Dst} (h : DOk d) (h8 : d.eps.length < 8) {S : List ByteArray} (hS : Waits d S) : layOf (freshIt d) S (overIts d) = overIts (settled d) ∧
    ∀ k, rightItems (layOf (freshIt d) (S.take k) (overIts d)) = true ∧ ∀ s, S[k]? = some s → setOf (layOf (freshIt d) (S.take k) (overIts d)) (freshIt d s) = (layOf (freshIt d) (S.take (k + 1)) (overIts d), 0) := by
  have hok := pushed_ok h h8 noSgn
  have hN : (keysL (settled d).vals).length ≤ 60 := by rw [keysL_length]; exact hok.vals60
  have hNl : ((settled d).vals.map fun p => ixOf p.1).length ≤ 60 := by
    rw [List.length_map]
    rw [keysL_length] at hN
    exact hN
  have hx : ∀ s ∈ S, goodI (freshIt d s) = true ∧ (freshIt d s).1 ∈ (settled d).vals.map fun p => ixOf p.1 := fun s hs => by
    have hw := (hS.mem s).1 hs
    have hm := settled_fresh h hw
    exact ⟨item_good hok hm, List.mem_map.2 ⟨_, hm, rfl⟩⟩
  have hr := over_right h
  have hn : ∀ y ∈ overIts d, y.1 ∈ (settled d).vals.map fun p => ixOf p.1 := fun y hy => by
    obtain ⟨p, hp, _, rfl⟩ := over_mem.1 hy
    by_cases hw : (look d.wait p.1).isSome = true
    · exact List.mem_map.2 ⟨_, settled_fresh h hw, rfl⟩
    · exact List.mem_map.2 ⟨p, (settled_old h hw).2 hp, rfl⟩
  refine ⟨?_, fun k => ?_⟩
  · obtain ⟨f1, _, f3⟩ := lay_fold hNl S (overIts d) hx hS.rise hr hn
    have hor : rightItems (overIts { settled d with eps := d.eps ++ [noSgn] }) = true := over_right hok
    have hor : rightItems (overIts (settled d)) = true := hor
    refine its_one (right_sorted f1) (right_sorted hor) fun y => ?_
    rw [f3 y, show (y ∈ overIts (settled d) ↔ _) from over_mem]
    constructor
    · rintro (⟨s, hs, rfl, hb⟩ | ⟨hy, hb⟩)
      · have hw := (hS.mem s).1 hs
        refine ⟨_, settled_fresh h hw, fun q hq hbt => ?_, rfl⟩
        obtain ⟨b1, b2⟩ := hbt
        have e1 := since_fresh h hw
        have b2 : sinceOf (settled d) s < sinceOf (settled d) q.1 ∨ (sinceOf (settled d) s = sinceOf (settled d) q.1 ∧ s.data.toList < q.1.data.toList) := b2
        rw [e1] at b2
        have e2 := since_new h q.1
        rcases b2 with b2 | ⟨b2, b3⟩
        · omega
        · exact hb q.1 ((hS.mem q.1).2 (e2.2 b2.symm)) b3 b1
      · obtain ⟨p, hp, hnb, rfl⟩ := over_mem.1 hy
        have hw : ¬ (look d.wait p.1).isSome = true := fun hw => hb p.1 ((hS.mem p.1).2 hw) rfl
        refine ⟨p, (settled_old h hw).2 hp, fun q hq hbt => ?_, item_old h hw⟩
        have hwq : ¬ (look d.wait q.1).isSome = true := fun hwq => hb q.1 ((hS.mem q.1).2 hwq) hbt.1
        refine hnb q ((settled_old h hwq).1 hq) ?_
        unfold Beats at hbt ⊢
        rw [(since_old h hw).1, (since_old h hwq).1] at hbt
        exact hbt
    · rintro ⟨p, hp, hnb, rfl⟩
      by_cases hw : (look d.wait p.1).isSome = true
      · left
        refine ⟨p.1, (hS.mem p.1).2 hw, ?_, fun t ht hlt e => ?_⟩
        · have hm := look_of_mem (vals_nodup h) (settled_fresh h hw)
          have hm2 := look_of_mem (vals_nodup h) (show (p.1, p.2) ∈ (settled d).vals from hp)
          have e := Option.some.inj (hm.symm.trans hm2)
          unfold freshIt
          rw [e]
        · have hwt := (hS.mem t).1 ht
          exact hnb _ (settled_fresh h hwt) ⟨e, .inr ⟨by rw [since_fresh h hw, since_fresh h hwt], hlt⟩⟩
      · right
        refine ⟨over_mem.2 ⟨p, (settled_old h hw).1 hp, fun q hq hbt => ?_, (item_old h hw).symm⟩, fun s hs e => ?_⟩
        · by_cases hwq : (look d.wait q.1).isSome = true
          · refine hnb _ (settled_fresh h hwq) ⟨hbt.1, .inl ?_⟩
            show sinceOf (settled d) p.1 < sinceOf (settled d) q.1
            rw [since_fresh h hwq, (since_old h hw).1]
            have := since_le h p.1
            omega
          · refine hnb q ((settled_old h hwq).2 hq) ?_
            unfold Beats at hbt ⊢
            rw [(since_old h hw).1, (since_old h hwq).1]
            exact hbt
        · have hws := (hS.mem s).1 hs
          refine hnb _ (settled_fresh h hws) ⟨e, .inl ?_⟩
          show sinceOf (settled d) p.1 < sinceOf (settled d) s
          rw [since_fresh h hws, (since_old h hw).1]
          have := since_le h p.1
          omega
  · obtain ⟨f1, f2, _⟩ := lay_fold hNl (S.take k) (overIts d) (fun s hs => hx s (List.mem_of_mem_take hs)) (hS.rise.sublist (List.take_sublist k S)) hr hn
    refine ⟨f1, fun s hs => ?_⟩
    obtain ⟨g1, g2⟩ := hx s (List.mem_of_getElem? hs)
    rw [layOf_next hs, (set_ok f1 g1 f2 g2 hNl).1]
/-- The program's directory: its items are laid over one another. -/
def Pub.over : Pub where
  its := overIts
  free _ _ _ := rfl
  good := over_right
  right _ hr := over_plain hr
end Go.Proofs.YtcfpmofmjnhonaaGreatDoor
/- Maps from texts to pairs of texts. -/
namespace Go.Proofs.YtcfpmofmjnhonaaGreatDoor
open Go.RowKit Go.Maps

/-- Two texts as one: each byte of the first marked, then a mark, then the second. -/
def pairL : List UInt8 → List UInt8 → List UInt8
  | [], B => 0 :: B
  | a :: A, B => 1 :: a :: pairL A B
theorem pairL_inj : ∀ {A B C D : List UInt8}, pairL A C = pairL B D → A = B ∧ C = D
  | [], [], _, _, h => ⟨rfl, (List.cons.inj h).2⟩
  | [], b :: B, _, _, h => absurd (List.cons.inj h).1 (by decide)
  | a :: A, [], _, _, h => absurd (List.cons.inj h).1 (by decide)
  | a :: A, b :: B, _, _, h => by
    obtain ⟨_, h⟩ := List.cons.inj h
    obtain ⟨h1, h⟩ := List.cons.inj h
    obtain ⟨h2, h3⟩ := pairL_inj h
    exact ⟨by rw [h1, h2], h3⟩
def pairLit (x : ByteArray × ByteArray) : Lit := .string (pairL x.1.data.toList x.2.data.toList)
theorem bytes_inj {s t : ByteArray} (h : s.data.toList = t.data.toList) : s = t := by
  obtain ⟨⟨a⟩⟩ := s
  obtain ⟨⟨b⟩⟩ := t
  simpa using h
theorem pairLit_inj (x y : ByteArray × ByteArray) (h : pairLit x = pairLit y) : x = y := by
  unfold pairLit at h
  injection h with h
  obtain ⟨h1, h2⟩ := pairL_inj h
  exact Prod.ext (bytes_inj h1) (bytes_inj h2)
def pairOf (x : ByteArray × ByteArray) : Value := .agg #[.string x.1, .string x.2]
def pairRow : List Value → Option (DataW Unit × List MemPlace)
  | [.string a, .string b] => some (.lit (pairLit (a, b)), [])
  | _ => none
def pairRead : Value → Option (DataW Unit × List MemPlace)
  | .agg cells => pairRow cells.toList
  | _ => none
theorem pairRead_inv (v : Value) (y : DataW Unit × List MemPlace) (h : pairRead v = some y) : ∃ x, v = pairOf x ∧ y = (.lit (pairLit x), []) ∧ True := by
  cases v with
  | agg cells =>
    obtain ⟨l⟩ := cells
    have h : pairRow l = some y := h
    unfold pairRow at h
    split at h
    · rename_i a b h0
      exact ⟨(a, b), rfl, (Option.some.inj h).symm, trivial⟩
    · cases h
  | _ => cases h
/-- Pairs of texts as elements of a map of type M. -/
def kO (M E : TypeId) (und : Tryz.prog.underlying M = some (.map 9 E)) (zer : ∀ w : World, (zeroValue E).run Tryz.prog w = .ok (pairOf (⟨#[]⟩, ⟨#[]⟩)) w) : MKind (ByteArray × ByteArray) where
  M := M
  E := E
  wd := pairOf
  lt := pairLit
  zero := (⟨#[]⟩, ⟨#[]⟩)
  good _ := True
  und := und
  R := pairRead
  put _ _ := rfl
  inv := pairRead_inv
  inj := pairLit_inj
  zer := zer
  zgood := trivial
end Go.Proofs.YtcfpmofmjnhonaaGreatDoor
/- clear of a map; the maps of the program's directory. -/
namespace Go.Proofs.YtcfpmofmjnhonaaGreatDoor
open Go.RowKit Go.Maps Go.MapKept

theorem MapIs.cleared {α : Type} {K : MKind α} {w : World} {b : Nat} {L : List (ByteArray × α)} (h : MapIs K w b L) :
    ∃ w' : World, (∀ ty, (Builtin.clear_ #[K.M] ty #[.map (some b)]).run Tryz.prog w = .ok (.tuple #[]) w') ∧ MapIs K w' b [] ∧ w.grownBy w' (some b) ∧ w'.heap.size = w.heap.size := by
  obtain ⟨⟨D, ⟨es, clock, hb, F, hs, hD⟩, _⟩, _, _⟩ := h
  refine ⟨{ w with heap := w.heap.setIfInBounds b (.map #[] clock) }, fun ty => ?_, ⟨⟨.map [], ⟨#[], clock, (heap_set hb).1, ⟨by simp, stamped_empty clock, by simp⟩, Nat.le_refl _, rfl⟩, ⟨rfl, fun s => rfl, fun s x h => by simp [look_nil] at h⟩⟩, List.nodup_nil, fun p h => by cases h⟩, ⟨rfl, rfl, rfl, by simp, fun i _ hi => (heap_set hb).2 i (fun e => hi (by rw [e]))⟩, by simp⟩
  simp [Builtin.clear_, run_underlying K.und, Go.MapKept.run_getObj_map hb, Go.MapKept.run_setObj_map _ hb, Result.andThen]
/-- Pairs of texts, an opening and a value, as elements. -/
noncomputable def kH : MKind (ByteArray × ByteArray) := kO 131 156 Tryz.underlying131 (fun w => by kernel_rfl)
end Go.Proofs.YtcfpmofmjnhonaaGreatDoor
/- slices.Chunk over strings, two and two: what its rounds are handed. -/
namespace Go.Proofs.YtcfpmofmjnhonaaGreatDoor
open Go.RowKit Go.Shelf
attribute [local go_sem] Oper.semAt_some

/-- What has come when k rounds are over. -/
def twos {m : Nat} (ys : List (Fin m)) (k : Nat) : Prop := ys.map (·.val) = List.range k
theorem twos_snoc {m : Nat} {ys : List (Fin m)} {k : Nat} (h : twos ys k) (x : Fin m) (hx : x.val = k) : twos (ys ++ [x]) (k + 1) := by
  unfold twos at h ⊢
  rw [List.range_succ, List.map_append, h, List.map_singleton, hx]
theorem twos_len {m : Nat} {ys : List (Fin m)} {k : Nat} (h : twos ys k) : ys.length = k := by
  have := congrArg List.length h
  rwa [List.length_map, List.length_range] at this
/-- What a round is handed. -/
def duo {m : Nat} (g : Nat) (x : Fin m) : Value := .slice (some ⟨g, 2 * x.val, none⟩) 2 2

/-- What a round that goes on keeps: what lies below n₀, and the two boxes. -/
def KeepTwo (n₀ B1 B2 : Nat) (v1 v2 : Value) (W W' : World) : Prop := Below n₀ W W' ∧ (W.cell? ⟨B1, 0, none⟩ = some v1 → W'.cell? ⟨B1, 0, none⟩ = some v1) ∧ (W.cell? ⟨B2, 0, none⟩ = some v2 → W'.cell? ⟨B2, 0, none⟩ = some v2)
theorem keepTwo_t {n₀ B1 B2 : Nat} {v1 v2 : Value} {A B C : World} (h : KeepTwo n₀ B1 B2 v1 v2 A B) (k : KeepTwo n₀ B1 B2 v1 v2 B C) : KeepTwo n₀ B1 B2 v1 v2 A C := ⟨h.1.trans k.1, fun e => k.2.1 (h.2.1 e), fun e => k.2.2 (h.2.2 e)⟩
theorem keepTwo_b {n₀ B1 B2 : Nat} {v1 v2 : Value} {w : World} (hn : n₀ ≤ w.heap.size) (W : World) (l : Nat) (o o' : Obj) (hl : w.heap.size ≤ l) (h : W.heap[l]? = some o) (hc : o.isCells = false) (hw : o.isWalk = false) : KeepTwo n₀ B1 B2 v1 v2 W (W.putObj l o') :=
  ⟨belowK_b hn W l o o' hl h hc hw, fun e => cell_kept e (grownBy_putObj' W l o') (fun r e => by cases e; exact ⟨_, h, hc⟩), fun e => cell_kept e (grownBy_putObj' W l o') (fun r e => by cases e; exact ⟨_, h, hc⟩)⟩

set_option maxRecDepth 100000 in
set_option maxHeartbeats 2000000 in
theorem chunk1_in (F : Fence) (n : Nat) (h8 : F.fn 199) (hro : F.round = none) (hn : 1 ≤ n) (l B1 B2 n₀ g cap m : Nat) (hm : m ≤ 1000000) (hcap : 2 * m ≤ cap) (J Jx : List (Fin m) → World → Prop)
    (hY : ∀ pre x W, J pre W → pre.length < m → YieldAt F (n - 1) Tryz.prog l #[duo g x] W fun e W' =>
      (e = .returned (.bool true) ∧ J (pre ++ [x]) W' ∧ KeepTwo n₀ B1 B2 (.slice (some ⟨g, 0, none⟩) (2 * m) cap) (.int .i64 2) W W') ∨ (e = .returned (.bool false) ∧ Jx (pre ++ [x]) W'))
    (hJd : ∀ pre W, J pre W → J pre W.drew)
    (W : World) (hB1 : W.cell? ⟨B1, 0, none⟩ = some (.slice (some ⟨g, 0, none⟩) (2 * m) cap)) (hB2 : W.cell? ⟨B2, 0, none⟩ = some (.int .i64 2)) (h0 : J [] W) :
    CallsIn F n Tryz.prog 199 #[.func (.yield l) #[] #[], .pointer (some ⟨B1, 0, none⟩), .pointer (some ⟨B2, 0, none⟩)] W fun e W' => (∃ v, e = .returned v) ∧
      ((∃ ys, twos ys m ∧ J ys W') ∨ (∃ pre, (∃ k, k ≤ m ∧ twos pre k) ∧ Jx pre W')) := by
  refine callsIn_of_wp Tryz.func199 rfl h8 ?_ hro
  simp only [Tryz.ntmps199, List.size_toArray, List.length_cons, List.length_nil, Nat.reduceAdd, Nat.reduceSub, Array.replicate_succ, Array.replicate_zero, List.push_toArray, List.append_toArray, List.nil_append, List.cons_append]
  gi_wp2
  gi_loopw [4] (fun i wr => ∃ k : Nat, k ≤ m ∧ i = .int .i64 ((2 * k : Nat) : Int) ∧ (∃ ys, twos ys k ∧ J ys wr) ∧ wr.cell? ⟨B1, 0, none⟩ = some (.slice (some ⟨g, 0, none⟩) (2 * m) cap) ∧ wr.cell? ⟨B2, 0, none⟩ = some (.int .i64 2))
    (fun i _ => 2 * m - (intOf i).toNat)
  case atStart => exact ⟨0, Nat.zero_le _, by simp, ⟨[], rfl, h0⟩, hB1, hB2⟩
  case round =>
    obtain ⟨k, hk, rfl, ⟨ys, hys, hJs⟩, hc1, hc2⟩ := hrel
    by_cases hlt : k < m
    · obtain ⟨i2, hi2⟩ : ∃ i2 : Nat, 2 * k = i2 := ⟨_, rfl⟩
      obtain ⟨m2, hm2⟩ : ∃ m2 : Nat, 2 * m = m2 := ⟨_, rfl⟩
      obtain ⟨fn, tmps, assign, body, hy, hR⟩ := hY ys ⟨k, hlt⟩ wr.drew (hJd _ _ hJs) (by rw [twos_len hys]; exact hlt)
      have hd1 : wr.drew.cell? ⟨B1, 0, none⟩ = some (.slice (some ⟨g, 0, none⟩) (2 * m) cap) := hc1
      have hd2 : wr.drew.cell? ⟨B2, 0, none⟩ = some (.int .i64 2) := hc2
      dsimp only [duo] at hy
      have hbs := twos_snoc hys ⟨k, hlt⟩ rfl
      rw [hi2] at hy ⊢
      rw [hm2] at hc1 hd1 hcap
      have b1 : i2 + 2 ≤ m2 := by omega
      have b2 : m2 ≤ 2000000 := by omega
      have t1 : (i2 : Int) < (m2 : Int) := by omega
      gi_wp2
      gi_region
      all_goals
        first
          | rw [if_neg (show ¬ ((m2 - i2 : Nat) : Int) < 2 by omega)]
          | rw [show min (2 : Int) ((m2 - i2 : Nat) : Int) = 2 by omega]
        have w2 : IntKind.i64.wrap ((i2 : Int) + 2) = (i2 : Int) + 2 := IntWalk.i64_in _ (by omega)
        have w3 : ((i2 : Int) + 2).toNat = i2 + 2 := by omega
        have w4 : i2 + 2 - i2 = 2 := by omega
        have w5 : ¬ cap - i2 = 0 := by omega
        gi_wp2
        refine hR.mono ?_
        rintro e W3 (⟨rfl, hJ3, hk3⟩ | ⟨rfl, hJx3⟩)
        · rw [hm2] at hk3
          have hc1' := hk3.2.1 hd1
          have hc2' := hk3.2.2 hd2
          gi_wp2
          go_roundw
          case rel => exact ⟨k + 1, by omega, by congr 1; omega, ⟨_, hbs, hJ3⟩, by rw [hm2]; exact hc1', hc2'⟩
          case measure => simp only [intOf]; omega
        · gi_wp2
          refine bodyPost_ret (results_none rfl _ _ _) rfl ?_
          exact ⟨⟨_, rfl⟩, .inr ⟨_, ⟨k + 1, by omega, hbs⟩, hJx3⟩⟩
    · obtain rfl : k = m := by omega
      gi_wp2
      go_end0
      exact ⟨⟨_, rfl⟩, .inl ⟨_, hys, hJs⟩⟩

set_option maxHeartbeats 1000000 in
theorem chunk_in (F : Fence) (n : Nat) (h6 : F.fn 150) (hro : F.round = none) (a : Option Addr) (len cap : Nat) (w : World) :
    CallsIn F n Tryz.prog 150 #[.slice a len cap, .int .i64 2] w fun e w' => e = .returned (.func (.func 199) #[] #[.pointer (some ⟨w.heap.size, 0, none⟩), .pointer (some ⟨w.heap.size + 1, 0, none⟩)]) ∧
      w' = (w.alloc (.cells #[.slice a len cap] 50)).alloc (.cells #[.int .i64 2] 3) := by
  refine callsIn_of_wp Tryz.func150 rfl h6 ?_ hro
  simp only [Tryz.ntmps150, List.size_toArray, List.length_cons, List.length_nil, Nat.reduceAdd, Nat.reduceSub, Array.replicate_succ, Array.replicate_zero, List.push_toArray, List.append_toArray, List.nil_append, List.cons_append]
  have hb := Boxed.new (w.alloc (.cells #[.slice a len cap] 50)) 3 (.int .i64 2)
  rw [World.size_alloc] at hb
  have hb1 := hb.cell
  gi_wp2
  go_ret
  exact ⟨rfl, rfl⟩

/-- What slices.Chunk hands back stops after all the pairs; or a round said no more. -/
theorem chunk_stops (F : Fence) (n : Nat) (h8 : F.fn 199) (hro : F.round = none) (hn : 1 ≤ n) (B1 B2 n₀ g cap m : Nat) (hm : m ≤ 1000000) (hcap : 2 * m ≤ cap) (w : World) (hB1 : B1 < w.heap.size) (hB2 : B2 < w.heap.size)
    (h1 : w.cell? ⟨B1, 0, none⟩ = some (.slice (some ⟨g, 0, none⟩) (2 * m) cap)) (h2 : w.cell? ⟨B2, 0, none⟩ = some (.int .i64 2)) :
    SeqStopsK F n Tryz.prog 199 #[.pointer (some ⟨B1, 0, none⟩), .pointer (some ⟨B2, 0, none⟩)] (fun x : Fin m => #[duo g x]) (KeepTwo n₀ B1 B2 (.slice (some ⟨g, 0, none⟩) (2 * m) cap) (.int .i64 2)) (fun ys => twos ys m)
      (fun pre => ∃ k, k ≤ m ∧ twos pre k) m w := fun l J Jx W hW hJ _ hY h0 =>
  chunk1_in F n h8 hro hn l B1 B2 n₀ g cap m hm hcap J Jx hY
    (fun pre W' h => hJ pre W' W'.drew none h ⟨rfl, rfl, rfl, Nat.le_refl _, fun _ _ _ => rfl⟩ (fun r e => by cases e)) W ((hW.cell (p := ⟨B1, 0, none⟩) hB1).trans h1) ((hW.cell (p := ⟨B2, 0, none⟩) hB2).trans h2) h0
end Go.Proofs.YtcfpmofmjnhonaaGreatDoor
/- The program's seal: a key's leaf, two marks joined, which number is a key's, and the way up along a path. -/
namespace Go.Proofs.YtcfpmofmjnhonaaGreatDoor
open Go.RowKit

def sLeaf (k : Int) (p : ByteArray) : ByteArray := markOf 116 [txt (num8 k), p]
def twoM (a b : ByteArray) : ByteArray := markOf 117 [a, b]
theorem sLeaf_size (k : Int) (p : ByteArray) : (sLeaf k p).size = 16 := markOf_len _ _
theorem twoM_size (a b : ByteArray) : (twoM a b).size = 16 := markOf_len _ _

set_option maxRecDepth 100000 in
theorem vLeaf_any (k : Int) (p : ByteArray) (w : World) (hk : HasK w) (hs : p.size = 16) :
    Calls Tryz.prog 149 #[.int .i64 k, .string p] w fun e w' => e = .returned (.string (sLeaf k p)) ∧ Below w.heap.size w w' := by
  have HK := Lib.hid hk
  have HS := Lib.hid hs
  clear hk hs
  go_enter Tryz.func149, Tryz.ntmps149
  go_wp2_with fail
  refine (num_any k _).mono ?_
  rintro e w1 ⟨rfl, hb1⟩
  have HB1 := Lib.hid hb1
  clear hb1
  go_wp2_with fail
  refine (mark_any 116 [txt (num8 k), p] (some ⟨w1.heap.size, 0, none⟩) 2 _ (HK.out.below (HB1.out.trans ((alloc_below w1 _).mono HB1.out.size)) HK.out.lt) (by have := HS.out; simp [total, num_size]; omega) (by simp) (strs_new w1 [txt (num8 k), p] 9)).mono ?_
  rintro e w3 ⟨rfl, hb3⟩
  have HB3 := Lib.hid ((HB1.out.trans ((alloc_below w1 (.cells #[.string (txt (num8 k)), .string p] 9)).mono HB1.out.size)).trans (hb3.mono (Nat.le_trans HB1.out.size (by simp))))
  clear hb3
  go_wp2
  go_ret
  exact ⟨rfl, HB3.out⟩
set_option maxRecDepth 100000 in
theorem vJoin_any (a b : ByteArray) (w : World) (hk : HasK w) (ha : a.size = 16) (hb : b.size = 16) :
    Calls Tryz.prog 151 #[.string a, .string b] w fun e w' => e = .returned (.string (twoM a b)) ∧ Below w.heap.size w w' := by
  have HK := Lib.hid hk
  have HA := Lib.hid ha
  have HB := Lib.hid hb
  clear hk ha hb
  go_enter Tryz.func151, Tryz.ntmps151
  go_wp2_with fail
  refine (mark_any 117 [a, b] (some ⟨w.heap.size, 0, none⟩) 2 _ (HK.out.below (alloc_below w _) HK.out.lt) (by have := HA.out; have := HB.out; simp [total]; omega) (by simp) (strs_new w [a, b] 9)).mono ?_
  rintro e w3 ⟨rfl, hb3⟩
  have HB3 := Lib.hid ((alloc_below w (.cells #[.string a, .string b] 9)).trans (hb3.mono (by simp)))
  clear hb3
  go_wp2
  go_ret
  exact ⟨rfl, HB3.out⟩
theorem vKey_any (k : Int) (w : World) :
    Calls Tryz.prog 175 #[.int .i64 k] w fun e w' => e = .returned (.bool (decide (0 ≤ k ∧ k ≤ 7))) ∧ w' = w := by
  by_cases h0 : 0 ≤ k
  · by_cases h8 : k < 8
    · rw [decide_eq_true (show 0 ≤ k ∧ k ≤ 7 from ⟨h0, by omega⟩)]
      go_enter Tryz.func175, Tryz.ntmps175
      go_wp2
      go_ret
      exact ⟨rfl, rfl⟩
    · rw [decide_eq_false (show ¬ (0 ≤ k ∧ k ≤ 7) from fun h => h8 (by omega))]
      go_enter Tryz.func175, Tryz.ntmps175
      go_wp2
      go_ret
      exact ⟨rfl, rfl⟩
  · rw [decide_eq_false (show ¬ (0 ≤ k ∧ k ≤ 7) from fun h => h0 h.1)]
    go_enter Tryz.func175, Tryz.ntmps175
    go_wp2
    go_ret
    exact ⟨rfl, rfl⟩

/-- Along the path from its place i on, the key's bits from there on. -/
theorem upFrom_step {P : List ByteArray} {i : Nat} {p t : ByteArray} (h : P[i]? = some p) (k : Nat) : upFrom (P.drop i) t (k / 2 ^ i) = upFrom (P.drop (i + 1)) (if k / 2 ^ i % 2 = 1 then twoM p t else twoM t p) (k / 2 ^ (i + 1)) := by
  have hi : i < P.length := (List.getElem?_eq_some_iff.1 h).1
  rw [List.getElem?_eq_getElem hi] at h
  rw [List.drop_eq_getElem_cons hi, Option.some.inj h, upFrom, Nat.pow_succ, Nat.div_div_eq_div_mul]
  rfl
theorem keyBit (k i : Nat) (hk : k ≤ 7) (hi : i < 3) : bits BinOp.and IntKind.i64 ((k : Int) / 2 ^ i) 1 = ((k / 2 ^ i % 2 : Nat) : Int) := by
  rcases (by omega : k = 0 ∨ k = 1 ∨ k = 2 ∨ k = 3 ∨ k = 4 ∨ k = 5 ∨ k = 6 ∨ k = 7) with rfl | rfl | rfl | rfl | rfl | rfl | rfl | rfl <;>
    rcases (by omega : i = 0 ∨ i = 1 ∨ i = 2) with rfl | rfl | rfl <;> decide +kernel
set_option maxRecDepth 100000 in
theorem vClimb_any (k : Nat) (s : ByteArray) (P : List ByteArray) (A : Option Addr) (cap : Nat) (w : World) (hk : HasK w) (hk7 : k ≤ 7) (hs : s.size = 16) (h3 : P.length = 3) (hP : marksOk P = true) (hm : Strs w A P) :
    Calls Tryz.prog 189 #[.int .i64 (k : Int), .string s, .slice A P.length cap] w fun e w' => e = .returned (.string (upFrom P (sLeaf (k : Int) s) k)) ∧ Below w.heap.size w w' := by
  have HK := Lib.hid hk
  have HM := Lib.hid hm
  have HP := Lib.hid hP
  have H3 := Lib.hid h3
  obtain ⟨T, hT⟩ : ∃ T, upFrom P (sLeaf (k : Int) s) k = T := ⟨_, rfl⟩
  rw [hT]
  have HT := Lib.hid (show upFrom (P.drop 0) (sLeaf (k : Int) s) (k / 2 ^ 0) = T by rw [Nat.pow_zero, Nat.div_one]; exact hT)
  clear hk hm hP hT
  go_enter Tryz.func189, Tryz.ntmps189
  go_wp2_with fail
  refine (vLeaf_any (k : Int) s _ HK.out hs).mono ?_
  rintro e w1 ⟨rfl, hb1⟩
  have HB1 := Lib.hid hb1
  clear hb1 h3 hs
  go_wp2
  go_loopw [7, 15] (fun tv iv wr => ∃ (i : Nat) (t : ByteArray), i ≤ P.length ∧ iv = .int .i64 (i : Int) ∧ tv = .string t ∧ Hid (t.size = 16 ∧ upFrom (P.drop i) t (k / 2 ^ i) = T ∧ Below w.heap.size w wr)) (fun _ iv _ => P.length - (intOf iv).toNat)
  case atStart => exact ⟨0, _, Nat.zero_le _, rfl, rfl, Lib.hid ⟨sLeaf_size _ _, HT.out, HB1.out⟩⟩
  case round =>
    obtain ⟨i, t, hi, rfl, rfl, HU⟩ := hrel
    by_cases hlt : i < P.length
    · obtain ⟨p, hp⟩ : ∃ p, P[i]? = some p := ⟨_, List.getElem?_eq_getElem hlt⟩
      obtain ⟨a, rfl, _, c0⟩ := HM.out.below HU.out.2.2 i p hp
      have HPS := Lib.hid (marksOk_get HP.out hp)
      have HNX := Lib.hid (show upFrom (P.drop (i + 1)) (if k / 2 ^ i % 2 = 1 then twoM p t else twoM t p) (k / 2 ^ (i + 1)) = T from (upFrom_step hp k).symm.trans HU.out.2.1)
      have hi3 : i < 3 := by have := H3.out; omega
      have hib : i ≤ 3 := by omega
      have hbt := keyBit k i hk7 hi3
      have HKW := Lib.hid (HK.out.below HU.out.2.2 HK.out.lt)
      clear hp hi3
      generalize k / 2 ^ i = q at hbt HNX
      by_cases hodd : q % 2 = 1
      · rw [if_pos hodd] at HNX
        replace hbt : bits BinOp.and IntKind.i64 ((k : Int) / 2 ^ i) 1 = 1 := by rw [hbt, hodd]; rfl
        clear hodd
        go_wp2_with fail
        refine (vJoin_any p t _ HKW.out HPS.out HU.out.1).mono ?_
        rintro e w5 ⟨rfl, hb5⟩
        have HB5 := Lib.hid (HU.out.2.2.trans (hb5.mono HU.out.2.2.size))
        clear hb5 hbt
        go_wp2
        go_roundw
        case rel => exact ⟨i + 1, _, by omega, by go_num, rfl, Lib.hid ⟨twoM_size _ _, HNX.out, HB5.out⟩⟩
        case measure => simp [intOf]; omega
      · rw [if_neg hodd] at HNX
        replace hbt : bits BinOp.and IntKind.i64 ((k : Int) / 2 ^ i) 1 = 0 := by rw [hbt, show q % 2 = 0 by omega]; rfl
        clear hodd
        go_wp2_with fail
        refine (vJoin_any t p _ HKW.out HU.out.1 HPS.out).mono ?_
        rintro e w5 ⟨rfl, hb5⟩
        have HB5 := Lib.hid (HU.out.2.2.trans (hb5.mono HU.out.2.2.size))
        clear hb5 hbt
        go_wp2
        go_roundw
        case rel => exact ⟨i + 1, _, by omega, by go_num, rfl, Lib.hid ⟨twoM_size _ _, HNX.out, HB5.out⟩⟩
        case measure => simp [intOf]; omega
    · obtain rfl : i = P.length := by omega
      have HE := Lib.hid (show t = T by have := HU.out.2.1; rwa [List.drop_of_length_le (Nat.le_refl _), upFrom] at this)
      have HBF := Lib.hid HU.out.2.2
      go_wp2
      go_ret
      exact ⟨by rw [HE.out]; rfl, HBF.out⟩
end Go.Proofs.YtcfpmofmjnhonaaGreatDoor
