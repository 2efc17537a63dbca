/- The program's auditor in memory. -/
import Derived.WalkKit
import Derived.Lib.Hide
import Derived.WalkLawsBesides
import Derived.Deep.QuietTactic
import Derived.Deep.WholeRow
import Derived.ArgAppend
import Derived.Laws.AppendOwnNone
import Derived.Laws.CopyRow
import Derived.Deep.RegionLaw
import Derived.Laws.BytesString
import Derived.Laws.IdiomStrings
import Derived.Test.YtgjmbokfenpefaaGreatDoorProg
import Derived.StringKeys
import Derived.Maps.Own
import Derived.Maps.Views
import Derived.Maps.OwnSet
import Derived.Maps.OwnOps
import Derived.Maps.RangeWalk
import Derived.Sort.KeysCollected
import Derived.Laws.BitsAllLaws
import Derived.Outline
import Derived.BigQuiet
import Derived.Laws.CopyOwn
import Derived.RegionTactic
import Derived.StillTail
import Derived.Deep.Quiet
import Derived.Deep.RegionHeld3
import Derived.Deep.DeepCutAuto
import Derived.Laws.ResultCell
import Derived.IntWalk
import Derived.Sort.Walk0
import Derived.Tactics
import Derived.Orders
import Derived.LaidEql
import Derived.Stop.Asserts
import Derived.RowKitTokens
import Derived.OrdersHeld
import Derived.Sort.LotA
import Derived.Lib.SortBridge
import Derived.Deep.AppendSrc
import Derived.Test.YtgjmbokfenpefaaGreatDoorM1
import Derived.Test.YtgjmbokfenpefaaGreatDoorM2
import Derived.Test.YtgjmbokfenpefaaGreatDoorM3
import Derived.Test.YtgjmbokfenpefaaGreatDoorM4
import Derived.Test.YtgjmbokfenpefaaGreatDoorM5
import Derived.Test.YtgjmbokfenpefaaGreatDoorM6
import Derived.Test.YtgjmbokfenpefaaGreatDoorM7
namespace Go.Proofs.YtgjmbokfenpefaaGreatDoor
open Go.RowKit

noncomputable def kQ : MKind (Option Nat) := kP 113 120 Tryz.underlying113 (fun w => by kernel_rfl)
def paF (b : Nat) (pub : ByteArray) : Nat → Value := fun i => if i = 0 then .string pub else .map (some b)
/-- The program's auditor at block p: its map b, clients of footprints G. -/
structure PAuM (F : Nat → Prop) (w : World) (p : Nat) (a : Au) (b : Nat) (W : List (ByteArray × Option Nat)) (G : ByteArray → Nat → Prop) : Prop where
  own : Holds w p 2 (paF b a.pub) 115
  map : MapIs kQ w b W
  all : ∀ s, (look W s).isSome = (look a.who s).isSome
  cl : ∀ s c, look a.who s = some c → ∃ n, look W s = some (some n) ∧ PCl (G s) w n c
  inF : ∀ s k, (look a.who s).isSome = true → G s k → F k ∧ k ≠ p ∧ k ≠ b
  apart : ∀ s t k, s ≠ t → (look a.who s).isSome = true → (look a.who t).isSome = true → G s k → ¬ G t k
  fp : F p
  fb : F b
  pb : p ≠ b
  lt : ∀ k, F k → k < w.heap.size
def PAu (F : Nat → Prop) (w : World) (p : Nat) (a : Au) : Prop := ∃ b W G, PAuM F w p a b W G
theorem PCl.wide {F F' : Nat → Prop} {w : World} {p : Nat} {c : Cl} (h : PCl F w p c) (hF : ∀ k, F k → F' k) (hl : ∀ k, F' k → k < w.heap.size) : PCl F' w p c := by
  obtain ⟨v, h⟩ := h
  exact ⟨v, h.own, h.row, hF _ h.fp, fun k hk => hF _ (h.fv k hk), hl⟩
theorem PAuM.same {F : Nat → Prop} {w w' : World} {p : Nat} {a : Au} {b : Nat} {W : List (ByteArray × Option Nat)} {G : ByteArray → Nat → Prop} (h : PAuM F w p a b W G) (hs : Same F w w') : PAuM F w' p a b W G where
  own := by have := h.own; unfold Holds at this ⊢; rw [hs.block p h.fp]; exact this
  map := h.map.block (hs.block b h.fb)
  all := h.all
  cl s c hc := by
    obtain ⟨n, h1, h2⟩ := h.cl s c hc
    exact ⟨n, h1, h2.same (hs.mono fun k hk => (h.inF s k (by rw [hc]; rfl) hk).1)⟩
  inF := h.inF
  apart := h.apart
  fp := h.fp
  fb := h.fb
  pb := h.pb
  lt k hk := Nat.lt_of_lt_of_le (h.lt k hk) hs.size
theorem PAu.same {F : Nat → Prop} {w w' : World} {p : Nat} {a : Au} (h : PAu F w p a) (hs : Same F w w') : PAu F w' p a := by
  obtain ⟨b, W, G, h⟩ := h
  exact ⟨b, W, G, h.same hs⟩
theorem PAu.lt {F : Nat → Prop} {w : World} {p : Nat} {a : Au} (h : PAu F w p a) : ∀ k, F k → k < w.heap.size := by
  obtain ⟨b, W, G, h⟩ := h
  exact h.lt
theorem PAu.below {F : Nat → Prop} {w w' : World} {p : Nat} {a : Au} (h : PAu F w p a) (hb : Below w.heap.size w w') : PAu F w' p a := h.same (same_of_below hb h.lt)


/-- The program's footprints behind a name's being told. -/
def ptellG (G : ByteArray → Nat → Prop) (name : ByteArray) (H : Nat → Prop) : ByteArray → Nat → Prop := fun s k => (s = name ∧ H k) ∨ (s ≠ name ∧ G s k)
/-- Behind See, ahead of the map's store: all is as it was, but the client of that name. -/
theorem PAuM.seen {F : Nat → Prop} {w w0 : World} {p : Nat} {a : Au} {b : Nat} {W : List (ByteArray × Option Nat)} {G : ByteArray → Nat → Prop} {name : ByteArray} {q : Nat} {H : Nat → Prop} (hm : PAuM F w p a b W G)
    (hO : Off (fun k => (look a.who name).isSome = true ∧ G name k) w w0) (hH : ∀ k, H k → ((look a.who name).isSome = true ∧ G name k) ∨ w.heap.size ≤ k) (hc : PCl H w0 q (auCl a name)) (hq : ∀ c, look a.who name = some c → look W name = some (some q)) :
    PAuM (fun k => (F k ∨ w.heap.size ≤ k) ∧ k < w0.heap.size) w0 p a b W (ptellG G name H) := by
  have hp : w0.heap[p]? = w.heap[p]? := hO.block p (hm.lt p hm.fp) (fun h => (hm.inF name p h.1 h.2).2.1 rfl)
  have hb : w0.heap[b]? = w.heap[b]? := hO.block b (hm.lt b hm.fb) (fun h => (hm.inF name b h.1 h.2).2.2 rfl)
  have hsz := hO.size
  refine {
    own := by have := hm.own; unfold Holds at this ⊢; rw [hp]; exact this
    map := hm.map.block hb
    all := hm.all
    cl := fun s c hs => ?_
    inF := fun s k hs hk => ?_
    apart := fun s t k hst hs ht hk => ?_
    fp := ⟨.inl hm.fp, by have := hm.lt p hm.fp; omega⟩
    fb := ⟨.inl hm.fb, by have := hm.lt b hm.fb; omega⟩
    pb := hm.pb
    lt := fun k hk => hk.2 }
  · by_cases e : s = name
    · subst e
      refine ⟨q, hq c hs, ?_⟩
      have h1 : auCl a s = c := by unfold auCl; rw [hs]; rfl
      rw [h1] at hc
      exact hc.wide (fun k hk => .inl ⟨rfl, hk⟩) (fun k hk => by
        rcases hk with ⟨_, hk⟩ | ⟨h, _⟩
        · exact hc.lt k hk
        · exact absurd rfl h)
    · obtain ⟨n, h1, h2⟩ := hm.cl s c hs
      have h3 : PCl (G s) w0 n c := h2.same ⟨hsz, fun k hk => hO.block k (h2.lt k hk) (fun h => hm.apart s name k e (by rw [hs]; rfl) h.1 hk h.2)⟩
      exact ⟨n, h1, h3.wide (fun k hk => .inr ⟨e, hk⟩) (fun k hk => by
        rcases hk with ⟨h, _⟩ | ⟨_, hk⟩
        · exact absurd h e
        · exact h3.lt k hk)⟩
  · rcases hk with ⟨rfl, hk⟩ | ⟨_, hk⟩
    · have hl := hc.lt k hk
      rcases hH k hk with h | h
      · have h1 := hm.inF s k h.1 h.2
        exact ⟨⟨.inl h1.1, hl⟩, h1.2⟩
      · have l1 := hm.lt p hm.fp
        have l2 := hm.lt b hm.fb
        exact ⟨⟨.inr h, hl⟩, by omega, by omega⟩
    · have h1 := hm.inF s k hs hk
      have l1 := hm.lt k h1.1
      exact ⟨⟨.inl h1.1, by omega⟩, h1.2⟩
  · rcases hk with ⟨rfl, hk⟩ | ⟨e1, hk⟩
    · rintro (⟨rfl, _⟩ | ⟨e2, hk2⟩)
      · exact hst rfl
      · have h1 := hm.inF t k ht hk2
        have l1 := hm.lt k h1.1
        rcases hH k hk with h | h
        · exact hm.apart s t k hst h.1 ht h.2 hk2
        · omega
    · rintro (⟨rfl, hk2⟩ | ⟨e2, hk2⟩)
      · have h1 := hm.inF s k hs hk
        have l1 := hm.lt k h1.1
        rcases hH k hk2 with h | h
        · exact hm.apart s t k hst hs h.1 hk h.2
        · omega
      · exact hm.apart s t k hst hs ht hk hk2
/-- Behind the map's store. -/
theorem PAuM.told {F : Nat → Prop} {w w0 w1 : World} {p : Nat} {a : Au} {b : Nat} {W : List (ByteArray × Option Nat)} {G : ByteArray → Nat → Prop} {name : ByteArray} {q : Nat} {H : Nat → Prop} {c' : Cl} (hm : PAuM F w p a b W G)
    (hO : Off (fun k => (look a.who name).isSome = true ∧ G name k) w w0) (hH : ∀ k, H k → ((look a.who name).isSome = true ∧ G name k) ∨ w.heap.size ≤ k) (hc : PCl H w0 q c')
    (hmap : MapIs kQ w1 b (ups W name (some q))) (hg : w0.grownBy w1 (some b)) :
    PAuM (fun k => (F k ∨ w.heap.size ≤ k) ∧ k < w1.heap.size) w1 p { a with who := ups a.who name c' } b (ups W name (some q)) (ptellG G name H) := by
  have l1 := hm.lt p hm.fp
  have l2 := hm.lt b hm.fb
  have hsz := hO.size
  have hs2 := hg.size
  have hp : w1.heap[p]? = w.heap[p]? := (hg.block p (by omega) (fun e => hm.pb (Option.some.inj e))).trans (hO.block p l1 (fun h => (hm.inF name p h.1 h.2).2.1 rfl))
  have hHb : ∀ k, H k → k ≠ b ∧ k ≠ p := fun k hk => by
    rcases hH k hk with h | h
    · have := hm.inF name k h.1 h.2; exact ⟨this.2.2, this.2.1⟩
    · exact ⟨by omega, by omega⟩
  have hc1 : PCl H w1 q c' := hc.same ⟨hs2, fun k hk => hg.block k (hc.lt k hk) (fun e => (hHb k hk).1 (Option.some.inj e))⟩
  have hlk : ∀ s, s ≠ name → look (ups a.who name c') s = look a.who s := fun s e => look_ups_other _ _ _ _ e
  refine {
    own := by have := hm.own; unfold Holds at this ⊢; rw [hp]; exact this
    map := hmap
    all := fun s => ?_
    cl := fun s c hs => ?_
    inF := fun s k hs hk => ?_
    apart := fun s t k hst hs ht hk => ?_
    fp := ⟨.inl hm.fp, by omega⟩
    fb := ⟨.inl hm.fb, by omega⟩
    pb := hm.pb
    lt := fun k hk => hk.2 }
  · by_cases e : s = name
    · subst e
      show (look (ups W s (some q)) s).isSome = (look (ups a.who s c') s).isSome
      rw [look_ups_same, look_ups_same]; rfl
    · show (look (ups W name (some q)) s).isSome = (look (ups a.who name c') s).isSome
      rw [look_ups_other _ _ _ _ e, look_ups_other _ _ _ _ e]; exact hm.all s
  · replace hs : look (ups a.who name c') s = some c := hs
    by_cases e : s = name
    · subst e
      rw [look_ups_same] at hs
      obtain rfl := Option.some.inj hs
      refine ⟨q, look_ups_same _ _ _, hc1.wide (fun k hk => .inl ⟨rfl, hk⟩) (fun k hk => ?_)⟩
      rcases hk with ⟨_, hk⟩ | ⟨h, _⟩
      · exact hc1.lt k hk
      · exact absurd rfl h
    · rw [hlk s e] at hs
      obtain ⟨n, h1, h2⟩ := hm.cl s c hs
      have h3 : PCl (G s) w1 n c := h2.same ⟨by omega, fun k hk => by
        have h4 := hm.inF s k (by rw [hs]; rfl) hk
        have h5 := hm.lt k h4.1
        exact (hg.block k (by omega) (fun e' => h4.2.2 (Option.some.inj e'))).trans (hO.block k h5 (fun h => hm.apart s name k e (by rw [hs]; rfl) h.1 hk h.2))⟩
      refine ⟨n, by rw [look_ups_other _ _ _ _ e]; exact h1, h3.wide (fun k hk => .inr ⟨e, hk⟩) (fun k hk => ?_)⟩
      rcases hk with ⟨h, _⟩ | ⟨_, hk⟩
      · exact absurd h e
      · exact h3.lt k hk
  · replace hs : (look (ups a.who name c') s).isSome = true := hs
    rcases hk with ⟨rfl, hk⟩ | ⟨e, hk⟩
    · have hl := hc1.lt k hk
      have h2 := hHb k hk
      rcases hH k hk with h | h
      · exact ⟨⟨.inl (hm.inF s k h.1 h.2).1, hl⟩, h2.2, h2.1⟩
      · exact ⟨⟨.inr h, hl⟩, h2.2, h2.1⟩
    · rw [hlk s e] at hs
      have h1 := hm.inF s k hs hk
      have h3 := hm.lt k h1.1
      exact ⟨⟨.inl h1.1, by omega⟩, h1.2⟩
  · replace hs : (look (ups a.who name c') s).isSome = true := hs
    replace ht : (look (ups a.who name c') t).isSome = true := ht
    rcases hk with ⟨rfl, hk⟩ | ⟨e1, hk⟩
    · rintro (⟨rfl, _⟩ | ⟨e2, hk2⟩)
      · exact hst rfl
      · rw [hlk t e2] at ht
        have h1 := hm.inF t k ht hk2
        have h3 := hm.lt k h1.1
        rcases hH k hk with h | h
        · exact hm.apart s t k hst h.1 ht h.2 hk2
        · omega
    · rw [hlk s e1] at hs
      rintro (⟨rfl, hk2⟩ | ⟨e2, hk2⟩)
      · have h1 := hm.inF s k hs hk
        have h3 := hm.lt k h1.1
        rcases hH k hk2 with h | h
        · exact hm.apart s t k hst hs h.1 hk h.2
        · omega
      · rw [hlk t e2] at ht
        exact hm.apart s t k hst hs ht hk hk2
/-- Ahead of the map's store its own two blocks are as they were. -/
theorem PAuM.keep {F : Nat → Prop} {w w0 : World} {p : Nat} {a : Au} {b : Nat} {W : List (ByteArray × Option Nat)} {G : ByteArray → Nat → Prop} {name : ByteArray} (hm : PAuM F w p a b W G)
    (hO : Off (fun k => (look a.who name).isSome = true ∧ G name k) w w0) : Holds w0 p 2 (paF b a.pub) 115 ∧ MapIs kQ w0 b W := by
  have hp : w0.heap[p]? = w.heap[p]? := hO.block p (hm.lt p hm.fp) (fun h => (hm.inF name p h.1 h.2).2.1 rfl)
  have hb : w0.heap[b]? = w.heap[b]? := hO.block b (hm.lt b hm.fb) (fun h => (hm.inF name b h.1 h.2).2.2 rfl)
  exact ⟨by have := hm.own; unfold Holds at this ⊢; rw [hp]; exact this, hm.map.block hb⟩
theorem PAuM.len {F : Nat → Prop} {w : World} {p : Nat} {a : Au} {b : Nat} {W : List (ByteArray × Option Nat)} {G : ByteArray → Nat → Prop} (hm : PAuM F w p a b W G) (hk : (keysL a.who).Nodup) : W.length = a.who.length := by
  have h : (keysL W).Perm (keysL a.who) := (List.perm_ext_iff_of_nodup hm.map.keys hk).2 fun s => by rw [← look_isSome, ← look_isSome, hm.all s]
  have := h.length_eq
  unfold keysL at this
  rw [List.length_map, List.length_map] at this
  exact this
end Go.Proofs.YtgjmbokfenpefaaGreatDoor
