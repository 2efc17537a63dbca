/- Parts of the proof, one behind the other: MapK, MapK2, RIndex, RCommon, Com, Bits, Rot, Words. -/
import Derived.WalkKit
import Derived.Lib.Hide
import Derived.WalkLawsBesides
import Derived.Deep.QuietTactic
import Derived.Deep.WholeRow
import Derived.ArgAppend
import Derived.Laws.AppendOwnNone
import Derived.Laws.CopyRow
import Derived.Deep.RegionLaw
import Derived.Laws.BytesString
import Derived.Laws.IdiomStrings
import Derived.Test.YtgjmbokfenpefaaGreatDoorProg
import Derived.StringKeys
import Derived.Maps.Own
import Derived.Maps.Views
import Derived.Maps.OwnSet
import Derived.Maps.OwnOps
import Derived.Maps.RangeWalk
import Derived.Sort.KeysCollected
import Derived.Laws.BitsAllLaws
import Derived.Outline
import Derived.BigQuiet
import Derived.Laws.CopyOwn
import Derived.Test.YtgjmbokfenpefaaGreatDoorM1
/- Maps from texts, as lists of pairs: looked up, put into, counted, ranged over. -/
namespace Go.Proofs.YtgjmbokfenpefaaGreatDoor
open Go.RowKit Go.Maps

def mkey (s : ByteArray) : Lit := .string s.data.toList
theorem mkey_inj {s t : ByteArray} (h : mkey s = mkey t) : s = t := by
  unfold mkey at h
  injection h with h
  obtain ⟨⟨a⟩⟩ := s
  obtain ⟨⟨b⟩⟩ := t
  simpa using h
theorem mkey_key (s : ByteArray) : WideAt.IsKeyLit (mkey s) := trivial
theorem mkey_same (s t : ByteArray) : (mkey s).sameKey (mkey t) = decide (s = t) := by
  by_cases h : s = t
  · subst h; rw [decide_eq_true rfl]; simp [mkey, Lit.sameKey]
  · rw [decide_eq_false h]; exact sameKey_ne (fun e => h (mkey_inj e))

/-- How elements of one kind lie in a map. -/
structure MKind (α : Type) where
  M : TypeId
  E : TypeId
  wd : α → Value
  lt : α → Lit
  zero : α
  good : α → Prop
  und : Tryz.prog.underlying M = some (.map 9 E)
  R : Value → Option (DataW Unit × List MemPlace)
  put : ∀ x, good x → R (wd x) = some (.lit (lt x), [])
  inv : ∀ v y, R v = some y → ∃ x, v = wd x ∧ y = (.lit (lt x), []) ∧ good x
  inj : ∀ x y, lt x = lt y → x = y
  zer : ∀ w : World, (zeroValue E).run Tryz.prog w = .ok (wd zero) w
  zgood : good zero

section
variable {α : Type}
def look (L : List (ByteArray × α)) (s : ByteArray) : Option α := (L.find? fun p => decide (p.1 = s)).map (·.2)
def ups (L : List (ByteArray × α)) (s : ByteArray) (x : α) : List (ByteArray × α) := if (look L s).isSome then L.map (fun p => if p.1 = s then (s, x) else p) else L ++ [(s, x)]
def keysL (L : List (ByteArray × α)) : List ByteArray := L.map (·.1)
theorem look_nil (s : ByteArray) : look ([] : List (ByteArray × α)) s = none := rfl
theorem look_cons (p : ByteArray × α) (L : List (ByteArray × α)) (s : ByteArray) : look (p :: L) s = if p.1 = s then some p.2 else look L s := by
  unfold look
  by_cases h : p.1 = s
  · simp [h]
  · simp [h]
theorem look_append (L M : List (ByteArray × α)) (s : ByteArray) : look (L ++ M) s = (look L s).or (look M s) := by
  induction L with
  | nil => simp [look_nil]
  | cons p L ih => rw [List.cons_append, look_cons, look_cons, ih]; split <;> simp
theorem look_none {L : List (ByteArray × α)} {s : ByteArray} : look L s = none ↔ s ∉ keysL L := by
  induction L with
  | nil => simp [look_nil, keysL]
  | cons p L ih =>
    rw [look_cons]
    unfold keysL at ih ⊢
    by_cases h : p.1 = s
    · simp [h]
    · rw [if_neg h, ih]; simp [Ne.symm h]
theorem look_isSome {L : List (ByteArray × α)} {s : ByteArray} : (look L s).isSome = true ↔ s ∈ keysL L := by
  have := @look_none α L s
  cases e : look L s with
  | none => simp [this.1 e]
  | some x => simp only [Option.isSome_some, true_iff]; exact Classical.byContradiction fun h => by rw [this.2 h] at e; cases e
theorem look_mem {L : List (ByteArray × α)} {s : ByteArray} {x : α} (h : look L s = some x) : (s, x) ∈ L := by
  induction L with
  | nil => simp [look_nil] at h
  | cons p L ih =>
    rw [look_cons] at h
    by_cases e : p.1 = s
    · rw [if_pos e] at h; cases h; subst e; simp
    · rw [if_neg e] at h; exact List.mem_cons_of_mem _ (ih h)
theorem look_of_mem {L : List (ByteArray × α)} (hn : (keysL L).Nodup) {s : ByteArray} {x : α} (h : (s, x) ∈ L) : look L s = some x := by
  induction L with
  | nil => cases h
  | cons p L ih =>
    unfold keysL at hn ih
    rw [List.map_cons, List.nodup_cons] at hn
    rw [look_cons]
    rcases List.mem_cons.1 h with e | h
    · subst e; simp
    · rw [if_neg (fun e => hn.1 (by rw [e]; exact List.mem_map.2 ⟨_, h, rfl⟩))]; exact ih hn.2 h
theorem look_map_same (L : List (ByteArray × α)) (s : ByteArray) (x : α) (h : (look L s).isSome = true) : look (L.map fun p => if p.1 = s then (s, x) else p) s = some x := by
  induction L with
  | nil => simp [look_nil] at h
  | cons p L ih =>
    rw [List.map_cons, look_cons]
    by_cases e : p.1 = s
    · simp [e]
    · rw [look_cons, if_neg e] at h
      rw [if_neg (by rw [if_neg e]; exact e)]
      exact ih h
theorem look_map_other (L : List (ByteArray × α)) (s t : ByteArray) (x : α) (h : t ≠ s) : look (L.map fun p => if p.1 = s then (s, x) else p) t = look L t := by
  induction L with
  | nil => rfl
  | cons p L ih =>
    rw [List.map_cons, look_cons, look_cons, ih]
    by_cases e : p.1 = s
    · rw [if_pos e, if_neg (fun e' => h e'.symm), if_neg (fun e' => h (e'.symm.trans e))]
    · rw [if_neg e]
theorem look_ups_same (L : List (ByteArray × α)) (s : ByteArray) (x : α) : look (ups L s x) s = some x := by
  unfold ups
  split
  · rename_i h; exact look_map_same L s x h
  · rename_i h
    rw [look_append, show look L s = none from by simpa using h]
    simp [look_cons]
theorem look_ups_other (L : List (ByteArray × α)) (s t : ByteArray) (x : α) (h : t ≠ s) : look (ups L s x) t = look L t := by
  unfold ups
  split
  · exact look_map_other L s t x h
  · rw [look_append, look_cons, if_neg (fun e => h e.symm), look_nil]; simp
theorem ups_keys (L : List (ByteArray × α)) (s : ByteArray) (x : α) : keysL (ups L s x) = if (look L s).isSome then keysL L else keysL L ++ [s] := by
  unfold ups keysL
  split
  · rw [List.map_map]
    apply List.map_congr_left
    intro p _
    show (if p.1 = s then (s, x) else p).1 = p.1
    split
    · rename_i e; exact e.symm
    · rfl
  · simp
theorem ups_nodup {L : List (ByteArray × α)} (hn : (keysL L).Nodup) (s : ByteArray) (x : α) : (keysL (ups L s x)).Nodup := by
  rw [ups_keys]
  split
  · exact hn
  · rename_i h
    rw [List.nodup_append]
    refine ⟨hn, by simp, fun a ha b hb e => ?_⟩
    rw [List.mem_singleton] at hb
    subst hb; subst e
    exact h (look_isSome.2 ha)
theorem ups_length (L : List (ByteArray × α)) (s : ByteArray) (x : α) : (ups L s x).length = if (look L s).isSome then L.length else L.length + 1 := by
  unfold ups
  split <;> simp
theorem ups_short {L : List (ByteArray × α)} {n : Nat} (h : ∀ p ∈ L, p.1.size ≤ n) {s : ByteArray} (hs : s.size ≤ n) (x : α) : ∀ p ∈ ups L s x, p.1.size ≤ n := by
  intro p hp
  unfold ups at hp
  split at hp
  · obtain ⟨q, hq, rfl⟩ := List.mem_map.1 hp
    split
    · exact hs
    · exact h q hq
  · rcases List.mem_append.1 hp with hp | hp
    · exact h p hp
    · rw [List.mem_singleton] at hp; subst hp; exact hs

/-- What a map reads as says of each text what a list says. -/
structure Reads (K : MKind α) (D : DataW Unit) (L : List (ByteArray × α)) : Prop where
  size : Maps.size D = L.length
  has : ∀ s, Maps.has D (mkey s) = (look L s).isSome
  at' : ∀ s x, look L s = some x → ∀ z, D.atKey (mkey s) z = .lit (K.lt x)
theorem Reads.atZero {K : MKind α} {D : DataW Unit} {L : List (ByteArray × α)} (h : Reads K D L) (s : ByteArray) : D.atKey (mkey s) (.lit (K.lt K.zero)) = .lit (K.lt ((look L s).getD K.zero)) := by
  cases e : look L s with
  | none => rw [atKey_of_not_has (by rw [h.has, e]; rfl)]; rfl
  | some x => rw [h.at' s x e]; rfl
theorem Reads.ups {K : MKind α} {D : DataW Unit} {L : List (ByteArray × α)} (h : Reads K D L) (hD : Tidy D) (s : ByteArray) (x : α) : Reads K (D.put (mkey s) (.lit (K.lt x))) (ups L s x) := by
  refine ⟨?_, fun t => ?_, fun t y hy z => ?_⟩
  · rw [size_put hD, ups_length, h.has, h.size]
  · by_cases e : t = s
    · subst e; rw [has_put_same hD.isMap (mkey_key _), look_ups_same]; rfl
    · rw [has_put_other (fun e' => e (mkey_inj e')), look_ups_other _ _ _ _ e, h.has]
  · by_cases e : t = s
    · subst e; rw [look_ups_same] at hy; cases hy; exact atKey_put_same hD.isMap (mkey_key _) _ _
    · rw [look_ups_other _ _ _ _ e] at hy; rw [atKey_put_other (fun e' => e (mkey_inj e'))]; exact h.at' t y hy z

/-- Block b is a map that says of each text what L says. -/
structure MapIs (K : MKind α) (w : World) (b : Nat) (L : List (ByteArray × α)) : Prop where
  own : ∃ D : DataW Unit, w.ownsMap Tryz.prog 9 K.R b L.length D ∧ Reads K D L
  keys : (keysL L).Nodup
  short : ∀ p ∈ L, p.1.size ≤ 1000000
theorem lawS : Keyed Tryz.prog 9 := string_keyed Tryz.underlying9
theorem keyS {s : ByteArray} (hs : s.size ≤ 1000000) : keyOf Tryz.prog 9 (.string s) = some (mkey s) := WideMaps.keyOf_string_mk Tryz.underlying9 (s := s) (by unfold maxLen; omega)
theorem MapIs.made (K : MKind α) (w : World) : MapIs K (w.alloc (.map #[] 0)) w.heap.size [] :=
  ⟨⟨.map [], World.ownsMap_made w _ _ _, ⟨rfl, fun s => rfl, fun s x h => by simp [look_nil] at h⟩⟩, List.nodup_nil, fun p h => by cases h⟩
theorem MapIs.lt {K : MKind α} {w : World} {b : Nat} {L : List (ByteArray × α)} (h : MapIs K w b L) : b < w.heap.size := by
  obtain ⟨⟨_, h, _⟩, _, _⟩ := h
  exact h.lt
theorem MapIs.block {K : MKind α} {w w' : World} {b : Nat} {L : List (ByteArray × α)} (h : MapIs K w b L) (e : w'.heap[b]? = w.heap[b]?) : MapIs K w' b L := by
  obtain ⟨⟨D, ⟨es, clock, hb, F, hs, hD⟩, h2⟩, h3, h4⟩ := h
  exact ⟨⟨D, ⟨es, clock, e.trans hb, F, hs, hD⟩, h2⟩, h3, h4⟩
theorem MapIs.lookOk {K : MKind α} {w : World} {b : Nat} {L : List (ByteArray × α)} (h : MapIs K w b L) {s : ByteArray} (hs : s.size ≤ 1000000) :
    (Instr.lookup K.M (.map (some b)) (.string s) true).run Tryz.prog w = .ok (.tuple #[K.wd ((look L s).getD K.zero), .bool (look L s).isSome]) w := by
  obtain ⟨⟨D, hown, hr⟩, _, _⟩ := h
  obtain ⟨v, ps, hrun, hv⟩ := hown.look_ok lawS K.und (K.zer w) (K.put _ K.zgood) (keyS hs)
  obtain ⟨x, rfl, hx, _⟩ := K.inv _ _ hv
  rw [hr.atZero] at hx
  obtain rfl : (look L s).getD K.zero = x := K.inj _ _ (DataW.lit.inj (congrArg Prod.fst hx))
  rw [hrun, hr.has]
theorem MapIs.look1 {K : MKind α} {w : World} {b : Nat} {L : List (ByteArray × α)} (h : MapIs K w b L) {s : ByteArray} (hs : s.size ≤ 1000000) :
    (Instr.lookup K.M (.map (some b)) (.string s) false).run Tryz.prog w = .ok (K.wd ((look L s).getD K.zero)) w := by
  obtain ⟨⟨D, hown, hr⟩, _, _⟩ := h
  obtain ⟨v, ps, hrun, hv⟩ := hown.lookup lawS K.und (K.zer w) (K.put _ K.zgood) (keyS hs)
  obtain ⟨x, rfl, hx, _⟩ := K.inv _ _ hv
  rw [hr.atZero] at hx
  obtain rfl : (look L s).getD K.zero = x := K.inj _ _ (DataW.lit.inj (congrArg Prod.fst hx))
  rw [hrun]
theorem MapIs.len {K : MKind α} {w : World} {b : Nat} {L : List (ByteArray × α)} (h : MapIs K w b L) (ty : TypeId) : (Builtin.len_ #[K.M] ty #[.map (some b)]).run Tryz.prog w = .ok (.int .i64 L.length) w := by
  obtain ⟨⟨D, hown, hr⟩, _, _⟩ := h
  rw [hown.len K.und, hr.size]
theorem owns_tight {R : Value → Option (DataW Unit × List MemPlace)} {w : World} {b n : Nat} {D : DataW Unit} (h : w.ownsMap Tryz.prog 9 R b n D) : w.ownsMap Tryz.prog 9 R b (Maps.size D) D := by
  obtain ⟨es, clock, hb, F, hs, hD⟩ := h
  refine ⟨es, clock, hb, F, ?_, hD⟩
  rw [hD, size_eq, length_sorted]; simp
/-- 'm[s] = x', the operation by itself. -/
theorem MapIs.put {K : MKind α} {w : World} {b : Nat} {L : List (ByteArray × α)} (h : MapIs K w b L) (hL : L.length ≤ 1000000) {s : ByteArray} (hs : s.size ≤ 1000000) {y : α} (hy : K.good y) :
    ∃ w', (Instr.mapUpdate K.M (.map (some b)) (.string s) (K.wd y)).run Tryz.prog w = .ok () w' ∧ MapIs K w' b (ups L s y) ∧ w.grownBy w' (some b) := by
  obtain ⟨⟨D, hown, hr⟩, hk, hsh⟩ := h
  obtain ⟨w', hrun, h1, h2⟩ := hown.update lawS K.und (by unfold maxLen; omega) (keyS hs) (K.put y hy)
  have hr' := hr.ups (hown.tidy lawS) s y
  exact ⟨w', hrun, ⟨⟨_, by have := owns_tight h1; rwa [hr'.size] at this, hr'⟩, ups_nodup hk s y, ups_short hsh hs y⟩, h2⟩
/-- 'm[s] = x'. -/
theorem wpList_mapPut {ops : Array Oper} {rest : List Oper} {o : Oper} {a : Act} {w : World} {Q : Exit → Act → World → Prop} (K : MKind α) (hg : o.guard = none) (m x v : Operand) (hop : o.op = Op.mapUpdate K.M m x v)
    (b : Nat) (L : List (ByteArray × α)) (hm : a.eval m = .map (some b)) (h : MapIs K w b L) (hL : L.length ≤ 1000000) (s : ByteArray) (hs : s.size ≤ 1000000) (hx : a.eval x = .string s) (y : α) (hy : K.good y) (hv : a.eval v = K.wd y)
    (hK : ∀ w', Hid (MapIs K w' b (ups L s y)) → Hid (w.grownBy w' (some b)) → wpList Tryz.prog ops Q rest (a.put o.dst undef) w') : wpList Tryz.prog ops Q (o :: rest) a w := by
  obtain ⟨⟨D, hown, hr⟩, hk, hsh⟩ := h
  refine wpList_mapUpdate_own w hg m x v K.M hop 9 K.E lawS K.und _ b _ D hm hown (by unfold maxLen; omega) _ _ (mkey s) hx hv (keyS hs) _ _ (K.put y hy) ?_
  intro w' h1 h2
  have hr' := hr.ups (hown.tidy lawS) s y
  exact hK w' (Lib.hid ⟨⟨_, by have := owns_tight h1; rwa [hr'.size] at this, hr'⟩, ups_nodup hk s y, ups_short hsh hs y⟩) (Lib.hid h2)

/-- 'for s, x := range m' under way: those of S have come. -/
structure Rng (K : MKind α) (w : World) (b r : Nat) (L : List (ByteArray × α)) (S : List ByteArray) (cnt : Nat) : Prop where
  own : ∃ (D : DataW Unit) (left : Lit → Bool), w.ranges Tryz.prog 9 K.R b r L.length D left cnt ∧ Reads K D L ∧ ∀ s, left (mkey s) = true ↔ (look L s).isSome = true ∧ s ∉ S
  keys : (keysL L).Nodup
  short : ∀ p ∈ L, p.1.size ≤ 1000000
  came : S.Nodup ∧ ∀ s ∈ S, (look L s).isSome = true
  room : S.length + cnt ≤ L.length
theorem Rng.left_eq {K : MKind α} {w : World} {b r : Nat} {L : List (ByteArray × α)} {S : List ByteArray} {cnt : Nat} (h : Rng K w b r L S cnt) : w.rangeLeft b r = cnt := by
  obtain ⟨⟨D, left, hr, _⟩, _⟩ := h
  exact hr.left_eq
theorem Rng.ne {K : MKind α} {w : World} {b r : Nat} {L : List (ByteArray × α)} {S : List ByteArray} {cnt : Nat} (h : Rng K w b r L S cnt) : r ≠ b := by
  obtain ⟨⟨D, left, hr, _⟩, _⟩ := h
  exact hr.ne
theorem Rng.lt {K : MKind α} {w : World} {b r : Nat} {L : List (ByteArray × α)} {S : List ByteArray} {cnt : Nat} (h : Rng K w b r L S cnt) : r < w.heap.size := by
  obtain ⟨⟨D, left, hr, _⟩, _⟩ := h
  exact hr.lt
theorem Rng.map {K : MKind α} {w : World} {b r : Nat} {L : List (ByteArray × α)} {S : List ByteArray} {cnt : Nat} (h : Rng K w b r L S cnt) : MapIs K w b L := by
  obtain ⟨⟨D, left, hr, hR, _⟩, hk, hs, _⟩ := h
  exact ⟨⟨D, hr.owns, hR⟩, hk, hs⟩
theorem Rng.block {K : MKind α} {w w' : World} {b r : Nat} {L : List (ByteArray × α)} {S : List ByteArray} {cnt : Nat} (h : Rng K w b r L S cnt) (e : w'.heap[b]? = w.heap[b]?) (e' : w'.heap[r]? = w.heap[r]?) : Rng K w' b r L S cnt := by
  obtain ⟨⟨D, left, ⟨es, clock, since, seen, c0, hb, F, hs, hD, hr, r1⟩, hR⟩, hk, hsh, hc, hm⟩ := h
  exact ⟨⟨D, left, ⟨es, clock, since, seen, c0, e.trans hb, F, hs, hD, e'.trans hr, r1⟩, hR⟩, hk, hsh, hc, hm⟩
/-- 'range m'. -/
theorem wpList_mapRange {ops : Array Oper} {rest : List Oper} {o : Oper} {a : Act} {w : World} {Q : Exit → Act → World → Prop} (K : MKind α) (hg : o.guard = none) (m : Operand) (hop : o.op = Op.range K.M m)
    (b : Nat) (L : List (ByteArray × α)) (hm : a.eval m = .map (some b)) (h : MapIs K w b L)
    (hK : ∀ w', Hid (Rng K w' b w.heap.size L [] L.length) → Hid (w.grownBy w' none) → Hid (w'.heap.size = w.heap.size + 1) → wpList Tryz.prog ops Q rest (a.put o.dst (.pointer (some ⟨w.heap.size, 0, none⟩))) w') : wpList Tryz.prog ops Q (o :: rest) a w := by
  obtain ⟨⟨D, hown, hr⟩, hk, hsh⟩ := h
  refine wpList_range_own w hg m K.M hop 9 K.E lawS K.und _ b _ D hm hown ?_
  intro w' h1 h2 h3
  rw [hr.size] at h1
  exact hK w' (Lib.hid ⟨⟨D, _, h1, hr, fun s => by rw [hr.has]; simp⟩, hk, hsh, ⟨List.nodup_nil, fun s h => by cases h⟩, by simp⟩) (Lib.hid h2) (Lib.hid h3)
/-- The next one: none is left, or one comes that has not come. -/
theorem wpList_mapNext {ops : Array Oper} {rest : List Oper} {o : Oper} {a : Act} {w : World} {Q : Exit → Act → World → Prop} (K : MKind α) (hg : o.guard = none) (it : Operand) (hop : o.op = Op.next it false)
    (b r : Nat) (L : List (ByteArray × α)) (S : List ByteArray) (cnt : Nat) (hit : a.eval it = .pointer (some ⟨r, 0, none⟩)) (h : Rng K w b r L S cnt)
    (hDone : S.Perm (keysL L) → wpList Tryz.prog ops Q rest (a.put o.dst (.tuple #[.bool false])) w)
    (hMore : ∀ (s : ByteArray) (x : α) (w' : World) (cnt' : Nat), look L s = some x → s ∉ S → K.good x → Hid (Rng K w' b r L (S ++ [s]) cnt') → Hid (cnt' < cnt) → Hid (w.grownBy w' (some r)) → Hid (w'.heap.size = w.heap.size) →
      (Instr.entry (.pointer (some ⟨r, 0, none⟩))).run Tryz.prog w' = .ok (.tuple #[.string s, K.wd x]) w' → wpList Tryz.prog ops Q rest (a.put o.dst (.tuple #[.bool true, .string s, K.wd x])) w') : wpList Tryz.prog ops Q (o :: rest) a w := by
  obtain ⟨⟨D, left, hrg, hR, hleft⟩, hk, hsh, ⟨hnd, hin⟩, hroom⟩ := h
  refine wpList_next_ranges w hg it hop 9 lawS K.R Value.string K.wd (fun key kl hkey => by obtain ⟨x, hx, _⟩ := Maps.keyOf_str Tryz.underlying9 hkey; exact ⟨_, hx⟩)
    (fun v y hv => by obtain ⟨x, hx, _⟩ := K.inv v y hv; exact ⟨x, hx⟩) b r _ D left cnt hit hrg ?_ ?_
  · intro _ h0
    refine hDone ((List.perm_ext_iff_of_nodup hnd hk).2 fun s => ⟨fun hs => look_isSome.1 (hin s hs), fun hs => ?_⟩)
    refine Classical.byContradiction fun hn => ?_
    have := (hleft s).2 ⟨look_isSome.2 hs, hn⟩
    rw [h0] at this
    cases this
  · intro s x kl y w' cnt' hkey hlk hv hat hrg' hlt hg2 hs2 hen
    obtain ⟨l, hl, rfl, hsz⟩ := Maps.keyOf_str Tryz.underlying9 hkey
    obtain rfl : s = ⟨l.toArray⟩ := by simpa [encStr] using hl
    have ek : (.string l : Lit) = mkey ⟨l.toArray⟩ := by simp [mkey]
    rw [ek] at hlk hat
    obtain ⟨h1, hns⟩ := (hleft _).1 hlk
    obtain ⟨x0, hx0⟩ := Option.isSome_iff_exists.1 h1
    obtain ⟨x', e1, e2, hgd⟩ := K.inv _ _ hv
    have h4 := hR.at' _ x0 hx0 (.lit (K.lt K.zero))
    rw [hat, e2] at h4
    have h5 : x' = x0 := K.inj _ _ (DataW.lit.inj h4)
    subst h5
    rw [e1] at hen ⊢
    refine hMore _ x' w' cnt' hx0 hns hgd (Lib.hid ⟨⟨D, _, hrg', hR, fun t => ?_⟩, hk, hsh, ⟨?_, ?_⟩, by rw [List.length_append, List.length_singleton]; omega⟩) (Lib.hid hlt) (Lib.hid hg2) (Lib.hid hs2) hen
    · rw [ek, mkey_same, Bool.and_eq_true, hleft]
      simp [and_assoc]
    · rw [List.nodup_append]
      exact ⟨hnd, by simp, fun a ha b hb e => by rw [List.mem_singleton] at hb; subst hb; subst e; exact hns ha⟩
    · intro t ht
      rcases List.mem_append.1 ht with ht | ht
      · exact hin t ht
      · rw [List.mem_singleton] at ht; subst ht; rw [hx0]; rfl
end
end Go.Proofs.YtgjmbokfenpefaaGreatDoor
/- Maps from texts to texts, to numbers, to bools. -/
namespace Go.Proofs.YtgjmbokfenpefaaGreatDoor
open Go.RowKit Go.Maps

set_option maxRecDepth 100000 in
theorem elemS_inv {v : Value} {z : DataW Unit × List MemPlace} (h : plainElem Tryz.prog 9 v = some z) : ∃ s : ByteArray, v = .string s ∧ z = (.lit (mkey s), []) ∧ s.size ≤ maxLen := by
  unfold plainElem at h
  rw [Tryz.underlying9] at h
  cases v with
  | string s =>
    simp only at h
    split at h
    · rename_i hs
      exact ⟨s, rfl, (Option.some.inj h).symm, hs⟩
    · cases h
  | _ => simp at h
/-- Texts as elements: those that can be. -/
noncomputable def kS : MKind ByteArray where
  M := 36
  E := 9
  wd := .string
  lt := mkey
  zero := ⟨#[]⟩
  good s := s.size ≤ maxLen
  und := Tryz.underlying36
  R := plainElem Tryz.prog 9
  put _ hx := plainElem_string Tryz.underlying9 hx
  inv _ _ h := elemS_inv h
  inj _ _ h := mkey_inj h
  zer w := Tryz.zeroValue9 w
  zgood := Nat.zero_le _
/-- Numbers as elements. -/
noncomputable def kI : MKind Int where
  M := 37
  E := 3
  wd := .int .i64
  lt := .int .i64
  zero := 0
  good x := (Lit.int .i64 x).wf = true
  und := Tryz.underlying37
  R := plainElem Tryz.prog 3
  put _ hx := plainElem_int Tryz.underlying3 hx
  inv v y h := by
    obtain ⟨a, rfl, rfl, hw⟩ := plainElem_int_inv Tryz.underlying3 h
    exact ⟨a, rfl, rfl, hw⟩
  inj _ _ h := by injection h
  zer w := Tryz.zeroValue3 w
  zgood := by decide
section
variable {α : Type}
/-- Lists that say the same of each text. -/
def SameSay (L M : List (ByteArray × α)) : Prop := ∀ s, look L s = look M s
theorem SameSay.keys {L M : List (ByteArray × α)} (h : SameSay L M) (hL : (keysL L).Nodup) (hM : (keysL M).Nodup) : (keysL L).Perm (keysL M) :=
  (List.perm_ext_iff_of_nodup hL hM).2 fun s => by rw [← look_isSome, ← look_isSome, h s]
theorem SameSay.perm {L M : List (ByteArray × α)} (h : SameSay L M) (hL : (keysL L).Nodup) (hM : (keysL M).Nodup) : L.Perm M := by
  have nd : ∀ {L : List (ByteArray × α)}, (keysL L).Nodup → L.Nodup := fun {L} h => by
    unfold keysL at h
    exact List.Pairwise.of_map _ (fun a b hab e => hab (by rw [e])) h
  refine (List.perm_ext_iff_of_nodup (nd hL) (nd hM)).2 fun p => ?_
  obtain ⟨s, x⟩ := p
  exact ⟨fun hp => look_mem (by rw [← h]; exact look_of_mem hL hp), fun hp => look_mem (by rw [h]; exact look_of_mem hM hp)⟩
theorem SameSay.map {K : MKind α} {w : World} {b : Nat} {L M : List (ByteArray × α)} (h : SameSay L M) (hM : (keysL M).Nodup) (m : MapIs K w b L) : MapIs K w b M := by
  have hp := h.perm m.keys hM
  obtain ⟨⟨D, hown, hr⟩, hk, hs⟩ := m
  refine ⟨⟨D, by rw [← hp.length_eq]; exact hown, ⟨by rw [hr.size, hp.length_eq], fun s => by rw [hr.has, h s], fun s x hx => hr.at' s x (by rw [h s]; exact hx)⟩⟩, hM, fun p hq => hs p (hp.mem_iff.2 hq)⟩
/-- All of a list put in, one behind the other. -/
def upsAll (L P : List (ByteArray × α)) : List (ByteArray × α) := P.foldl (fun A p => ups A p.1 p.2) L
theorem upsAll_nodup {L : List (ByteArray × α)} (h : (keysL L).Nodup) : ∀ P : List (ByteArray × α), (keysL (upsAll L P)).Nodup := fun P => by
  induction P generalizing L with
  | nil => exact h
  | cons p P ih => exact ih (ups_nodup h p.1 p.2)
theorem upsAll_look (L P : List (ByteArray × α)) (hP : (keysL P).Nodup) (s : ByteArray) : look (upsAll L P) s = (look P s).or (look L s) := by
  induction P generalizing L with
  | nil => simp [upsAll, look_nil]
  | cons p P ih =>
    have h2 := List.nodup_cons.1 (show (p.1 :: keysL P).Nodup from hP)
    rw [show upsAll L (p :: P) = upsAll (ups L p.1 p.2) P from rfl, ih _ h2.2, look_cons]
    by_cases e : p.1 = s
    · subst e
      rw [look_none.2 h2.1, look_ups_same]; simp
    · rw [if_neg e, look_ups_other _ _ _ _ (fun e' => e e'.symm)]
end
end Go.Proofs.YtgjmbokfenpefaaGreatDoor
/- The document's names and indexes: in, mark, at, Name, Bit, Common. -/
namespace Go.Proofs.YtgjmbokfenpefaaGreatDoor
open Go.RowKit

/-- Bit k of a byte: halved 7 - k % 8 times. -/
def bitOf (l : List UInt8) (k : Nat) : Nat := (l.getD (k / 8) 0).toNat / 2 ^ (7 - k % 8) % 2
/-- What a letter of a name may be at a place. -/
def goodAt (l : List UInt8) (i : Nat) : Bool :=
  let c := (l.getD i 0).toNat
  decide (97 ≤ c ∧ c ≤ 122) || (decide (i ≠ 0) && decide (48 ≤ c ∧ c ≤ 57))
def goodUpto (l : List UInt8) (k : Nat) : Bool := (List.range k).all (goodAt l)
def nameOk (l : List UInt8) : Bool := goodUpto l l.length && decide (1 ≤ l.length ∧ l.length ≤ 12)
theorem goodUpto_next (l : List UInt8) (k : Nat) : goodUpto l (k + 1) = (goodUpto l k && goodAt l k) := by unfold goodUpto; simp [List.range_succ]
theorem goodUpto_false {l : List UInt8} {k n : Nat} (h : goodAt l k = false) (hk : k < n) : goodUpto l n = false := by
  unfold goodUpto
  rw [List.all_eq_false]
  exact ⟨k, List.mem_range.2 hk, by simp [h]⟩
end Go.Proofs.YtgjmbokfenpefaaGreatDoor
/- The document's Common. -/
namespace Go.Proofs.YtgjmbokfenpefaaGreatDoor
open Go.RowKit

def commonFrom (A B : List UInt8) : Nat → Nat → Nat
  | 0, n => n
  | f + 1, n => if bitOf A n = bitOf B n then commonFrom A B f (n + 1) else n
def commonOf (A B : List UInt8) : Nat := commonFrom A B 128 0
end Go.Proofs.YtgjmbokfenpefaaGreatDoor
/- How far two indexes are alike: plain facts of commonOf. -/
namespace Go.Proofs.YtgjmbokfenpefaaGreatDoor

theorem bitOf_lt (l : List UInt8) (k : Nat) : bitOf l k < 2 := by unfold bitOf; exact Nat.mod_lt _ (by decide)
theorem commonFrom_le (A B : List UInt8) : ∀ f n, commonFrom A B f n ≤ n + f
  | 0, n => Nat.le_refl _
  | f + 1, n => by
    unfold commonFrom
    split
    · have := commonFrom_le A B f (n + 1); omega
    · omega
theorem commonFrom_same (A B : List UInt8) : ∀ f n k, n ≤ k → k < commonFrom A B f n → bitOf A k = bitOf B k
  | 0, n, k, h1, h2 => by unfold commonFrom at h2; omega
  | f + 1, n, k, h1, h2 => by
    unfold commonFrom at h2
    split at h2
    · rename_i h
      by_cases e : k = n
      · rw [e]; exact h
      · exact commonFrom_same A B f (n + 1) k (by omega) h2
    · omega
theorem commonFrom_other (A B : List UInt8) : ∀ f n, commonFrom A B f n < n + f → bitOf A (commonFrom A B f n) ≠ bitOf B (commonFrom A B f n)
  | 0, n, h => by unfold commonFrom at h; omega
  | f + 1, n, h => by
    by_cases e : bitOf A n = bitOf B n
    · have e1 : commonFrom A B (f + 1) n = commonFrom A B f (n + 1) := by rw [commonFrom, if_pos e]
      rw [e1] at h ⊢
      exact commonFrom_other A B f (n + 1) (by omega)
    · have e1 : commonFrom A B (f + 1) n = n := by rw [commonFrom, if_neg e]
      rw [e1]; exact e
theorem commonOf_le (A B : List UInt8) : commonOf A B ≤ 128 := by have := commonFrom_le A B 128 0; unfold commonOf; omega
theorem commonOf_same (A B : List UInt8) (k : Nat) (h : k < commonOf A B) : bitOf A k = bitOf B k := commonFrom_same A B 128 0 k (Nat.zero_le _) h
theorem commonOf_other (A B : List UInt8) (h : commonOf A B < 128) : bitOf A (commonOf A B) ≠ bitOf B (commonOf A B) := commonFrom_other A B 128 0 (by unfold commonOf at h; omega)
/-- Just so many, and no other number. -/
theorem commonOf_is (A B : List UInt8) (n : Nat) (hn : n ≤ 128) (h : ∀ k, k < n → bitOf A k = bitOf B k) (ho : n < 128 → bitOf A n ≠ bitOf B n) : commonOf A B = n := by
  rcases Nat.lt_trichotomy (commonOf A B) n with hl | he | hg
  · exact absurd (h _ hl) (commonOf_other A B (by omega))
  · exact he
  · exact absurd (commonOf_same A B n hg) (ho (by have := commonOf_le A B; omega))
theorem commonOf_ge (A B : List UInt8) (n : Nat) (hn : n ≤ 128) (h : ∀ k, k < n → bitOf A k = bitOf B k) : n ≤ commonOf A B := by
  rcases Nat.lt_or_ge (commonOf A B) n with hl | hg
  · exact absurd (h _ hl) (commonOf_other A B (by omega))
  · exact hg
theorem byte_of_bits (x y : Nat) (hx : x < 256) (hy : y < 256) (h : ∀ j, j < 8 → x / 2 ^ (7 - j) % 2 = y / 2 ^ (7 - j) % 2) : x = y := by
  have h0 := h 0 (by omega); have h1 := h 1 (by omega); have h2 := h 2 (by omega); have h3 := h 3 (by omega)
  have h4 := h 4 (by omega); have h5 := h 5 (by omega); have h6 := h 6 (by omega); have h7 := h 7 (by omega)
  simp at h0 h1 h2 h3 h4 h5 h6 h7
  omega
theorem commonOf_all (A B : List UInt8) (ha : A.length = 16) (hb : B.length = 16) : commonOf A B = 128 ↔ A = B := by
  constructor
  · intro h
    apply List.ext_getElem (by omega)
    intro i hi hi'
    apply UInt8.toNat_inj.1
    refine byte_of_bits _ _ (UInt8.toNat_lt _) (UInt8.toNat_lt _) (fun j hj => ?_)
    have e := commonOf_same A B (8 * i + j) (by omega)
    unfold bitOf at e
    rw [show (8 * i + j) / 8 = i by omega, show (8 * i + j) % 8 = j by omega] at e
    simpa [List.getD_eq_getElem?_getD, hi, hi'] using e
  · rintro rfl
    exact commonOf_is A A 128 (Nat.le_refl _) (fun _ _ => rfl) (fun h => by omega)
end Go.Proofs.YtgjmbokfenpefaaGreatDoor
/- Plain words of 32 bits as the walk shows them. No program is imported. -/
namespace Go.Proofs.YtgjmbokfenpefaaGreatDoor
open Go.RowKit

/-- A word as a number of the model. -/
def W32 (x : BitVec 32) : Int := (x.toNat : Int)
theorem w_add (a b : BitVec 32) : (W32 a + W32 b) % 4294967296 = W32 (a + b) := by
  unfold W32; rw [BitVec.toNat_add]; omega
theorem w_xor (a b : BitVec 32) : bits BinOp.xor IntKind.u32 (W32 a) (W32 b) = W32 (a ^^^ b) := by
  unfold W32; rw [u32_xor_nat _ _ a.isLt b.isLt, BitVec.toNat_xor]
theorem w_and (a b : BitVec 32) : bits BinOp.and IntKind.u32 (W32 a) (W32 b) = W32 (a &&& b) := by
  unfold W32; rw [u32_and_nat _ _ a.isLt b.isLt, BitVec.toNat_and]
theorem w_or (a b : BitVec 32) : bits BinOp.or IntKind.u32 (W32 a) (W32 b) = W32 (a ||| b) := by
  unfold W32; rw [u32_or_nat _ _ a.isLt b.isLt, BitVec.toNat_or]
theorem w_andNot (a b : BitVec 32) : bits BinOp.andNot IntKind.u32 (W32 a) (W32 b) = W32 (a &&& ~~~b) := by
  unfold W32; rw [u32_andNot_nat _ _ a.isLt b.isLt, BitVec.toNat_and, BitVec.toNat_not]
theorem w_shl (a : BitVec 32) (n : Nat) : (W32 a * 2 ^ n) % 4294967296 = W32 (a <<< n) := by
  unfold W32; rw [BitVec.toNat_shiftLeft, Nat.shiftLeft_eq]; simp [Int.natCast_emod]
theorem w_shr (a : BitVec 32) (n : Nat) : W32 a / 2 ^ n = W32 (a >>> n) := by
  unfold W32; rw [BitVec.toNat_ushiftRight, Nat.shiftRight_eq_div_pow]; simp

theorem w_shr3 (a : BitVec 32) : W32 a / (8 : Int) = W32 (a >>> 3) := w_shr a 3
theorem w_shr10 (a : BitVec 32) : W32 a / (1024 : Int) = W32 (a >>> 10) := w_shr a 10
theorem w_sum3 (a b c : BitVec 32) : (W32 a + W32 b + W32 c) % (4294967296 : Int) = W32 (a + b + c) := by
  rw [← w_add, ← w_add]; omega
theorem w_sum4 (a b c d : BitVec 32) : (W32 a + W32 b + W32 c + W32 d) % (4294967296 : Int) = W32 (a + b + c + d) := by
  rw [← w_add, ← w_sum3]; omega
theorem w_t1 (a b c d e : BitVec 32) : (W32 a + W32 b + (W32 c + W32 d + W32 e)) % (4294967296 : Int) = W32 ((a + b) + ((c + d) + e)) := by
  rw [← w_add (a + b), ← w_sum3 c, ← w_add a]; omega
/-- A rotation, as both texts mean it: by n to the right. -/
def ror (x : BitVec 32) (n : Nat) : BitVec 32 := (x >>> n) ||| (x <<< (32 - n))
theorem ror_or (x : BitVec 32) (n m : Nat) (h : n + m = 32) : (x <<< m) ||| (x >>> n) = ror x n := by
  unfold ror; rw [show 32 - n = m from by omega, BitVec.or_comm]
def ch (e f g : BitVec 32) : BitVec 32 := (e &&& f) ^^^ (g &&& ~~~e)
def maj (a b c : BitVec 32) : BitVec 32 := ((a &&& b) ^^^ (a &&& c)) ^^^ (b &&& c)
def S0 (x : BitVec 32) : BitVec 32 := (ror x 2 ^^^ ror x 13) ^^^ ror x 22
def S1 (x : BitVec 32) : BitVec 32 := (ror x 6 ^^^ ror x 11) ^^^ ror x 25
def s0 (x : BitVec 32) : BitVec 32 := (ror x 7 ^^^ ror x 18) ^^^ (x >>> 3)
def s1 (x : BitVec 32) : BitVec 32 := (ror x 17 ^^^ ror x 19) ^^^ (x >>> 10)
end Go.Proofs.YtgjmbokfenpefaaGreatDoor
/- The program's words: rotations, and the bytes of a number. -/
namespace Go.Proofs.YtgjmbokfenpefaaGreatDoor
open Go.RowKit

theorem rot_bits_all : ∀ n : Fin 32, 0 < n.val → bits BinOp.and IntKind.u64 (IntKind.u64.wrap (-(n.val : Int))) 31 = ((32 - n.val : Nat) : Int) := by decide
theorem rot_core (x : BitVec 32) (k : Int) (m : Nat) (hk : bits BinOp.and IntKind.u64 (IntKind.u64.wrap k) 31 = (m : Int)) (h0 : 0 < m) (h1 : m < 32) (w : World) :
    Calls Tryz.prog 240 #[.int .u32 (W32 x), .int .i64 k] w fun e w' => e = .returned (.int .u32 (W32 (ror x (32 - m)))) ∧ w = w' := by
  have fin : bits BinOp.or IntKind.u32 (W32 x * 2 ^ m % 4294967296) (W32 x / 2 ^ (32 - m)) = W32 (ror x (32 - m)) := by
    rw [w_shl, w_shr, w_or, ror_or _ _ _ (by omega)]
  have F := Lib.hid fin; clear fin
  go_enter Tryz.func240, Tryz.ntmps240
  go_wp2
  go_ret
  refine ⟨?_, rfl⟩
  rw [← F.out]
  rfl
/-- bits.RotateLeft32 by -k, 0 < k < 32. -/
theorem rot_any (x : BitVec 32) (k : Int) (h0 : -32 < k) (h1 : k < 0) (w : World) :
    Calls Tryz.prog 240 #[.int .u32 (W32 x), .int .i64 k] w fun e w' => e = .returned (.int .u32 (W32 (ror x (-k).toNat))) ∧ w = w' := by
  have e := rot_bits_all ⟨(-k).toNat, by omega⟩ (by show 0 < (-k).toNat; omega)
  simp only at e
  rw [show (-(((-k).toNat : Nat) : Int)) = k from by omega] at e
  have h := rot_core x k (32 - (-k).toNat) e (by omega) (by omega) w
  rwa [show 32 - (32 - (-k).toNat) = (-k).toNat from by omega] at h

end Go.Proofs.YtgjmbokfenpefaaGreatDoor
/- (*running).words: the sixteen words of a block, and those made of them. -/
namespace Go.Proofs.YtgjmbokfenpefaaGreatDoor
open Go.RowKit

def V32 (x : BitVec 32) : Value := .int .u32 (W32 x)
/-- The first j bytes of word k of a block. -/
def wordOf (blk : Nat → Nat) (k : Nat) : Nat → BitVec 32
  | 0 => 0
  | j + 1 => (wordOf blk k j <<< 8) ||| BitVec.ofNat 32 (blk (4 * k + j))
def wfill (blk : Nat → Nat) (k j : Nat) : Nat → BitVec 32 := fun i => if i < k then wordOf blk i 4 else if i = k then wordOf blk k j else 0

theorem w_nat (n : Nat) : (n : Int) % (4294967296 : Int) = W32 (BitVec.ofNat 32 n) := by unfold W32; rw [BitVec.toNat_ofNat]; omega
theorem w_shl8 (x : BitVec 32) : W32 x * (256 : Int) % (4294967296 : Int) = W32 (x <<< 8) := by rw [← w_shl]; rfl
theorem wfill_step (blk : Nat → Nat) (k j : Nat) : upd (wfill blk k j) k (wordOf blk k (j + 1)) = wfill blk k (j + 1) := by
  funext i; unfold upd wfill
  by_cases h : i = k
  · simp [h]
  · simp [h]
theorem wfill_next (blk : Nat → Nat) (k : Nat) : wfill blk k 4 = wfill blk (k + 1) 0 := by
  funext i; unfold wfill
  by_cases h : i < k
  · rw [if_pos h, if_pos (by omega)]
  · by_cases h2 : i = k
    · subst h2; simp
    · rw [if_neg h, if_neg h2, if_neg (by omega)]; simp [wordOf]
theorem wfill_self (blk : Nat → Nat) (k j : Nat) : wfill blk k j k = wordOf blk k j := by simp [wfill]
/-- The words behind n of those that are made. -/
def wext (blk : Nat → Nat) : Nat → Nat → BitVec 32
  | 0 => wfill blk 16 0
  | n + 1 => upd (wext blk n) (n + 16) (((wext blk n n + s0 (wext blk n (n + 1))) + wext blk n (n + 9)) + s1 (wext blk n (n + 14)))

structure WRel (N : Nat) (w wr : World) (g : Nat → BitVec 32) : Prop where
  below : Below N w wr
  size : wr.heap.size = N + 2
  res : Holds wr N 64 (fun _ => .int .u32 0) 95
  own : Holds wr (N + 1) 64 (fun i => V32 (g i)) 95
theorem WRel.store {N : Nat} {w wr : World} {g : Nat → BitVec 32} (h : WRel N w wr g) (k : Nat) (x : BitVec 32) : WRel N w (wr.setCell ⟨N + 1, k, none⟩ (.int .u32 (W32 x))) (upd g k x) :=
  ⟨h.below.setCell (by show N ≤ N + 1; omega) _, by simp [World.setCell]; exact h.size, h.res.other (by show N ≠ N + 1; omega) _, (h.own.set k _).congr fun i _ => by unfold upd; split <;> rfl⟩
theorem WRel.drew {N : Nat} {w wr : World} {g : Nat → BitVec 32} (h : WRel N w wr g) : WRel N w wr.drew g := ⟨h.below.drew, h.size, h.res, h.own⟩

theorem size1 (w : World) : (Go.sizeOf 5).run Tryz.prog w = .ok 1 w := by kernel_rfl
theorem words_any (B : Nat) (blk : Nat → Nat) (w : World) (hB : B < w.heap.size)
    (hblk : ∀ i, i < 64 → w.cell? ⟨B, 8 + i, none⟩ = some (.int .u8 (blk i : Int))) :
    Calls Tryz.prog 239 #[.pointer (some ⟨B, 0, none⟩)] w fun e w' => e = .returned (.agg (arr 64 fun i => V32 (wext blk 48 i))) ∧ Below w.heap.size w w' := by
  have H := Lib.hid hblk; clear hblk
  go_enter Tryz.func239, Tryz.ntmps239
  go_wp2
  go_loopw [10] (fun i wr => ∃ k : Nat, k ≤ 16 ∧ i = .int .i64 k ∧ WRel w.heap.size w wr (wfill blk k 0)) (fun i _ => 16 - (intOf i).toNat)
  case atStart =>
    refine ⟨0, by omega, rfl, ⟨(((Below.refl _ _).alloc (Nat.le_refl _) _).alloc (by simp) _), by simp, ?_, ?_⟩⟩
    · exact (Holds.new w 64 (fun _ => .int .u32 0) 95).alloc _
    · have hz := Holds.new (w.alloc (.cells (arr 64 (fun _ => .int .u32 0)) 95)) 64 (fun _ => .int .u32 0) 95
      rw [World.size_alloc] at hz
      exact hz
  case round =>
    obtain ⟨k, hk, rfl, hr⟩ := hrel
    by_cases hlt : k < 16
    · have hsl := fun wx => sliceAt_lh (P := Tryz.prog) 261 5 64 Tryz.underlying261 size1 B 8 (4 * k) (4 * k + 4) (by omega) (by omega) (by omega) (4 * (k : Int)) (4 * (k : Int) + 4) (by omega) (by omega) wx
      simp only [show 4 * k + 4 - 4 * k = 4 from by omega] at hsl
      go_wp2
      clear hsl
      go_loopw [23] (fun j wj => ∃ i : Nat, i ≤ 4 ∧ j = .int .i64 i ∧ WRel w.heap.size w wj (wfill blk k i)) (fun j _ => 4 - (intOf j).toNat)
      case atStart => exact ⟨0, by omega, rfl, hr⟩
      case round =>
        clear hr
        obtain ⟨j, hj, rfl, hr⟩ := hrel
        by_cases hlj : j < 4
        · have hc1 : wr.cell? ⟨B, 8 + 4 * k + j, none⟩ = some (.int .u8 (blk (4 * k + j) : Int)) := by
            have := H.out (4 * k + j) (by omega)
            rw [show 8 + (4 * k + j) = 8 + 4 * k + j from by omega] at this
            rw [← this]; exact hr.below.cell hB
          have hc2 : wr.cell? ⟨w.heap.size + 1, k, none⟩ = some (.int .u32 (W32 (wfill blk k j k))) := hr.own.cell k (by omega)
          have hf2 : wr.frozen? ⟨w.heap.size + 1, k, none⟩ = false := hr.own.free k
          go_wp2
          go_roundw
          case rel =>
            refine ⟨j + 1, by omega, by go_num, ?_⟩
            rw [wfill_self, w_shl8, w_nat, w_or, ← wfill_step]
            exact hr.store k _
          case measure => simp [intOf]; omega
        · obtain rfl : j = 4 := by omega
          go_wp2
          go_roundw
          case rel => exact ⟨k + 1, by omega, by go_num, by rw [← wfill_next]; exact hr⟩
          case measure => simp [intOf]; omega
    · have HK := Lib.hid (show k = 16 by omega)
      go_wp2
      clear hk hlt H
      go_loopw [38] (fun i wi => ∃ n : Nat, n ≤ 48 ∧ i = .int .i64 n ∧ WRel w.heap.size w wi (wext blk n)) (fun i _ => 48 - (intOf i).toNat)
      case atStart => exact ⟨0, by omega, rfl, by rw [HK.out] at hr; exact hr⟩
      case round =>
        clear hr
        obtain ⟨n, hn, rfl, hr⟩ := hrel
        by_cases hlt : n < 48
        · have hc : ∀ i, i < 64 → wr.cell? ⟨w.heap.size + 1, i, none⟩ = some (.int .u32 (W32 (wext blk n i))) := fun i hi => hr.own.cell i hi
          have h0 := hc n (by omega)
          have h1 := hc (n + 1) (by omega)
          have h9 := hc (n + 9) (by omega)
          have h14 := hc (n + 14) (by omega)
          have hf := hr.own.free (n + 16)
          have h16 := hc (n + 16) (by omega)
          clear hc
          go_wp2
          go_quiet (fail)
          go_wp2_with (go_at_call 240; refine (rot_any _ _ (by decide) (by decide) _).mono ?_; rintro e w' ⟨rfl, rfl⟩)
          go_region
          all_goals go_wp2
          go_roundw
          case rel =>
            refine ⟨n + 1, by omega, by go_num, ?_⟩
            rw [w_shr3, w_shr10, w_xor, w_xor, w_xor, w_xor, w_sum4]
            have hd : WRel w.heap.size w (wr.drewN (nq + 1)) (wext blk n) := ⟨below_drewN hr.below _, hr.size, hr.res, hr.own⟩
            exact hd.store (n + 16) _
          case measure => simp [intOf]; omega
        · obtain rfl : n = 48 := by omega
          clear hn hlt
          have hi : (Tryz.prog.info? 95).map (·.size) = some (arr 64 fun i => V32 (wext blk 48 i)).size := by rw [arr_size]; kernel_rfl
          have hz : (arr 64 fun _ => Value.int .u32 0).size = (arr 64 fun i => V32 (wext blk 48 i)).size := by rw [arr_size, arr_size]
          have h1 := arr_one 64 (fun i => V32 (wext blk 48 i)) (fun _ => rfl)
          obtain ⟨z, ez⟩ : ∃ z, z = arr 64 fun i => V32 (wext blk 48 i) := ⟨_, rfl⟩
          have Hr := hr
          have Hown : wr.heap[w.heap.size + 1]? = some (.cells z 95 (0, 0)) := by rw [ez]; exact hr.own
          have Hres : wr.heap[w.heap.size]? = some (.cells (arr 64 fun _ => Value.int .u32 0) 95 (0, 0)) := hr.res
          rw [← ez] at hi hz h1
          have EZ := Lib.hid ez
          have HR := Lib.hid Hr
          have HI := Lib.hid hi
          have HZ := Lib.hid hz
          have H1 := Lib.hid h1
          have HO := Lib.hid Hown
          have HE := Lib.hid Hres
          clear ez Hr hr hi hz h1 Hown Hres
          go_wp2_with (first | (refine wpList_load_row rfl 95 (.tmp 3) rfl (w.heap.size + 1) rfl 95 z (0, 0) _ HO.out Tryz.underlying95 rfl HI.out ?_) | (refine wpList_store_row rfl 95 (.tmp 2) (.tmp 81) rfl w.heap.size z rfl rfl 95 _ HE.out HI.out HZ.out H1.out ?_))
          have hp : Holds (wr.setRow w.heap.size z) w.heap.size 64 (fun i => V32 (wext blk 48 i)) 95 := by
            rw [EZ.out]; exact HR.out.res.row _
          have hrun : ∀ tmps : Array Value, tmps.getD 2 undef = .pointer (some ⟨w.heap.size, 0, none⟩) → (results Tryz.f239 tmps).run Tryz.prog (wr.setRow w.heap.size z) = .ok (.agg z) (wr.setRow w.heap.size z) := fun tmps ht =>
            results_cell_row (by rfl) tmps _ w.heap.size 95 z (0, 0) _ ht (by rw [EZ.out] at hp ⊢; exact hp) Tryz.underlying95 rfl HI.out
          exact bodyPost_ret (hrun _ rfl) rfl ⟨by rw [EZ.out], below_setRow HR.out.below (Nat.le_refl _) _⟩
end Go.Proofs.YtgjmbokfenpefaaGreatDoor
