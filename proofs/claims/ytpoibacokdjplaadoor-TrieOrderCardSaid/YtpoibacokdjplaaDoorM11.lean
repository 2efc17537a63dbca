/- Parts of the proof, one behind the other: Rev, Seen, RepL, Rooted. -/
import Derived.Test.YtpoibacokdjplaaDoorM7
import Derived.Test.YtpoibacokdjplaaDoorM6
import Derived.Test.YtpoibacokdjplaaDoorProg
import Derived.Test.YtpoibacokdjplaaDoorM2
import Derived.StringKeys
import Derived.Maps.Own
import Derived.Maps.Views
import Derived.Shelf.Strings.Repeat
import Derived.Test.YtpoibacokdjplaaDoorM1
import Derived.KernelRfl
import Derived.Test.YtpoibacokdjplaaDoorM10
import Derived.Test.YtpoibacokdjplaaDoorM9
import Derived.Deep.RegionHeld3
import Derived.Deep.DeepCutAuto
/- slices.Reverse of items. -/
namespace Go.Proofs.YtpoibacokdjplaaDoor
open Go.RowKit

/-- The items M, the outer i of them on either side changed about. -/
def turned (M : List It) (i : Nat) : List It := (List.range M.length).map fun t => if t < i ∨ M.length ≤ t + i then itAt M (M.length - 1 - t) else itAt M t
theorem turned_length (M : List It) (i : Nat) : (turned M i).length = M.length := by unfold turned; simp
theorem turned_at (M : List It) (i t : Nat) (h : t < M.length) : itAt (turned M i) t = if t < i ∨ M.length ≤ t + i then itAt M (M.length - 1 - t) else itAt M t := by
  rw [itAt_of (by rw [turned_length]; exact h)]
  unfold turned
  simp
theorem turned_none (M : List It) : turned M 0 = M := by
  apply List.ext_getElem (turned_length M 0)
  intro t h1 h2
  have := turned_at M 0 t h2
  rw [itAt_of h1, if_neg (by omega), itAt_of h2] at this
  exact this
theorem turned_all (M : List It) (i : Nat) (h : M.length ≤ 2 * i + 1) : turned M i = M.reverse := by
  apply List.ext_getElem (by rw [turned_length, List.length_reverse])
  intro t h1 h2
  have ht : t < M.length := by rwa [turned_length] at h1
  have := turned_at M i t ht
  rw [itAt_of h1] at this
  rw [this, List.getElem_reverse]
  by_cases hc : t < i ∨ M.length ≤ t + i
  · rw [if_pos hc, itAt_of (by omega)]
  · rw [if_neg hc, itAt_of ht]
    congr 1
    omega
theorem turned_next (M : List It) (i : Nat) (h : 2 * i + 1 < M.length) : turned M (i + 1) = ((turned M i).set i (itAt (turned M i) (M.length - 1 - i))).set (M.length - 1 - i) (itAt (turned M i) i) := by
  apply List.ext_getElem (by simp [turned_length])
  intro t h1 h2
  have ht : t < M.length := by rwa [turned_length] at h1
  have e1 := turned_at M (i + 1) t ht
  rw [itAt_of h1] at e1
  rw [e1, List.getElem_set]
  by_cases hj : M.length - 1 - i = t
  · rw [if_pos hj, if_pos (show t < i + 1 ∨ M.length ≤ t + (i + 1) by omega), turned_at M i i (by omega), if_neg (show ¬ (i < i ∨ M.length ≤ i + i) by omega)]
    congr 1
    omega
  · rw [if_neg hj, List.getElem_set]
    by_cases hi : i = t
    · subst hi
      rw [if_pos rfl, if_pos (show i < i + 1 ∨ M.length ≤ i + (i + 1) by omega), turned_at M i _ (by omega), if_neg (show ¬ (M.length - 1 - i < i ∨ M.length ≤ M.length - 1 - i + i) by omega)]
    · rw [if_neg hi]
      have e2 := turned_at M i t ht
      rw [itAt_of (by rw [turned_length]; exact ht)] at e2
      rw [e2]
      by_cases hc : t < i ∨ M.length ≤ t + i
      · rw [if_pos hc, if_pos (show t < i + 1 ∨ M.length ≤ t + (i + 1) by omega)]
      · rw [if_neg hc, if_neg (show ¬ (t < i + 1 ∨ M.length ≤ t + (i + 1)) by omega)]
theorem itCells_set (L : List It) (i : Nat) (y : It) (h : i < L.length) (j : Nat) : (itCells (L.set i y))[j]? = if j = i * 2 then some (.string y.1) else if j = i * 2 + 1 then some (.string y.2) else (itCells L)[j]? := by
  rcases Nat.lt_or_ge j (L.length * 2) with hj | hj
  · have hk : j / 2 < L.length := by omega
    have e1 := itCells_get (L.set i y) (j / 2) (if i = j / 2 then y else L[j / 2]) (by rw [List.getElem?_set]; by_cases e : i = j / 2 <;> simp [e, hk])
    have e2 := itCells_get L (j / 2) L[j / 2] (List.getElem?_eq_getElem hk)
    rcases Nat.mod_two_eq_zero_or_one j with hm | hm
    · have ej : j / 2 * 2 = j := by omega
      rw [ej] at e1 e2
      rw [e1.1, e2.1]
      by_cases e : i = j / 2
      · rw [if_pos e, if_pos (by omega)]
      · rw [if_neg e, if_neg (by omega), if_neg (by omega)]
    · have ej : j / 2 * 2 + 1 = j := by omega
      rw [ej] at e1 e2
      rw [e1.2, e2.2]
      by_cases e : i = j / 2
      · rw [if_pos e, if_neg (by omega), if_pos (by omega)]
      · rw [if_neg e, if_neg (by omega), if_neg (by omega)]
  · rw [if_neg (by omega), if_neg (by omega), List.getElem?_eq_none (by rw [itCells_length]; simp; omega), List.getElem?_eq_none (by rw [itCells_length]; omega)]
/-- One item of a row is stored anew. -/
theorem Row.put {w : World} {base g n c : Nat} {L : List It} (h : Row w base 2 (.slice (some ⟨g, 0, none⟩) n c) n (itCells L)) (i : Nat) (y : It) (hi : i < n) :
    Row ((w.setCell ⟨g, i * 2, none⟩ (.string y.1)).setCell ⟨g, i * 2 + 1, none⟩ (.string y.2)) base 2 (.slice (some ⟨g, 0, none⟩) n c) n (itCells (L.set i y)) := by
  have hl : L.length = n := by have := h.1; rw [itCells_length] at this; omega
  obtain ⟨hx, hr⟩ := h
  rcases hr with ⟨hr, _⟩ | ⟨g', c', hv, hgb, hgl, hnc, hcell, hspare⟩
  · cases hr
  · injection hv with e1 e2 e3
    injection e1 with e1
    injection e1 with e1
    subst e1 e3
    refine ⟨by rw [itCells_length, List.length_set, hl], .inr ⟨g, c, rfl, hgb, by simpa using hgl, hnc, fun j u hj => ?_, fun j hj => ?_⟩⟩
    · have s0 : (w.cell? ⟨g, i * 2, none⟩).isSome = true := (hspare (i * 2) (by omega)).1
      have s1 : ((w.setCell ⟨g, i * 2, none⟩ (.string y.1)).cell? ⟨g, i * 2 + 1, none⟩).isSome = true := by
        rw [World.cell?_setCell_other _ _ _ _ (by intro e; injection e with _ e2 _; omega)]; exact (hspare (i * 2 + 1) (by omega)).1
      rw [itCells_set L i y (by omega)] at hj
      by_cases e1 : j = i * 2 + 1
      · subst e1
        rw [if_neg (by omega), if_pos rfl] at hj
        rw [← hj]
        obtain ⟨u1, hu1⟩ := Option.isSome_iff_exists.1 s1
        exact World.cell?_setCell_same _ _ _ hu1
      · rw [World.cell?_setCell_other _ _ _ _ (by intro e; injection e with _ e2 _; omega)]
        by_cases e0 : j = i * 2
        · subst e0
          rw [if_pos rfl] at hj
          rw [← hj]
          obtain ⟨u0, hu0⟩ := Option.isSome_iff_exists.1 s0
          exact World.cell?_setCell_same _ _ _ hu0
        · rw [if_neg e0, if_neg e1] at hj
          rw [World.cell?_setCell_other _ _ _ _ (by intro e; injection e with _ e2 _; omega)]
          exact hcell j u hj
    · rw [World.frozen?_setCell, World.frozen?_setCell]
      refine ⟨?_, (hspare j hj).2⟩
      have hsome : ∀ (u : World) (o : Nat) (v : Value), (u.cell? ⟨g, j, none⟩).isSome = true → ((u.setCell ⟨g, o, none⟩ v).cell? ⟨g, j, none⟩).isSome = true := by
        intro u o v hu
        by_cases e : o = j
        · subst e
          obtain ⟨q, hq⟩ := Option.isSome_iff_exists.1 hu
          rw [World.cell?_setCell_same _ _ _ hq]; rfl
        · rw [World.cell?_setCell_other _ _ _ _ (by intro e'; injection e' with _ e2 _; omega)]; exact hu
      exact hsome _ _ _ (hsome _ _ _ (hspare j hj).1)
theorem grown_set {w u : World} {g : Nat} (h : w.grownBy u (some g)) (o : Nat) (v : Value) : w.grownBy (u.setCell ⟨g, o, none⟩ v) (some g) :=
  ⟨h.os, h.tape, h.output, by have := h.size; simpa [World.setCell] using this, fun k hk hne => (Below.heap_setCell _ _ _ _ (fun e => hne (by rw [e]))).trans (h.block k hk hne)⟩
theorem grown_drew {w u : World} {g : Option Nat} (h : w.grownBy u g) : w.grownBy u.drew g := ⟨h.os, h.tape, h.output, h.size, h.block⟩
set_option maxRecDepth 100000 in
theorem reverse_any (M : List It) (base g n c : Nat) (w : World) (hn : M.length = n) (hl : n ≤ 1000000) (hrow : Row w base 2 (.slice (some ⟨g, 0, none⟩) n c) n (itCells M)) :
    Calls Tryd.prog 10 #[.slice (some ⟨g, 0, none⟩) n c] w fun e w' => e = .returned (.tuple #[]) ∧ Row w' base 2 (.slice (some ⟨g, 0, none⟩) n c) n (itCells M.reverse) ∧ w.grownBy w' (some g) := by
  have HROW := Lib.hid hrow
  have HN := Lib.hid hn
  clear hrow hn
  go_enter Tryd.func10, Tryd.ntmps10
  go_wp2
  go_loopw [2, 3] (fun i j wr => ∃ k : Nat, (k = 0 ∨ 2 * k ≤ n) ∧ i = .int .i64 (k : Int) ∧ j = .int .i64 ((n : Int) - 1 - (k : Int)) ∧ Row wr base 2 (.slice (some ⟨g, 0, none⟩) n c) n (itCells (turned M k)) ∧ w.grownBy wr (some g)) (fun i _ _ => n - (intOf i).toNat)
  case atStart =>
    exact ⟨0, .inl rfl, rfl, by congr 1; omega, by rw [turned_none]; exact HROW.out, ⟨rfl, rfl, rfl, Nat.le_refl _, fun _ _ _ => rfl⟩⟩
  case round =>
    obtain ⟨k, hk, rfl, rfl, hr, hg⟩ := hrel
    have HR := Lib.hid hr
    have HG := Lib.hid hg
    clear hr hg
    by_cases hlt : 2 * k + 1 < n
    · obtain ⟨j, hj⟩ : ∃ j : Nat, n - 1 - k = j := ⟨_, rfl⟩
      have hji : (n : Int) - 1 - (k : Int) = (j : Int) := by omega
      rw [hji]
      have hkj : (k : Int) < (j : Int) := by omega
      obtain ⟨g', c', hv, _, hgl, hnc, hcell, hspare⟩ := HR.out.shape (by omega)
      injection hv with e1 _ e3
      injection e1 with e1
      injection e1 with e1
      subst e1 e3
      have hkt : (turned M k)[k]? = some (itAt (turned M k) k) := by rw [itAt_of (by rw [turned_length, HN.out]; omega)]; exact List.getElem?_eq_getElem _
      have hjt : (turned M k)[j]? = some (itAt (turned M k) j) := by rw [itAt_of (by rw [turned_length, HN.out]; omega)]; exact List.getElem?_eq_getElem _
      obtain ⟨a0, a1⟩ := itCells_get _ k _ hkt
      obtain ⟨b0, b1⟩ := itCells_get _ j _ hjt
      have p0 := hcell _ _ a0
      have p1 := hcell _ _ a1
      have q0 := hcell _ _ b0
      have q1 := hcell _ _ b1
      have hnx := turned_next M k (by rw [HN.out]; omega)
      rw [HN.out, hj] at hnx
      have HNX := Lib.hid hnx
      clear hnx
      generalize itAt (turned M k) k = x at p0 p1 HNX
      generalize itAt (turned M k) j = y at q0 q1 HNX
      have HJ := Lib.hid hj
      have f0 := hspare (k * 2) (by omega)
      have f1 := hspare (k * 2 + 1) (by omega)
      have f2 := hspare (j * 2) (by omega)
      have f3 := hspare (j * 2 + 1) (by omega)
      clear hspare
      have k1 : (k : Int) < (n : Int) := by omega
      have k2 : (j : Int) < (n : Int) := by omega
      clear a0 a1 b0 b1 hkt hjt hji hcell
      go_wp2
      go_region_law (fail)
      all_goals
        go_wp2
        go_roundw
        case rel =>
          refine ⟨k + 1, .inr (by omega), by go_num, ?_, ?_, grown_drew (grown_set (grown_set (grown_set (grown_set HG.out _ _) _ _) _ _) _ _)⟩
          · have e : (j : Int) - 1 = (n : Int) - 1 - ((k + 1 : Nat) : Int) := by have := HJ.out; omega
            rw [← e]
          · rw [HNX.out]
            exact ((HR.out.put k y (by omega)).put j x (by have := HJ.out; omega)).drew
        case measure => simp [intOf]; omega
    · have hlt' : ¬ (k : Int) < (n : Int) - 1 - (k : Int) := by omega
      have HE := Lib.hid (turned_all M k (by rw [HN.out]; omega))
      go_wp2
      go_end0
      refine ⟨rfl, ?_, HG.out⟩
      rw [← HE.out]; exact HR.out
end Go.Proofs.YtpoibacokdjplaaDoor
/- A set of texts, kept as a map of bools. -/
namespace Go.Proofs.YtpoibacokdjplaaDoor
open Go.RowKit Go.Maps

def lkey (s : ByteArray) : Lit := .string s.data.toList
/-- The map at b tells true of each text of S, at least. -/
def Seen (w : World) (b : Nat) (S : List ByteArray) : Prop :=
  ∃ (n : Nat) (D : DataW Unit), w.ownsMap Tryd.prog 9 (plainElem Tryd.prog 4) b n D ∧ n ≤ S.length ∧ IsMap D ∧ ∀ s ∈ S, D.atKey (lkey s) (.lit (.bool false)) = .lit (.bool true)
theorem Seen.made (w : World) : Seen (w.alloc (.map #[] 0)) w.heap.size [] :=
  ⟨0, .map [], World.ownsMap_made w _ _ _, Nat.le_refl 0, ⟨_, rfl⟩, fun s h => by cases h⟩
theorem Seen.lt {w : World} {b : Nat} {S : List ByteArray} (h : Seen w b S) : b < w.heap.size := by
  obtain ⟨_, _, h, _⟩ := h
  exact h.lt
theorem Seen.block {w w' : World} {b : Nat} {S : List ByteArray} (h : Seen w b S) (e : w'.heap[b]? = w.heap[b]?) : Seen w' b S := by
  obtain ⟨n, D, ⟨es, clock, hb, F, hs, hD⟩, h2⟩ := h
  exact ⟨n, D, ⟨es, clock, e.trans hb, F, hs, hD⟩, h2⟩
theorem seen_bool_inv {v : Value} {z : DataW Unit × List MemPlace} (h : plainElem Tryd.prog 4 v = some z) : ∃ x, v = .bool x ∧ z.1 = .lit (.bool x) := by
  unfold plainElem at h
  rw [Tryd.underlying4] at h
  cases v <;> simp at h
  subst h
  exact ⟨_, rfl, rfl⟩
theorem Seen.look {w : World} {b : Nat} {S : List ByteArray} (h : Seen w b S) (s : ByteArray) (hs : s.size ≤ 1000000) :
    ∃ x : Bool, (Instr.lookup 26 (.map (some b)) (.string s) false).run Tryd.prog w = .ok (.bool x) w ∧ (s ∈ S → x = true) := by
  obtain ⟨n, D, hown, _, _, hall⟩ := h
  obtain ⟨v, ps, hrun, hR⟩ := hown.lookup (string_keyed Tryd.underlying9) Tryd.underlying26 (Tryd.zeroValue4 w) (plainElem_bool Tryd.underlying4 false) (WideMaps.keyOf_string_mk Tryd.underlying9 (s := s) (by unfold maxLen; omega))
  obtain ⟨x, rfl, hx⟩ := seen_bool_inv hR
  refine ⟨x, hrun, fun hm => ?_⟩
  have := hall s hm
  unfold lkey at this
  rw [this] at hx
  injection hx with hx
  injection hx with hx
  exact hx.symm
theorem Seen.more {w' : World} {b n : Nat} {D : DataW Unit} {S : List ByteArray} {s : ByteArray} (hown : w'.ownsMap Tryd.prog 9 (plainElem Tryd.prog 4) b (n + 1) (D.put (lkey s) (.lit (.bool true)))) (hn : n ≤ S.length) (hD : IsMap D)
    (hall : ∀ s ∈ S, D.atKey (lkey s) (.lit (.bool false)) = .lit (.bool true)) : Seen w' b (S ++ [s]) := by
  refine ⟨n + 1, _, hown, by simp; omega, hown.isMap, fun t ht => ?_⟩
  by_cases e : lkey t = lkey s
  · rw [e]
    exact atKey_put_same hD (show WideAt.IsKeyLit (.string s.data.toList) from trivial) _ _
  · rw [atKey_put_other e]
    rcases List.mem_append.1 ht with h | h
    · exact hall t h
    · rw [List.mem_singleton] at h
      exact absurd (by rw [h]) e
/-- One more is put in. -/
theorem wpList_seen {ops : Array Oper} {rest : List Oper} {o : Oper} {a : Act} {w : World} {Q : Exit → Act → World → Prop} (hg : o.guard = none) (m x v : Operand) (hop : o.op = Op.mapUpdate 26 m x v)
    (b : Nat) (S : List ByteArray) (hm : a.eval m = .map (some b)) (h : Seen w b S) (hS : S.length ≤ 1000000) (s : ByteArray) (hs : s.size ≤ 1000000) (hx : a.eval x = .string s) (hv : a.eval v = .bool true)
    (hK : ∀ w', Hid (Seen w' b (S ++ [s])) → Hid (w.grownBy w' (some b)) → wpList Tryd.prog ops Q rest (a.put o.dst undef) w') : wpList Tryd.prog ops Q (o :: rest) a w := by
  obtain ⟨n, D, hown, hn, hD, hall⟩ := h
  refine wpList_mapUpdate_own w hg m x v 26 hop 9 4 (string_keyed Tryd.underlying9) Tryd.underlying26 _ b n D hm hown (by unfold maxLen; omega) _ _ (lkey s) hx hv (WideMaps.keyOf_string_mk Tryd.underlying9 (by unfold maxLen; omega)) _ _ (plainElem_bool Tryd.underlying4 true) ?_
  intro w' h1 h2
  exact hK w' (Lib.hid (Seen.more h1 hn hD hall)) (Lib.hid h2)
end Go.Proofs.YtpoibacokdjplaaDoor
/- strings.Repeat, laid by name, no walk; one byte, sixteen times. -/
namespace Go.Proofs
open Go.Shelf
set_option maxRecDepth 100000
def Tryd.lays105_ren : Go.Shelf.Ren := ⟨fun | 105 => 17 | 212 => 25 | 99 => 26 | 165 => 27 | 166 => 28 | 170 => 29 | 169 => 30 | 263 => 42 | 264 => 43 | 206 => 44 | 240 => 45 | 241 => 46 | 276 => 53 | 277 => 54 | n => n, fun | 9 => 9 | 3 => 3 | 4 => 4 | 20 => 20 | 0 => 0 | 46 => 46 | 109 => 51 | 5 => 5 | 72 => 57 | 76 => 59 | 51 => 64 | 146 => 81 | 53 => 67 | 148 => 83 | 70 => 54 | 37 => 55 | 75 => 32 | 127 => 85 | 164 => 91 | 80 => 62 | n => n, fun | n => n⟩
theorem Tryd.lays105 : Go.Proofs.Lays.n105 Tryd.prog Tryd.lays105_ren := {
  mixed := by kernel_rfl
  f99 := Tryd.func26.trans (congrArg some (by kernel_rfl))
  f105 := Tryd.func17.trans (congrArg some (by kernel_rfl))
  f165 := Tryd.func27.trans (congrArg some (by kernel_rfl))
  f166 := Tryd.func28.trans (congrArg some (by kernel_rfl))
  f169 := Tryd.func30.trans (congrArg some (by kernel_rfl))
  f170 := Tryd.func29.trans (congrArg some (by kernel_rfl))
  f206 := Tryd.func44.trans (congrArg some (by kernel_rfl))
  f212 := Tryd.func25.trans (congrArg some (by kernel_rfl))
  f240 := Tryd.func45.trans (congrArg some (by kernel_rfl))
  f241 := Tryd.func46.trans (congrArg some (by kernel_rfl))
  f263 := Tryd.func42.trans (congrArg some (by kernel_rfl))
  f264 := Tryd.func43.trans (congrArg some (by kernel_rfl))
  f276 := Tryd.func53.trans (congrArg some (by kernel_rfl))
  f277 := Tryd.func54.trans (congrArg some (by kernel_rfl))
  t0 := Tryd.underlying0
  a0 := Tryd.isAgg0
  z0 := Tryd.sizeOf0
  v0 := Tryd.zeroValue0
  t3 := Tryd.underlying3
  a3 := Tryd.isAgg3
  z3 := Tryd.sizeOf3
  v3 := Tryd.zeroValue3
  t4 := Tryd.underlying4
  a4 := Tryd.isAgg4
  z4 := Tryd.sizeOf4
  v4 := Tryd.zeroValue4
  t5 := Tryd.underlying5
  a5 := Tryd.isAgg5
  z5 := Tryd.sizeOf5
  v5 := Tryd.zeroValue5
  t9 := Tryd.underlying9
  a9 := Tryd.isAgg9
  z9 := Tryd.sizeOf9
  v9 := Tryd.zeroValue9
  t20 := Tryd.underlying20
  a20 := Tryd.isAgg20
  z20 := Tryd.sizeOf20
  v20 := Tryd.zeroValue20
  t37 := Tryd.underlying55
  a37 := Tryd.isAgg55
  z37 := Tryd.sizeOf55
  v37 := Tryd.zeroValue55
  t46 := Tryd.underlying46
  a46 := Tryd.isAgg46
  z46 := Tryd.sizeOf46
  v46 := Tryd.zeroValue46
  t51 := Tryd.underlying64
  a51 := Tryd.isAgg64
  z51 := Tryd.sizeOf64
  v51 := Tryd.zeroValue64
  t53 := Tryd.underlying67
  a53 := Tryd.isAgg67
  z53 := Tryd.sizeOf67
  v53 := Tryd.zeroValue67
  t70 := Tryd.underlying54
  a70 := Tryd.isAgg54
  z70 := Tryd.sizeOf54
  v70 := Tryd.zeroValue54
  t72 := Tryd.underlying57
  a72 := Tryd.isAgg57
  z72 := Tryd.sizeOf57
  v72 := Tryd.zeroValue57
  t75 := Tryd.underlying32
  a75 := Tryd.isAgg32
  z75 := Tryd.sizeOf32
  v75 := Tryd.zeroValue32
  t76 := Tryd.underlying59
  a76 := Tryd.isAgg59
  z76 := Tryd.sizeOf59
  v76 := Tryd.zeroValue59
  t109 := Tryd.underlying51
  a109 := Tryd.isAgg51
  z109 := Tryd.sizeOf51
  v109 := Tryd.zeroValue51
  t127 := Tryd.underlying85
  a127 := Tryd.isAgg85
  z127 := Tryd.sizeOf85
  v127 := Tryd.zeroValue85
  t146 := Tryd.underlying81
  a146 := Tryd.isAgg81
  z146 := Tryd.sizeOf81
  v146 := Tryd.zeroValue81
  t148 := Tryd.underlying83
  a148 := Tryd.isAgg83
  z148 := Tryd.sizeOf83
  v148 := Tryd.zeroValue83
  t164 := Tryd.underlying91
  a164 := Tryd.isAgg91
  z164 := Tryd.sizeOf91
  v164 := Tryd.zeroValue91 }
theorem Tryd.Builder_Extra_105 : Builder.Extra Tryd.prog Tryd.lays105_ren := {
  sizeBuilder := by kernel_rfl
  liesBuilder := by kernel_rfl
  t5 := Tryd.underlying5
  a5 := Tryd.isAgg5
  z5 := Tryd.sizeOf5
  v5 := Tryd.zeroValue5
  infoByte := by kernel_rfl
  cellsByte := by kernel_rfl
  sizeByte := by kernel_rfl
  neB5 := by decide }
end Go.Proofs
namespace Go.Proofs.YtpoibacokdjplaaDoor
open Go.RowKit Go.Lib
def rep16 (c : UInt8) : ByteArray := ⟨(Lib.repeatL [c] 16).toArray⟩
theorem rep16_size (c : UInt8) : (rep16 c).size = 16 := rfl
theorem repeat16_any (c : UInt8) (w : World) : Calls Tryd.prog 17 #[.string ⟨#[c]⟩, .int .i64 16] w fun e w' => e = .returned (.string (rep16 c)) ∧ Below w.heap.size w w' :=
  (Any.strings_Repeat_main Tryd.lays105 Tryd.Builder_Extra_105 ⟨#[c]⟩ 16 w (by decide) (by decide) (by show 1 * 16 ≤ 140737488355328; decide) (by show 0 < 1; decide)).mono fun _ _ h => ⟨h.1, h.2⟩
end Go.Proofs.YtpoibacokdjplaaDoor
/- The keeps' fact: a root. -/
namespace Go.Proofs.YtpoibacokdjplaaDoor
open Go.RowKit

theorem half_two0 {a b : It} (h0 : bitI a 0 = 0) (h1 : bitI b 0 = 1) : half [a, b] 0 0 = [a] ∧ half [a, b] 0 1 = [b] := by
  unfold half
  simp [h0, h1]
theorem rootAns_two {a b : It} (ha : goodI a = true) (hb : goodI b = true) (h0 : bitI a 0 = 0) (h1 : bitI b 0 = 1) (hlt : ltI a b) : rootAns [a, b] = (joinM (leafM a 1) (leafM b 1), 0) := by
  have hr : rightItems [a, b] = true := right_of (List.pairwise_cons.2 ⟨fun y hy => by simp at hy; subst hy; exact hlt, List.pairwise_singleton _ _⟩) (fun x hx => by simp at hx; rcases hx with rfl | rfl <;> assumption) (by simp)
  unfold rootAns
  rw [if_pos hr]
  unfold rootOf
  obtain ⟨e0, e1⟩ := half_two0 h0 h1
  rw [nodeOf_two 127 [a, b] 0 (by simp), e0, e1, nodeOf_one 127 [a] 1 rfl, nodeOf_one 127 [b] 1 rfl]
  rfl
theorem rootAns_nil : rootAns [] = (emptyM 0, 0) := by
  unfold rootAns
  rw [if_pos right_nil]
  unfold rootOf
  rw [nodeOf_nil 128 [] 0 rfl]
  rfl
theorem root_known : rootAns [(rep16 0, rep16 99), (rep16 255, rep16 100)] = (joinM (leafM (rep16 0, rep16 99) 1) (leafM (rep16 255, rep16 100) 1), 0) :=
  rootAns_two (by decide) (by decide) (by decide) (by decide) (by show (rep16 0).data.toList < (rep16 255).data.toList; decide)
/-- A block of one item. -/
theorem item_new (w : World) (x : It) : Holds (w.alloc (.cells #[.string x.1, .string x.2] 28)) w.heap.size 2 (fun i => if i = 0 then .string x.1 else .string x.2) 28 := Holds.new w 2 (fun i => if i = 0 then .string x.1 else .string x.2) 28
theorem items_new (w : World) (L : List It) (t : TypeId) : Itms (w.alloc (.cells (itCells L).toArray t)) (some ⟨w.heap.size, 0, none⟩) L := by
  intro i x hx
  obtain ⟨e0, e1⟩ := itCells_get L i x hx
  refine ⟨_, rfl, by simp, ?_, ?_⟩
  · rw [add_none, Nat.zero_add, cell_of_row _ w.heap.size _ (itCells L).toArray t (0, 0) (heap_alloc_new _ _)]
    simpa using e0
  · rw [add_none, add_none, Nat.zero_add, cell_of_row _ w.heap.size _ (itCells L).toArray t (0, 0) (heap_alloc_new _ _)]
    simpa using e1
/-- A call of f with these arguments answers this text. (A structure: it is not laid open where it does not fit.) -/
structure Gives (f : FuncId) (args : Array Value) (u : World) (r : ByteArray) : Prop where
  out : Calls Tryd.prog f args u fun e w' => e = .returned (.string r) ∧ Below u.heap.size u w'
set_option maxHeartbeats 8000000 in
set_option maxRecDepth 100000 in
theorem rooted_any (w : World) (hk : HasK w) : Calls Tryd.prog 5 #[] w fun e w' => e = .returned (.bool true) ∧ Below w.heap.size w w' := by
  have HK := Lib.hid hk
  have HRT := Lib.hid root_known
  have hg : ∀ c d : UInt8, (rep16 c).size = 16 ∧ (rep16 d).size = 16 := fun c d => ⟨rfl, rfl⟩
  have HA := Lib.hid (hg 0 99)
  have HB := Lib.hid (hg 255 100)
  clear hk hg
  go_enter Tryd.func5, Tryd.ntmps5
  go_wp2_with fail
  refine (repeat16_any 0 _).mono ?_
  rintro e w1 ⟨rfl, hb1⟩
  have HB1 := Lib.hid hb1
  clear hb1
  go_wp2_with fail
  refine (repeat16_any 99 _).mono ?_
  rintro e w2 ⟨rfl, hb2⟩
  have HB2 := Lib.hid (HB1.out.trans (hb2.mono HB1.out.size))
  clear hb2
  generalize rep16 0 = a1 at HRT HA
  generalize rep16 99 = a2 at HRT HA
  have HH1 := Lib.hid (item_new w2 (a1, a2))
  have HB3 := Lib.hid (HB2.out.alloc HB2.out.size (.cells #[.string a1, .string a2] 28))
  go_wp2_with fail
  generalize w2.alloc (.cells #[.string a1, .string a2] 28) = w3 at HH1 HB3
  obtain ⟨pa, hpa⟩ : ∃ pa, w2.heap.size = pa := ⟨_, rfl⟩
  rw [hpa] at HH1 ⊢
  have HPA := Lib.hid (show w.heap.size ≤ pa by rw [← hpa]; exact HB2.out.size)
  clear hpa HB2 HB1
  refine (repeat16_any 255 _).mono ?_
  rintro e w4 ⟨rfl, hb4⟩
  have HB4 := Lib.hid (HB3.out.trans (hb4.mono HB3.out.size))
  have HH4 := Lib.hid (HH1.out.below hb4 HH1.out.lt)
  clear hb4
  go_wp2_with fail
  refine (repeat16_any 100 _).mono ?_
  rintro e w5 ⟨rfl, hb5⟩
  have HB5 := Lib.hid (HB4.out.trans (hb5.mono HB4.out.size))
  have HH5 := Lib.hid (HH4.out.below hb5 HH4.out.lt)
  clear hb5
  generalize rep16 255 = b1 at HRT HB
  generalize rep16 100 = b2 at HRT HB
  have HH6 := Lib.hid (item_new w5 (b1, b2))
  have HHA6 := Lib.hid (HH5.out.alloc (.cells #[.string b1, .string b2] 28))
  have HB6 := Lib.hid (HB5.out.alloc HB5.out.size (.cells #[.string b1, .string b2] 28))
  have d0 := HHA6.out.cell 0 (by omega)
  have d1 := HHA6.out.cell 1 (by omega)
  have d2 := HH6.out.cell 0 (by omega)
  have d3 := HH6.out.cell 1 (by omega)
  have hi7 : Itms ((w5.alloc (.cells #[.string b1, .string b2] 28)).alloc (.cells #[.string a1, .string a2, .string b1, .string b2] 28)) (some ⟨w5.heap.size + 1, 0, none⟩) [(a1, a2), (b1, b2)] := by
    have h := items_new (w5.alloc (.cells #[.string b1, .string b2] 28)) [(a1, a2), (b1, b2)] 28
    rw [show (w5.alloc (.cells #[.string b1, .string b2] 28)).heap.size = w5.heap.size + 1 by simp] at h
    exact h
  have HI7 := Lib.hid hi7
  have HB7 := Lib.hid (HB6.out.alloc HB6.out.size (.cells #[.string a1, .string a2, .string b1, .string b2] 28))
  have HHA7 := Lib.hid (HHA6.out.alloc (.cells #[.string a1, .string a2, .string b1, .string b2] 28))
  have HHB7 := Lib.hid (HH6.out.alloc (.cells #[.string a1, .string a2, .string b1, .string b2] 28))
  clear hi7
  go_wp2_with fail
  clear d0 d1 d2 d3 HH6 HHA6 HB6
  generalize (w5.alloc (.cells #[.string b1, .string b2] 28)).alloc (.cells #[.string a1, .string a2, .string b1, .string b2] 28) = w7 at HI7 HB7 HHA7 HHB7
  obtain ⟨pb, hpb⟩ : ∃ pb, w5.heap.size = pb := ⟨_, rfl⟩
  rw [hpb] at HI7 HHB7 ⊢
  clear hpb HB5 HH5 HB4 HH4 HB3 HH1
  obtain ⟨T1, hT1⟩ : ∃ T1, txt (num8 1) = T1 := ⟨_, rfl⟩
  obtain ⟨T0, hT0⟩ : ∃ T0, txt (num8 0) = T0 := ⟨_, rfl⟩
  have HTT1 := Lib.hid hT1
  have HTT0 := Lib.hid hT0
  have hs1 : T1.size = 8 := by rw [← hT1]; exact num_size 1
  have hs0 : T0.size = 8 := by rw [← hT0]; exact num_size 0
  obtain ⟨U1, hU1⟩ : ∃ U1, markOf 108 [T1, a1, a2] = U1 := ⟨_, rfl⟩
  obtain ⟨U2, hU2⟩ : ∃ U2, markOf 108 [T1, b1, b2] = U2 := ⟨_, rfl⟩
  obtain ⟨U, hU⟩ : ∃ U, markOf 110 [U1, U2] = U := ⟨_, rfl⟩
  obtain ⟨E, hE⟩ : ∃ E, markOf 101 [T0] = E := ⟨_, rfl⟩
  have HRU := Lib.hid (show rootAns [(a1, a2), (b1, b2)] = (U, 0) by
    rw [HRT.out]
    show (markOf 110 [markOf 108 [txt (num8 1), a1, a2], markOf 108 [txt (num8 1), b1, b2]], (0 : Int)) = _
    rw [hT1, hU1, hU2, hU])
  have HRE := Lib.hid (show rootAns [] = (E, 0) by
    rw [rootAns_nil]
    show (markOf 101 [txt (num8 0)], (0 : Int)) = _
    rw [hT0, hE])
  have HU1 := Lib.hid hU1
  have HU2 := Lib.hid hU2
  have HU := Lib.hid hU
  have HE := Lib.hid hE
  have HT1 := Lib.hid (show total [T1, a1, a2] ≤ 1073741800 by have := HA.out; simp [total, hs1]; omega)
  have HT2 := Lib.hid (show total [T1, b1, b2] ≤ 1073741800 by have := HB.out; simp [total, hs1]; omega)
  have HT3 := Lib.hid (show total [U1, U2] ≤ 1073741800 by rw [← hU1, ← hU2]; simp [total, markOf_len])
  have HT4 := Lib.hid (show total [T0] ≤ 1073741800 by simp [total, hs0])
  clear hU1 hU2 hU hE hT1 hT0 hs1 hs0
  refine (tRoot_is [(a1, a2), (b1, b2)] _ 2 _ 0 _ (HK.out.below HB7.out HK.out.lt) (by simp) (by simp) HI7.out HRU.out).mono ?_
  rintro e w8 ⟨rfl, hb8⟩
  have HB8 := Lib.hid (HB7.out.trans (hb8.mono HB7.out.size))
  have HHA8 := Lib.hid (HHA7.out.below hb8 HHA7.out.lt)
  have HHB8 := Lib.hid (HHB7.out.below hb8 HHB7.out.lt)
  clear hb8 HHA7 HHB7 HI7 HB7
  rw [show errOf 0 = .nilIface from rfl]
  go_wp2_with fail
  refine (tRoot_is [] none 0 _ 0 _ (HK.out.below HB8.out HK.out.lt) (by simp) (by simp) (Itms.nil _ _) HRE.out).mono ?_
  rintro e w9 ⟨rfl, hb9⟩
  have HB9 := Lib.hid (HB8.out.trans (hb9.mono HB8.out.size))
  have HHA9 := Lib.hid (HHA8.out.below hb9 HHA8.out.lt)
  have HHB9 := Lib.hid (HHB8.out.below hb9 HHB8.out.lt)
  clear hb9 HHA8 HHB8 HB8
  rw [show errOf 0 = .nilIface from rfl]
  have HPL := Lib.hid (show pa < w9.heap.size ∧ pb < w9.heap.size from ⟨HHA9.out.lt, HHB9.out.lt⟩)
  have HS0 := Lib.hid (show (w9.cell? ⟨pa, 0, none⟩ = some (.string a1) ∧ w9.cell? ⟨pa, 1, none⟩ = some (.string a2) ∧ w9.cell? ⟨pb, 0, none⟩ = some (.string b1) ∧ w9.cell? ⟨pb, 1, none⟩ = some (.string b2) ∧ Below w9.heap.size w9 w9.drew) from ⟨HHA9.out.cell 0 (by omega), HHA9.out.cell 1 (by omega), HHB9.out.cell 0 (by omega), HHB9.out.cell 1 (by omega), (Below.refl _ _).drew⟩)
  have HKEEP := Lib.hid (show ∀ u v : World, (u.cell? ⟨pa, 0, none⟩ = some (.string a1) ∧ u.cell? ⟨pa, 1, none⟩ = some (.string a2) ∧ u.cell? ⟨pb, 0, none⟩ = some (.string b1) ∧ u.cell? ⟨pb, 1, none⟩ = some (.string b2) ∧ Below w9.heap.size w9 u) → Below u.heap.size u v → (v.cell? ⟨pa, 0, none⟩ = some (.string a1) ∧ v.cell? ⟨pa, 1, none⟩ = some (.string a2) ∧ v.cell? ⟨pb, 0, none⟩ = some (.string b1) ∧ v.cell? ⟨pb, 1, none⟩ = some (.string b2) ∧ Below w9.heap.size w9 v) from
    fun u v ⟨h0, h1, h2, h3, hb⟩ hv => ⟨(hv.cell (p := ⟨pa, 0, none⟩) (Nat.lt_of_lt_of_le HPL.out.1 hb.size)).trans h0, (hv.cell (p := ⟨pa, 1, none⟩) (Nat.lt_of_lt_of_le HPL.out.1 hb.size)).trans h1, (hv.cell (p := ⟨pb, 0, none⟩) (Nat.lt_of_lt_of_le HPL.out.2 hb.size)).trans h2, (hv.cell (p := ⟨pb, 1, none⟩) (Nat.lt_of_lt_of_le HPL.out.2 hb.size)).trans h3, hb.trans (hv.mono hb.size)⟩)
  have HKK := Lib.hid (show ∀ u : World, (u.cell? ⟨pa, 0, none⟩ = some (.string a1) ∧ u.cell? ⟨pa, 1, none⟩ = some (.string a2) ∧ u.cell? ⟨pb, 0, none⟩ = some (.string b1) ∧ u.cell? ⟨pb, 1, none⟩ = some (.string b2) ∧ Below w9.heap.size w9 u) → HasK u from fun u hu => (HK.out.below HB9.out HK.out.lt).below hu.2.2.2.2 (Nat.lt_of_lt_of_le HK.out.lt HB9.out.size))
  have HN1 := Lib.hid (show ∀ u : World, Gives 19 #[.int .i64 1] u T1 from fun u => ⟨by have h := num_any 1 u; rwa [HTT1.out] at h⟩)
  have HN0 := Lib.hid (show ∀ u : World, Gives 19 #[.int .i64 0] u T0 from fun u => ⟨by have h := num_any 0 u; rwa [HTT0.out] at h⟩)
  have HM1 := Lib.hid (show ∀ v : World, ((v.alloc (.cells #[.string T1, .string a1, .string a2] 9)).cell? ⟨pa, 0, none⟩ = some (.string a1) ∧ (v.alloc (.cells #[.string T1, .string a1, .string a2] 9)).cell? ⟨pa, 1, none⟩ = some (.string a2) ∧ (v.alloc (.cells #[.string T1, .string a1, .string a2] 9)).cell? ⟨pb, 0, none⟩ = some (.string b1) ∧ (v.alloc (.cells #[.string T1, .string a1, .string a2] 9)).cell? ⟨pb, 1, none⟩ = some (.string b2) ∧ Below w9.heap.size w9 (v.alloc (.cells #[.string T1, .string a1, .string a2] 9))) → Gives 18 #[.int .u8 108, .slice (some ⟨v.heap.size, 0, none⟩) 3 3] (v.alloc (.cells #[.string T1, .string a1, .string a2] 9)) U1 from
    fun v hv => ⟨by
      have h := mark_any 108 [T1, a1, a2] (some ⟨v.heap.size, 0, none⟩) 3 _ (HKK.out _ hv) HT1.out (by simp) (strs_new v [T1, a1, a2] 9)
      rw [HU1.out] at h
      exact h⟩)
  have HM2 := Lib.hid (show ∀ v : World, ((v.alloc (.cells #[.string T1, .string b1, .string b2] 9)).cell? ⟨pa, 0, none⟩ = some (.string a1) ∧ (v.alloc (.cells #[.string T1, .string b1, .string b2] 9)).cell? ⟨pa, 1, none⟩ = some (.string a2) ∧ (v.alloc (.cells #[.string T1, .string b1, .string b2] 9)).cell? ⟨pb, 0, none⟩ = some (.string b1) ∧ (v.alloc (.cells #[.string T1, .string b1, .string b2] 9)).cell? ⟨pb, 1, none⟩ = some (.string b2) ∧ Below w9.heap.size w9 (v.alloc (.cells #[.string T1, .string b1, .string b2] 9))) → Gives 18 #[.int .u8 108, .slice (some ⟨v.heap.size, 0, none⟩) 3 3] (v.alloc (.cells #[.string T1, .string b1, .string b2] 9)) U2 from
    fun v hv => ⟨by
      have h := mark_any 108 [T1, b1, b2] (some ⟨v.heap.size, 0, none⟩) 3 _ (HKK.out _ hv) HT2.out (by simp) (strs_new v [T1, b1, b2] 9)
      rw [HU2.out] at h
      exact h⟩)
  have HM3 := Lib.hid (show ∀ v : World, ((v.alloc (.cells #[.string U1, .string U2] 9)).cell? ⟨pa, 0, none⟩ = some (.string a1) ∧ (v.alloc (.cells #[.string U1, .string U2] 9)).cell? ⟨pa, 1, none⟩ = some (.string a2) ∧ (v.alloc (.cells #[.string U1, .string U2] 9)).cell? ⟨pb, 0, none⟩ = some (.string b1) ∧ (v.alloc (.cells #[.string U1, .string U2] 9)).cell? ⟨pb, 1, none⟩ = some (.string b2) ∧ Below w9.heap.size w9 (v.alloc (.cells #[.string U1, .string U2] 9))) → Gives 18 #[.int .u8 110, .slice (some ⟨v.heap.size, 0, none⟩) 2 2] (v.alloc (.cells #[.string U1, .string U2] 9)) U from
    fun v hv => ⟨by
      have h := mark_any 110 [U1, U2] (some ⟨v.heap.size, 0, none⟩) 2 _ (HKK.out _ hv) HT3.out (by simp) (strs_new v [U1, U2] 9)
      rw [HU.out] at h
      exact h⟩)
  have HM4 := Lib.hid (show ∀ v : World, ((v.alloc (.cells #[.string T0] 9)).cell? ⟨pa, 0, none⟩ = some (.string a1) ∧ (v.alloc (.cells #[.string T0] 9)).cell? ⟨pa, 1, none⟩ = some (.string a2) ∧ (v.alloc (.cells #[.string T0] 9)).cell? ⟨pb, 0, none⟩ = some (.string b1) ∧ (v.alloc (.cells #[.string T0] 9)).cell? ⟨pb, 1, none⟩ = some (.string b2) ∧ Below w9.heap.size w9 (v.alloc (.cells #[.string T0] 9))) → Gives 18 #[.int .u8 101, .slice (some ⟨v.heap.size, 0, none⟩) 1 1] (v.alloc (.cells #[.string T0] 9)) E from
    fun v hv => ⟨by
      have h := mark_any 101 [T0] (some ⟨v.heap.size, 0, none⟩) 1 _ (HKK.out _ hv) HT4.out (by simp) (strs_new v [T0] 9)
      rw [HE.out] at h
      exact h⟩)
  clear HT1 HT2 HT3 HT4 HU1 HU2 HU HE HTT1 HTT0 HRU HRE HKK HRT HA HB
  go_wp2_with fail
  go_region_held3 (fun u => (u.cell? ⟨pa, 0, none⟩ = some (.string a1) ∧ u.cell? ⟨pa, 1, none⟩ = some (.string a2) ∧ u.cell? ⟨pb, 0, none⟩ = some (.string b1) ∧ u.cell? ⟨pb, 1, none⟩ = some (.string b2) ∧ Below w9.heap.size w9 u))
    (first | exact HS0.out | (refine HKEEP.out _ _ ?_ (by assumption); first | exact HS0.out | assumption | exact ⟨by assumption, by assumption, by assumption, by assumption, by assumption⟩) | (refine HKEEP.out _ _ ?_ (alloc_below _ _); first | exact HS0.out | assumption | exact ⟨by assumption, by assumption, by assumption, by assumption, by assumption⟩))
    (first
      | (go_at_call 19; refine (Gives.out (by first | exact HN1.out _ | exact HN0.out _)).mono ?_; rintro e wn ⟨rfl, hbn⟩)
      | (go_at_call 18; refine (Gives.out (by first | exact HM1.out _ (by assumption) | exact HM2.out _ (by assumption) | exact HM3.out _ (by assumption) | exact HM4.out _ (by assumption))).mono ?_; rintro e wn ⟨rfl, hbn⟩))
  rename_i hheld
  have HBF := Lib.hid (HB9.out.trans (hheld.2.2.2.2.mono HB9.out.size))
  clear hheld
  go_wp2
  go_ret
  exact ⟨rfl, HBF.out⟩
end Go.Proofs.YtpoibacokdjplaaDoor
