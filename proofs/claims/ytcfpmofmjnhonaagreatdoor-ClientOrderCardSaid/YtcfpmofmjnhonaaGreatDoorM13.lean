/- Parts of the proof, one behind the other: VPlain, InRound, VAbove, ItemEq, ItemHas, QMarks. -/
import Derived.Test.YtcfpmofmjnhonaaGreatDoorM12
import Derived.Test.YtcfpmofmjnhonaaGreatDoorM8
import Derived.OrdersIn
import Derived.RangeFuncCalls
import Derived.TacticsIn
import Derived.Test.YtcfpmofmjnhonaaGreatDoorM7
import Derived.Test.YtcfpmofmjnhonaaGreatDoorM10
import Derived.Laws.StructEq
/- A box's rows, one above the other, as plain lists; and how they lie in the document's one list. -/
namespace Go.Proofs.YtcfpmofmjnhonaaGreatDoor
open Go.RowKit

def upRow (P : List ByteArray) : List ByteArray := (List.range (P.length / 2)).map fun j : Nat => twoM (P.getD (2 * j) ⟨#[]⟩) (P.getD (2 * j + 1) ⟨#[]⟩)
def lvl (seed : ByteArray) : Nat → List ByteArray
  | 0 => rows0 seed 8
  | t + 1 => upRow (lvl seed t)
theorem upRow_length (P : List ByteArray) : (upRow P).length = P.length / 2 := by simp [upRow]
theorem upRow_getD (P : List ByteArray) (j : Nat) (h : j < P.length / 2) : (upRow P).getD j ⟨#[]⟩ = twoM (P.getD (2 * j) ⟨#[]⟩) (P.getD (2 * j + 1) ⟨#[]⟩) := by
  unfold upRow
  rw [List.getD_eq_getElem?_getD, List.getElem?_map, List.getElem?_range h]; rfl
theorem upRow_size (P : List ByteArray) : ∀ p ∈ upRow P, p.size = 16 := by
  intro p hp
  unfold upRow at hp
  obtain ⟨c, _, rfl⟩ := List.mem_map.1 hp
  exact twoM_size _ _
theorem lvl_size (seed : ByteArray) : ∀ t, ∀ p ∈ lvl seed t, p.size = 16
  | 0 => rows0_size seed 8
  | _ + 1 => upRow_size _
theorem lvl0_length (seed : ByteArray) : (lvl seed 0).length = 8 := rows0_length seed 8
theorem lvl1_length (seed : ByteArray) : (lvl seed 1).length = 4 := by rw [lvl, upRow_length, lvl0_length]
theorem lvl2_length (seed : ByteArray) : (lvl seed 2).length = 2 := by rw [lvl, upRow_length, lvl1_length]
theorem lvl3_length (seed : ByteArray) : (lvl seed 3).length = 1 := by rw [lvl, upRow_length, lvl2_length]
theorem lvl_length (seed : ByteArray) (t : Nat) (h : t ≤ 3) : (lvl seed t).length = rowLen t := by
  rcases (by omega : t = 0 ∨ t = 1 ∨ t = 2 ∨ t = 3) with rfl | rfl | rfl | rfl
  · exact lvl0_length _
  · exact lvl1_length _
  · exact lvl2_length _
  · exact lvl3_length _
theorem rowsUpto_pre (seed : ByteArray) (j i : Nat) (hi : i < 8 + j) : ∀ d, (rowsUpto seed (j + d)).getD i ⟨#[]⟩ = (rowsUpto seed j).getD i ⟨#[]⟩
  | 0 => rfl
  | d + 1 => by
    rw [← rowsUpto_pre seed j i hi d]
    show (rowsUpto seed (j + d + 1)).getD i ⟨#[]⟩ = _
    rw [rowsUpto, List.getD_eq_getElem?_getD, List.getElem?_append_left (by rw [rowsUpto_length]; omega), List.getD_eq_getElem?_getD]
theorem rowsOf_low (seed : ByteArray) (i : Nat) (hi : i < 8) : (rowsOf seed).getD i ⟨#[]⟩ = (lvl seed 0).getD i ⟨#[]⟩ := rowsUpto_pre seed 0 i (by omega) 7
theorem rowsOf_up (seed : ByteArray) (j : Nat) (hj : j < 7) : (rowsOf seed).getD (8 + j) ⟨#[]⟩ = twoM ((rowsOf seed).getD (2 * j) ⟨#[]⟩) ((rowsOf seed).getD (2 * j + 1) ⟨#[]⟩) := by
  have h1 := rowsUpto_pre seed (j + 1) (8 + j) (by omega) (7 - (j + 1))
  have h2 := rowsUpto_pre seed j (2 * j) (by omega) (7 - j)
  have h3 := rowsUpto_pre seed j (2 * j + 1) (by omega) (7 - j)
  rw [show j + 1 + (7 - (j + 1)) = 7 by omega] at h1
  rw [show j + (7 - j) = 7 by omega] at h2 h3
  show (rowsUpto seed 7).getD (8 + j) ⟨#[]⟩ = twoM ((rowsUpto seed 7).getD (2 * j) ⟨#[]⟩) ((rowsUpto seed 7).getD (2 * j + 1) ⟨#[]⟩)
  rw [h1, h2, h3, rowsUpto, List.getD_eq_getElem?_getD, List.getElem?_append_right (by rw [rowsUpto_length]; omega), rowsUpto_length, Nat.sub_self]
  rfl
theorem lvl_next (seed : ByteArray) (t b c : Nat) (hl : (lvl seed t).length = 2 * c) (h : ∀ j, j < 2 * c → (lvl seed t).getD j ⟨#[]⟩ = (rowsOf seed).getD (2 * b + j) ⟨#[]⟩) (hb : b + c ≤ 7) (j : Nat) (hj : j < c) :
    (lvl seed (t + 1)).getD j ⟨#[]⟩ = (rowsOf seed).getD (8 + b + j) ⟨#[]⟩ := by
  rw [lvl, upRow_getD _ _ (by rw [hl]; omega), h _ (by omega), h _ (by omega), Nat.add_assoc 8 b j, rowsOf_up seed (b + j) (by omega), Nat.mul_add, ← Nat.add_assoc]
theorem lvl0_get (seed : ByteArray) (j : Nat) (hj : j < 8) : (lvl seed 0).getD j ⟨#[]⟩ = (rowsOf seed).getD j ⟨#[]⟩ := (rowsOf_low seed j hj).symm
theorem lvl1_get (seed : ByteArray) (j : Nat) (hj : j < 4) : (lvl seed 1).getD j ⟨#[]⟩ = (rowsOf seed).getD (8 + j) ⟨#[]⟩ :=
  lvl_next seed 0 0 4 (lvl0_length seed) (fun j hj => by rw [lvl0_get seed j hj, Nat.mul_zero, Nat.zero_add]) (by omega) j hj
theorem lvl2_get (seed : ByteArray) (j : Nat) (hj : j < 2) : (lvl seed 2).getD j ⟨#[]⟩ = (rowsOf seed).getD (12 + j) ⟨#[]⟩ :=
  lvl_next seed 1 4 2 (lvl1_length seed) (fun j hj => lvl1_get seed j hj) (by omega) j hj
theorem lvl3_get (seed : ByteArray) : (lvl seed 3).getD 0 ⟨#[]⟩ = boxPub seed :=
  lvl_next seed 2 6 1 (lvl2_length seed) (fun j hj => lvl2_get seed j hj) (by omega) 0 (by omega)
theorem lvl_get (seed : ByteArray) (t j : Nat) (ht : t < 3) (hj : j < rowLen t) : (lvl seed t).getD j ⟨#[]⟩ = (rowsOf seed).getD (rowBase t + j) ⟨#[]⟩ := by
  rcases (by omega : t = 0 ∨ t = 1 ∨ t = 2) with rfl | rfl | rfl
  · rw [lvl0_get seed j hj]; congr 1; exact (Nat.zero_add j).symm
  · exact lvl1_get seed j hj
  · exact lvl2_get seed j hj
theorem getD_get {P : List ByteArray} {i : Nat} (h : i < P.length) : P[i]? = some (P.getD i ⟨#[]⟩) := by
  rw [List.getD_eq_getElem?_getD, List.getElem?_eq_getElem h]; rfl
/-- The other one of the two. -/
theorem sib_lt (k t : Nat) (hk : k ≤ 7) (ht : t < 3) : sib (k / 2 ^ t) < rowLen t := by
  rcases (by omega : k = 0 ∨ k = 1 ∨ k = 2 ∨ k = 3 ∨ k = 4 ∨ k = 5 ∨ k = 6 ∨ k = 7) with rfl | rfl | rfl | rfl | rfl | rfl | rfl | rfl <;>
    rcases (by omega : t = 0 ∨ t = 1 ∨ t = 2) with rfl | rfl | rfl <;> decide
theorem sib_xor (k t : Nat) (hk : k ≤ 7) (ht : t < 3) : bits BinOp.xor IntKind.i64 ((k : Int) / 2 ^ t) 1 = ((sib (k / 2 ^ t) : Nat) : Int) := by
  rcases (by omega : k = 0 ∨ k = 1 ∨ k = 2 ∨ k = 3 ∨ k = 4 ∨ k = 5 ∨ k = 6 ∨ k = 7) with rfl | rfl | rfl | rfl | rfl | rfl | rfl | rfl <;>
    rcases (by omega : t = 0 ∨ t = 1 ∨ t = 2) with rfl | rfl | rfl <;> decide +kernel
end Go.Proofs.YtcfpmofmjnhonaaGreatDoor
/- A region that draws its order, in a round of a range over a function: what serves in an activation serves there. No program is imported. -/
namespace Go.Proofs.YtcfpmofmjnhonaaGreatDoor
open Go.RowKit

theorem rows_round {P : Program} {row : String} {args : Array Value} {w : World} {R : Value → World → Prop} (l n : Nat) (h : Rows P row args w R) : RowsIn (Fence.wide.inRound l) n P row args w R :=
  fun c cs _ => let ⟨v, w', r, s⟩ := h c cs; ⟨v, w', r, stepsIn_wide.2 s⟩
theorem calls_round {P : Program} {f : FuncId} {args : Array Value} {w : World} {R : Ending → World → Prop} (l n : Nat) (h : Calls P f args w R) : CallsIn (Fence.wide.inRound l) n P f args w R :=
  CallsIn.inRound l (callsIn_wide.2 h)
theorem wpIn_round {P : Program} {o : Oper} {a : Act} {w : World} {K K' : Act → World → Prop} {Q : Exit → Act → World → Prop} (l n : Nat) (hd : ∀ c, o.op ≠ .defer c) (hK : ∀ a w, K a w → K' a w) (h : o.wp P a w K Q) : o.wpIn (Fence.wide.inRound l) n P a w K' Q := by
  unfold Oper.wpIn
  refine ⟨fun _ _ => trivial, ?_⟩
  rw [Fence.inRound_round, Oper.semAt_some l _ _ hd]
  unfold Oper.wp at h
  generalize (execOp a.eval o).run P w = r at *
  cases r with
  | ok x w' =>
    cases x <;> simp only [Oper.upon, Oper.uponIn] at h ⊢ <;>
      first
        | exact hK _ _ h
        | exact ⟨fun e => absurd e Bool.false_ne_true, (calls_round l _ h).mono (fun e w'' he => by cases e <;> first | exact hK _ _ he | exact he)⟩
        | exact ⟨fun e => absurd e Bool.false_ne_true, (rows_round l _ h).mono (fun _ _ he => hK _ _ he)⟩
        | exact h.elim
  | halt x w' => cases x <;> simp only [Oper.upon, Oper.uponIn] at h ⊢ <;> exact h
/-- No operation defers. -/
def noDefer (l : List Oper) : Bool := l.all fun o => match o.op with | .defer _ => false | _ => true
theorem noDefer_spec {l : List Oper} (h : noDefer l = true) {o : Oper} (ho : o ∈ l) (c : Call) : o.op ≠ .defer c := by
  intro e
  have := List.all_eq_true.1 h o ho
  rw [e] at this
  cases this
theorem wpAny_round {P : Program} {ops : Array Oper} {md : Region.Mode} {Q : Exit → Act → World → Prop} (l n : Nat) (hd : noDefer ops.toList = true) (hL : ¬ LetsOut Q) :
    ∀ (fuel : Nat) (listed : Array Bool) (a : Act) (w : World), wpAny P md ops Q fuel listed a w → wpAnyIn (Fence.wide.inRound l) n P md ops Q fuel listed a w
  | 0, _, _, _, h => h
  | fuel + 1, listed, a, w, h => ⟨h.1, fun i hi => by
      have h1 := h.2 i hi
      unfold wpOp at h1
      unfold wpOpIn
      cases ho : ops[i]? with
      | none => simp only [ho] at h1 ⊢; exact wpAny_round l n hd hL fuel _ _ _ h1
      | some o =>
        simp only [ho] at h1 ⊢
        split
        · rename_i hw
          simp only [hw, if_true] at h1
          rcases h1 with h1 | ⟨_, h1⟩
          · exact wpIn_round l n (noDefer_spec hd (by rw [Array.mem_toList_iff]; exact Array.mem_of_getElem? ho)) (fun a w => wpAny_round l n hd hL fuel _ a w) h1
          · exact absurd h1 hL
        · rename_i hw
          simp only [hw] at h1
          exact ⟨fun _ _ => trivial, wpAny_round l n hd hL fuel _ _ _ h1⟩⟩
theorem wpIn_region_taken {P : Program} {id : Nat} {Q : Exit → Act → World → Prop} {a : Act} {w : World} {l : List Oper} (lp n : Nat) (S : World → Prop) (qs ts : List Nat) (hm : P.follows .mixedOrders = true)
    (hB : (heldB l qs ts && noDefer l) = true) (hQ : ∀ c d v a w, Q (.panic c) (a.put d v) w → Q (.panic c) a w) (hL : ¬ LetsOut Q) (hS : S w.drew)
    (h : wpQuiet P l.toArray S (fun a' => wpSeq P l.toArray S Q (pickOps l ts) a' w.drew) (pickOps l qs) a) : (Code.region id l.toArray true).wpIn (Fence.wide.inRound lp) n P Q a w := by
  rw [Bool.and_eq_true] at hB
  obtain ⟨hB, hd⟩ := hB
  unfold heldB at hB
  rw [Bool.and_eq_true, Bool.and_eq_true] at hB
  obtain ⟨⟨h0, h2⟩, h3⟩ := hB
  simp only [Bool.and_eq_true, decide_eq_true_eq] at h0
  obtain ⟨⟨⟨⟨⟨⟨⟨⟨h1, h2'⟩, h3'⟩, h4⟩, h5⟩, h6⟩, h7⟩, h8⟩, h9⟩ := h0
  have hq := pick_all l qs h2
  have ht := pick_all l ts h3
  have hsz : l.toArray.size = (l.length - 1) + 1 := by simp; omega
  have inv0 : HeadInv .any l.toArray (l.length - 1) (Array.replicate l.toArray.size false) :=
    ⟨by simp, fun j oj _ hl => (by rw [getD_replicate_false] at hl; cases hl), fun t _ ht => getD_in (by simpa using ht) (getD_replicate_false _ _)⟩
  have H := wpAnyT_quiet (md := .any) (fuel := ts.length) h1 h2' hsz h3' hQ hS qs _ _ a hq h4 inv0 (fun a' ha' => wpAnyT_tail hsz ts _ _ a' _ ht h5 (fun _ _ _ => trivial) (.inl h8) h9 ha') h
  refine wpIn_region_any hm ?_
  have e : ts.length + qs.length = l.toArray.size := by simp; omega
  rw [e] at H
  exact wpAny_round lp n (by simpa using hd) hL _ _ _ _ (wpAny_of_T _ _ _ _ H)
end Go.Proofs.YtcfpmofmjnhonaaGreatDoor
/- The program's rowAbove: one mark of two and two, by a range over slices.Chunk. -/
namespace Go.Proofs.YtcfpmofmjnhonaaGreatDoor
open Go.RowKit Go.Shelf
attribute [local go_sem] Oper.semAt_some

theorem make04 (m : Nat) (h1 : 1 ≤ m) (h4 : m ≤ 4) (w : World) : (Instr.makeSlice 50 (.int .i64 0) (.int .i64 (m : Int))).run Tryz.prog w = .ok (.slice (some ⟨w.heap.size, 0, none⟩) 0 m) (w.alloc (.cells (arr m fun _ => .string ⟨#[]⟩) 9)) := by
  rcases (by omega : m = 1 ∨ m = 2 ∨ m = 3 ∨ m = 4) with rfl | rfl | rfl | rfl <;> kernel_rfl
theorem Row.abide {A B : World} {base : Nat} {v : Value} {n : Nat} {xs : List Value} {row : Option Nat} (h : Row A base 1 v n xs) (hg : A.grownBy B row) (hr : ∀ r, row = some r → ∃ o : Obj, A.heap[r]? = some o ∧ o.isCells = false) : Row B base 1 v n xs := by
  obtain ⟨h1, h2⟩ := h
  refine ⟨h1, ?_⟩
  rcases h2 with h2 | ⟨g, cap, hv, hgb, hgl, hn, hc, hs⟩
  · exact .inl h2
  · refine .inr ⟨g, cap, hv, hgb, Nat.lt_of_lt_of_le hgl hg.size, hn, fun j u hj => cell_kept (hc j u hj) hg hr, fun j hj => ?_⟩
    obtain ⟨hi, hf⟩ := hs j hj
    obtain ⟨u, hu⟩ := Option.isSome_iff_exists.1 hi
    exact ⟨by rw [cell_kept hu hg hr]; rfl, (frozen_kept hu hg hr).trans hf⟩
theorem Row.first {w : World} {base gg n cc : Nat} {xs : List Value} (h : Row w base 1 (.slice (some ⟨gg, 0, none⟩) n cc) n xs) (hc : 0 < cc) : ∃ u, w.cell? ⟨gg, 0, none⟩ = some u := by
  obtain ⟨_, h2⟩ := h
  rcases h2 with ⟨h2, _⟩ | ⟨g, cap, hv, _, _, _, _, hs⟩
  · cases h2
  · cases hv
    exact Option.isSome_iff_exists.1 (hs 0 (by omega)).1
theorem keepsFrom_row {B k : Nat} {A C : World} {u : Value} (hg : A.grownBy C (some k)) (hu : A.cell? ⟨k, 0, none⟩ = some u) : KeepsFrom B A C :=
  ⟨hg.size, fun j o _ h0 ho => (hg.block j (Array.getElem?_eq_some_iff.1 h0).1 (fun e => by
    obtain rfl : j = k := Option.some.inj e
    unfold World.cell? at hu
    simp only [h0] at hu
    cases o <;> simp_all [Obj.isCells])).trans h0⟩
theorem below_fromA {B : Nat} {W W' : World} (h : Below W.heap.size W W') : KeepsFrom B W W' := ⟨h.size, fun k _ _ hk _ => (h.block k (Array.getElem?_eq_some_iff.1 hk).1).trans hk⟩
theorem set_other {W : World} {B : Nat} {a : Addr} {v : Value} (h : W.cell? a = some v) (hne : B ≠ a.block) (u : Value) : (W.setCell ⟨B, 0, none⟩ u).cell? a = some v :=
  (World.cell?_of_block ((grownBy_setCell' W B u).block a.block (block_lt_of_cell h) (fun e => hne (by cases e; rfl)))).trans h

/-- The marks above those that have come. -/
def upsV (P : List ByteArray) {m : Nat} (pre : List (Fin m)) : List ByteArray := pre.map fun x => twoM (P.getD (2 * x.val) ⟨#[]⟩) (P.getD (2 * x.val + 1) ⟨#[]⟩)
theorem ups_all {P : List ByteArray} {m : Nat} {ys : List (Fin m)} (hm : P.length = 2 * m) (h : twos ys m) : upsV P ys = upRow P := by
  unfold upsV upRow
  rw [hm, Nat.mul_div_cancel_left m (by omega), ← h, List.map_map]; rfl
/-- What the loop has in memory: the box at N + 1 with the row above. -/
structure Abv (P : List ByteArray) (N m : Nat) (pre : List (Fin m)) (W : World) : Prop where
  size : N + 4 ≤ W.heap.size
  free : W.frozen? ⟨N + 1, 0, none⟩ = false
  row : ∃ gg cc, W.cell? ⟨N + 1, 0, none⟩ = some (.slice (some ⟨gg, 0, none⟩) pre.length cc) ∧ 0 < cc ∧ (gg = N ∨ N + 4 ≤ gg) ∧ Row W N 1 (.slice (some ⟨gg, 0, none⟩) pre.length cc) pre.length (stCells (upsV P pre))
theorem Abv.own {P : List ByteArray} {N m : Nat} : Own (fun (pre : List (Fin m)) W => Abv P N m pre W) := fun pre A B row hs hg hr => by
  obtain ⟨h1, h2, gg, cc, h3, h4, h5, h6⟩ := hs
  exact ⟨Nat.le_trans h1 hg.size, (frozen_kept h3 hg hr).trans h2, gg, cc, cell_kept h3 hg hr, h4, h5, h6.abide hg hr⟩

def abvAct (g cap m N : Nat) (x : Fin m) : Act :=
  { tmps := #[.slice (some ⟨g, 0, none⟩) (2 * m) cap, undef, .slice none 0 0, .pointer (some ⟨N + 1, 0, none⟩), duo g x, .slice (some ⟨g, 0, none⟩) (2 * m) cap, .int .i64 (2 * (m : Int)), .int .i64 (m : Int), .slice (some ⟨N, 0, none⟩) 0 m,
      .slice (some ⟨g, 0, none⟩) (2 * m) cap, .func (.func 199) #[] #[.pointer (some ⟨N + 1 + 1, 0, none⟩), .pointer (some ⟨N + 1 + 1 + 1, 0, none⟩)], duo g x, undef, undef, undef, undef, undef, undef, undef, undef, undef, undef, undef], defers := [] }

/-- A world in which the box, and two of the marks below, read so. -/
structure AbvZ (N g i : Nat) (v : Value) (x y : ByteArray) where
  at' : World
  h0 : at'.cell? ⟨N + 1, 0, none⟩ = some v
  h1 : at'.cell? ⟨g, i, none⟩ = some (.string x)
  h2 : at'.cell? ⟨g, i + 1, none⟩ = some (.string y)

set_option maxHeartbeats 4000000 in
set_option maxRecDepth 100000 in
theorem vAbove_any (P : List ByteArray) (g cap m : Nat) (w : World) (hk : HasK w) (hm : P.length = 2 * m) (h1 : 1 ≤ m) (h4 : m ≤ 4) (hc : P.length ≤ cap) (hs : ∀ p ∈ P, p.size = 16) (hg : g < w.heap.size) (hP : Strs w (some ⟨g, 0, none⟩) P) :
    Calls Tryz.prog 101 #[.slice (some ⟨g, 0, none⟩) P.length cap] w fun e w' => ∃ g' cap', e = .returned (.slice (some ⟨g', 0, none⟩) m cap') ∧ m ≤ cap' ∧ w.heap.size ≤ g' ∧ g' < w'.heap.size ∧ Below w.heap.size w w' ∧ Strs w' (some ⟨g', 0, none⟩) (upRow P) := by
  have HM := Lib.hid hm
  have HCAP := Lib.hid (show 2 * m ≤ cap by rw [← hm]; exact hc)
  rw [hm]
  have hmk := make04 m h1 h4
  refine (callsIn_wide (n := 3)).1 ?_
  refine callsIn_of_wp_marks Tryz.func101 rfl trivial ?_ rfl
  simp only [Tryz.ntmps101, List.size_toArray, List.length_cons, List.length_nil, Nat.reduceAdd, Nat.reduceSub, Array.replicate_succ, Array.replicate_zero, List.push_toArray, List.append_toArray, List.nil_append, List.cons_append]
  clear hm hc
  gi_wp2_with (refine ⟨trivial, ?_⟩; gi_at_call 150; refine (chunk_in Fence.wide 2 trivial rfl _ _ _ _).mono ?_; rintro e w6 ⟨rfl, rfl⟩)
  clear hmk
  obtain ⟨t, ht⟩ : ∃ t : Fin m → Act, t = abvAct g cap m w.heap.size := ⟨_, rfl⟩
  obtain ⟨w0, hw0⟩ : ∃ w0, ((((w.alloc (.cells (arr m fun _ => .string ⟨#[]⟩) 9)).alloc (.cells #[.slice (some ⟨w.heap.size, 0, none⟩) 0 m] 50)).alloc (.cells #[.slice (some ⟨g, 0, none⟩) (2 * m) cap] 50)).alloc (.cells #[.int .i64 2] 3)) = w0 := ⟨_, rfl⟩
  have hz0 : w0.heap.size = w.heap.size + 4 := by rw [← hw0]; simp
  have HB0 := Lib.hid (show Below w.heap.size w w0 by rw [← hw0]; exact ((((Below.refl _ w).alloc (Nat.le_refl _) _).alloc (by simp) _).alloc (by simp; omega) _).alloc (by simp; omega) _)
  have HX := Lib.hid (show Boxed w0 (w.heap.size + 1) 50 (.slice (some ⟨w.heap.size, 0, none⟩) 0 m) by
    rw [← hw0]; have := Boxed.new (w.alloc (.cells (arr m fun _ => .string ⟨#[]⟩) 9)) 50 (.slice (some ⟨w.heap.size, 0, none⟩) 0 m); rw [World.size_alloc] at this; exact (this.alloc _).alloc _)
  have H1 := Lib.hid (show Boxed w0 (w.heap.size + 2) 50 (.slice (some ⟨g, 0, none⟩) (2 * m) cap) by
    rw [← hw0]; have := Boxed.new ((w.alloc (.cells (arr m fun _ => .string ⟨#[]⟩) 9)).alloc (.cells #[.slice (some ⟨w.heap.size, 0, none⟩) 0 m] 50)) 50 (.slice (some ⟨g, 0, none⟩) (2 * m) cap); rw [World.size_alloc, World.size_alloc] at this; exact this.alloc _)
  have H2 := Lib.hid (show Boxed w0 (w.heap.size + 3) 3 (.int .i64 2) by
    rw [← hw0]; have := Boxed.new (((w.alloc (.cells (arr m fun _ => .string ⟨#[]⟩) 9)).alloc (.cells #[.slice (some ⟨w.heap.size, 0, none⟩) 0 m] 50)).alloc (.cells #[.slice (some ⟨g, 0, none⟩) (2 * m) cap] 50)) 3 (.int .i64 2); rw [World.size_alloc, World.size_alloc, World.size_alloc] at this; exact this)
  have HR := Lib.hid (show Row w0 w.heap.size 1 (.slice (some ⟨w.heap.size, 0, none⟩) 0 m) 0 [] by
    rw [← hw0]
    refine (((show Row _ w.heap.size 1 (.slice (some ⟨w.heap.size, 0, none⟩) 0 m) 0 [] from ⟨rfl, .inr ⟨w.heap.size, m, rfl, Nat.le_refl _, by simp, Nat.zero_le _, fun j u hj => by simp at hj, fun j hj => ?_⟩⟩).alloc _).alloc _).alloc _
    have := Holds.new w m (fun _ => .string ⟨#[]⟩) 9
    exact ⟨by rw [this.cell j (by omega)]; rfl, this.free j⟩)
  rw [hw0]
  clear hw0
  refine wpIn_rangeFunc_ownG rfl (by omega) (gf := 199) (lb := #[.pointer (some ⟨w.heap.size + 1 + 1, 0, none⟩), .pointer (some ⟨w.heap.size + 1 + 1 + 1, 0, none⟩)]) rfl trivial (enters_of Tryz.func199 (by kernel_rfl) rfl)
    (chunk_stops Fence.wide 2 trivial rfl (by omega) (w.heap.size + 2) (w.heap.size + 3) w.heap.size g cap m (by omega) HCAP.out w0 (by omega) (by omega) H1.out.cell H2.out.cell) keepTwo_t (keepTwo_b (by omega)) (Below.refl _ _) (fun _ => rfl)
    (fun pre W => Abv P w.heap.size m pre W ∧ Below w.heap.size w W)
    (fun _ _ _ => False)
    (OwnFrom.and (Own.from Abv.own _) (ownFrom_below (Nat.le_refl _) (by omega)))
    (fun _ _ _ _ _ hs _ _ => hs)
    ⟨⟨by omega, HX.out.frozen, _, _, HX.out.cell, h1, .inl rfl, HR.out⟩, HB0.out⟩
    t ?assign ?body ?done ?stop
  case assign =>
    intro l j W K hK
    subst ht
    gi_wp2
    exact hK
  case body =>
    rintro l pre x W ⟨⟨hsz, hf, gg, cc, hc, hcc, hgg, hrow⟩, hB⟩ hlen
    subst ht
    dsimp only [abvAct, duo]
    have hx := x.isLt
    have r1 : W.cell? ⟨g, 2 * x.val, none⟩ = some (.string (P.getD (2 * x.val) ⟨#[]⟩)) := by
      obtain ⟨a, ha, _, hc0⟩ := hP (2 * x.val) _ (getD_get (by have := HM.out; omega))
      cases ha
      rw [add_none, Nat.zero_add] at hc0
      exact (hB.cell (p := ⟨g, 2 * x.val, none⟩) hg).trans hc0
    have r2 : W.cell? ⟨g, 2 * x.val + 1, none⟩ = some (.string (P.getD (2 * x.val + 1) ⟨#[]⟩)) := by
      obtain ⟨a, ha, _, hc0⟩ := hP (2 * x.val + 1) _ (getD_get (by have := HM.out; omega))
      cases ha
      rw [add_none, Nat.zero_add] at hc0
      exact (hB.cell (p := ⟨g, 2 * x.val + 1, none⟩) hg).trans hc0
    have HX1 := Lib.hid (hs _ (List.mem_of_getElem? (getD_get (P := P) (i := 2 * x.val) (by have := HM.out; omega))))
    have HX2 := Lib.hid (hs _ (List.mem_of_getElem? (getD_get (P := P) (i := 2 * x.val + 1) (by have := HM.out; omega))))
    have HUP := Lib.hid (show upsV P (pre ++ [x]) = upsV P pre ++ [twoM (P.getD (2 * x.val) ⟨#[]⟩) (P.getD (2 * x.val + 1) ⟨#[]⟩)] by simp [upsV])
    have HBW := Lib.hid hB
    have HKW := Lib.hid (hk.below hB hk.lt)
    have HROW0 := Lib.hid hrow
    have HGG := Lib.hid hgg
    have HF := Lib.hid hf
    clear hB hrow hgg hf
    generalize P.getD (2 * x.val) ⟨#[]⟩ = p0 at r1 HX1 HUP
    generalize P.getD (2 * x.val + 1) ⟨#[]⟩ = p1 at r2 HX2 HUP
    generalize 2 * x.val = i2 at r1 r2 ⊢
    generalize hpk : pre.length = k at hlen hc HROW0
    have HPK := Lib.hid hpk
    clear hpk
    have z0 : ∀ z : AbvZ w.heap.size g i2 (.slice (some ⟨gg, 0, none⟩) k cc) p0 p1, z.at'.cell? ⟨w.heap.size + 1, 0, none⟩ = some (.slice (some ⟨gg, 0, none⟩) k cc) := fun z => z.h0
    have z1 : ∀ z : AbvZ w.heap.size g i2 (.slice (some ⟨gg, 0, none⟩) k cc) p0 p1, z.at'.cell? ⟨g, i2, none⟩ = some (.string p0) := fun z => z.h1
    have z2 : ∀ z : AbvZ w.heap.size g i2 (.slice (some ⟨gg, 0, none⟩) k cc) p0 p1, z.at'.cell? ⟨g, i2 + 1, none⟩ = some (.string p1) := fun z => z.h2
    have : Nonempty (AbvZ w.heap.size g i2 (.slice (some ⟨gg, 0, none⟩) k cc) p0 p1) := ⟨⟨W.drew, hc, r1, r2⟩⟩
    gi_wp2
    refine wpIn_region_taken l _ (fun w' => ∃ z : AbvZ w.heap.size g i2 (.slice (some ⟨gg, 0, none⟩) k cc) p0 p1, w' = z.at') [0, 1, 2, 3, 4, 5, 6] [7, 8, 9, 10] (by kernel_rfl) (by kernel_rfl) (by intro c d v a w h; cases d <;> exact h) (by rintro ⟨a, w, h⟩; exact h) ⟨⟨W.drew, hc, r1, r2⟩, rfl⟩ ?_
    simp only [pickOps, List.filterMap_cons, List.filterMap_nil, List.getElem?_cons_zero, List.getElem?_cons_succ]
    repeat (first | go_big_quiet_step (fail) | quiet_step (fail))
    refine wpQuiet_nil ?_
    have HGL := Lib.hid (show g < W.heap.size from block_lt_of_cell r1)
    have HNL := Lib.hid (show w.heap.size + 1 < W.heap.size by omega)
    have HZ := Lib.hid (show ∀ u : World, Below W.heap.size W u → ∃ z : AbvZ w.heap.size g i2 (.slice (some ⟨gg, 0, none⟩) k cc) p0 p1, u = z.at' from
      fun u hu => ⟨⟨u, (hu.cell (p := ⟨w.heap.size + 1, 0, none⟩) HNL.out).trans hc, (hu.cell (p := ⟨g, i2, none⟩) HGL.out).trans r1, (hu.cell (p := ⟨g, i2 + 1, none⟩) HGL.out).trans r2⟩, rfl⟩)
    clear z0 z1 z2 this
    refine wpSeq_one rfl (fun K hK => ?_)
    go_wp2_with fail
    refine (vJoin_any p0 p1 _ (show HasK W.drew from HKW.out) HX1.out HX2.out).mono ?_
    rintro e w4 ⟨rfl, hb4⟩
    have HM4 := Lib.hid (show Below W.heap.size W w4 from (Below.refl _ _).drew.trans (hb4.mono (Nat.le_refl _)))
    have HROW := Lib.hid (HROW0.out.belowAll HM4.out)
    clear hb4
    go_wp2
    refine hK _ _ (HZ.out _ HM4.out) ?_
    clear hK K
    refine wpSeq_one rfl (fun K hK => ?_)
    go_wp2
    refine hK _ _ (HZ.out _ (HM4.out.alloc HM4.out.size _)) ?_
    clear hK K
    refine wpSeq_one rfl (fun K hK => ?_)
    refine wpList_append_one3 rfl (.tmp 12) (.tmp 20) 50 rfl 9 Tryz.underlying50 _ 16 infoStr rfl (by decide) w.heap.size _ k (stCells (upsV P pre)) rfl HROW.out (Nat.le_trans HBW.out.size HM4.out.size) (by omega) (.string _) rfl rfl 9 ?_
    intro v' w6 hrow6 hgrow6 hmove6 hkeep6
    obtain ⟨g6, cc6, rfl, hg6, hl6, hn6, -, -⟩ := hrow6.out.shape (by omega)
    have HNE := Lib.hid (show gg ≠ w.heap.size + 1 ∧ gg ≠ w.heap.size + 2 ∧ gg ≠ w.heap.size + 3 by rcases HGG.out with e | e <;> omega)
    have HG6 := Lib.hid ((HBW.out.trans (HM4.out.mono HBW.out.size)).grown hgrow6.out (Nat.le_trans HBW.out.size HM4.out.size) (fun j hj => (HROW.out.lt j hj).1))
    have HG7 := Lib.hid (show g6 = w.heap.size ∨ w.heap.size + 4 ≤ g6 by
      rcases hmove6.out with e | e
      · have : g6 = gg := Option.some.inj e
        subst this; exact HGG.out
      · have := e g6 rfl; have := HM4.out.size; omega)
    have HC4 := Lib.hid (show ∀ (b : Nat) (u : Value), gg ≠ b → W.cell? ⟨b, 0, none⟩ = some u → w6.cell? ⟨b, 0, none⟩ = some u from fun b u hne h =>
      (World.cell?_of_block (hgrow6.out.block b (Nat.lt_of_lt_of_le (block_lt_of_cell h) HM4.out.size) (fun e => hne (Option.some.inj e).symm))).trans ((HM4.out.cell (block_lt_of_cell h)).trans h))
    have HF6 := Lib.hid (show w6.frozen? ⟨w.heap.size + 1, 0, none⟩ = false from
      (World.frozen?_of_block (hgrow6.out.block (w.heap.size + 1) (Nat.lt_of_lt_of_le HNL.out HM4.out.size) (fun e => HNE.out.1 (Option.some.inj e).symm))).trans ((HM4.out.frozen (p := ⟨w.heap.size + 1, 0, none⟩) HNL.out).trans HF.out))
    have hc6 := HC4.out (w.heap.size + 1) _ HNE.out.1 hc
    have hf6 := HF6.out
    have HZ6 := Lib.hid (show ∃ z : AbvZ w.heap.size g i2 (.slice (some ⟨gg, 0, none⟩) k cc) p0 p1, w6 = z.at' from
      ⟨⟨w6, hc6, (HG6.out.cell (p := ⟨g, i2, none⟩) hg).trans ((HBW.out.cell (p := ⟨g, i2, none⟩) hg).symm.trans r1), (HG6.out.cell (p := ⟨g, i2 + 1, none⟩) hg).trans ((HBW.out.cell (p := ⟨g, i2 + 1, none⟩) hg).symm.trans r2)⟩, rfl⟩)
    refine hK _ _ HZ6.out ?_
    clear hK K
    refine wpSeq_last rfl (fun K hK => ?_)
    go_wp2
    refine hK _ _ ?_
    clear hK K
    obtain ⟨u0, hu0⟩ := HROW.out.first hcc
    have HBW6 := Lib.hid (show Below w.heap.size W w6 from (HM4.out.mono HBW.out.size).grown hgrow6.out (Nat.le_trans HBW.out.size HM4.out.size) (fun j hj => (HROW.out.lt j hj).1))
    have hne : ∀ {b : Nat} {u : Value}, gg ≠ b → b ≠ w.heap.size + 1 → W.cell? ⟨b, 0, none⟩ = some u → (w6.setCell ⟨w.heap.size + 1, 0, none⟩ (.slice (some ⟨g6, 0, none⟩) (k + 1) cc6)).cell? ⟨b, 0, none⟩ = some u :=
      fun h1 h2 h => set_other (HC4.out _ _ h1 h) (Ne.symm h2) _
    have hln : (pre ++ [x]).length = k + 1 := by rw [List.length_append, HPK.out]; rfl
    refine ⟨((below_fromA HM4.out).trans (keepsFrom_row hgrow6.out hu0)).trans ((KeepsOthers.setCell _ _ _).from _), ⟨HBW6.out.setCell (p := ⟨w.heap.size + 1, 0, none⟩) (by show w.heap.size ≤ w.heap.size + 1; omega) _, hne HNE.out.2.1 (by omega), hne HNE.out.2.2 (by omega)⟩,
      ⟨?_, by rw [World.frozen?_setCell]; exact hf6, g6, cc6, ?_, by omega, HG7.out, ?_⟩, (HBW.out.trans HBW6.out).setCell (p := ⟨w.heap.size + 1, 0, none⟩) (by show w.heap.size ≤ w.heap.size + 1; omega) _⟩
    · have h1 := HM4.out.size
      have h2 := hgrow6.out.size
      simp only [World.setCell]
      simp
      omega
    · rw [hln]; exact World.cell?_setCell_same' _ _ _ (by rw [hc6]; rfl)
    · rw [hln, HUP.out]
      have e : stCells (upsV P pre ++ [twoM p0 p1]) = stCells (upsV P pre) ++ [.string (twoM p0 p1)] := by simp [stCells]
      rw [e]
      exact hrow6.out.setOther (by intro e; have h6 : g6 = w.heap.size + 1 := Option.some.inj e; have h5 := HG7.out; omega) _
  case done =>
    rintro D ys W hD hys ⟨⟨hsz, hf, gg, cc, hc, hcc, hgg, hrow⟩, hB⟩ hK
    rw [ups_all HM.out hys, twos_len hys] at hrow
    rw [twos_len hys] at hc
    have hr2 := hrow.abide (grownBy_putObj' W D (.deferred none)) (fun r e => by cases e; exact ⟨_, hK, rfl⟩)
    obtain ⟨-, A', cap', hv, hst⟩ := hr2.strs
    injection hv with hA hB2 hC2
    subst hA
    clear hB2 hC2
    have hmc : m ≤ cc := by
      obtain ⟨g2, c2, e, _, _, hle, _⟩ := hrow.shape (by omega)
      injection e with _ _ e; omega
    have HDD := Lib.hid (show w.heap.size ≤ D by omega)
    gi_wp2
    refine ⟨by simp, .inl ⟨_, _, rfl, run_takeDeferred hK, ?_⟩⟩
    exact ⟨_, results_tmp rfl _ _ _, gg, cc, rfl, hmc, (hr2.lt gg rfl).1, (hr2.lt gg rfl).2, hB.trans (belowK_b (w := w) (Nat.le_refl _) W D _ _ HDD.out hK rfl rfl), hst⟩
  case stop =>
    rintro D c pre W _ _ hh _
    exact hh.elim
end Go.Proofs.YtcfpmofmjnhonaaGreatDoor
/- Items compared: one with one, and slices.Equal of the same items. -/
namespace Go.Proofs.YtcfpmofmjnhonaaGreatDoor
open Go.RowKit

theorem stoodI : Tryz.prog.stoodInHeld 61 = false := by kernel_rfl
theorem itemFields : Tryz.prog.underlying 61 = some (.struct (Tryz.prog.fieldsOf 61)) := by kernel_rfl
theorem textI_ne {a b : ByteArray} (h : ¬ a = b) : (a.toList == b.toList) = false := by
  rw [beq_eq_false_iff_ne]
  intro e
  rw [ByteArray.toList_eq, ByteArray.toList_eq] at e
  exact h (text_of e)
end Go.Proofs.YtcfpmofmjnhonaaGreatDoor
/- slices.Contains of items: what is among them is found. -/
namespace Go.Proofs.YtcfpmofmjnhonaaGreatDoor
open Go.RowKit

set_option maxHeartbeats 1000000 in
theorem run_eql_items (a b : It) (w : World) :
    (binOp .eql 61 (.agg #[.string a.1, .string a.2]) (.agg #[.string b.1, .string b.2])).run Tryz.prog w = .ok (.bool (decide (a = b))) w := by
  rw [run_eql_struct, run_equalIn_agg _ 9999 _ _ _ itemFields stoodI]
  by_cases h2 : a.1 = b.1
  · by_cases h3 : a.2 = b.2
    · have e : decide (a = b) = true := by simp [Prod.ext_iff, h2, h3]
      rw [e, h2, h3]
      go_simp
    · have e : decide (a = b) = false := by simp [Prod.ext_iff, h3]
      have e3 := textI_ne h3
      rw [e, h2]
      go_simp
  · have e : decide (a = b) = false := by simp [Prod.ext_iff, h2]
    have e3 := textI_ne h2
    rw [e]
    go_simp
end Go.Proofs.YtcfpmofmjnhonaaGreatDoor
/- The program's once: whether all texts are marks, by slices.ContainsFunc. -/
namespace Go.Proofs.YtcfpmofmjnhonaaGreatDoor
open Go.RowKit

theorem qNoMark_any (s : ByteArray) (w : World) : Calls Tryz.prog 234 #[.string s] w fun e w' => e = .returned (.bool (!decide (s.size = 16))) ∧ w' = w := by
  by_cases h : s.size = 16
  · rw [decide_eq_true h]
    have hi : ((s.size : Int) == 16) = true := by rw [beq_iff_eq]; omega
    have hj : ((s.size : Int) != 16) = false := by simp [bne, hi]
    go_enter Tryz.func234, Tryz.ntmps234
    go_wp2
    go_ret
    exact ⟨rfl, rfl⟩
  · rw [decide_eq_false h]
    have hi : ((s.size : Int) == 16) = false := by rw [beq_eq_false_iff_ne]; omega
    have hj : ((s.size : Int) != 16) = true := by simp [bne, hi]
    go_enter Tryz.func234, Tryz.ntmps234
    go_wp2
    go_ret
    exact ⟨rfl, rfl⟩
set_option maxRecDepth 100000 in
theorem qMarksIx_any (P : List ByteArray) (A : Option Addr) (cap : Nat) (w : World) (hl : P.length ≤ 1000000) (hm : Strs w A P) :
    Calls Tryz.prog 195 #[.slice A P.length cap, .func (.func 234) #[] #[]] w fun e w' => w' = w ∧ ∃ n : Int, e = .returned (.int .i64 n) ∧ ((0 ≤ n ∧ marksOk P = false) ∨ (n = -1 ∧ marksOk P = true)) := by
  have HM := Lib.hid hm
  clear hm
  go_enter Tryz.func195, Tryz.ntmps195
  go_wp2
  go_loopw [8] (fun t wr => ∃ j : Nat, j ≤ P.length ∧ t = .int .i64 (j : Int) ∧ wr = w ∧ marksUpto P j = true) (fun t _ => P.length - (intOf t).toNat)
  case atStart => exact ⟨0, by omega, rfl, rfl, rfl⟩
  case round =>
    obtain ⟨j, hj, rfl, rfl, hall⟩ := hrel
    have HALL := Lib.hid hall
    clear hall
    by_cases hlt : j < P.length
    · obtain ⟨p, hp⟩ : ∃ p, P[j]? = some p := ⟨_, List.getElem?_eq_getElem hlt⟩
      obtain ⟨a, rfl, hal, c0⟩ := HM.out j p hp
      have HP := Lib.hid hp
      clear hp
      go_wp2_with fail
      refine (qNoMark_any p _).mono ?_
      rintro e w1 ⟨rfl, rfl⟩
      by_cases he : p.size = 16
      · rw [decide_eq_true he]
        have HE := Lib.hid he
        clear he
        go_wp2
        go_roundw
        case rel =>
          refine ⟨j + 1, by omega, by go_num, ?_, ?_⟩
          · first | rfl | trivial
          · have := HALL.out
            unfold marksUpto marksOk at this ⊢
            rw [List.take_add_one, HP.out, List.all_append, this]
            simp [HE.out]
        case measure => simp [intOf]; omega
      · rw [decide_eq_false he]
        have HE := Lib.hid he
        clear he
        go_wp2
        go_ret
        exact ⟨rfl, j, rfl, .inl ⟨by omega, marksOk_false HP.out HE.out⟩⟩
    · go_wp2
      go_ret
      exact ⟨rfl, -1, rfl, .inr ⟨rfl, by have h := HALL.out; unfold marksUpto at h; rwa [List.take_of_length_le (by omega)] at h⟩⟩
theorem qMarks_any (P : List ByteArray) (A : Option Addr) (cap : Nat) (w : World) (hl : P.length ≤ 1000000) (hm : Strs w A P) :
    Calls Tryz.prog 143 #[.slice A P.length cap, .func (.func 234) #[] #[]] w fun e w' => e = .returned (.bool (!marksOk P)) ∧ w' = w := by
  go_enter Tryz.func143, Tryz.ntmps143
  go_wp2_with fail
  refine (qMarksIx_any P A cap _ hl hm).mono ?_
  rintro e w1 ⟨rfl, n, rfl, ⟨h0, hf⟩ | ⟨rfl, hf⟩⟩
  · have HF := Lib.hid hf
    clear hf
    go_wp2
    go_ret
    exact ⟨by rw [HF.out]; rfl, rfl⟩
  · have HF := Lib.hid hf
    clear hf
    go_wp2
    go_ret
    exact ⟨by rw [HF.out]; rfl, rfl⟩
theorem qAre_any (P : List ByteArray) (A : Option Addr) (cap : Nat) (w : World) (hl : P.length ≤ 1000000) (hm : Strs w A P) :
    Calls Tryz.prog 196 #[.slice A P.length cap] w fun e w' => e = .returned (.bool (marksOk P)) ∧ w' = w := by
  obtain ⟨M, hM⟩ : ∃ M, marksOk P = M := ⟨_, rfl⟩
  have HM := Lib.hid hM
  rw [hM]
  clear hM
  go_enter Tryz.func196, Tryz.ntmps196
  go_wp2_with fail
  refine (qMarks_any P A cap _ hl hm).mono ?_
  rintro e w1 ⟨rfl, rfl⟩
  rw [HM.out]
  go_wp2
  go_ret
  exact ⟨rfl, rfl⟩
end Go.Proofs.YtcfpmofmjnhonaaGreatDoor
