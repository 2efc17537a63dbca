/- Parts of the proof, one behind the other: InRound, VAbove, VFirst, VNew, VNew2, VPath. -/
import Derived.Tactics
import Derived.Orders
import Derived.WalkKit
import Derived.StillTail
import Derived.OrdersHeld
import Derived.Deep.Quiet
import Derived.Deep.QuietTactic
import Derived.OrdersIn
import Derived.RangeFuncCalls
import Derived.TacticsIn
import Derived.Lib.Hide
import Derived.WalkLawsBesides
import Derived.Deep.WholeRow
import Derived.ArgAppend
import Derived.Laws.AppendOwnNone
import Derived.Laws.CopyRow
import Derived.Deep.RegionLaw
import Derived.Laws.BytesString
import Derived.Laws.IdiomStrings
import Derived.Test.YtgjmbokfenpefaaGreatDoorProg
import Derived.Laws.BitsAllLaws
import Derived.Outline
import Derived.BigQuiet
import Derived.Laws.CopyOwn
import Derived.RegionTactic
import Derived.Deep.RegionHeld3
import Derived.Deep.DeepCutAuto
import Derived.Laws.ResultCell
import Derived.IntWalk
import Derived.Sort.Walk0
import Derived.LaidEql
import Derived.Stop.Asserts
import Derived.RowKitTokens
import Derived.RangeFuncNested
import Derived.RangeFuncBound
import Derived.RangeFuncLeaves
import Derived.Shelf.Abstract
import Derived.Shelf.RegionOpen
import Derived.OwnWalkIn
import Derived.TacticsInMore
import Derived.LoopNIn
import Derived.LoopIn
import Derived.Laws.StructEq
import Derived.Test.YtgjmbokfenpefaaGreatDoorM1
import Derived.Test.YtgjmbokfenpefaaGreatDoorM2
import Derived.Test.YtgjmbokfenpefaaGreatDoorM3
import Derived.Test.YtgjmbokfenpefaaGreatDoorM4
import Derived.Test.YtgjmbokfenpefaaGreatDoorM5
import Derived.Test.YtgjmbokfenpefaaGreatDoorM6
import Derived.Test.YtgjmbokfenpefaaGreatDoorM7
import Derived.Test.YtgjmbokfenpefaaGreatDoorM8
import Derived.Test.YtgjmbokfenpefaaGreatDoorM9
import Derived.Test.YtgjmbokfenpefaaGreatDoorM10
import Derived.Test.YtgjmbokfenpefaaGreatDoorM12
import Derived.Test.YtgjmbokfenpefaaGreatDoorM13
import Derived.Test.YtgjmbokfenpefaaGreatDoorM17
import Derived.Test.YtgjmbokfenpefaaGreatDoorM18
import Derived.Test.YtgjmbokfenpefaaGreatDoorM19
/- A region that draws its order, in a round of a range over a function: what serves in an activation serves there. No program is imported. -/
namespace Go.Proofs.YtgjmbokfenpefaaGreatDoor
open Go.RowKit

theorem rows_round {P : Program} {row : String} {args : Array Value} {w : World} {R : Value → World → Prop} (l n : Nat) (h : Rows P row args w R) : RowsIn (Fence.wide.inRound l) n P row args w R :=
  fun c cs _ => let ⟨v, w', r, s⟩ := h c cs; ⟨v, w', r, stepsIn_wide.2 s⟩
theorem calls_round {P : Program} {f : FuncId} {args : Array Value} {w : World} {R : Ending → World → Prop} (l n : Nat) (h : Calls P f args w R) : CallsIn (Fence.wide.inRound l) n P f args w R :=
  CallsIn.inRound l (callsIn_wide.2 h)
theorem wpIn_round {P : Program} {o : Oper} {a : Act} {w : World} {K K' : Act → World → Prop} {Q : Exit → Act → World → Prop} (l n : Nat) (hd : ∀ c, o.op ≠ .defer c) (hK : ∀ a w, K a w → K' a w) (h : o.wp P a w K Q) : o.wpIn (Fence.wide.inRound l) n P a w K' Q := by
  unfold Oper.wpIn
  refine ⟨fun _ _ => trivial, ?_⟩
  rw [Fence.inRound_round, Oper.semAt_some l _ _ hd]
  unfold Oper.wp at h
  generalize (execOp a.eval o).run P w = r at *
  cases r with
  | ok x w' =>
    cases x <;> simp only [Oper.upon, Oper.uponIn] at h ⊢ <;>
      first
        | exact hK _ _ h
        | exact ⟨fun e => absurd e Bool.false_ne_true, (calls_round l _ h).mono (fun e w'' he => by cases e <;> first | exact hK _ _ he | exact he)⟩
        | exact ⟨fun e => absurd e Bool.false_ne_true, (rows_round l _ h).mono (fun _ _ he => hK _ _ he)⟩
        | exact h.elim
  | halt x w' => cases x <;> simp only [Oper.upon, Oper.uponIn] at h ⊢ <;> exact h
/-- No operation defers. -/
def noDefer (l : List Oper) : Bool := l.all fun o => match o.op with | .defer _ => false | _ => true
theorem noDefer_spec {l : List Oper} (h : noDefer l = true) {o : Oper} (ho : o ∈ l) (c : Call) : o.op ≠ .defer c := by
  intro e
  have := List.all_eq_true.1 h o ho
  rw [e] at this
  cases this
theorem wpAny_round {P : Program} {ops : Array Oper} {md : Region.Mode} {Q : Exit → Act → World → Prop} (l n : Nat) (hd : noDefer ops.toList = true) (hL : ¬ LetsOut Q) :
    ∀ (fuel : Nat) (listed : Array Bool) (a : Act) (w : World), wpAny P md ops Q fuel listed a w → wpAnyIn (Fence.wide.inRound l) n P md ops Q fuel listed a w
  | 0, _, _, _, h => h
  | fuel + 1, listed, a, w, h => ⟨h.1, fun i hi => by
      have h1 := h.2 i hi
      unfold wpOp at h1
      unfold wpOpIn
      cases ho : ops[i]? with
      | none => simp only [ho] at h1 ⊢; exact wpAny_round l n hd hL fuel _ _ _ h1
      | some o =>
        simp only [ho] at h1 ⊢
        split
        · rename_i hw
          simp only [hw, if_true] at h1
          rcases h1 with h1 | ⟨_, h1⟩
          · exact wpIn_round l n (noDefer_spec hd (by rw [Array.mem_toList_iff]; exact Array.mem_of_getElem? ho)) (fun a w => wpAny_round l n hd hL fuel _ a w) h1
          · exact absurd h1 hL
        · rename_i hw
          simp only [hw] at h1
          exact ⟨fun _ _ => trivial, wpAny_round l n hd hL fuel _ _ _ h1⟩⟩
theorem wpIn_region_taken {P : Program} {id : Nat} {Q : Exit → Act → World → Prop} {a : Act} {w : World} {l : List Oper} (lp n : Nat) (S : World → Prop) (qs ts : List Nat) (hm : P.follows .mixedOrders = true)
    (hB : (heldB l qs ts && noDefer l) = true) (hQ : ∀ c d v a w, Q (.panic c) (a.put d v) w → Q (.panic c) a w) (hL : ¬ LetsOut Q) (hS : S w.drew)
    (h : wpQuiet P l.toArray S (fun a' => wpSeq P l.toArray S Q (pickOps l ts) a' w.drew) (pickOps l qs) a) : (Code.region id l.toArray true).wpIn (Fence.wide.inRound lp) n P Q a w := by
  rw [Bool.and_eq_true] at hB
  obtain ⟨hB, hd⟩ := hB
  unfold heldB at hB
  rw [Bool.and_eq_true, Bool.and_eq_true] at hB
  obtain ⟨⟨h0, h2⟩, h3⟩ := hB
  simp only [Bool.and_eq_true, decide_eq_true_eq] at h0
  obtain ⟨⟨⟨⟨⟨⟨⟨⟨h1, h2'⟩, h3'⟩, h4⟩, h5⟩, h6⟩, h7⟩, h8⟩, h9⟩ := h0
  have hq := pick_all l qs h2
  have ht := pick_all l ts h3
  have hsz : l.toArray.size = (l.length - 1) + 1 := by simp; omega
  have inv0 : HeadInv .any l.toArray (l.length - 1) (Array.replicate l.toArray.size false) :=
    ⟨by simp, fun j oj _ hl => (by rw [getD_replicate_false] at hl; cases hl), fun t _ ht => getD_in (by simpa using ht) (getD_replicate_false _ _)⟩
  have H := wpAnyT_quiet (md := .any) (fuel := ts.length) h1 h2' hsz h3' hQ hS qs _ _ a hq h4 inv0 (fun a' ha' => wpAnyT_tail hsz ts _ _ a' _ ht h5 (fun _ _ _ => trivial) (.inl h8) h9 ha') h
  refine wpIn_region_any hm ?_
  have e : ts.length + qs.length = l.toArray.size := by simp; omega
  rw [e] at H
  exact wpAny_round lp n (by simpa using hd) hL _ _ _ _ (wpAny_of_T _ _ _ _ H)
end Go.Proofs.YtgjmbokfenpefaaGreatDoor
/- The program's rowAbove: one mark of two and two, by a range over slices.Chunk. -/
namespace Go.Proofs.YtgjmbokfenpefaaGreatDoor
open Go.RowKit Go.Shelf
attribute [local go_sem] Oper.semAt_some

theorem make04 (m : Nat) (h1 : 1 ≤ m) (h4 : m ≤ 4) (w : World) : (Instr.makeSlice 53 (.int .i64 0) (.int .i64 (m : Int))).run Tryz.prog w = .ok (.slice (some ⟨w.heap.size, 0, none⟩) 0 m) (w.alloc (.cells (arr m fun _ => .string ⟨#[]⟩) 9)) := by
  rcases (by omega : m = 1 ∨ m = 2 ∨ m = 3 ∨ m = 4) with rfl | rfl | rfl | rfl <;> kernel_rfl
theorem keepsFrom_row {B k : Nat} {A C : World} {u : Value} (hg : A.grownBy C (some k)) (hu : A.cell? ⟨k, 0, none⟩ = some u) : KeepsFrom B A C :=
  ⟨hg.size, fun j o _ h0 ho => (hg.block j (Array.getElem?_eq_some_iff.1 h0).1 (fun e => by
    obtain rfl : j = k := Option.some.inj e
    unfold World.cell? at hu
    simp only [h0] at hu
    cases o <;> simp_all [Obj.isCells])).trans h0⟩
theorem below_fromA {B : Nat} {W W' : World} (h : Below W.heap.size W W') : KeepsFrom B W W' := ⟨h.size, fun k _ _ hk _ => (h.block k (Array.getElem?_eq_some_iff.1 hk).1).trans hk⟩
theorem set_other {W : World} {B : Nat} {a : Addr} {v : Value} (h : W.cell? a = some v) (hne : B ≠ a.block) (u : Value) : (W.setCell ⟨B, 0, none⟩ u).cell? a = some v :=
  (World.cell?_of_block ((grownBy_setCell' W B u).block a.block (block_lt_of_cell h) (fun e => hne (by cases e; rfl)))).trans h

theorem ups_all {P : List ByteArray} {m : Nat} {ys : List (Fin m)} (hm : P.length = 2 * m) (h : twos ys m) : upsV P ys = upRow P := by
  unfold upsV upRow
  rw [hm, Nat.mul_div_cancel_left m (by omega), ← h, List.map_map]; rfl
def abvAct (g cap m N : Nat) (x : Fin m) : Act :=
  { tmps := #[.slice (some ⟨g, 0, none⟩) (2 * m) cap, undef, .slice none 0 0, .pointer (some ⟨N + 1, 0, none⟩), duo g x, .slice (some ⟨g, 0, none⟩) (2 * m) cap, .int .i64 (2 * (m : Int)), .int .i64 (m : Int), .slice (some ⟨N, 0, none⟩) 0 m,
      .slice (some ⟨g, 0, none⟩) (2 * m) cap, .func (.func 238) #[] #[.pointer (some ⟨N + 1 + 1, 0, none⟩), .pointer (some ⟨N + 1 + 1 + 1, 0, none⟩)], duo g x, undef, undef, undef, undef, undef, undef, undef, undef, undef, undef, undef], defers := [] }

set_option maxHeartbeats 4000000 in
set_option maxRecDepth 100000 in
theorem vAbove_any (P : List ByteArray) (g cap m : Nat) (w : World) (hk : HasK w) (hm : P.length = 2 * m) (h1 : 1 ≤ m) (h4 : m ≤ 4) (hc : P.length ≤ cap) (hs : ∀ p ∈ P, p.size = 16) (hg : g < w.heap.size) (hP : Strs w (some ⟨g, 0, none⟩) P) :
    Calls Tryz.prog 142 #[.slice (some ⟨g, 0, none⟩) P.length cap] w fun e w' => ∃ g' cap', e = .returned (.slice (some ⟨g', 0, none⟩) m cap') ∧ m ≤ cap' ∧ w.heap.size ≤ g' ∧ g' < w'.heap.size ∧ Below w.heap.size w w' ∧ Strs w' (some ⟨g', 0, none⟩) (upRow P) := by
  have HM := Lib.hid hm
  have HCAP := Lib.hid (show 2 * m ≤ cap by rw [← hm]; exact hc)
  rw [hm]
  have hmk := make04 m h1 h4
  refine (callsIn_wide (n := 3)).1 ?_
  refine callsIn_of_wp_marks Tryz.func142 rfl trivial ?_ rfl
  simp only [Tryz.ntmps142, List.size_toArray, List.length_cons, List.length_nil, Nat.reduceAdd, Nat.reduceSub, Array.replicate_succ, Array.replicate_zero, List.push_toArray, List.append_toArray, List.nil_append, List.cons_append]
  clear hm hc
  gi_wp2_with (refine ⟨trivial, ?_⟩; gi_at_call 197; refine (chunk_in Fence.wide 2 trivial rfl _ _ _ _).mono ?_; rintro e w6 ⟨rfl, rfl⟩)
  clear hmk
  obtain ⟨t, ht⟩ : ∃ t : Fin m → Act, t = abvAct g cap m w.heap.size := ⟨_, rfl⟩
  obtain ⟨w0, hw0⟩ : ∃ w0, ((((w.alloc (.cells (arr m fun _ => .string ⟨#[]⟩) 9)).alloc (.cells #[.slice (some ⟨w.heap.size, 0, none⟩) 0 m] 53)).alloc (.cells #[.slice (some ⟨g, 0, none⟩) (2 * m) cap] 53)).alloc (.cells #[.int .i64 2] 3)) = w0 := ⟨_, rfl⟩
  have hz0 : w0.heap.size = w.heap.size + 4 := by rw [← hw0]; simp
  have HB0 := Lib.hid (show Below w.heap.size w w0 by rw [← hw0]; exact ((((Below.refl _ w).alloc (Nat.le_refl _) _).alloc (by simp) _).alloc (by simp; omega) _).alloc (by simp; omega) _)
  have HX := Lib.hid (show Boxed w0 (w.heap.size + 1) 53 (.slice (some ⟨w.heap.size, 0, none⟩) 0 m) by
    rw [← hw0]; have := Boxed.new (w.alloc (.cells (arr m fun _ => .string ⟨#[]⟩) 9)) 53 (.slice (some ⟨w.heap.size, 0, none⟩) 0 m); rw [World.size_alloc] at this; exact (this.alloc _).alloc _)
  have H1 := Lib.hid (show Boxed w0 (w.heap.size + 2) 53 (.slice (some ⟨g, 0, none⟩) (2 * m) cap) by
    rw [← hw0]; have := Boxed.new ((w.alloc (.cells (arr m fun _ => .string ⟨#[]⟩) 9)).alloc (.cells #[.slice (some ⟨w.heap.size, 0, none⟩) 0 m] 53)) 53 (.slice (some ⟨g, 0, none⟩) (2 * m) cap); rw [World.size_alloc, World.size_alloc] at this; exact this.alloc _)
  have H2 := Lib.hid (show Boxed w0 (w.heap.size + 3) 3 (.int .i64 2) by
    rw [← hw0]; have := Boxed.new (((w.alloc (.cells (arr m fun _ => .string ⟨#[]⟩) 9)).alloc (.cells #[.slice (some ⟨w.heap.size, 0, none⟩) 0 m] 53)).alloc (.cells #[.slice (some ⟨g, 0, none⟩) (2 * m) cap] 53)) 3 (.int .i64 2); rw [World.size_alloc, World.size_alloc, World.size_alloc] at this; exact this)
  have HR := Lib.hid (show Row w0 w.heap.size 1 (.slice (some ⟨w.heap.size, 0, none⟩) 0 m) 0 [] by
    rw [← hw0]
    refine (((show Row _ w.heap.size 1 (.slice (some ⟨w.heap.size, 0, none⟩) 0 m) 0 [] from ⟨rfl, .inr ⟨w.heap.size, m, rfl, Nat.le_refl _, by simp, Nat.zero_le _, fun j u hj => by simp at hj, fun j hj => ?_⟩⟩).alloc _).alloc _).alloc _
    have := Holds.new w m (fun _ => .string ⟨#[]⟩) 9
    exact ⟨by rw [this.cell j (by omega)]; rfl, this.free j⟩)
  rw [hw0]
  clear hw0
  refine wpIn_rangeFunc_ownG rfl (by omega) (gf := 238) (lb := #[.pointer (some ⟨w.heap.size + 1 + 1, 0, none⟩), .pointer (some ⟨w.heap.size + 1 + 1 + 1, 0, none⟩)]) rfl trivial (enters_of Tryz.func238 (by kernel_rfl) rfl)
    (chunk_stops Fence.wide 2 trivial rfl (by omega) (w.heap.size + 2) (w.heap.size + 3) w.heap.size g cap m (by omega) HCAP.out w0 (by omega) (by omega) H1.out.cell H2.out.cell) keepTwo_t (keepTwo_b (by omega)) (Below.refl _ _) (fun _ => rfl)
    (fun pre W => Abv P w.heap.size m pre W ∧ Below w.heap.size w W)
    (fun _ _ _ => False)
    (OwnFrom.and (Own.from Abv.own _) (ownFrom_below (Nat.le_refl _) (by omega)))
    (fun _ _ _ _ _ hs _ _ => hs)
    ⟨⟨by omega, HX.out.frozen, _, _, HX.out.cell, h1, .inl rfl, HR.out⟩, HB0.out⟩
    t ?assign ?body ?done ?stop
  case assign =>
    intro l j W K hK
    subst ht
    gi_wp2
    exact hK
  case body =>
    rintro l pre x W ⟨⟨hsz, hf, gg, cc, hc, hcc, hgg, hrow⟩, hB⟩ hlen
    subst ht
    dsimp only [abvAct, duo]
    have hx := x.isLt
    have r1 : W.cell? ⟨g, 2 * x.val, none⟩ = some (.string (P.getD (2 * x.val) ⟨#[]⟩)) := by
      obtain ⟨a, ha, _, hc0⟩ := hP (2 * x.val) _ (getD_get (by have := HM.out; omega))
      cases ha
      rw [add_none, Nat.zero_add] at hc0
      exact (hB.cell (p := ⟨g, 2 * x.val, none⟩) hg).trans hc0
    have r2 : W.cell? ⟨g, 2 * x.val + 1, none⟩ = some (.string (P.getD (2 * x.val + 1) ⟨#[]⟩)) := by
      obtain ⟨a, ha, _, hc0⟩ := hP (2 * x.val + 1) _ (getD_get (by have := HM.out; omega))
      cases ha
      rw [add_none, Nat.zero_add] at hc0
      exact (hB.cell (p := ⟨g, 2 * x.val + 1, none⟩) hg).trans hc0
    have HX1 := Lib.hid (hs _ (List.mem_of_getElem? (getD_get (P := P) (i := 2 * x.val) (by have := HM.out; omega))))
    have HX2 := Lib.hid (hs _ (List.mem_of_getElem? (getD_get (P := P) (i := 2 * x.val + 1) (by have := HM.out; omega))))
    have HUP := Lib.hid (show upsV P (pre ++ [x]) = upsV P pre ++ [twoM (P.getD (2 * x.val) ⟨#[]⟩) (P.getD (2 * x.val + 1) ⟨#[]⟩)] by simp [upsV])
    have HBW := Lib.hid hB
    have HKW := Lib.hid (hk.below hB hk.lt)
    have HROW0 := Lib.hid hrow
    have HGG := Lib.hid hgg
    have HF := Lib.hid hf
    clear hB hrow hgg hf
    generalize P.getD (2 * x.val) ⟨#[]⟩ = p0 at r1 HX1 HUP
    generalize P.getD (2 * x.val + 1) ⟨#[]⟩ = p1 at r2 HX2 HUP
    generalize 2 * x.val = i2 at r1 r2 ⊢
    generalize hpk : pre.length = k at hlen hc HROW0
    have HPK := Lib.hid hpk
    clear hpk
    have z0 : ∀ z : AbvZ w.heap.size g i2 (.slice (some ⟨gg, 0, none⟩) k cc) p0 p1, z.at'.cell? ⟨w.heap.size + 1, 0, none⟩ = some (.slice (some ⟨gg, 0, none⟩) k cc) := fun z => z.h0
    have z1 : ∀ z : AbvZ w.heap.size g i2 (.slice (some ⟨gg, 0, none⟩) k cc) p0 p1, z.at'.cell? ⟨g, i2, none⟩ = some (.string p0) := fun z => z.h1
    have z2 : ∀ z : AbvZ w.heap.size g i2 (.slice (some ⟨gg, 0, none⟩) k cc) p0 p1, z.at'.cell? ⟨g, i2 + 1, none⟩ = some (.string p1) := fun z => z.h2
    have : Nonempty (AbvZ w.heap.size g i2 (.slice (some ⟨gg, 0, none⟩) k cc) p0 p1) := ⟨⟨W.drew, hc, r1, r2⟩⟩
    gi_wp2
    refine wpIn_region_taken l _ (fun w' => ∃ z : AbvZ w.heap.size g i2 (.slice (some ⟨gg, 0, none⟩) k cc) p0 p1, w' = z.at') [0, 1, 2, 3, 4, 5, 6] [7, 8, 9, 10] (by kernel_rfl) (by kernel_rfl) (by intro c d v a w h; cases d <;> exact h) (by rintro ⟨a, w, h⟩; exact h) ⟨⟨W.drew, hc, r1, r2⟩, rfl⟩ ?_
    simp only [pickOps, List.filterMap_cons, List.filterMap_nil, List.getElem?_cons_zero, List.getElem?_cons_succ]
    repeat (first | go_big_quiet_step (fail) | quiet_step (fail))
    refine wpQuiet_nil ?_
    have HGL := Lib.hid (show g < W.heap.size from block_lt_of_cell r1)
    have HNL := Lib.hid (show w.heap.size + 1 < W.heap.size by omega)
    have HZ := Lib.hid (show ∀ u : World, Below W.heap.size W u → ∃ z : AbvZ w.heap.size g i2 (.slice (some ⟨gg, 0, none⟩) k cc) p0 p1, u = z.at' from
      fun u hu => ⟨⟨u, (hu.cell (p := ⟨w.heap.size + 1, 0, none⟩) HNL.out).trans hc, (hu.cell (p := ⟨g, i2, none⟩) HGL.out).trans r1, (hu.cell (p := ⟨g, i2 + 1, none⟩) HGL.out).trans r2⟩, rfl⟩)
    clear z0 z1 z2 this
    refine wpSeq_one rfl (fun K hK => ?_)
    go_wp2_with fail
    refine (vJoin_any p0 p1 _ (show HasK W.drew from HKW.out) HX1.out HX2.out).mono ?_
    rintro e w4 ⟨rfl, hb4⟩
    have HM4 := Lib.hid (show Below W.heap.size W w4 from (Below.refl _ _).drew.trans (hb4.mono (Nat.le_refl _)))
    have HROW := Lib.hid (HROW0.out.belowAll HM4.out)
    clear hb4
    go_wp2
    refine hK _ _ (HZ.out _ HM4.out) ?_
    clear hK K
    refine wpSeq_one rfl (fun K hK => ?_)
    go_wp2
    refine hK _ _ (HZ.out _ (HM4.out.alloc HM4.out.size _)) ?_
    clear hK K
    refine wpSeq_one rfl (fun K hK => ?_)
    refine wpList_append_one3 rfl (.tmp 12) (.tmp 20) 53 rfl 9 Tryz.underlying53 _ 16 infoStr rfl (by decide) w.heap.size _ k (stCells (upsV P pre)) rfl HROW.out (Nat.le_trans HBW.out.size HM4.out.size) (by omega) (.string _) rfl rfl 9 ?_
    intro v' w6 hrow6 hgrow6 hmove6 hkeep6
    obtain ⟨g6, cc6, rfl, hg6, hl6, hn6, -, -⟩ := hrow6.out.shape (by omega)
    have HNE := Lib.hid (show gg ≠ w.heap.size + 1 ∧ gg ≠ w.heap.size + 2 ∧ gg ≠ w.heap.size + 3 by rcases HGG.out with e | e <;> omega)
    have HG6 := Lib.hid ((HBW.out.trans (HM4.out.mono HBW.out.size)).grown hgrow6.out (Nat.le_trans HBW.out.size HM4.out.size) (fun j hj => (HROW.out.lt j hj).1))
    have HG7 := Lib.hid (show g6 = w.heap.size ∨ w.heap.size + 4 ≤ g6 by
      rcases hmove6.out with e | e
      · have : g6 = gg := Option.some.inj e
        subst this; exact HGG.out
      · have := e g6 rfl; have := HM4.out.size; omega)
    have HC4 := Lib.hid (show ∀ (b : Nat) (u : Value), gg ≠ b → W.cell? ⟨b, 0, none⟩ = some u → w6.cell? ⟨b, 0, none⟩ = some u from fun b u hne h =>
      (World.cell?_of_block (hgrow6.out.block b (Nat.lt_of_lt_of_le (block_lt_of_cell h) HM4.out.size) (fun e => hne (Option.some.inj e).symm))).trans ((HM4.out.cell (block_lt_of_cell h)).trans h))
    have HF6 := Lib.hid (show w6.frozen? ⟨w.heap.size + 1, 0, none⟩ = false from
      (World.frozen?_of_block (hgrow6.out.block (w.heap.size + 1) (Nat.lt_of_lt_of_le HNL.out HM4.out.size) (fun e => HNE.out.1 (Option.some.inj e).symm))).trans ((HM4.out.frozen (p := ⟨w.heap.size + 1, 0, none⟩) HNL.out).trans HF.out))
    have hc6 := HC4.out (w.heap.size + 1) _ HNE.out.1 hc
    have hf6 := HF6.out
    have HZ6 := Lib.hid (show ∃ z : AbvZ w.heap.size g i2 (.slice (some ⟨gg, 0, none⟩) k cc) p0 p1, w6 = z.at' from
      ⟨⟨w6, hc6, (HG6.out.cell (p := ⟨g, i2, none⟩) hg).trans ((HBW.out.cell (p := ⟨g, i2, none⟩) hg).symm.trans r1), (HG6.out.cell (p := ⟨g, i2 + 1, none⟩) hg).trans ((HBW.out.cell (p := ⟨g, i2 + 1, none⟩) hg).symm.trans r2)⟩, rfl⟩)
    refine hK _ _ HZ6.out ?_
    clear hK K
    refine wpSeq_last rfl (fun K hK => ?_)
    go_wp2
    refine hK _ _ ?_
    clear hK K
    obtain ⟨u0, hu0⟩ := HROW.out.first hcc
    have HBW6 := Lib.hid (show Below w.heap.size W w6 from (HM4.out.mono HBW.out.size).grown hgrow6.out (Nat.le_trans HBW.out.size HM4.out.size) (fun j hj => (HROW.out.lt j hj).1))
    have hne : ∀ {b : Nat} {u : Value}, gg ≠ b → b ≠ w.heap.size + 1 → W.cell? ⟨b, 0, none⟩ = some u → (w6.setCell ⟨w.heap.size + 1, 0, none⟩ (.slice (some ⟨g6, 0, none⟩) (k + 1) cc6)).cell? ⟨b, 0, none⟩ = some u :=
      fun h1 h2 h => set_other (HC4.out _ _ h1 h) (Ne.symm h2) _
    have hln : (pre ++ [x]).length = k + 1 := by rw [List.length_append, HPK.out]; rfl
    refine ⟨((below_fromA HM4.out).trans (keepsFrom_row hgrow6.out hu0)).trans ((KeepsOthers.setCell _ _ _).from _), ⟨HBW6.out.setCell (p := ⟨w.heap.size + 1, 0, none⟩) (by show w.heap.size ≤ w.heap.size + 1; omega) _, hne HNE.out.2.1 (by omega), hne HNE.out.2.2 (by omega)⟩,
      ⟨?_, by rw [World.frozen?_setCell]; exact hf6, g6, cc6, ?_, by omega, HG7.out, ?_⟩, (HBW.out.trans HBW6.out).setCell (p := ⟨w.heap.size + 1, 0, none⟩) (by show w.heap.size ≤ w.heap.size + 1; omega) _⟩
    · have h1 := HM4.out.size
      have h2 := hgrow6.out.size
      simp only [World.setCell]
      simp
      omega
    · rw [hln]; exact World.cell?_setCell_same' _ _ _ (by rw [hc6]; rfl)
    · rw [hln, HUP.out]
      have e : stCells (upsV P pre ++ [twoM p0 p1]) = stCells (upsV P pre) ++ [.string (twoM p0 p1)] := by simp [stCells]
      rw [e]
      exact hrow6.out.setOther (by intro e; have h6 : g6 = w.heap.size + 1 := Option.some.inj e; have h5 := HG7.out; omega) _
  case done =>
    rintro D ys W hD hys ⟨⟨hsz, hf, gg, cc, hc, hcc, hgg, hrow⟩, hB⟩ hK
    rw [ups_all HM.out hys, twos_len hys] at hrow
    rw [twos_len hys] at hc
    have hr2 := hrow.abide (grownBy_putObj' W D (.deferred none)) (fun r e => by cases e; exact ⟨_, hK, rfl⟩)
    obtain ⟨-, A', cap', hv, hst⟩ := hr2.strs
    injection hv with hA hB2 hC2
    subst hA
    clear hB2 hC2
    have hmc : m ≤ cc := by
      obtain ⟨g2, c2, e, _, _, hle, _⟩ := hrow.shape (by omega)
      injection e with _ _ e; omega
    have HDD := Lib.hid (show w.heap.size ≤ D by omega)
    gi_wp2
    refine ⟨by simp, .inl ⟨_, _, rfl, run_takeDeferred hK, ?_⟩⟩
    exact ⟨_, results_tmp rfl _ _ _, gg, cc, rfl, hmc, (hr2.lt gg rfl).1, (hr2.lt gg rfl).2, hB.trans (belowK_b (w := w) (Nat.le_refl _) W D _ _ HDD.out hK rfl rfl), hst⟩
  case stop =>
    rintro D c pre W _ _ hh _
    exact hh.elim
end Go.Proofs.YtgjmbokfenpefaaGreatDoor
/- The program's firstRow. -/
namespace Go.Proofs.YtgjmbokfenpefaaGreatDoor
open Go.RowKit

theorem make8 (w : World) : (Instr.makeSlice 53 (.int .i64 8) (.int .i64 8)).run Tryz.prog w = .ok (.slice (some ⟨w.heap.size, 0, none⟩) 8 8) (w.alloc (.cells (arr 8 fun _ => .string ⟨#[]⟩) 9)) := by kernel_rfl
set_option maxRecDepth 100000 in
theorem vFirst_t (seed : ByteArray) (w : World) (hk : HasK w) (h16 : seed.size = 16) :
    Calls Tryz.prog 141 #[.string seed] w fun e w' => ∃ g, e = .returned (.tuple #[.slice (some ⟨g, 0, none⟩) 8 8, .nilIface]) ∧ w.heap.size ≤ g ∧ g < w'.heap.size ∧ Below w.heap.size w w' ∧ Strs w' (some ⟨g, 0, none⟩) (lvl seed 0) := by
  have HK := Lib.hid hk
  have HE0 := Lib.hid (show errOf 0 = Value.nilIface from rfl)
  have HPA := Lib.hid (show ∀ k : Int, publicAns seed k = (publicOf seed k, 0) from fun k => by unfold publicAns; rw [if_pos h16])
  clear hk h16
  have hmk := make8
  have HB0 := Lib.hid (alloc_below w (.cells (arr 8 fun _ => .string ⟨#[]⟩) 9))
  have HH0 := Lib.hid (Holds.new w 8 (fun _ => .string ⟨#[]⟩) 9)
  go_enter Tryz.func141, Tryz.ntmps141
  go_wp2
  clear hmk
  go_loopw [9] (fun i wr => ∃ k : Nat, k ≤ 8 ∧ i = .int .i64 (k : Int) ∧ Hid (Below w.heap.size w wr ∧ Holds wr w.heap.size 8 (sfill (rows0 seed 8) k) 9)) (fun i _ => 8 - (intOf i).toNat)
  case atStart => exact ⟨0, by omega, rfl, Lib.hid ⟨HB0.out, HH0.out.congr fun i hi => by unfold sfill; rw [if_neg (by omega)]⟩⟩
  case round =>
    obtain ⟨k, hk, rfl, HU⟩ := hrel
    by_cases hlt : k < 8
    · have HN := Lib.hid HU.out.2.lt
      have HXK := Lib.hid (show (rows0 seed 8)[k]? = some (sLeaf (k : Int) (publicOf seed (k : Int))) from map_range_at _ 8 k hlt)
      have HPS := Lib.hid (show (publicOf seed (k : Int)).size = 16 from markOf_len _ _)
      go_wp2_with fail
      refine (qPublic_is seed (k : Int) _ _ _ (HK.out.below HU.out.1 HK.out.lt) (HPA.out (k : Int))).mono ?_
      rintro e w2 ⟨rfl, hb2⟩
      rw [HE0.out]
      generalize publicOf seed (k : Int) = p at HXK HPS
      have HB2 := Lib.hid (HU.out.1.trans (hb2.mono HU.out.1.size))
      have HH2 := Lib.hid (HU.out.2.below hb2 HN.out)
      have HL2 := Lib.hid (Nat.lt_of_lt_of_le HN.out hb2.size)
      clear hb2
      go_wp2_with fail
      refine (vLeaf_any (k : Int) p _ (HK.out.below HB2.out HK.out.lt) HPS.out).mono ?_
      rintro e w3 ⟨rfl, hb3⟩
      have HB3 := Lib.hid (HB2.out.trans (hb3.mono HB2.out.size))
      have HH3 := Lib.hid (HH2.out.below hb3 HL2.out)
      clear hb3
      have c0 := HH3.out.cell k hlt
      have f0 := HH3.out.free k
      rw [show sfill (rows0 seed 8) k k = .string ⟨#[]⟩ by unfold sfill; rw [if_neg (by omega)]] at c0
      go_wp2
      go_roundw
      case rel =>
        refine ⟨k + 1, by omega, by go_num, Lib.hid ⟨HB3.out.setCell (by show w.heap.size ≤ w.heap.size; omega) _, ?_⟩⟩
        rw [← sfill_succ _ k _ HXK.out]
        exact HH3.out.set k _
      case measure => simp [intOf]; omega
    · obtain rfl : k = 8 := by omega
      have HST := Lib.hid (strs_of_holds HU.out.2 (rows0_length seed 8))
      have HLT := Lib.hid HU.out.2.lt
      have HBF := Lib.hid HU.out.1
      clear hlt hk
      go_wp2
      refine bodyPost_ret (results_tmp2 rfl _ _ _) rfl ?_
      exact ⟨w.heap.size, rfl, Nat.le_refl _, HLT.out, HBF.out, HST.out⟩
end Go.Proofs.YtgjmbokfenpefaaGreatDoor
/- The program's boxes: how they lie, and New. -/
namespace Go.Proofs.YtgjmbokfenpefaaGreatDoor
open Go.RowKit

theorem infoSl : (Tryz.prog.info? 53).map (fun i => (i.zero, i.size, i.bytes)) = some (some (.slice none 0 0), 1, 24) := by kernel_rfl
end Go.Proofs.YtgjmbokfenpefaaGreatDoor
/- The program's New. -/
namespace Go.Proofs.YtgjmbokfenpefaaGreatDoor
open Go.RowKit

theorem rowLen_two (t : Nat) (h : t < 3) : 1 < rowLen t ∧ rowLen t = 2 * rowLen (t + 1) ∧ 1 ≤ rowLen (t + 1) ∧ rowLen (t + 1) ≤ 4 := by
  rcases (by omega : t = 0 ∨ t = 1 ∨ t = 2) with rfl | rfl | rfl <;> decide
set_option maxHeartbeats 2000000 in
set_option maxRecDepth 100000 in
theorem vNew_in (seed : ByteArray) (w : World) (hk : HasK w) (h16 : seed.size = 16) :
    Calls Tryz.prog 86 #[.string seed] w fun e w' => ∃ p, e = .returned (.tuple #[.pointer (some p), .nilIface]) ∧ Below w.heap.size w w' ∧ SealIn (fun k => w.heap.size ≤ k) w' p seed := by
  have HK := Lib.hid hk
  have H16 := Lib.hid h16
  clear hk h16
  go_enter Tryz.func86, Tryz.ntmps86
  go_wp2_with fail
  refine (vFirst_t seed _ HK.out H16.out).mono ?_
  rintro e w1 ⟨g, rfl, hg, hgl, hb1, hst⟩
  obtain ⟨bb, hbb⟩ : ∃ bb, w1.heap.size = bb := ⟨_, rfl⟩
  have HREL := Lib.hid (show NewAt w bb seed 0 0 (.slice (some ⟨g, 0, none⟩) 8 8) (.slice none 0 0) (w1.alloc (.cells #[.string seed, .slice none 0 0, .string ⟨#[]⟩] 220)) by
    refine ⟨hb1.trans ((alloc_below w1 _).mono hb1.size), by rw [← hbb]; exact hb1.size, ?_, (by intro e; cases e), ⟨g, 8, rfl, by decide, by simp; omega, by omega, (by intro e; cases e), hst.below (alloc_below w1 _), hg⟩, [], Row.nil _ _ _, fun j u hj => by simp at hj⟩
    have := Holds.new w1 3 (vbF seed (.slice none 0 0) ⟨#[]⟩) 220
    rw [hbb] at this
    exact this)
  go_wp2
  generalize w1.alloc (.cells #[.string seed, .slice none 0 0, .string ⟨#[]⟩] 220) = w2 at HREL ⊢
  clear hst hb1 hg hgl hbb
  go_loopw [4] (fun rv wr => ∃ (t g c : Nat) (v : Value), t ≤ 3 ∧ rv = .slice (some ⟨g, 0, none⟩) (rowLen t) c ∧ Hid (NewAt w bb seed t t (.slice (some ⟨g, 0, none⟩) (rowLen t) c) v wr)) (fun rv _ => sliceLen rv)
  case atStart => exact ⟨0, g, 8, _, by omega, rfl, HREL⟩
  case round =>
    clear HREL
    obtain ⟨t, g1, c1, v, ht, rfl, HU⟩ := hrel
    by_cases hlt : t < 3
    · obtain ⟨r1, r2, r3, r4⟩ := rowLen_two t hlt
      have HLE := Lib.hid (lvl_length seed t ht)
      have HLN := Lib.hid (lvl_length seed (t + 1) (by omega))
      obtain ⟨xs, hx, hxs⟩ := HU.out.rows
      have HX := Lib.hid hx
      have HXS := Lib.hid hxs
      have HR2 := Lib.hid r2
      obtain ⟨n, hn⟩ : ∃ n, rowLen t = n := ⟨_, rfl⟩
      have HN := Lib.hid hn
      rw [hn] at HU r1 HLE HR2 ⊢
      clear hn hx hxs r2
      have q1 : wr.cell? ⟨bb, 1, none⟩ = some v := HU.out.own.cell 1 (by omega)
      have hi : (1 : Int) < (n : Int) := by omega
      have HO4 := Lib.hid (show ∀ w4 : World, wr.grownBy w4 v.ownBlock → w4.cell? ⟨bb, 1, none⟩ = some v ∧ w4.frozen? ⟨bb, 1, none⟩ = false from fun w4 hg4 => by
        have hb4 := hg4.block bb HU.out.own.lt (fun e => HU.out.apart e.symm)
        exact ⟨(World.cell?_of_block (a := ⟨bb, 1, none⟩) hb4).trans (HU.out.own.cell 1 (by omega)), (World.frozen?_of_block (a := ⟨bb, 1, none⟩) hb4).trans (HU.out.own.free 1)⟩)
      go_wp2_with (at_builtin; refine wpList_append_one2 rfl (.tmp 25) (.tmp 27) 218 rfl 53 Tryz.underlying218 _ 24 infoSl rfl (by decide) w.heap.size v t xs rfl HX.out HU.out.below.size (by omega) _ rfl rfl 53 ?_; intro v' w4 hrow4 hg4 hm4; obtain ⟨p6, cap6, rfl⟩ := hrow4.out.any; have t0 := (HO4.out w4 hg4.out).1; have t1 := (HO4.out w4 hg4.out).2)
      have HP := Lib.hid (HU.out.put rfl HX.out HXS.out hrow4.out hg4.out hm4.out)
      clear hrow4 hg4 hm4
      generalize w4.setCell ⟨bb, 1, none⟩ (.slice p6 (t + 1) cap6) = w5 at HP ⊢
      obtain ⟨g2, c2, e2, hc2, hg2, -, -, hs2, -⟩ := HP.out.cur
      injection e2 with e2a e2b e2c
      cases e2a
      subst e2c
      have HC := Lib.hid (vAbove_any (lvl seed t) g1 c1 (rowLen (t + 1)) w5 (HK.out.below HP.out.below HK.out.lt) (by rw [HLE.out, HR2.out]) r3 r4 (by rw [HLE.out, ← HN.out]; exact hc2) (lvl_size seed t) hg2 hs2)
      rw [HLE.out] at HC
      clear hs2 hc2 hg2 e2b t0 t1
      refine HC.out.mono ?_
      rintro e w6 ⟨g6, c6, rfl, hc6, hg6, hl6, hb6, hs6⟩
      have HP6 := Lib.hid (HP.out.up hb6 hc6 hg6 hl6 hs6)
      clear hc6 hg6 hl6 hb6 hs6
      go_wp2
      go_roundw
      case rel => exact ⟨t + 1, g6, c6, _, by omega, rfl, HP6⟩
      case measure => have := HR2.out; simp [sliceLen]; omega
    · obtain rfl : t = 3 := by omega
      have HNT := Lib.hid (show rowLen 3 = 1 from rfl)
      rw [HNT.out] at HU ⊢
      obtain ⟨g2, c2, e2, -, -, -, -, hs2, -⟩ := HU.out.cur
      cases e2
      obtain ⟨a, ha, -, r0⟩ := hs2 0 (boxPub seed) (by rw [getD_get (by rw [lvl3_length]; omega), lvl3_get])
      cases ha
      rw [add_none] at r0
      have q0 : wr.cell? ⟨bb, 2, none⟩ = some (.string ⟨#[]⟩) := HU.out.own.cell 2 (by omega)
      have q1 : wr.frozen? ⟨bb, 2, none⟩ = false := HU.out.own.free 2
      have HD := Lib.hid HU.out.done
      have HBF := Lib.hid (HU.out.below.setCell (p := ⟨bb, 2, none⟩) (show w.heap.size ≤ bb from HU.out.lb) (.string (boxPub seed)))
      clear hs2 ht hlt
      go_wp2
      refine bodyPost_ret (results_tmp2 rfl _ _ _) rfl ?_
      exact ⟨⟨bb, 0, none⟩, rfl, HBF.out, HD.out⟩
end Go.Proofs.YtgjmbokfenpefaaGreatDoor
/- The program's boxes: Public, the path. -/
namespace Go.Proofs.YtgjmbokfenpefaaGreatDoor
open Go.RowKit

set_option maxRecDepth 100000 in
theorem vPublic_any (p : Addr) (seed : ByteArray) (w : World) (h : SealIs w p seed) :
    Calls Tryz.prog 58 #[.pointer (some p)] w fun e w' => e = .returned (.string (boxPub seed)) ∧ Below w.heap.size w w' := by
  obtain ⟨bb, gr, rc, rfl, h2, h3, h4, h5, h6, h7⟩ := h
  have HB := Lib.hid (Below.refl w.heap.size w)
  clear h7 h5 h4
  go_enter Tryz.func58, Tryz.ntmps58
  go_wp2
  go_ret
  exact ⟨rfl, HB.out⟩
theorem make3 (w : World) : (Instr.makeSlice 53 (.int .i64 3) (.int .i64 3)).run Tryz.prog w = .ok (.slice (some ⟨w.heap.size, 0, none⟩) 3 3) (w.alloc (.cells (arr 3 fun _ => .string ⟨#[]⟩) 9)) := by kernel_rfl
set_option maxRecDepth 100000 in
theorem vPath_any (p : Addr) (seed : ByteArray) (key : Nat) (w : World) (h : SealIs w p seed) (hk7 : key ≤ 7) :
    Calls Tryz.prog 207 #[.pointer (some p), .int .i64 (key : Int)] w fun e w' => ∃ g, e = .returned (.slice (some ⟨g, 0, none⟩) 3 3) ∧ w.heap.size ≤ g ∧ Below w.heap.size w w' ∧ Strs w' (some ⟨g, 0, none⟩) (sealPath seed key 3) := by
  have H := Lib.hid h
  obtain ⟨bb, gr, rc, rfl, h2, h3, h4, h5, h6, h7⟩ := h
  have HB0 := Lib.hid (alloc_below w (.cells (arr 3 fun _ => .string ⟨#[]⟩) 9))
  have HH0 := Lib.hid (Holds.new w 3 (fun _ => .string ⟨#[]⟩) 9)
  have H2 := Lib.hid h2
  have H3 := Lib.hid h3
  have H7 := Lib.hid h7
  have q5 := (HB0.out.cell (p := ⟨bb, 1, none⟩) h2).trans h5
  clear h2 h3 h4 h5 h6 h7
  have hmk := make3
  go_enter Tryz.func207, Tryz.ntmps207
  go_wp2
  clear hmk q5
  go_loopw [14] (fun i wr => ∃ k : Nat, k ≤ 3 ∧ i = .int .i64 (k : Int) ∧ Hid (Below w.heap.size w wr ∧ Holds wr w.heap.size 3 (sfill (sealPath seed key 3) k) 9)) (fun i _ => 3 - (intOf i).toNat)
  case atStart => exact ⟨0, by omega, rfl, Lib.hid ⟨HB0.out, HH0.out.congr fun i hi => by unfold sfill; rw [if_neg (by omega)]⟩⟩
  case round =>
    obtain ⟨k, hk, rfl, HU⟩ := hrel
    by_cases hlt : k < 3
    · obtain ⟨g, c, r1, hst⟩ := H7.out k hlt
      have s1 := sib_lt key k hk7 hlt
      have s2 := sib_xor key k hk7 hlt
      have s3 := getD_get (P := lvl seed k) (i := sib (key / 2 ^ k)) (by rw [lvl_length seed k hk]; exact s1)
      obtain ⟨a, ha, hal, r2⟩ := hst _ _ s3
      cases ha
      have HXK := Lib.hid (show (sealPath seed key 3)[k]? = some ((lvl seed k).getD (sib (key / 2 ^ k)) ⟨#[]⟩) by rw [lvl_get seed k _ hlt s1]; exact map_range_at _ 3 k hlt)
      rw [add_none, Nat.zero_add] at r2
      have e1 := (HU.out.1.cell (p := ⟨gr, k, none⟩) H3.out).trans r1
      have e2 := (HU.out.1.cell (p := ⟨g, sib (key / 2 ^ k), none⟩) hal).trans r2
      clear s3 hst r1 r2 hal
      generalize (lvl seed k).getD (sib (key / 2 ^ k)) ⟨#[]⟩ = x at HXK e2
      generalize sib (key / 2 ^ k) = q at s1 s2 e2
      generalize rowLen k = n at s1 e1
      have s4 : (q : Int) < (n : Int) := by omega
      have s5 : (0 : Int) ≤ (q : Int) := by omega
      have c0 := HU.out.2.cell k hlt
      have f0 := HU.out.2.free k
      rw [show sfill (sealPath seed key 3) k k = .string ⟨#[]⟩ by unfold sfill; rw [if_neg (by omega)]] at c0
      go_wp2
      go_roundw
      case rel =>
        refine ⟨k + 1, by omega, by go_num, Lib.hid ⟨HU.out.1.setCell (by show w.heap.size ≤ w.heap.size; omega) _, ?_⟩⟩
        rw [← sfill_succ _ k _ HXK.out]
        exact HU.out.2.set k _
      case measure => simp [intOf]; omega
    · obtain rfl : k = 3 := by omega
      have HST := Lib.hid (strs_of_holds HU.out.2 (sealPath_length seed key 3))
      have HBF := Lib.hid HU.out.1
      clear hlt hk
      go_wp2
      go_ret
      exact ⟨w.heap.size, rfl, Nat.le_refl _, HBF.out, HST.out⟩
end Go.Proofs.YtgjmbokfenpefaaGreatDoor
