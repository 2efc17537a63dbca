/- Parts of the proof, one behind the other: Held, Box, SealS, Lead, SetM, Dst, SealV, Cl, Au, MapP. -/
import Derived.Tactics
import Derived.Orders
import Derived.WalkKit
import Derived.StillTail
import Derived.OrdersHeld
import Derived.Deep.Quiet
import Derived.Deep.QuietTactic
import Derived.Lib.Hide
import Derived.WalkLawsBesides
import Derived.Deep.WholeRow
import Derived.ArgAppend
import Derived.Laws.AppendOwnNone
import Derived.Laws.CopyRow
import Derived.Deep.RegionLaw
import Derived.Laws.BytesString
import Derived.Laws.IdiomStrings
import Derived.Test.YtgjmbokfenpefaaGreatDoorProg
import Derived.Laws.BitsAllLaws
import Derived.Outline
import Derived.BigQuiet
import Derived.Laws.CopyOwn
import Derived.RegionTactic
import Derived.Deep.RegionHeld3
import Derived.Deep.DeepCutAuto
import Derived.IntWalk
import Derived.Sort.Walk0
import Derived.Laws.ResultCell
import Derived.LaidEql
import Derived.Stop.Asserts
import Derived.RowKitTokens
import Derived.Sort.LotA
import Derived.Lib.SortBridge
import Derived.StringKeys
import Derived.Maps.Own
import Derived.Maps.Views
import Derived.Maps.OwnSet
import Derived.Maps.OwnOps
import Derived.Maps.RangeWalk
import Derived.Sort.KeysCollected
import Derived.Test.YtgjmbokfenpefaaGreatDoorM1
import Derived.Test.YtgjmbokfenpefaaGreatDoorM2
import Derived.Test.YtgjmbokfenpefaaGreatDoorM3
import Derived.Test.YtgjmbokfenpefaaGreatDoorM4
import Derived.Test.YtgjmbokfenpefaaGreatDoorM5
/- A region that draws its order: loads and plain operations taken first, in any listed order; then operations in one forced order, the last of which may write what was loaded. One walk serves. No program is imported. -/
namespace Go.Proofs.YtgjmbokfenpefaaGreatDoor
open Go.RowKit

section
variable {P : Program} {ops : Array Oper} {md : Region.Mode} {S : World → Prop} {Q : Exit → Act → World → Prop}

/-- Whatever order is picked; S is shown behind each operation but the last one. -/
def wpAnyT (P : Program) (md : Region.Mode) (ops : Array Oper) (Q : Exit → Act → World → Prop) (S : World → Prop) (n : Nat) : Nat → Array Bool → Act → World → Prop
  | 0, listed, a, w => Region.ready md ops listed = [] ∧ Q .normal a w
  | fuel + 1, listed, a, w =>
    (Region.ready md ops listed = [] → Q .normal a w) ∧
    ∀ i ∈ Region.ready md ops listed, wpOp P ops Q i (fun a' w' => (i ≠ n → S w') ∧ wpAnyT P md ops Q S n fuel (listed.setIfInBounds i true) a' w') a w
theorem wpAny_of_T {n : Nat} : ∀ (fuel : Nat) (listed : Array Bool) (a : Act) (w : World), wpAnyT P md ops Q S n fuel listed a w → wpAny P md ops Q fuel listed a w
  | 0, _, _, _, h => h
  | fuel + 1, _, _, _, h => ⟨h.1, fun i hi => wpOp_mono (fun a' w' h' => wpAny_of_T fuel _ a' w' h'.2) (h.2 i hi)⟩
theorem wpAnyT_first {n i : Nat} {oi : Oper} {v : Value} (hs : Region.sinkB md ops n = true) (hc : Region.chainB md ops n = true) (hn : n < ops.size) (hin : i < n) (hi : ops[i]? = some oi) (hsel : ∀ (j : Nat) (o : Oper) cs b, ops[j]? = some o → o.op ≠ .select cs b)
    (hQ : ∀ c a w, Q (.panic c) (a.put oi.dst v) w → Q (.panic c) a w) :
    ∀ (fuel : Nat) (listed : Array Bool) (a : Act) (w : World), HeadInv md ops n listed →
      (∀ j oj, ops[j]? = some oj → j ≠ i → listed.getD j true = false → (∀ e ∈ oj.after, Region.binds md e = true → e.on ≠ i) → oi.apart ops oj = true) →
      i ∈ Region.ready md ops listed → YieldsIf P ops S oi v a → S w →
      wpAnyT P md ops Q S n fuel (listed.setIfInBounds i true) (a.put oi.dst v) w → wpAnyT P md ops Q S n (fuel + 1) listed a w := by
  intro fuel
  induction fuel with
  | zero =>
    intro listed a w _ _ hr hy hS H
    refine ⟨fun h => (by rw [h] at hr; cases hr), fun j hj => ?_⟩
    by_cases hji : j = i
    · subst hji; exact hy.wpOp hi hS ⟨fun _ => hS, H⟩
    · have := ready_mono hj hji
      rw [H.1] at this
      cases this
  | succ fuel ih =>
    intro listed a w inv hfree hr hy hS H
    refine ⟨fun h => (by rw [h] at hr; cases hr), fun j hj => ?_⟩
    by_cases hji : j = i
    · subst hji; exact hy.wpOp hi hS ⟨fun _ => hS, H⟩
    · have h1 := H.2 j (ready_mono hj hji)
      obtain ⟨hjun, oj, hoj, hall⟩ := mem_ready.1 hj
      have hjl : j < ops.size := (Array.getElem?_eq_some_iff.1 hoj).1
      have hun : listed.getD i true = false := (mem_ready.1 hr).1
      have hjn : j < n := by
        rcases Nat.lt_or_ge j n with h | h
        · exact h
        · exact absurd hj (tail_waits hs hc hn inv (n - i) i rfl hin hun j h)
      have hnot : ∀ e ∈ oj.after, Region.binds md e = true → e.on ≠ i := fun e he hb heq => by
        have h1 := hall e he hb
        have h0 := (mem_ready.1 hr).1
        rw [heq] at h1
        rcases Nat.lt_or_ge i listed.size with h' | h'
        · simp [h'] at h0 h1; rw [h0] at h1; cases h1
        · simp [Array.getElem?_eq_none h'] at h1
      have h2 := wpOp_putIf hoj (hfree j oj hoj hji hjun hnot) (fun cs b => hsel i oi cs b hi) (fun cs b => hsel j oj cs b hoj) hQ hy h1
      have hfree' : ∀ k ok, ops[k]? = some ok → k ≠ i → (listed.setIfInBounds j true).getD k true = false →
          (∀ e ∈ ok.after, Region.binds md e = true → e.on ≠ i) → oi.apart ops ok = true := fun k ok hk hki hun hno => by
        refine hfree k ok hk hki ?_ hno
        by_cases hjk : j = k
        · subst hjk; exact hjun
        · rw [getD_set_ne true hjk] at hun; exact hun
      refine wpOp_mono (fun a' w' h3 => ⟨h3.2.1, ih (listed.setIfInBounds j true) a' w' (inv.set hj hjn) hfree' (ready_mono hr (Ne.symm hji)) h3.1 (h3.2.1 (by omega)) ?_⟩) h2
      rw [Array.setIfInBounds_comm _ _ hji]
      exact h3.2.2

/-- Operations that yield a value and enter nothing. -/
def plainOp (o : Oper) : Bool := match o.op with
  | .move _ | .assign _ | .load _ _ | .binOp _ _ _ _ _ | .unOp _ _ _ | .fieldAddr _ _ _ | .indexAddr _ _ _ | .index _ _ _ | .extract _ _ | .convert _ _ _ | .slice _ _ _ _ _ | .nilCheck _ => true
  | _ => false
theorem plain_value {o : Oper} (h : plainOp o = true) (ρ : Operand → Value) (w w' : World) (x : Next) (hx : (execOp ρ o).run P w = .ok x w') : ∃ u, x = .value u := by
  have key : ∀ s : Sem Value, (do let y ← s; pure (Next.value y) : Sem Next).run P w = .ok x w' → ∃ u, x = .value u := by
    intro s hs
    rw [Sem.run_bind] at hs
    generalize s.run P w = r at hs
    cases r with
    | ok y w1 => simp only [Result.andThen_ok, Sem.run_pure] at hs; injection hs with h1 _; exact ⟨y, h1.symm⟩
    | halt y w1 => simp [Result.andThen] at hs
  unfold plainOp at h
  unfold execOp at hx
  have val : ∀ u : Value, (pure (Next.value u) : Sem Next).run P w = .ok x w' → ∃ u, x = .value u := by
    intro u hu
    rw [Sem.run_pure] at hu
    injection hu with h1 _
    exact ⟨u, h1.symm⟩
  cases ho : o.op <;> rw [ho] at h hx <;> first
    | exact key _ hx
    | exact val _ hx
    | (exfalso; revert h; simp; done)
    | skip
  simp only at hx
  split at hx
  · exact absurd hx (by simp [runtimePanic])
  · exact absurd hx (by simp [runtimePanic])
  · exact absurd hx (by simp [runtimePanic])
  · split at hx
    · exact absurd hx (by simp [runtimePanic])
    · rw [Sem.run_bind] at hx
      generalize program.run P w = r1 at hx
      cases r1 with
      | halt e w1 => simp [Result.andThen] at hx
      | ok p w1 =>
        simp only [Result.andThen_ok] at hx
        rw [Sem.run_bind] at hx
        generalize (nilAhead _ _ _ _).run P w1 = r2 at hx
        cases r2 with
        | halt e w2 => simp [Result.andThen] at hx
        | ok y w2 =>
          simp only [Result.andThen_ok] at hx
          split at hx
          · simp [unsupported, Result.andThen] at hx
          · rw [Sem.run_pure] at hx
            injection hx with h1 _
            exact ⟨_, h1.symm⟩
    · exact val _ hx
  · exact val _ hx
theorem yields_of_quiet {o : Oper} {v : Value} {a : Act} (hp : plainOp o = true) (hw : Region.wanted o (yielded ops a.tmps) = true) (h : ∀ w, S w → o.quietAt P a S w v) : YieldsIf P ops S o v a := by
  refine .inl ⟨hw, fun w hS => ?_⟩
  have h1 := h w hS
  unfold Oper.quietAt at h1
  generalize hr : (execOp a.eval o).run P w = r at h1
  cases r with
  | ok x w' =>
    obtain ⟨u, rfl⟩ := plain_value hp a.eval w w' x hr
    simp only [Oper.quietUpon] at h1
    rw [h1.1, h1.2]
  | halt x w' => simp only [Oper.quietUpon] at h1

/-- What is checked of the operations that are taken first. -/
def takeB (md : Region.Mode) (ops : Array Oper) (n : Nat) : List Nat → Array Bool → Bool
  | [], _ => true
  | i :: r, listed => decide (i < n) && (Region.ready md ops listed).contains i && Region.free md ops listed i && (match ops[i]? with | some o => plainOp o | none => false) && takeB md ops n r (listed.setIfInBounds i true)
def taken : List Nat → Array Bool → Array Bool
  | [], listed => listed
  | i :: r, listed => taken r (listed.setIfInBounds i true)
/-- .. and of those that come behind, in one forced order. -/
def tailB (md : Region.Mode) (ops : Array Oper) : List Nat → Array Bool → Bool
  | [], listed => (Region.ready md ops listed).isEmpty
  | t :: r, listed => decide (Region.ready md ops listed = [t]) && tailB md ops r (listed.setIfInBounds t true)
/-- The forced operations, one behind the other, S between them. -/
def wpSeq (P : Program) (ops : Array Oper) (S : World → Prop) (Q : Exit → Act → World → Prop) : List Oper → Act → World → Prop
  | [], a, w => Q .normal a w
  | o :: r, a, w => o.guard = none ∧ wpList P ops (Then1 fun a' w' => (r ≠ [] → S w') ∧ wpSeq P ops S Q r a' w') [o] a w

theorem wpAnyT_quiet {n : Nat} (hs : Region.sinkB md ops n = true) (hc : Region.chainB md ops n = true) (hsz : ops.size = n + 1) (hsel : Region.noSelect ops = true) (hQ : ∀ c d v a w, Q (.panic c) (a.put d v) w → Q (.panic c) a w)
    {fuel : Nat} {w : World} {Qp : Act → Prop} (hS : S w) :
    ∀ (qs : List Nat) (ql : List Oper) (listed : Array Bool) (a : Act), qs.map (fun i => ops[i]?) = ql.map some → takeB md ops n qs listed = true → HeadInv md ops n listed →
      (∀ a', Qp a' → wpAnyT P md ops Q S n fuel (taken qs listed) a' w) → wpQuiet P ops S Qp ql a → wpAnyT P md ops Q S n (fuel + qs.length) listed a w
  | [], [], listed, a, _, _, _, hK, h => hK a h
  | [], _ :: _, _, _, hm, _, _, _, _ => by simp at hm
  | _ :: _, [], _, _, hm, _, _, _, _ => by simp at hm
  | i :: qs, o :: ql, listed, a, hm, hB, inv, hK, h => by
    simp only [List.map_cons, List.cons.injEq] at hm
    obtain ⟨hi, hm⟩ := hm
    simp only [takeB, Bool.and_eq_true, decide_eq_true_eq, hi] at hB
    obtain ⟨⟨⟨⟨hin, hr⟩, hf⟩, hp⟩, hB⟩ := hB
    have hr' : i ∈ Region.ready md ops listed := by simpa using hr
    have inv' := inv.set hr' hin
    have hn : n < ops.size := by omega
    unfold wpQuiet at h
    by_cases hw : Region.wanted o (yielded ops a.tmps) = true
    · rw [if_pos hw] at h
      obtain ⟨v, h1, h2⟩ := h
      exact wpAnyT_first hs hc hn hin hi (Region.noSelect_spec hsel) (fun c a w => hQ c _ _ a w) (fuel + qs.length) listed a w inv (Region.free_spec hi hf) hr' (yields_of_quiet hp hw h1) hS
        (wpAnyT_quiet hs hc hsz hsel hQ hS qs ql _ _ hm hB inv' hK h2)
    · rw [if_neg hw] at h
      exact wpAnyT_first hs hc hn hin hi (Region.noSelect_spec hsel) (fun c a w => hQ c _ _ a w) (fuel + qs.length) listed a w inv (Region.free_spec hi hf) hr' (.inr ⟨by simpa using hw, rfl⟩) hS
        (wpAnyT_quiet hs hc hsz hsel hQ hS qs ql _ _ hm hB inv' hK h)
theorem wpAnyT_tail {n : Nat} (hsz : ops.size = n + 1) : ∀ (ts : List Nat) (tl : List Oper) (listed : Array Bool) (a : Act) (w : World), ts.map (fun i => ops[i]?) = tl.map some → tailB md ops ts listed = true → (∀ t ∈ ts, t ≠ n → True) → ts.getLast? = some n ∨ ts = [] → ts.Nodup →
      wpSeq P ops S Q tl a w → wpAnyT P md ops Q S n ts.length listed a w
  | [], [], listed, a, w, _, hB, _, _, _, h => ⟨by simpa [tailB] using hB, h⟩
  | [], _ :: _, _, _, _, hm, _, _, _, _, _ => by simp at hm
  | _ :: _, [], _, _, _, hm, _, _, _, _, _ => by simp at hm
  | t :: ts, o :: tl, listed, a, w, hm, hB, hx, hl, hnd, h => by
    simp only [List.map_cons, List.cons.injEq] at hm
    obtain ⟨ho, hm⟩ := hm
    simp only [tailB, Bool.and_eq_true, decide_eq_true_eq] at hB
    obtain ⟨hr, hB⟩ := hB
    obtain ⟨hg, h⟩ := h
    refine ⟨fun h0 => (by rw [hr] at h0; cases h0), fun j hj => ?_⟩
    rw [hr, List.mem_singleton] at hj
    subst hj
    have hw : Region.wanted o (yielded ops a.tmps) = true := by simp [Region.wanted, hg]
    unfold wpOp
    rw [ho]
    simp only [hw, if_true]
    refine .inl (Oper.wp_mono (fun a' w' h' => ?_) (wp_of_list hg h))
    refine ⟨fun hne => h'.1 (fun e => ?_), ?_⟩
    · subst e
      have : ts = [] := by cases ts with
        | nil => rfl
        | cons x y => simp at hm
      subst this
      rcases hl with hl | hl
      · simp at hl; exact hne hl
      · cases hl
    · refine wpAnyT_tail hsz ts tl _ a' w' hm hB (fun _ _ _ => trivial) ?_ (List.nodup_cons.1 hnd).2 h'.2
      cases ts with
      | nil => exact .inr rfl
      | cons x y =>
        rcases hl with hl | hl
        · rw [List.getLast?_cons_cons] at hl; exact .inl hl
        · cases hl
end
/-- The region: the operations qs taken first, then ts one behind the other. -/
theorem wp_region_held_tail {P : Program} {id : Nat} {Q : Exit → Act → World → Prop} {a : Act} {w : World} {l : List Oper} (S : World → Prop) (qs ts : List Nat) (ql tl : List Oper) (hm : P.follows .mixedOrders = true)
    (hq : qs.map (fun i => l.toArray[i]?) = ql.map some) (ht : ts.map (fun i => l.toArray[i]?) = tl.map some)
    (hB : (Region.sinkB .any l.toArray (l.length - 1) && Region.chainB .any l.toArray (l.length - 1) && Region.noSelect l.toArray && takeB .any l.toArray (l.length - 1) qs (Array.replicate l.toArray.size false)
      && tailB .any l.toArray ts (taken qs (Array.replicate l.toArray.size false)) && decide (qs.length + ts.length = l.length) && decide (0 < l.length) && decide (ts.getLast? = some (l.length - 1)) && decide ts.Nodup) = true)
    (hQ : ∀ c d v a w, Q (.panic c) (a.put d v) w → Q (.panic c) a w) (hS : S w.drew)
    (h : wpQuiet P l.toArray S (fun a' => wpSeq P l.toArray S Q tl a' w.drew) ql a) : (Code.region id l.toArray true).wp P Q a w := by
  simp only [Bool.and_eq_true, decide_eq_true_eq] at hB
  obtain ⟨⟨⟨⟨⟨⟨⟨⟨h1, h2⟩, h3⟩, h4⟩, h5⟩, h6⟩, h7⟩, h8⟩, h9⟩ := hB
  have hsz : l.toArray.size = (l.length - 1) + 1 := by simp; omega
  have inv0 : HeadInv .any l.toArray (l.length - 1) (Array.replicate l.toArray.size false) :=
    ⟨by simp, fun j oj _ hl => (by rw [getD_replicate_false] at hl; cases hl), fun t _ ht => getD_in (by simpa using ht) (getD_replicate_false _ _)⟩
  have H := wpAnyT_quiet (md := .any) (fuel := ts.length) h1 h2 hsz h3 hQ hS qs ql _ a hq h4 inv0 (fun a' ha' => wpAnyT_tail hsz ts tl _ a' _ ht h5 (fun _ _ _ => trivial) (.inl h8) h9 ha') h
  refine wp_region_any hm ?_
  have e : ts.length + qs.length = l.toArray.size := by simp; omega
  rw [e] at H
  exact wpAny_of_T _ _ _ _ H
/-- The operations of these numbers. -/
def pickOps (l : List Oper) (qs : List Nat) : List Oper := qs.filterMap fun i => l[i]?
theorem pick_all (l : List Oper) : ∀ qs : List Nat, (qs.all fun i => decide (i < l.length)) = true → qs.map (fun i => l.toArray[i]?) = (pickOps l qs).map some
  | [], _ => rfl
  | i :: qs, h => by
    simp only [List.all_cons, Bool.and_eq_true, decide_eq_true_eq] at h
    have e : l[i]? = some l[i] := List.getElem?_eq_getElem h.1
    have := pick_all l qs h.2
    unfold pickOps at this ⊢
    rw [List.map_cons, List.filterMap_cons, e, this]
    simp [h.1]
def heldB (l : List Oper) (qs ts : List Nat) : Bool :=
  (Region.sinkB .any l.toArray (l.length - 1) && Region.chainB .any l.toArray (l.length - 1) && Region.noSelect l.toArray && takeB .any l.toArray (l.length - 1) qs (Array.replicate l.toArray.size false)
      && tailB .any l.toArray ts (taken qs (Array.replicate l.toArray.size false)) && decide (qs.length + ts.length = l.length) && decide (0 < l.length) && decide (ts.getLast? = some (l.length - 1)) && decide ts.Nodup) && (qs.all fun i => decide (i < l.length)) && (ts.all fun i => decide (i < l.length))
theorem wp_region_taken {P : Program} {id : Nat} {Q : Exit → Act → World → Prop} {a : Act} {w : World} {l : List Oper} (S : World → Prop) (qs ts : List Nat) (hm : P.follows .mixedOrders = true)
    (hB : heldB l qs ts = true) (hQ : ∀ c d v a w, Q (.panic c) (a.put d v) w → Q (.panic c) a w) (hS : S w.drew)
    (h : wpQuiet P l.toArray S (fun a' => wpSeq P l.toArray S Q (pickOps l ts) a' w.drew) (pickOps l qs) a) : (Code.region id l.toArray true).wp P Q a w := by
  unfold heldB at hB
  rw [Bool.and_eq_true, Bool.and_eq_true] at hB
  obtain ⟨⟨h1, h2⟩, h3⟩ := hB
  exact wp_region_held_tail S qs ts _ _ hm (pick_all l qs h2) (pick_all l ts h3) h1 hQ hS h
/-- One forced operation, S shown behind it. -/
theorem wpSeq_one {P : Program} {ops : Array Oper} {S : World → Prop} {Q : Exit → Act → World → Prop} {a : Act} {w : World} {o : Oper} {r : List Oper} (hg : o.guard = none)
    (h : ∀ K : Act → World → Prop, (∀ a' w', S w' → wpSeq P ops S Q r a' w' → K a' w') → wpList P ops (Then1 K) [o] a w) : wpSeq P ops S Q (o :: r) a w :=
  ⟨hg, h _ fun _ _ h1 h2 => ⟨fun _ => h1, h2⟩⟩
/-- The last one. -/
theorem wpSeq_last {P : Program} {ops : Array Oper} {S : World → Prop} {Q : Exit → Act → World → Prop} {a : Act} {w : World} {o : Oper} (hg : o.guard = none)
    (h : ∀ K : Act → World → Prop, (∀ a' w', Q .normal a' w' → K a' w') → wpList P ops (Then1 K) [o] a w) : wpSeq P ops S Q [o] a w :=
  ⟨hg, h _ fun _ _ h1 => ⟨fun h => absurd rfl h, h1⟩⟩
end Go.Proofs.YtgjmbokfenpefaaGreatDoor
/- The document's NewBox, Public. -/
namespace Go.Proofs.YtgjmbokfenpefaaGreatDoor
open Go.RowKit

def rows0 (seed : ByteArray) (k : Nat) : List ByteArray := (List.range k).map fun c : Nat => markOf 116 [txt (num8 (c : Int)), publicOf seed (c : Int)]
def rowsUpto (seed : ByteArray) : Nat → List ByteArray
  | 0 => rows0 seed 8
  | j + 1 => rowsUpto seed j ++ [markOf 117 [(rowsUpto seed j).getD (2 * j) ⟨#[]⟩, (rowsUpto seed j).getD (2 * j + 1) ⟨#[]⟩]]
def rowsOf (seed : ByteArray) : List ByteArray := rowsUpto seed 7
def boxPub (seed : ByteArray) : ByteArray := (rowsOf seed).getD 14 ⟨#[]⟩
theorem rows0_length (seed : ByteArray) (k : Nat) : (rows0 seed k).length = k := by unfold rows0; simp
theorem rowsUpto_length (seed : ByteArray) : ∀ j, (rowsUpto seed j).length = 8 + j
  | 0 => rows0_length seed 8
  | j + 1 => by rw [rowsUpto, List.length_append, rowsUpto_length seed j]; simp; omega
theorem rows0_size (seed : ByteArray) (k : Nat) : ∀ p ∈ rows0 seed k, p.size = 16 := by
  intro p hp
  unfold rows0 at hp
  obtain ⟨c, _, rfl⟩ := List.mem_map.1 hp
  exact markOf_len _ _
theorem rowsUpto_size (seed : ByteArray) : ∀ j, ∀ p ∈ rowsUpto seed j, p.size = 16
  | 0 => rows0_size seed 8
  | j + 1 => by
    intro p hp
    rw [rowsUpto, List.mem_append] at hp
    rcases hp with hp | hp
    · exact rowsUpto_size seed j p hp
    · simp at hp; subst hp; exact markOf_len _ _
def bxF (seed : ByteArray) (v : Value) : Nat → Value := fun i => if i = 0 then .string seed else v
structure BoxRel (bb : Nat) (w wr : World) (seed : ByteArray) (R : List ByteArray) (v : Value) : Prop where
  below : Below w.heap.size w wr
  lt : w.heap.size ≤ bb
  own : Holds wr bb 2 (bxF seed v) 112
  row : Row wr (bb + 1) 1 v R.length (stCells R)
/-- One row more. -/
theorem BoxRel.next {bb : Nat} {w wr w3 w4 : World} {seed : ByteArray} {R : List ByteArray} {v v' : Value} {y : ByteArray} (h : BoxRel bb w wr seed R v) (hb : Below wr.heap.size wr w3)
    (hrow : Row w4 (bb + 1) 1 v' (R.length + 1) (stCells R ++ [.string y])) (hg : w3.grownBy w4 v.ownBlock) : BoxRel bb w (w4.setCell ⟨bb, 1, none⟩ v') seed (R ++ [y]) v' := by
  have hrow3 : Row w3 (bb + 1) 1 v R.length (stCells R) := h.row.belowAll hb
  have hown3 := h.own.below hb h.own.lt
  have hb3 : Below w.heap.size w w3 := h.below.trans (hb.mono h.below.size)
  have hlt := h.lt
  refine ⟨(hb3.grown hg hb3.size (fun k hk => by have := (hrow3.lt k hk).1; omega)).setCell (p := ⟨bb, 1, none⟩) (by show w.heap.size ≤ bb; omega) _, hlt, ?_, ?_⟩
  · have h4 : Holds w4 bb 2 (bxF seed v) 112 := by
      unfold Holds at hown3 ⊢
      rw [hg.block bb (lt_of_block hown3) (fun e => hrow3.fresh (Nat.lt_succ_self bb) e.symm)]; exact hown3
    refine (h4.set 1 v').congr fun i hi => ?_
    unfold upd bxF
    rcases (show i = 0 ∨ i = 1 by omega) with rfl | rfl <;> simp
  · have e : stCells (R ++ [y]) = stCells R ++ [.string y] := by simp [stCells]
    rw [List.length_append, e]
    exact hrow.setOther (hrow.fresh (Nat.lt_succ_self _)) _

/-- A world in which a box's rows, and two of them, read so. -/
structure BoxZ (bb g i : Nat) (v : Value) (x y : ByteArray) where
  at' : World
  h0 : at'.cell? ⟨bb, 1, none⟩ = some v
  h1 : at'.cell? ⟨g, i, none⟩ = some (.string x)
  h2 : at'.cell? ⟨g, i + 1, none⟩ = some (.string y)
end Go.Proofs.YtgjmbokfenpefaaGreatDoor
/- The document's NewBox of no mark, Public, SealSign. -/
namespace Go.Proofs.YtgjmbokfenpefaaGreatDoor
open Go.RowKit

/-- A box in memory: its seed and its rows. -/
structure BoxIs (w : World) (bb : Nat) (seed : ByteArray) : Prop where
  lt : bb < w.heap.size
  sd : w.cell? ⟨bb, 0, none⟩ = some (.string seed)
  rows : ∃ g rc, g < w.heap.size ∧ w.cell? ⟨bb, 1, none⟩ = some (.slice (some ⟨g, 0, none⟩) 15 rc) ∧ ∀ k, k < 15 → w.cell? ⟨g, k, none⟩ = some (.string ((rowsOf seed).getD k ⟨#[]⟩))
theorem BoxIs.below {w w' : World} {bb : Nat} {seed : ByteArray} (h : BoxIs w bb seed) (hb : Below w.heap.size w w') : BoxIs w' bb seed := by
  obtain ⟨g, rc, hg, h1, h2⟩ := h.rows
  exact ⟨Nat.lt_of_lt_of_le h.lt hb.size, (hb.cell h.lt).trans h.sd, g, rc, Nat.lt_of_lt_of_le hg hb.size, (hb.cell (p := ⟨bb, 1, none⟩) h.lt).trans h1, fun k hk => (hb.cell (p := ⟨g, k, none⟩) hg).trans (h2 k hk)⟩
theorem BoxRel.is {bb : Nat} {w wr : World} {seed : ByteArray} {v : Value} (h : BoxRel bb w wr seed (rowsOf seed) v) : BoxIs wr bb seed := by
  have hl : (rowsOf seed).length = 15 := rowsUpto_length seed 7
  obtain ⟨g, rc, rfl, _, hg, _, hc, _⟩ := h.row.shape (by omega)
  refine ⟨h.own.lt, h.own.cell 0 (by omega), g, rc, hg, by have := h.own.cell 1 (by omega); rw [hl] at this; exact this, fun k hk => hc k _ ?_⟩
  unfold stCells
  rw [List.getElem?_map, List.getD_eq_getElem?_getD, List.getElem?_eq_getElem (by omega)]; rfl
theorem getD_size (R : List ByteArray) (hs : ∀ p ∈ R, p.size = 16) (k : Nat) (hk : k < R.length) : (R.getD k ⟨#[]⟩).size = 16 := by
  rw [List.getD_eq_getElem?_getD, List.getElem?_eq_getElem hk]
  exact hs _ (List.getElem_mem _)
theorem rowsOf_size (seed : ByteArray) (k : Nat) (hk : k < 15) : ((rowsOf seed).getD k ⟨#[]⟩).size = 16 :=
  getD_size _ (rowsUpto_size seed 7) k (by have := rowsUpto_length seed 7; omega)
def sib (k : Nat) : Nat := if k % 2 = 1 then k - 1 else k + 1
def rowBase (t : Nat) : Nat := [0, 8, 12, 14].getD t 14
def rowLen (t : Nat) : Nat := [8, 4, 2, 1].getD t 1
def sealPath (seed : ByteArray) (key : Nat) (t : Nat) : List ByteArray := (List.range t).map fun i : Nat => (rowsOf seed).getD (rowBase i + sib (key / 2 ^ i)) ⟨#[]⟩
/-- What a box tells of a mark by a key: the signature, the path, the error. -/
def sealAns (seed : ByteArray) (key : Int) (m : ByteArray) : Int × List ByteArray × List ByteArray × Int :=
  if 0 ≤ key ∧ key ≤ 7 then (if (signAns seed key m).2 = 0 then (key, (signAns seed key m).1, sealPath seed key.toNat 3, 0) else (0, [], [], (signAns seed key m).2)) else (0, [], [], 2)
end Go.Proofs.YtgjmbokfenpefaaGreatDoor
/- The document's ProofRoot, Verify and Commit. -/
namespace Go.Proofs.YtgjmbokfenpefaaGreatDoor
open Go.RowKit

/-- From a mark on, along the last k of a path, back. -/
def leadFrom (ix : ByteArray) (P : List ByteArray) : Nat → ByteArray → ByteArray
  | 0, s => s
  | k + 1, s => leadFrom ix P k (if bitOf ix.data.toList k = 0 then joinM s (P.getD k ⟨#[]⟩) else joinM (P.getD k ⟨#[]⟩) s)
def startOf (P : List ByteArray) (x : It) : ByteArray := if x.1.size = 0 then emptyM P.length else leafM x P.length
def proofRootAns (ix : ByteArray) (P : List ByteArray) (x : It) : ByteArray × Int := if rightProof ix P x = true then (leadFrom ix P P.length (startOf P x), 0) else (⟨#[]⟩, 1)
def verifyAns (root ix : ByteArray) (P : List ByteArray) (x : It) : ByteArray × Bool × Int :=
  if (proofRootAns ix P x).2 ≠ 0 then (⟨#[]⟩, false, (proofRootAns ix P x).2)
  else if (proofRootAns ix P x).1 ≠ root then (⟨#[]⟩, false, 13)
  else if x.1 = ix then (x.2, true, 0) else (⟨#[]⟩, false, 0)
def commitAns (o v : ByteArray) : ByteArray × Int := if o.size = 16 ∧ 1 ≤ v.size ∧ v.size ≤ 24 then (markOf 99 [o, v], 0) else (⟨#[]⟩, 1)
end Go.Proofs.YtgjmbokfenpefaaGreatDoor
/- One item more: plain lists. -/
namespace Go.Proofs.YtgjmbokfenpefaaGreatDoor

abbrev ltI (x y : It) : Prop := x.1.data.toList < y.1.data.toList
def others (L : List It) (x : It) : List It := L.filter fun y => decide (y.1 ≠ x.1)
theorem ltI_asymm {x y : It} (h1 : ltI x y) (h2 : ltI y x) : False := List.lt_irrefl _ (List.lt_trans h1 h2)
theorem ltI_total {x y : It} (h : ¬ ltI x y) (hne : x.1 ≠ y.1) : ltI y x := by
  have h1 : y.1.data.toList ≤ x.1.data.toList := List.not_lt.1 h
  by_cases h2 : ltI y x
  · exact h2
  · have h3 : x.1.data.toList ≤ y.1.data.toList := List.not_lt.1 h2
    exact absurd (text_of (List.le_antisymm h3 h1)) hne
/-- There is one order in which they rise. -/
theorem sorted_one {L M : List It} (p : L.Perm M) (hL : L.Pairwise ltI) (hM : M.Pairwise ltI) : L = M :=
  List.Perm.eq_of_pairwise (fun _ _ _ _ h1 h2 => (ltI_asymm h1 h2).elim) hL hM p
end Go.Proofs.YtgjmbokfenpefaaGreatDoor
/- The document's directory: what it knows, and what it answers. -/
namespace Go.Proofs.YtgjmbokfenpefaaGreatDoor
open Go.RowKit

/-- A signed head. -/
structure Sgn where
  head : Hd
  key : Int
  sig : List ByteArray
  path : List ByteArray
def noSgn : Sgn := ⟨noHd, 0, [], []⟩
/-- A directory: those that wait, those that are there, since when, the epochs. -/
structure Dst where
  secret : ByteArray
  wait : List (ByteArray × ByteArray)
  vals : List (ByteArray × ByteArray)
  since : List (ByteArray × Int)
  eps : List Sgn
def newDst (secret : ByteArray) : Dst := ⟨secret, [], [], [], []⟩
def dirSeed (secret : ByteArray) : ByteArray := markOf 107 [secret]
def openOf (d : Dst) (name : ByteArray) : ByteArray := markOf 111 [d.secret, name, txt (num8 ((look d.since name).getD 0))]
def itemOf (d : Dst) (p : ByteArray × ByteArray) : It := ((ofAns p.1).1, (commitAns (openOf d p.1) p.2).1)
def itemsRaw (d : Dst) : List It := d.vals.map (itemOf d)
/-- Sorted by index (those of one index as they come). -/
def putIt (x : It) : List It → List It
  | [] => [x]
  | y :: L => if y.1.data.toList < x.1.data.toList then y :: putIt x L else x :: y :: L
def sortIts (L : List It) : List It := L.foldr putIt []
def itemsOf (d : Dst) : List It := sortIts (itemsRaw d)
/-- All names that are known, and one more. -/
def allNames (d : Dst) (name : ByteArray) : List (ByteArray × Bool) := upsAll (upsAll [(name, true)] (d.vals.map fun p => (p.1, true))) (d.wait.map fun p => (p.1, true))
def putAns (d : Dst) (name value : ByteArray) : Dst × Int :=
  if nameOk name.data.toList = true then
    (if 1 ≤ value.size ∧ value.size ≤ 24 then
      (if (allNames d name).length ≤ 60 then ({ d with wait := ups d.wait name value }, 0) else (d, 12))
    else (d, 1))
  else (d, 5)
/-- What waits is there. -/
def settled (d : Dst) : Dst := { d with wait := [], vals := upsAll d.vals d.wait, since := upsAll d.since (d.wait.map fun p => (p.1, ((d.eps.length : Int) + 1))) }
def signOf (secret : ByteArray) (n : Nat) (h : Hd) : Sgn :=
  ⟨h, (sealAns (dirSeed secret) (n : Int) (headMarkAns h).1).1, (sealAns (dirSeed secret) (n : Int) (headMarkAns h).1).2.1, (sealAns (dirSeed secret) (n : Int) (headMarkAns h).1).2.2.1⟩
def nextSgn (d : Dst) : Sgn := signOf d.secret d.eps.length (nextAns (d.eps.map (·.head)) (rootAns (itemsOf (settled d))).1).1
def publishAns (d : Dst) : Dst × Sgn × Int :=
  if d.eps.length < 8 then ({ settled d with eps := d.eps ++ [nextSgn d] }, nextSgn d, 0) else (d, noSgn, 12)
structure Answ where
  sgn : Sgn
  path : List ByteArray
  leaf : It
  opening : ByteArray
  value : ByteArray
def noAnsw : Answ := ⟨noSgn, [], noIt, ⟨#[]⟩, ⟨#[]⟩⟩
def lastSgn (d : Dst) : Sgn := d.eps.getD (d.eps.length - 1) noSgn
/-- What holds of every directory that is so made. -/
structure DOk (d : Dst) : Prop where
  secret : d.secret.size = 16
  wk : (keysL d.wait).Nodup
  vk : (keysL d.vals).Nodup
  sk : (keysL d.since).Nodup
  wn : ∀ p ∈ d.wait, nameOk p.1.data.toList = true ∧ 1 ≤ p.2.size ∧ p.2.size ≤ 24
  vn : ∀ p ∈ d.vals, nameOk p.1.data.toList = true ∧ 1 ≤ p.2.size ∧ p.2.size ≤ 24
  same : ∀ s, (look d.since s).isSome = (look d.vals s).isSome
  epoch : ∀ s n, look d.since s = some n → 1 ≤ n ∧ n ≤ d.eps.length
  few : d.eps.length ≤ 8
  room : (allNames d ⟨#[]⟩).length ≤ 61
theorem newDst_ok {secret : ByteArray} (h : secret.size = 16) : DOk (newDst secret) :=
  ⟨h, List.nodup_nil, List.nodup_nil, List.nodup_nil, (fun p hp => by cases hp), (fun p hp => by cases hp), fun s => rfl, (fun s n h => by simp [newDst, look_nil] at h), by simp [newDst], by simp [allNames, newDst, upsAll]⟩

theorem putIt_perm (x : It) : ∀ L : List It, (putIt x L).Perm (x :: L)
  | [] => List.Perm.refl _
  | y :: L => by
    unfold putIt
    split
    · exact ((putIt_perm x L).cons y).trans (List.Perm.swap x y L)
    · exact List.Perm.refl _
theorem sortIts_perm (L : List It) : (sortIts L).Perm L := by
  induction L with
  | nil => exact List.Perm.refl _
  | cons x L ih => exact (putIt_perm x _).trans (ih.cons x)
def leI (x y : It) : Prop := ¬ y.1.data.toList < x.1.data.toList
theorem leI_trans {x y z : It} (h1 : leI x y) (h2 : leI y z) : leI x z := fun h => by
  unfold leI at h1 h2
  rw [List.not_lt] at h1 h2
  exact absurd h (List.not_lt.2 (List.le_trans h1 h2))
theorem putIt_sorted (x : It) : ∀ L : List It, L.Pairwise leI → (putIt x L).Pairwise leI
  | [], _ => List.pairwise_singleton _ _
  | y :: L, h => by
    obtain ⟨h1, h2⟩ := List.pairwise_cons.1 h
    unfold putIt
    split
    · rename_i hlt
      refine List.pairwise_cons.2 ⟨fun z hz => ?_, putIt_sorted x L h2⟩
      rcases List.mem_cons.1 ((putIt_perm x L).mem_iff.1 hz) with e | hz
      · subst e; exact fun h => List.lt_irrefl _ (List.lt_trans h hlt)
      · exact h1 z hz
    · rename_i hlt
      refine List.pairwise_cons.2 ⟨fun z hz => ?_, h⟩
      rcases List.mem_cons.1 hz with e | hz
      · subst e; exact hlt
      · exact leI_trans hlt (h1 z hz)
theorem sortIts_sorted (L : List It) : (sortIts L).Pairwise leI := by
  induction L with
  | nil => exact List.Pairwise.nil
  | cons x L ih => exact putIt_sorted x _ ih
end Go.Proofs.YtgjmbokfenpefaaGreatDoor
/- The document's SealVerify. -/
namespace Go.Proofs.YtgjmbokfenpefaaGreatDoor
open Go.RowKit

/-- Along a path, from a mark and a key on. -/
def upFrom : List ByteArray → ByteArray → Nat → ByteArray
  | [], t, _ => t
  | x :: r, t, k => upFrom r (if k % 2 = 1 then markOf 117 [x, t] else markOf 117 [t, x]) (k / 2)
def sealOk (pub m : ByteArray) (key : Int) (S P : List ByteArray) : Bool :=
  decide (0 ≤ key ∧ key ≤ 7) && decide (P.length = 3) && marksOk P && decide ((fromAns m S).2 = 0) && decide (upFrom P (markOf 116 [txt (num8 key), (fromAns m S).1]) key.toNat = pub)
theorem fromAns_size {m : ByteArray} {S : List ByteArray} {x : ByteArray} (h : fromAns m S = (x, 0)) : x.size = 16 := by
  unfold fromAns at h
  split at h
  · obtain ⟨rfl, _⟩ := Prod.mk.inj h; exact markOf_len _ _
  · obtain ⟨_, h2⟩ := Prod.mk.inj h; omega
def slF (key : Int) (u v : Value) : Nat → Value := fun i => if i = 0 then .int .i64 key else if i = 1 then u else v

end Go.Proofs.YtgjmbokfenpefaaGreatDoor
/- The document's client: what it knows, and what it answers. -/
namespace Go.Proofs.YtgjmbokfenpefaaGreatDoor
open Go.RowKit

/-- A client: whose directory, and the heads that it has seen. -/
structure Cl where
  pub : ByteArray
  heads : List Hd
def seeAns (c : Cl) (s : Sgn) : Cl × Int :=
  if rightHead s.head = true ∧ s.key = s.head.epoch - 1 ∧ sealOk c.pub (headMark s.head) s.key s.sig s.path = true then
    (if (c.heads.length : Int) < s.head.epoch - 1 then (c, 10)
    else if s.head.epoch - 1 < (c.heads.length : Int) then (if hdAt c.heads (s.head.epoch - 1).toNat = s.head then (c, 0) else (c, 13))
    else if nextAns c.heads s.head.root = (s.head, 0) then ({ c with heads := c.heads ++ [s.head] }, 0) else (c, 13))
  else (c, 15)
/-- What a client believes: a value, whether it is there, an error's number. -/
def askAns (c : Cl) (name : ByteArray) (a : Answ) : Cl × ByteArray × Bool × Int :=
  if nameOk name.data.toList = true then
    (if (seeAns c a.sgn).2 = 0 then
      (if (verifyAns a.sgn.head.root (ofAns name).1 a.path a.leaf).2.2 = 0 then
        (if (verifyAns a.sgn.head.root (ofAns name).1 a.path a.leaf).2.1 = false ∧ a.opening.size = 0 ∧ a.value.size = 0 then ((seeAns c a.sgn).1, ⟨#[]⟩, false, 0)
        else if (verifyAns a.sgn.head.root (ofAns name).1 a.path a.leaf).2.1 = true ∧ commitAns a.opening a.value = ((verifyAns a.sgn.head.root (ofAns name).1 a.path a.leaf).1, 0) then ((seeAns c a.sgn).1, a.value, true, 0)
        else ((seeAns c a.sgn).1, ⟨#[]⟩, false, 13))
      else ((seeAns c a.sgn).1, ⟨#[]⟩, false, (verifyAns a.sgn.head.root (ofAns name).1 a.path a.leaf).2.2))
    else ((seeAns c a.sgn).1, ⟨#[]⟩, false, (seeAns c a.sgn).2))
  else (c, ⟨#[]⟩, false, 5)
theorem seeAns_len (c : Cl) (s : Sgn) : (seeAns c s).1.pub = c.pub ∧ (seeAns c s).1.heads.length ≤ c.heads.length + 1 := by
  unfold seeAns
  repeat' split
  all_goals first | exact ⟨rfl, by simp⟩ | exact ⟨rfl, by omega⟩
end Go.Proofs.YtgjmbokfenpefaaGreatDoor
/- The document's auditor as plain data: whom it told what. -/
namespace Go.Proofs.YtgjmbokfenpefaaGreatDoor
open Go.RowKit

/-- An auditor: whose directory, and what each name has seen. -/
structure Au where
  pub : ByteArray
  who : List (ByteArray × Cl)
/-- The client of a name: its own, or a new one. -/
def auCl (a : Au) (name : ByteArray) : Cl := (look a.who name).getD ⟨a.pub, []⟩
def tellAns (a : Au) (name : ByteArray) (s : Sgn) : Au × Int :=
  if (seeAns (auCl a name) s).2 = 0 then ({ a with who := ups a.who name (seeAns (auCl a name) s).1 }, 0) else (a, (seeAns (auCl a name) s).2)
/-- What is refused is not seen. -/
theorem seeAns_not {c : Cl} {s : Sgn} (h : (seeAns c s).2 ≠ 0) : (seeAns c s).1 = c := by
  unfold seeAns at h ⊢
  split
  · rename_i h1
    rw [if_pos h1] at h
    split
    · rfl
    · rename_i h2
      rw [if_neg h2] at h
      split
      · split <;> rfl
      · rename_i h3
        rw [if_neg h3] at h
        split
        · rename_i h4
          rw [if_pos h4] at h
          exact absurd rfl h
        · rfl
  · rfl
/-- What holds of every auditor that was told n things. -/
structure AuOk (a : Au) (n : Nat) : Prop where
  pub : a.pub.size = 16
  keys : (keysL a.who).Nodup
  short : ∀ p ∈ a.who, p.1.size ≤ 1000000
  few : a.who.length ≤ n
  mine : ∀ s c, look a.who s = some c → c.pub = a.pub ∧ c.heads.length ≤ n
theorem AuOk.cl {a : Au} {n : Nat} (h : AuOk a n) (name : ByteArray) : (auCl a name).pub = a.pub ∧ (auCl a name).heads.length ≤ n := by
  unfold auCl
  cases e : look a.who name with
  | none => exact ⟨rfl, Nat.zero_le _⟩
  | some c => exact h.mine _ _ e
theorem AuOk.told {a : Au} {n : Nat} (h : AuOk a n) (name : ByteArray) (s : Sgn) (hn : name.size ≤ 1000000) : AuOk (tellAns a name s).1 (n + 1) := by
  unfold tellAns
  split
  · refine ⟨h.pub, ups_nodup h.keys _ _, ups_short h.short hn _, ?_, fun t c hc => ?_⟩
    · show (ups a.who name _).length ≤ n + 1
      rw [ups_length]; have := h.few; split <;> omega
    · by_cases e : t = name
      · subst e
        rw [show look (ups a.who t _) t = _ from look_ups_same _ _ _] at hc
        obtain rfl := Option.some.inj hc
        have h1 := seeAns_len (auCl a t) s
        have h2 := h.cl t
        exact ⟨h1.1.trans h2.1, by omega⟩
      · rw [show look (ups a.who name _) t = look a.who t from look_ups_other _ _ _ _ e] at hc
        have := h.mine t c hc
        exact ⟨this.1, by omega⟩
  · exact ⟨h.pub, h.keys, h.short, (show a.who.length ≤ n + 1 by have := h.few; omega), fun t c hc => ⟨(h.mine t c hc).1, by have := (h.mine t c hc).2; omega⟩⟩

/-- The greatest number of heads that any has seen. -/
def LastIs (a : Au) (n : Int) : Prop := (∀ s c, look a.who s = some c → (c.heads.length : Int) ≤ n) ∧ (n = 0 ∨ ∃ s c, look a.who s = some c ∧ n = (c.heads.length : Int))
theorem LastIs.one {a : Au} {n m : Int} (h : LastIs a n) (k : LastIs a m) : n = m := by
  have h0 : 0 ≤ n := by rcases h.2 with e | ⟨s, c, _, e⟩ <;> omega
  have k0 : 0 ≤ m := by rcases k.2 with e | ⟨s, c, _, e⟩ <;> omega
  have h1 : n ≤ m := by
    rcases h.2 with e | ⟨s, c, hl, e⟩
    · omega
    · have := k.1 s c hl; omega
  have h2 : m ≤ n := by
    rcases k.2 with e | ⟨s, c, hl, e⟩
    · omega
    · have := h.1 s c hl; omega
  omega
end Go.Proofs.YtgjmbokfenpefaaGreatDoor
/- Maps from texts to pointers: an element is a block's number, or none. -/
namespace Go.Proofs.YtgjmbokfenpefaaGreatDoor
open Go.RowKit Go.Maps

/-- A pointer to a block's first cell, or none. -/
def ptrOf : Option Nat → Value
  | none => .pointer none
  | some n => .pointer (some ⟨n, 0, none⟩)
def ptrLit : Option Nat → Lit
  | none => .int .i64 (-1)
  | some n => .int .i64 (n : Int)
theorem ptrLit_inj : ∀ x y : Option Nat, ptrLit x = ptrLit y → x = y
  | none, none, _ => rfl
  | none, some n, h => by injection h with _ h; omega
  | some n, none, h => by injection h with _ h; omega
  | some n, some m, h => by injection h with _ h; rw [show n = m by omega]
def ptrRead : Value → Option (DataW Unit × List MemPlace)
  | .pointer none => some (.lit (ptrLit none), [])
  | .pointer (some ⟨n, 0, none⟩) => some (.lit (ptrLit (some n)), [])
  | _ => none
theorem ptrRead_of (x : Option Nat) : ptrRead (ptrOf x) = some (.lit (ptrLit x), []) := by cases x <;> rfl
theorem ptrRead_inv (v : Value) (y : DataW Unit × List MemPlace) (h : ptrRead v = some y) : ∃ x, v = ptrOf x ∧ y = (.lit (ptrLit x), []) ∧ True := by
  unfold ptrRead at h
  split at h
  · exact ⟨none, rfl, (Option.some.inj h).symm, trivial⟩
  · rename_i n
    exact ⟨some n, rfl, (Option.some.inj h).symm, trivial⟩
  · cases h
/-- Pointers as elements of a map of type M. -/
def kP (M E : TypeId) (und : Tryz.prog.underlying M = some (.map 9 E)) (zer : ∀ w : World, (zeroValue E).run Tryz.prog w = .ok (.pointer none) w) : MKind (Option Nat) where
  M := M
  E := E
  wd := ptrOf
  lt := ptrLit
  zero := none
  good _ := True
  und := und
  R := ptrRead
  put x _ := ptrRead_of x
  inv := ptrRead_inv
  inj := ptrLit_inj
  zer := zer
  zgood := trivial
end Go.Proofs.YtgjmbokfenpefaaGreatDoor
