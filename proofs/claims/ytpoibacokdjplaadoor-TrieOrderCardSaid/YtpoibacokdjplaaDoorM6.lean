/- Parts of the proof, one behind the other: Tail, RSum, RMark, Later, Leafs, Node, Prove, Times, Above, Root, Primes, KTab, New, Index. -/
import Derived.StillTail
import Derived.Deep.Quiet
import Derived.Deep.QuietTactic
import Derived.WalkKit
import Derived.Test.YtpoibacokdjplaaDoorM5
import Derived.Test.YtpoibacokdjplaaDoorM2
import Derived.Test.YtpoibacokdjplaaDoorM4
import Derived.Deep.RegionHeld3
import Derived.Deep.DeepCutAuto
import Derived.Laws.ResultCell
import Derived.Test.YtpoibacokdjplaaDoorProg
import Derived.BigQuiet
/- A region that draws its order: operations that only read, or call what leaves a world of a class, ahead of a tail in one forced order (a store of what they yield): one walk serves. No program is imported. -/
namespace Go.Proofs.YtpoibacokdjplaaDoor
open Go.RowKit

section
variable {P : Program} {ops H : Array Oper} {md : Region.Mode} {C : World → Prop}

/-- The flags of the head, and none of the tail's. -/
def flags (g : Nat) (lh : Array Bool) : Array Bool := lh ++ Array.replicate g false
theorem flags_get (g : Nat) (lh : Array Bool) (i : Nat) (d : Bool) (h : i < lh.size) : (flags g lh).getD i d = lh.getD i d := by
  unfold flags
  simp [Array.getElem?_append_left h]
theorem flags_tail (g : Nat) (lh : Array Bool) (i : Nat) (h : lh.size ≤ i) (h2 : i < lh.size + g) : (flags g lh).getD i true = false := by
  unfold flags
  rw [Array.getD_eq_getD_getElem?, Array.getElem?_append_right h, Array.getElem?_eq_getElem (by simp; omega)]
  simp
theorem flags_set (g : Nat) (lh : Array Bool) (i : Nat) (h : i < lh.size) : (flags g lh).setIfInBounds i true = flags g (lh.setIfInBounds i true) := by
  unfold flags
  apply Array.ext_getElem?
  intro j
  rw [Array.getElem?_setIfInBounds]
  by_cases hij : i = j
  · subst hij
    rw [if_pos rfl, Array.getElem?_append_left (by simpa using h), Array.getElem?_setIfInBounds, if_pos rfl]
    simp [h]; omega
  · rw [if_neg hij]
    by_cases hj : j < lh.size
    · rw [Array.getElem?_append_left hj, Array.getElem?_append_left (by simpa using hj), Array.getElem?_setIfInBounds, if_neg hij]
    · rw [Array.getElem?_append_right (by omega), Array.getElem?_append_right (by simp; omega)]
      simp
/-- What is checked of the region's text: the head's operations have no guard and wait for earlier ones alone. -/
def headOk (md : Region.Mode) (H : Array Oper) : Bool := (List.range H.size).all fun i => match H[i]? with
  | some o => o.guard.isNone && o.after.all fun e => !Region.binds md e || decide (e.on < i)
  | none => true
theorem headOk_spec (h : headOk md H = true) {i : Nat} {o : Oper} (ho : H[i]? = some o) : o.guard = none ∧ ∀ e ∈ o.after, Region.binds md e = true → e.on < i := by
  have hi : i < H.size := (Array.getElem?_eq_some_iff.1 ho).1
  have h1 := List.all_eq_true.1 h i (List.mem_range.2 hi)
  rw [ho] at h1
  simp only [Bool.and_eq_true] at h1
  refine ⟨Option.isNone_iff_eq_none.1 h1.1, fun e he hb => ?_⟩
  have := Array.all_eq_true'.1 h1.2 e he
  simpa [hb] using this
def unlisted (lh : Array Bool) : Nat := (lh.toList.filter (!·)).length

theorem unlisted_zero {lh : Array Bool} (h : unlisted lh = 0) (i : Nat) (hi : i < lh.size) : lh.getD i false = true := by
  have h0 : lh.toList.filter (!·) = [] := List.eq_nil_of_length_eq_zero h
  rw [List.filter_eq_nil_iff] at h0
  have := h0 lh[i] (by simp)
  simpa [hi] using this
theorem unlisted_some {lh : Array Bool} {f : Nat} (h : unlisted lh = f + 1) : ∃ i, i < lh.size ∧ lh.getD i true = false ∧ ∀ j, j < i → lh.getD j false = true := by
  have hex : ∃ i, i < lh.size ∧ lh.getD i true = false := by
    have hne : lh.toList.filter (!·) ≠ [] := fun e => by unfold unlisted at h; rw [e] at h; simp at h
    obtain ⟨x, hx⟩ := List.exists_mem_of_ne_nil _ hne
    rw [List.mem_filter] at hx
    obtain ⟨i, hi, e⟩ := List.getElem_of_mem hx.1
    refine ⟨i, by simpa using hi, ?_⟩
    have hx2 : x = false := by simpa using hx.2
    have hi' : i < lh.size := by simpa using hi
    simp [hi']
    rw [← hx2, ← e]; simp
  have key : ∀ k, (∃ i, i ≤ k ∧ i < lh.size ∧ lh.getD i true = false) → ∃ i, i < lh.size ∧ lh.getD i true = false ∧ ∀ j, j < i → lh.getD j false = true := by
    intro k
    induction k using Nat.strongRecOn with
    | _ k ih =>
      rintro ⟨i, hik, hi, hf⟩
      by_cases hall : ∀ j, j < i → lh.getD j false = true
      · exact ⟨i, hi, hf, hall⟩
      · obtain ⟨j, hj⟩ := Classical.not_forall.1 hall
        obtain ⟨hji, hjf⟩ := Classical.not_imp.1 hj
        have hjs : j < lh.size := by omega
        have : lh.getD j true = false := by
          simp [hjs] at hjf ⊢; exact hjf
        exact ih j (by omega) ⟨j, Nat.le_refl _, hjs, this⟩
  obtain ⟨i, hi, hf⟩ := hex
  exact key i ⟨i, Nat.le_refl _, hi, hf⟩
theorem unlisted_set {lh : Array Bool} {f i : Nat} (h : unlisted lh = f + 1) (hi : i < lh.size) (hf : lh.getD i true = false) : unlisted (lh.setIfInBounds i true) = f := by
  have hfi : lh[i] = false := by simpa [hi] using hf
  unfold unlisted at *
  have key : ∀ (l : List Bool) (k : Nat) (hk : k < l.length), l[k] = false → ((l.set k true).filter (!·)).length + 1 = (l.filter (!·)).length := by
    intro l
    induction l with
    | nil => intro k hk; simp at hk
    | cons x l ih =>
      intro k hk hx
      cases k with
      | zero => simp at hx; subst hx; simp
      | succ k =>
        have := ih k (by simpa using hk) (by simpa using hx)
        simp only [List.set_cons_succ, List.filter_cons]
        cases x <;> simp <;> omega
  have := key lh.toList i (by simpa using hi) (by simpa using hfi)
  rw [Array.toList_setIfInBounds]
  omega

theorem wpAny_of_headQ {n g : Nat} {tail : List Oper} {Q' : Exit → Act → World → Prop} (hn : H.size = n) (hg : ops.size = n + g) (hg0 : 0 < g) (hget : ∀ i, i < n → H[i]? = ops[i]?) (hok : headOk md H = true)
    (hs : Region.sinkB md ops n = true) (hc : Region.chainB md ops n = true) (htl : ∀ j, tail[j]? = ops[n + j]?) (hgl : tail.length = g)
    (hseq : Region.seqB md ops g n (flags g (Array.replicate n true)) = true) :
    ∀ (f : Nat) (lh : Array Bool) (a : Act) (w : World), lh.size = n → unlisted lh = f →
      (∀ i o, H[i]? = some o → lh.getD i false = true → ∀ e ∈ o.after, Region.binds md e = true → lh.getD e.on false = true) → C w →
      wpAnyQ P md H C (fun a' => ∀ w', C w' → wpList P ops Q' tail a' w') f lh a → wpAny P md ops Q' (f + g) (flags g lh) a w
  | 0, lh, a, w, hl, hu, _, hw, h => by
    have e : lh = Array.replicate n true := by
      apply Array.ext
      · simp [hl]
      · intro i h1 h2
        have := unlisted_zero hu i h1
        simpa [h1] using this
    rw [Nat.zero_add, e, ← hgl]
    exact wpAny_of_seq tail n _ a w htl (by rw [hgl]; exact hseq) (h.2 w hw)
  | f + 1, lh, a, w, hl, hu, hcl, hw, h => by
    obtain ⟨i0, hi0, hf0, hall0⟩ := unlisted_some hu
    have hin0 : i0 < n := by omega
    have inv : HeadInv md ops n (flags g lh) := by
      refine ⟨by unfold flags; simp [hl, hg], fun j oj hoj hlj e he hb => ?_, fun t ht ht' => flags_tail g lh t (by omega) (by omega)⟩
      have hjn : j < n := by
        rcases Nat.lt_or_ge j n with h' | h'
        · exact h'
        · rcases Nat.lt_or_ge j (n + g) with h2 | h2
          · have := flags_tail g lh j (by omega) (by omega)
            have hz : j < (flags g lh).size := by unfold flags; simp; omega
            simp [hz] at this hlj
            rw [this] at hlj; cases hlj
          · have hz : (flags g lh).size ≤ j := by unfold flags; simp; omega
            simp [Array.getElem?_eq_none hz] at hlj
      rw [flags_get g lh j false (by omega)] at hlj
      have hoj' : H[j]? = some oj := by rw [hget j hjn]; exact hoj
      have h3 := (headOk_spec hok hoj').2 e he hb
      rw [flags_get g lh e.on false (by omega)]
      exact hcl j oj hoj' hlj e he hb
    have hlt : ∀ i, i ∈ Region.ready md ops (flags g lh) → i < n := fun i hi => by
      rcases Nat.lt_or_ge i n with h' | h'
      · exact h'
      · exact absurd hi (tail_waits hs hc (by omega) inv _ i0 rfl hin0 (by rw [flags_get g lh i0 true (by omega)]; exact hf0) i h')
    have hready : ∀ i, i ∈ Region.ready md ops (flags g lh) → i ∈ Region.ready md H lh := fun i hi => by
      have hin := hlt i hi
      obtain ⟨h1, o, ho, h2⟩ := mem_ready.1 hi
      have ho' : H[i]? = some o := by rw [hget i hin]; exact ho
      refine mem_ready.2 ⟨by rw [flags_get g lh i true (by omega)] at h1; exact h1, o, ho', fun e he hb => ?_⟩
      have h3 := (headOk_spec hok ho').2 e he hb
      have h4 := h2 e he hb
      rw [flags_get g lh e.on false (by omega)] at h4; exact h4
    have hne : i0 ∈ Region.ready md ops (flags g lh) := by
      obtain ⟨o, ho⟩ : ∃ o, H[i0]? = some o := ⟨_, Array.getElem?_eq_getElem (by omega)⟩
      refine mem_ready.2 ⟨by rw [flags_get g lh i0 true (by omega)]; exact hf0, o, by rw [← hget i0 hin0]; exact ho, fun e he hb => ?_⟩
      have h3 := (headOk_spec hok ho).2 e he hb
      rw [flags_get g lh e.on false (by omega)]
      exact hall0 e.on h3
    rw [show f + 1 + g = (f + g) + 1 by omega]
    refine ⟨fun h0 => (by rw [h0] at hne; cases hne), fun i hi => ?_⟩
    have hin := hlt i hi
    have hrd := hready i hi
    have hq := h.2 i hrd
    obtain ⟨hun, o, ho, hed⟩ := mem_ready.1 hrd
    have hgd := (headOk_spec hok ho).1
    have hwt : ∀ (ys : Nat → Option Bool), Region.wanted o ys = true := fun ys => by unfold Region.wanted; rw [hgd]
    unfold qOp at hq
    rw [ho] at hq
    simp only [hwt, if_true] at hq
    have ho2 : ops[i]? = some o := by rw [← hget i hin]; exact ho
    unfold wpOp
    rw [ho2]
    simp only [hwt, if_true]
    refine .inl (Oper.wp_of_quiet hw (fun a' w' hw' hk => ?_) hq)
    rw [flags_set g lh i (by omega)]
    refine wpAny_of_headQ hn hg hg0 hget hok hs hc htl hgl hseq f _ a' w' (by simp [hl]) (unlisted_set hu (by omega) hun) ?_ hw' hk
    intro j oj hoj hlj e he hb
    by_cases hij : i = j
    · subst hij
      have : oj = o := Option.some.inj (hoj.symm.trans ho)
      subst this
      exact getD_set_true (hed e he hb)
    · rw [getD_set_ne false hij] at hlj
      exact getD_set_true (hcl j oj hoj hlj e he hb)

/-- The region: n operations that are quiet in the class C, then a forced tail. -/
theorem wp_region_head_tail {id : Nat} {Q : Exit → Act → World → Prop} {a : Act} {w : World} {l : List Oper} (C : World → Prop) (n : Nat) (hm : P.follows .mixedOrders = true)
    (hB : (decide (n < l.length) && Region.lexB .any (l.take n).toArray && headOk .any (l.take n).toArray && Region.sinkB .any l.toArray n && Region.chainB .any l.toArray n && Region.seqB .any l.toArray (l.length - n) n (flags (l.length - n) (Array.replicate n true))) = true)
    (hC : C { w with drawn := w.drawn + 1 })
    (h : wpQuiet P (l.take n).toArray C (fun a' => ∀ w', C w' → wpList P l.toArray Q (l.drop n) a' w') (l.take n) a) : (Code.region id l.toArray true).wp P Q a w := by
  simp only [Bool.and_eq_true, decide_eq_true_eq] at hB
  obtain ⟨⟨⟨⟨⟨h0, h1⟩, h2⟩, h3⟩, h4⟩, h5⟩ := hB
  have htk : (l.take n).length = n := by rw [List.length_take]; omega
  refine wp_region_any hm ?_
  simp only [Region.lexB, Bool.and_eq_true] at h1
  have hq := wpAnyQ_lex (P := P) (C := C) (md := .any) h1.1 (l.take n) 0 (Array.replicate (l.take n).length false) a (by intro j; simp) (by simpa using h1.2) h
  have := wpAny_of_headQ (P := P) (ops := l.toArray) (md := .any) (H := (l.take n).toArray) (n := n) (g := l.length - n) (tail := l.drop n) (Q' := Q) (C := C) (by simp; omega) (by simp; omega) (by omega)
    (fun i hi => by simp [hi]) h2 h3 h4 (fun j => by simp [List.getElem?_drop]) (by simp) h5 (l.take n).length (Array.replicate (l.take n).length false) a _ (by simp; omega)
    (by unfold unlisted; simp) (fun i o _ hl => by rw [getD_replicate_false] at hl; cases hl) hC hq
  have e1 : (l.take n).length + (l.length - n) = l.toArray.size := by rw [htk]; simp; omega
  have e2 : flags (l.length - n) (Array.replicate (l.take n).length false) = Array.replicate l.toArray.size false := by
    unfold flags; rw [Array.replicate_append_replicate, e1]
  rw [e1, e2] at this
  exact this
end
end Go.Proofs.YtpoibacokdjplaaDoor
/- The document's Sum. -/
namespace Go.Proofs.YtpoibacokdjplaaDoor
open Go.RowKit

/-- The document's numbers: of the state, and of the rounds. -/
def refCells : Nat → Value := fun i => if i < 8 then .int .u32 (W32 (iv i)) else .int .u32 (W32 (kOf (i - 8)))
def sliceLen : Value → Nat | .slice _ n _ => n | _ => 0
theorem info8' : (Tryd.prog.info? 65).map (·.size) = some 8 := by kernel_rfl
theorem infoB : (Tryd.prog.info? 5).map (fun i => (i.zero, i.size, i.bytes)) = some (some (.int .u8 0), 1, 1) := by kernel_rfl
def pad1 (n : Nat) : Nat := (119 - n % 64) % 64
theorem zeros_snoc (k : Nat) : zeros (k + 1) = zeros k ++ [0] := by unfold zeros; rw [List.replicate_succ']
/-- Loop over the noughts: what holds. -/
structure PadRel (N : Nat) (w0 wr : World) (v : Value) (L : Nat) (l : List UInt8) : Prop where
  row : Row wr N 1 v L (bcells l)
  below : Below N w0 wr
theorem PadRel.grow {N : Nat} {w0 wr w' : World} {v v' : Value} {L : Nat} {l : List UInt8} {c : UInt8} (h : PadRel N w0 wr v L l) (hN : N ≤ w0.heap.size)
    (hr : Row w' N 1 v' (L + 1) (bcells l ++ [.int .u8 (c.toNat : Int)])) (hg : wr.grownBy w' v.ownBlock) : PadRel N w0 w' v' (L + 1) (l ++ [c]) :=
  ⟨by simpa [bcells] using hr, grown_below h.below h.row hg (Nat.le_refl _) (Nat.le_trans hN h.below.size)⟩

theorem idx8r (s : Nat → BitVec 32) (j : Nat) (hj : j < 8) (wx : World) : (Instr.index 65 (.agg #[.int .u32 (W32 (s 0)), .int .u32 (W32 (s 1)), .int .u32 (W32 (s 2)), .int .u32 (W32 (s 3)), .int .u32 (W32 (s 4)), .int .u32 (W32 (s 5)), .int .u32 (W32 (s 6)), .int .u32 (W32 (s 7))]) (.int .i64 (j : Int))).run Tryd.prog wx = .ok (.int .u32 (W32 (s j))) wx := by
  rcases (by omega : j = 0 ∨ j = 1 ∨ j = 2 ∨ j = 3 ∨ j = 4 ∨ j = 5 ∨ j = 6 ∨ j = 7) with rfl | rfl | rfl | rfl | rfl | rfl | rfl | rfl <;> kernel_rfl
theorem idx8a (f : Nat → Value) (j : Nat) (hj : j < 8) (wx : World) : (Instr.index 65 (.agg (arr 8 f)) (.int .i64 (j : Int))).run Tryd.prog wx = .ok (f j) wx := by
  rcases (by omega : j = 0 ∨ j = 1 ∨ j = 2 ∨ j = 3 ∨ j = 4 ∨ j = 5 ∨ j = 6 ∨ j = 7) with rfl | rfl | rfl | rfl | rfl | rfl | rfl | rfl <;> kernel_rfl
structure BRel (N g : Nat) (w wr : World) (M : List UInt8) (h : Nat → BitVec 32) : Prop where
  below : Below N w wr
  gl : N < g
  cells : ∀ i u, (bcells M)[i]? = some u → wr.cell? ⟨g, i, none⟩ = some u
  st : Holds wr N 8 (fun i => .int .u32 (W32 (h i))) 65
theorem BRel.lt {N g : Nat} {w wr : World} {M : List UInt8} {h : Nat → BitVec 32} (hb : BRel N g w wr M h) (hM : 0 < M.length) : g < wr.heap.size := by
  have e : (bcells M)[0]? = some ((bcells M)[0]'(by rw [bcells_length]; exact hM)) := List.getElem?_eq_getElem _
  exact block_lt_of_cell (hb.cells 0 _ e)
theorem BRel.later {N g : Nat} {w wr w' : World} {M : List UInt8} {h : Nat → BitVec 32} (hb : BRel N g w wr M h) (hN : N < wr.heap.size) (hM : 0 < M.length) (hb2 : Below wr.heap.size wr w') : BRel N g w w' M h :=
  ⟨hb.below.trans (hb2.mono (Nat.le_of_lt hN)), hb.gl, fun i u hu => by rw [hb2.cell (hb.lt hM)]; exact hb.cells i u hu, hb.st.below hb2 hb.st.lt⟩
theorem BRel.store {N g : Nat} {w wr : World} {M : List UInt8} {h : Nat → BitVec 32} (hb : BRel N g w wr M h) (k : Nat) (x : BitVec 32) : BRel N g w (wr.setCell ⟨N, k, none⟩ (.int .u32 (W32 x))) M (upd h k x) :=
  ⟨hb.below.setCell (Nat.le_refl _) _, hb.gl, fun i u hu => by rw [World.cell?_setCell_other _ _ _ _ (by intro e; injection e with e1 e2; have := hb.gl; omega)]; exact hb.cells i u hu, (hb.st.set k _).congr fun i _ => by unfold upd; split <;> rfl⟩
theorem BRel.congr {N g : Nat} {w wr : World} {M : List UInt8} {h h' : Nat → BitVec 32} (hb : BRel N g w wr M h) (e : ∀ i, i < 8 → h i = h' i) : BRel N g w wr M h' :=
  ⟨hb.below, hb.gl, hb.cells, hb.st.congr fun i hi => by rw [e i hi]⟩
structure WRel2 (wo wi : World) (f : Nat → BitVec 32) : Prop where
  below : Below wo.heap.size wo wi
  own : Holds wi wo.heap.size 64 (fun i => .int .u32 (W32 (f i))) 94
theorem WRel2.store {wo wi : World} {f : Nat → BitVec 32} (h : WRel2 wo wi f) (k : Nat) (x : BitVec 32) : WRel2 wo (wi.setCell ⟨wo.heap.size, k, none⟩ (.int .u32 (W32 x))) (upd f k x) :=
  ⟨h.below.setCell (Nat.le_refl _) _, (h.own.set k _).congr fun i _ => by unfold upd; split <;> rfl⟩

end Go.Proofs.YtpoibacokdjplaaDoor
/- Worlds later than one: for regions that hold calls that make memory. No program is imported. -/
namespace Go.Proofs.YtpoibacokdjplaaDoor
open Go.RowKit

/-- What is later than a world, and the same below N. -/
structure Later (N : Nat) (w : World) where
  at' : World
  below : Below N w at'
theorem later_of {P : Program} {f : FuncId} {args : Array Value} {w : World} {v : Value} {z : Later w.heap.size w} (h : Calls P f args z.at' fun e w' => e = .returned v ∧ Below z.at'.heap.size z.at' w') :
    Calls P f args z.at' fun e w'' => e = .returned v ∧ ∃ z' : Later w.heap.size w, w'' = z'.at' :=
  h.mono fun _ w' ⟨he, hb⟩ => ⟨he, ⟨w', z.below.trans (hb.mono z.below.size)⟩, rfl⟩
instance (N : Nat) (w : World) : Nonempty (Later N w) := ⟨⟨w, Below.refl _ _⟩⟩

end Go.Proofs.YtpoibacokdjplaaDoor
/- The document's Empty, Leaf, Join. -/
namespace Go.Proofs.YtpoibacokdjplaaDoor
open Go.RowKit

theorem markOf_len (kind : UInt8) (parts : List ByteArray) : (markOf kind parts).size = 16 := by
  unfold markOf
  rw [txt_size, List.length_take]
  unfold sumOf
  rw [sumText_length]
  rfl
theorem num_size (d : Int) : (txt (num8 d)).size = 8 := by rw [txt_size, num8_length]
end Go.Proofs.YtpoibacokdjplaaDoor
/- The document's NODE and Root. -/
namespace Go.Proofs.YtpoibacokdjplaaDoor
open Go.RowKit

theorem nodeOf_nil (f : Nat) (L : List It) (d : Nat) (h : L.length = 0) : nodeOf f L d = emptyM d := by
  obtain rfl := List.eq_nil_of_length_eq_zero h
  cases f <;> simp [nodeOf]
theorem nodeOf_one (f : Nat) (L : List It) (d : Nat) (h : L.length = 1) : nodeOf f L d = leafM (itAt L 0) d := by
  match L, h with
  | [x], _ => cases f <;> simp [nodeOf, itAt]
theorem nodeOf_two (f : Nat) (L : List It) (d : Nat) (h : 2 ≤ L.length) : nodeOf (f + 1) L d = joinM (nodeOf f (half L d 0) (d + 1)) (nodeOf f (half L d 1) (d + 1)) := by
  rw [nodeOf, if_neg (by omega), if_neg (by omega)]
theorem nodeOf_size : ∀ (f : Nat) (L : List It) (d : Nat), (nodeOf f L d).size = 16 := by
  intro f L d
  rcases (show L.length = 0 ∨ L.length = 1 ∨ 2 ≤ L.length by omega) with h | h | h
  · rw [nodeOf_nil f L d h]; unfold emptyM; exact markOf_len _ _
  · rw [nodeOf_one f L d h]; unfold leafM; exact markOf_len _ _
  · cases f with
    | zero =>
      match L, h with
      | x :: _, _ => exact markOf_len _ _
    | succ f => rw [nodeOf_two f L d h]; exact markOf_len _ _
/-- The root of what is right. -/
def rootOf (L : List It) : ByteArray := nodeOf 128 L 0
def rootAns (L : List It) : ByteArray × Int := if rightItems L = true then (rootOf L, 0) else (⟨#[]⟩, 1)
theorem right_cm {L : List It} (h : rightItems L = true) : ∀ x ∈ L, x.2.size ≤ 1000000 := fun x hx => by have := (right_sizes h x hx).2; omega
end Go.Proofs.YtpoibacokdjplaaDoor
/- The document's Prove. -/
namespace Go.Proofs.YtpoibacokdjplaaDoor
open Go.RowKit

def proveFrom : Nat → List It → ByteArray → Nat → List ByteArray × It
  | 0, L, _, _ => ([], itAt L 0)
  | f + 1, L, ix, d => if L.length < 2 then ([], itAt L 0) else
      (nodeOf f (half L d (1 - bitOf ix.data.toList d)) (d + 1) :: (proveFrom f (half L d (bitOf ix.data.toList d)) ix (d + 1)).1, (proveFrom f (half L d (bitOf ix.data.toList d)) ix (d + 1)).2)
def noIt : It := (⟨#[]⟩, ⟨#[]⟩)
def proveAns (L : List It) (ix : ByteArray) : List ByteArray × It × Int := if rightItems L = true ∧ ix.size = 16 then ((proveFrom 128 L ix 0).1, (proveFrom 128 L ix 0).2, 0) else ([], noIt, 1)
theorem proveFrom_few (f : Nat) (L : List It) (ix : ByteArray) (d : Nat) (h : L.length < 2) : proveFrom f L ix d = ([], itAt L 0) := by
  cases f with
  | zero => rfl
  | succ f => rw [proveFrom, if_pos h]
theorem results_row_tmp {P : Program} {fn : Func} {p u : Tmp} {ty : TypeId} (h : fn.results = #[.cell p ty, .tmp u]) (tmps : Array Value) (w : World) (g : Nat) (t : TypeId) (cs : Array Value) (fr : Nat × Nat) (d : TypeDesc)
    (hp : tmps.getD p undef = .pointer (some ⟨g, 0, none⟩)) (hg : w.heap[g]? = some (.cells cs t fr))
    (hu : P.underlying ty = some d) (hd : (match d with | .struct _ | .array _ _ => true | _ => false) = true) (hi : (P.info? ty).map (·.size) = some cs.size) :
    (results fn tmps).run P w = .ok (.tuple #[.agg cs, tmps.getD u undef]) w := by
  rw [results_cell_tmp h, hp]
  simp [asAddr, run_loadVar_row w g t ty cs fr d hg hu hd hi, Result.andThen]
def pCells (v : Value) (x : It) : Nat → Value := fun i => if i = 0 then v else if i = 1 then .string x.1 else .string x.2
theorem infoStr : (Tryd.prog.info? 9).map (fun i => (i.zero, i.size, i.bytes)) = some (some (.string ⟨#[]⟩), 1, 16) := by kernel_rfl
theorem undrew {w w' : World} (h : Below w.drew.heap.size w.drew w') : Below w.heap.size w w' := ⟨h.os, h.tape, h.output, h.size, h.block⟩
end Go.Proofs.YtpoibacokdjplaaDoor
/- The document's numbers of rounds: times, above, root. -/
namespace Go.Proofs.YtpoibacokdjplaaDoor
open Go.RowKit

def u64s (l : List Nat) : List Value := l.map fun (n : Nat) => Value.int .u64 (n : Int)
theorem u64s_length (l : List Nat) : (u64s l).length = l.length := by simp [u64s]
theorem u64s_append (l m : List Nat) : u64s (l ++ m) = u64s l ++ u64s m := by simp [u64s]
theorem u64s_get (l : List Nat) (i : Nat) (h : i < l.length) : (u64s l)[i]? = some (.int .u64 ((l.getD i 0 : Nat) : Int)) := by simp [u64s, List.getD_eq_getElem?_getD, h]
theorem infoU64 : (Tryd.prog.info? 67).map (fun i => (i.zero, i.size, i.bytes)) = some (some (.int .u64 0), 1, 8) := by kernel_rfl

/-- What is left of a number, digit by digit of 2^16. -/
def digs : Nat → Nat → List Nat
  | 0, _ => []
  | f + 1, c => if c = 0 then [] else (c % 65536) :: digs f (c / 65536)
def timesL (x : Nat) : List Nat → Nat → List Nat
  | [], c => digs 4 c
  | d :: l, c => ((c + d * x) % 65536) :: timesL x l ((c + d * x) / 65536)
theorem digs_step (f c : Nat) (h : 0 < c) : digs (f + 1) c = (c % 65536) :: digs f (c / 65536) := by
  show (if c = 0 then [] else _) = _; rw [if_neg (by omega)]
theorem digs_zero (f : Nat) : digs f 0 = [] := by cases f <;> simp [digs]
/-- Digits of 2^16. -/
def Small (l : List Nat) : Prop := ∀ i, l.getD i 0 < 65536
def sliceN : Value → Nat | .slice _ n _ => n | _ => 0

structure TimesRel (N : Nat) (w wr : World) (v : Value) (done : List Nat) : Prop where
  below : Below N w wr
  row : Row wr N 1 v done.length (u64s done)
theorem TimesRel.grow {N : Nat} {w wr w' : World} {v v' : Value} {l : List Nat} {c : Nat} (h : TimesRel N w wr v l) (hN : N ≤ w.heap.size)
    (hr : Row w' N 1 v' (l.length + 1) (u64s l ++ [.int .u64 (c : Int)])) (hg : wr.grownBy w' v.ownBlock) : TimesRel N w w' v' (l ++ [c]) :=
  ⟨grown_below h.below h.row hg (Nat.le_refl _) (Nat.le_trans hN h.below.size), by simpa [u64s] using hr⟩

end Go.Proofs.YtpoibacokdjplaaDoor
/- The document's numbers of rounds: above. -/
namespace Go.Proofs.YtpoibacokdjplaaDoor
open Go.RowKit

theorem digs_small : ∀ (f c : Nat), Small (digs f c)
  | 0, _, i => by simp [digs]
  | f + 1, c, i => by
    unfold digs
    by_cases h : c = 0
    · rw [if_pos h]; simp
    · rw [if_neg h]
      cases i with
      | zero => simp; omega
      | succ i => exact digs_small f (c / 65536) i
theorem timesL_small (x : Nat) : ∀ (l : List Nat) (c : Nat), Small (timesL x l c)
  | [], c => digs_small 4 c
  | d :: l, c => fun i => by
    cases i with
    | zero => simp [timesL]; omega
    | succ i => exact timesL_small x l _ i
theorem digs_length : ∀ (f c : Nat), (digs f c).length ≤ f
  | 0, _ => by simp [digs]
  | f + 1, c => by
    unfold digs
    by_cases h : c = 0
    · rw [if_pos h]; simp
    · rw [if_neg h]; have := digs_length f (c / 65536); simp; omega
theorem timesL_length (x : Nat) : ∀ (l : List Nat) (c : Nat), (timesL x l c).length ≤ l.length + 4
  | [], c => by have := digs_length 4 c; simpa [timesL] using this
  | d :: l, c => by have := timesL_length x l ((c + d * x) / 65536); simp [timesL]; omega
def powL (x : Nat) : Nat → List Nat
  | 0 => [1]
  | j + 1 => timesL x (powL x j) 0
theorem powL_small (x j : Nat) : Small (powL x j) := by
  cases j with
  | zero => intro i; cases i <;> simp [powL]
  | succ j => exact timesL_small x _ 0
theorem powL_length (x : Nat) : ∀ j, (powL x j).length ≤ 1 + 4 * j
  | 0 => by simp [powL]
  | j + 1 => by have := timesL_length x (powL x j) 0; have := powL_length x j; simp only [powL]; omega
def noughts (n : Nat) : List Nat := List.replicate n 0
theorem noughts_snoc (n : Nat) : noughts (n + 1) = noughts n ++ [0] := by unfold noughts; rw [List.replicate_succ']
def padTo (n : Nat) (l : List Nat) : List Nat := l ++ noughts (n - l.length)
theorem padTo_length (n : Nat) (l : List Nat) : (padTo n l).length = max n l.length := by unfold padTo noughts; simp; omega
def cmpAt (A B : List Nat) : Nat → Bool
  | 0 => false
  | n + 1 => if A.getD n 0 = B.getD n 0 then cmpAt A B n else decide (B.getD n 0 < A.getD n 0)
def aboveL (x k p : Nat) : Bool :=
  let B0 := noughts (2 * k) ++ [p]
  let A := padTo B0.length (powL x k)
  let B := padTo A.length B0
  cmpAt A B A.length

structure RowOf (N : Nat) (w wr : World) (p : Option Addr) (cap : Nat) (l : List Nat) : Prop where
  below : Below N w wr
  row : Row wr N 1 (.slice p l.length cap) l.length (u64s l)

structure TwoRows (N : Nat) (w wr : World) (vA vB : Value) (A B : List Nat) : Prop where
  below : Below N w wr
  a : Row wr N 1 vA A.length (u64s A)
  b : Row wr N 1 vB B.length (u64s B)
  ne : ∀ c, vA.ownBlock = some c → vB.ownBlock ≠ some c
theorem TwoRows.symm {N : Nat} {w wr : World} {vA vB : Value} {A B : List Nat} (h : TwoRows N w wr vA vB A B) : TwoRows N w wr vB vA B A :=
  ⟨h.below, h.b, h.a, fun c h1 h2 => h.ne c h2 h1⟩
theorem TwoRows.grow {N : Nat} {w wr w' : World} {vA vB v' : Value} {A B : List Nat} {c : Nat} (h : TwoRows N w wr vA vB A B) (hN : N ≤ w.heap.size)
    (hr : Row w' N 1 v' (A.length + 1) (u64s A ++ [.int .u64 (c : Int)])) (hg : wr.grownBy w' vA.ownBlock) (hm : Moved wr vA v') : TwoRows N w w' v' vB (A ++ [c]) B :=
  ⟨grown_below h.below h.a hg (Nat.le_refl _) (Nat.le_trans hN h.below.size), by simpa [u64s] using hr,
   h.b.kept (fun k hk => hg.block k (h.b.lt k hk).2 (fun e => h.ne k e.symm hk)) hg.size,
   fun d h1 h2 => by
     rcases hm with hm | hm
     · exact h.ne d (hm ▸ h1) h2
     · have := hm d h1; have := (h.b.lt d h2).2; omega⟩
theorem madeNoughts (n : Nat) : (madeCells #[Value.int .u64 0] n).toList = u64s (noughts n) := by
  unfold madeCells u64s noughts
  apply List.ext_getElem
  · simp
  · intro i h1 h2; simp [Nat.mod_one]
theorem cell_row {w : World} {base : Nat} {p : Option Addr} {cap : Nat} {l : List Nat} (h : Row w base 1 (.slice p l.length cap) l.length (u64s l)) (i : Nat) (hi : i < l.length) :
    ∃ g, p = some ⟨g, 0, none⟩ ∧ w.cell? ⟨g, i, none⟩ = some (.int .u64 ((l.getD i 0 : Nat) : Int)) := by
  obtain ⟨g, cap', hv, _, _, _, hcell, _⟩ := h.shape (by omega)
  injection hv with e1 e2 e3
  exact ⟨g, e1, hcell i _ (u64s_get l i hi)⟩

end Go.Proofs.YtpoibacokdjplaaDoor
/- The document's numbers of rounds: root. -/
namespace Go.Proofs.YtpoibacokdjplaaDoor
open Go.RowKit

def searchL (k p : Nat) : Nat → Nat → Nat → Nat
  | 0, low, _ => low
  | f + 1, low, high => if low + 1 < high then (if aboveL ((low + high) / 2) k p then searchL k p f low ((low + high) / 2) else searchL k p f ((low + high) / 2) high) else low
def rootL (p k : Nat) : Nat := searchL k p 40 0 1099511627776 % 4294967296
theorem searchL_done (k p f low high : Nat) (h : ¬ low + 1 < high) : searchL k p f low high = low := by
  cases f with
  | zero => rfl
  | succ f => show (if low + 1 < high then _ else low) = low; rw [if_neg h]
theorem searchL_step (k p f low high x : Nat) (h : low + 1 < high) (hx : (low + high) / 2 = x) : searchL k p (f + 1) low high = if aboveL x k p then searchL k p f low x else searchL k p f x high := by
  show (if low + 1 < high then _ else low) = _; rw [if_pos h, hx]

end Go.Proofs.YtpoibacokdjplaaDoor
/- The document's numbers of rounds: primes. -/
namespace Go.Proofs.YtpoibacokdjplaaDoor
open Go.RowKit

def i64s (l : List Nat) : List Value := l.map fun (n : Nat) => Value.int .i64 (n : Int)
theorem i64s_get (l : List Nat) (i : Nat) (h : i < l.length) : (i64s l)[i]? = some (.int .i64 ((l.getD i 0 : Nat) : Int)) := by simp [i64s, List.getD_eq_getElem?_getD, h]
theorem infoI64 : (Tryd.prog.info? 3).map (fun i => (i.zero, i.size, i.bytes)) = some (some (.int .i64 0), 1, 8) := by kernel_rfl
/-- The primes among the first so many numbers from 2. -/
def pl : Nat → List Nat
  | 0 => []
  | m + 1 => if (pl m).all (fun p => (m + 2) % p != 0) then pl m ++ [m + 2] else pl m
theorem pl_le (m : Nat) : (pl m).length ≤ (pl (m + 1)).length := by
  show _ ≤ (if _ then _ else _ : List Nat).length
  split <;> simp
theorem pl_mono {m n : Nat} (h : m ≤ n) : (pl m).length ≤ (pl n).length := by
  induction n with
  | zero => obtain rfl : m = 0 := by omega
            exact Nat.le_refl _
  | succ n ih =>
    by_cases hm : m = n + 1
    · subst hm; exact Nat.le_refl _
    · exact Nat.le_trans (ih (by omega)) (pl_le n)
theorem pl_length (m : Nat) : (pl m).length ≤ m := by
  induction m with
  | zero => exact Nat.le_refl _
  | succ m ih =>
    show (if _ then _ else _ : List Nat).length ≤ _
    split
    · simp; omega
    · omega
theorem pl_309 : (pl 309).length = 63 := by decide +kernel
theorem pl_310 : (pl 310).length = 64 := by decide +kernel
theorem pl_pos : ∀ (m i : Nat), i < (pl m).length → 2 ≤ (pl m).getD i 0 ∧ (pl m).getD i 0 ≤ m + 1
  | 0, i, h => by simp [pl] at h
  | m + 1, i, h => by
    have ih := pl_pos m i
    unfold pl at h ⊢
    split at h <;> rename_i hc
    · rw [if_pos hc]
      by_cases hi : i < (pl m).length
      · have := ih hi
        rw [List.getD_eq_getElem?_getD, List.getElem?_append_left hi, ← List.getD_eq_getElem?_getD]; omega
      · have : i = (pl m).length := by simp at h; omega
        subst this
        simp [List.getD_eq_getElem?_getD]
    · rw [if_neg hc]
      have := ih h; omega

/-- None of the first i divides. -/
def noneOf (l : List Nat) (K i : Nat) : Bool := (l.take i).all (fun p => K % p != 0)
theorem noneOf_next (l : List Nat) (K i : Nat) (h : i < l.length) : noneOf l K (i + 1) = (noneOf l K i && (K % l.getD i 0 != 0)) := by
  unfold noneOf
  rw [List.take_add_one, List.all_append, List.getElem?_eq_getElem h, List.getD_eq_getElem?_getD, List.getElem?_eq_getElem h]
  simp
theorem noneOf_all (l : List Nat) (K : Nat) : noneOf l K l.length = l.all (fun p => K % p != 0) := by unfold noneOf; rw [List.take_length]
theorem cell_row64 {w : World} {base : Nat} {p : Option Addr} {cap : Nat} {l : List Nat} (h : Row w base 1 (.slice p l.length cap) l.length (i64s l)) (i : Nat) (hi : i < l.length) :
    ∃ g, p = some ⟨g, 0, none⟩ ∧ w.cell? ⟨g, i, none⟩ = some (.int .i64 ((l.getD i 0 : Nat) : Int)) := by
  obtain ⟨g, cap', hv, _, _, _, hcell, _⟩ := h.shape (by omega)
  injection hv with e1 e2 e3
  exact ⟨g, e1, hcell i _ (i64s_get l i hi)⟩

end Go.Proofs.YtpoibacokdjplaaDoor
/- The numbers of rounds, reckoned from roots of primes, are the tables'. -/
namespace Go.Proofs.YtpoibacokdjplaaDoor
open Go.RowKit

theorem k_all : (List.range 64).all (fun i => rootL ((pl 310).getD i 0) 3 == kTab.getD i 0) = true := by decide +kernel
theorem h_all : (List.range 8).all (fun i => rootL ((pl 310).getD i 0) 2 == (iv i).toNat) = true := by decide +kernel
theorem k_root (i : Nat) (h : i < 64) : rootL ((pl 310).getD i 0) 3 = kTab.getD i 0 := by
  have := List.all_eq_true.1 k_all i (List.mem_range.2 h); simpa using this
theorem h_root (i : Nat) (h : i < 8) : rootL ((pl 310).getD i 0) 2 = (iv i).toNat := by
  have := List.all_eq_true.1 h_all i (List.mem_range.2 h); simpa using this

theorem k_val (i : Nat) (h : i < 64) : ((rootL ((pl 310).getD i 0) 3 : Nat) : Int) = W32 (kOf i) := by
  have h1 := k_root i h
  have h2 : rootL ((pl 310).getD i 0) 3 < 4294967296 := Nat.mod_lt _ (by decide)
  rw [h1] at h2 ⊢
  unfold W32 kOf
  rw [BitVec.toNat_ofNat, Nat.mod_eq_of_lt (by omega)]
theorem h_val (i : Nat) (h : i < 8) : ((rootL ((pl 310).getD i 0) 2 : Nat) : Int) = W32 (iv i) := by
  have h1 := h_root i h
  rw [h1]; rfl

end Go.Proofs.YtpoibacokdjplaaDoor
/- The document's numbers of rounds: New. -/
namespace Go.Proofs.YtpoibacokdjplaaDoor
open Go.RowKit

def partR (i j : Nat) : Value := if j < 8 then (if j < i then .int .u32 (W32 (iv j)) else .int .u32 0) else if j - 8 < i then .int .u32 (W32 (kOf (j - 8))) else .int .u32 0
end Go.Proofs.YtpoibacokdjplaaDoor
/- The program's names and indexes: isLetter, isDigit, isMark, bit, Name, Bit. -/
namespace Go.Proofs.YtpoibacokdjplaaDoor
open Go.RowKit

theorem and_one (X : Nat) (h : X < 256) : bits BinOp.and IntKind.i64 (wrap64 (X : Int)) 1 = ((X % 2 : Nat) : Int) := by
  have hall : ∀ x : Fin 256, bits BinOp.and IntKind.i64 (wrap64 ((x.val : Nat) : Int)) 1 = ((x.val % 2 : Nat) : Int) := by decide +kernel
  exact hall ⟨X, h⟩
def letterB (c : Nat) : Bool := decide (97 ≤ c ∧ c ≤ 122)
def digitB (c : Nat) : Bool := decide (48 ≤ c ∧ c ≤ 57)
theorem ixIsMark_any (s : ByteArray) (w : World) : Calls Tryd.prog 59 #[.string s] w fun e w' => e = .returned (.bool (decide (s.size = 16))) ∧ w' = w := by
  by_cases h : s.size = 16
  · go_enter Tryd.func59, Tryd.ntmps59
    go_wp2
    go_ret
    exact ⟨by simp [h], rfl⟩
  · go_enter Tryd.func59, Tryd.ntmps59
    go_wp2
    go_ret
    refine ⟨?_, rfl⟩
    simp [h]; omega
set_option maxRecDepth 100000 in
theorem bit_any (ix : ByteArray) (k : Nat) (w : World) (h16 : ix.size = 16) (hk : k < 128) :
    Calls Tryd.prog 60 #[.string ix, .int .i64 (k : Int)] w fun e w' => e = .returned (.int .i64 ((bitOf ix.data.toList k : Nat) : Int)) ∧ w' = w := by
  have hlt : k / 8 < ix.size := by omega
  obtain ⟨B, hB⟩ : ∃ B : Nat, ix[k / 8].toNat = B := ⟨_, rfl⟩
  have hB2 : B < 256 := by rw [← hB]; exact ix[k / 8].toNat_lt
  obtain ⟨D, hD⟩ : ∃ D : Nat, 7 - k % 8 = D := ⟨_, rfl⟩
  have hDi : 7 - (k : Int) % 8 = (D : Int) := by omega
  have hD7 : D < 8 := by omega
  have hbit : bitOf ix.data.toList k = B / 2 ^ D % 2 := by
    unfold bitOf
    rw [hD, ← hB]
    congr 3
    rw [List.getD_eq_getElem?_getD, List.getElem?_eq_getElem (by rw [Array.length_toList]; exact hlt)]; rfl
  have HBIT := Lib.hid hbit
  clear hbit hD
  go_enter Tryd.func60, Tryd.ntmps60
  go_wp2
  go_ret
  refine ⟨?_, rfl⟩
  show Ending.returned (Value.int IntKind.i64 (bits BinOp.and IntKind.i64 (wrap64 ((B : Int) / 2 ^ D)) 1)) = _
  rw [HBIT.out, show ((B : Int) / 2 ^ D) = ((B / 2 ^ D : Nat) : Int) by rw [Int.natCast_ediv, Int.natCast_pow]; rfl, and_one _ (Nat.lt_of_le_of_lt (Nat.div_le_self _ _) hB2)]
end Go.Proofs.YtpoibacokdjplaaDoor
