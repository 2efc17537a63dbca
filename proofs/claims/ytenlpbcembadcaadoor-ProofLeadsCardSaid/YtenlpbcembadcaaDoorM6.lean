/- Parts of the proof, one behind the other: Tail. -/
import Derived.StillTail
import Derived.Deep.Quiet
import Derived.Deep.QuietTactic
import Derived.WalkKit
/- A region that draws its order: operations that only read, or call what leaves a world of a class, ahead of a tail in one forced order (a store of what they yield): one walk serves. No program is imported. -/
namespace Go.Proofs.YtenlpbcembadcaaDoor
open Go.RowKit

section
variable {P : Program} {ops H : Array Oper} {md : Region.Mode} {C : World → Prop}

/-- The flags of the head, and none of the tail's. -/
def flags (g : Nat) (lh : Array Bool) : Array Bool := lh ++ Array.replicate g false
theorem flags_get (g : Nat) (lh : Array Bool) (i : Nat) (d : Bool) (h : i < lh.size) : (flags g lh).getD i d = lh.getD i d := by
  unfold flags
  simp [Array.getElem?_append_left h]
theorem flags_tail (g : Nat) (lh : Array Bool) (i : Nat) (h : lh.size ≤ i) (h2 : i < lh.size + g) : (flags g lh).getD i true = false := by
  unfold flags
  rw [Array.getD_eq_getD_getElem?, Array.getElem?_append_right h, Array.getElem?_eq_getElem (by simp; omega)]
  simp
theorem flags_set (g : Nat) (lh : Array Bool) (i : Nat) (h : i < lh.size) : (flags g lh).setIfInBounds i true = flags g (lh.setIfInBounds i true) := by
  unfold flags
  apply Array.ext_getElem?
  intro j
  rw [Array.getElem?_setIfInBounds]
  by_cases hij : i = j
  · subst hij
    rw [if_pos rfl, Array.getElem?_append_left (by simpa using h), Array.getElem?_setIfInBounds, if_pos rfl]
    simp [h]; omega
  · rw [if_neg hij]
    by_cases hj : j < lh.size
    · rw [Array.getElem?_append_left hj, Array.getElem?_append_left (by simpa using hj), Array.getElem?_setIfInBounds, if_neg hij]
    · rw [Array.getElem?_append_right (by omega), Array.getElem?_append_right (by simp; omega)]
      simp
/-- What is checked of the region's text: the head's operations have no guard and wait for earlier ones alone. -/
def headOk (md : Region.Mode) (H : Array Oper) : Bool := (List.range H.size).all fun i => match H[i]? with
  | some o => o.guard.isNone && o.after.all fun e => !Region.binds md e || decide (e.on < i)
  | none => true
theorem headOk_spec (h : headOk md H = true) {i : Nat} {o : Oper} (ho : H[i]? = some o) : o.guard = none ∧ ∀ e ∈ o.after, Region.binds md e = true → e.on < i := by
  have hi : i < H.size := (Array.getElem?_eq_some_iff.1 ho).1
  have h1 := List.all_eq_true.1 h i (List.mem_range.2 hi)
  rw [ho] at h1
  simp only [Bool.and_eq_true] at h1
  refine ⟨Option.isNone_iff_eq_none.1 h1.1, fun e he hb => ?_⟩
  have := Array.all_eq_true'.1 h1.2 e he
  simpa [hb] using this
def unlisted (lh : Array Bool) : Nat := (lh.toList.filter (!·)).length

theorem unlisted_zero {lh : Array Bool} (h : unlisted lh = 0) (i : Nat) (hi : i < lh.size) : lh.getD i false = true := by
  have h0 : lh.toList.filter (!·) = [] := List.eq_nil_of_length_eq_zero h
  rw [List.filter_eq_nil_iff] at h0
  have := h0 lh[i] (by simp)
  simpa [hi] using this
theorem unlisted_some {lh : Array Bool} {f : Nat} (h : unlisted lh = f + 1) : ∃ i, i < lh.size ∧ lh.getD i true = false ∧ ∀ j, j < i → lh.getD j false = true := by
  have hex : ∃ i, i < lh.size ∧ lh.getD i true = false := by
    have hne : lh.toList.filter (!·) ≠ [] := fun e => by unfold unlisted at h; rw [e] at h; simp at h
    obtain ⟨x, hx⟩ := List.exists_mem_of_ne_nil _ hne
    rw [List.mem_filter] at hx
    obtain ⟨i, hi, e⟩ := List.getElem_of_mem hx.1
    refine ⟨i, by simpa using hi, ?_⟩
    have hx2 : x = false := by simpa using hx.2
    have hi' : i < lh.size := by simpa using hi
    simp [hi']
    rw [← hx2, ← e]; simp
  have key : ∀ k, (∃ i, i ≤ k ∧ i < lh.size ∧ lh.getD i true = false) → ∃ i, i < lh.size ∧ lh.getD i true = false ∧ ∀ j, j < i → lh.getD j false = true := by
    intro k
    induction k using Nat.strongRecOn with
    | _ k ih =>
      rintro ⟨i, hik, hi, hf⟩
      by_cases hall : ∀ j, j < i → lh.getD j false = true
      · exact ⟨i, hi, hf, hall⟩
      · obtain ⟨j, hj⟩ := Classical.not_forall.1 hall
        obtain ⟨hji, hjf⟩ := Classical.not_imp.1 hj
        have hjs : j < lh.size := by omega
        have : lh.getD j true = false := by
          simp [hjs] at hjf ⊢; exact hjf
        exact ih j (by omega) ⟨j, Nat.le_refl _, hjs, this⟩
  obtain ⟨i, hi, hf⟩ := hex
  exact key i ⟨i, Nat.le_refl _, hi, hf⟩
theorem unlisted_set {lh : Array Bool} {f i : Nat} (h : unlisted lh = f + 1) (hi : i < lh.size) (hf : lh.getD i true = false) : unlisted (lh.setIfInBounds i true) = f := by
  have hfi : lh[i] = false := by simpa [hi] using hf
  unfold unlisted at *
  have key : ∀ (l : List Bool) (k : Nat) (hk : k < l.length), l[k] = false → ((l.set k true).filter (!·)).length + 1 = (l.filter (!·)).length := by
    intro l
    induction l with
    | nil => intro k hk; simp at hk
    | cons x l ih =>
      intro k hk hx
      cases k with
      | zero => simp at hx; subst hx; simp
      | succ k =>
        have := ih k (by simpa using hk) (by simpa using hx)
        simp only [List.set_cons_succ, List.filter_cons]
        cases x <;> simp <;> omega
  have := key lh.toList i (by simpa using hi) (by simpa using hfi)
  rw [Array.toList_setIfInBounds]
  omega

theorem wpAny_of_headQ {n g : Nat} {tail : List Oper} {Q' : Exit → Act → World → Prop} (hn : H.size = n) (hg : ops.size = n + g) (hg0 : 0 < g) (hget : ∀ i, i < n → H[i]? = ops[i]?) (hok : headOk md H = true)
    (hs : Region.sinkB md ops n = true) (hc : Region.chainB md ops n = true) (htl : ∀ j, tail[j]? = ops[n + j]?) (hgl : tail.length = g)
    (hseq : Region.seqB md ops g n (flags g (Array.replicate n true)) = true) :
    ∀ (f : Nat) (lh : Array Bool) (a : Act) (w : World), lh.size = n → unlisted lh = f →
      (∀ i o, H[i]? = some o → lh.getD i false = true → ∀ e ∈ o.after, Region.binds md e = true → lh.getD e.on false = true) → C w →
      wpAnyQ P md H C (fun a' => ∀ w', C w' → wpList P ops Q' tail a' w') f lh a → wpAny P md ops Q' (f + g) (flags g lh) a w
  | 0, lh, a, w, hl, hu, _, hw, h => by
    have e : lh = Array.replicate n true := by
      apply Array.ext
      · simp [hl]
      · intro i h1 h2
        have := unlisted_zero hu i h1
        simpa [h1] using this
    rw [Nat.zero_add, e, ← hgl]
    exact wpAny_of_seq tail n _ a w htl (by rw [hgl]; exact hseq) (h.2 w hw)
  | f + 1, lh, a, w, hl, hu, hcl, hw, h => by
    obtain ⟨i0, hi0, hf0, hall0⟩ := unlisted_some hu
    have hin0 : i0 < n := by omega
    have inv : HeadInv md ops n (flags g lh) := by
      refine ⟨by unfold flags; simp [hl, hg], fun j oj hoj hlj e he hb => ?_, fun t ht ht' => flags_tail g lh t (by omega) (by omega)⟩
      have hjn : j < n := by
        rcases Nat.lt_or_ge j n with h' | h'
        · exact h'
        · rcases Nat.lt_or_ge j (n + g) with h2 | h2
          · have := flags_tail g lh j (by omega) (by omega)
            have hz : j < (flags g lh).size := by unfold flags; simp; omega
            simp [hz] at this hlj
            rw [this] at hlj; cases hlj
          · have hz : (flags g lh).size ≤ j := by unfold flags; simp; omega
            simp [Array.getElem?_eq_none hz] at hlj
      rw [flags_get g lh j false (by omega)] at hlj
      have hoj' : H[j]? = some oj := by rw [hget j hjn]; exact hoj
      have h3 := (headOk_spec hok hoj').2 e he hb
      rw [flags_get g lh e.on false (by omega)]
      exact hcl j oj hoj' hlj e he hb
    have hlt : ∀ i, i ∈ Region.ready md ops (flags g lh) → i < n := fun i hi => by
      rcases Nat.lt_or_ge i n with h' | h'
      · exact h'
      · exact absurd hi (tail_waits hs hc (by omega) inv _ i0 rfl hin0 (by rw [flags_get g lh i0 true (by omega)]; exact hf0) i h')
    have hready : ∀ i, i ∈ Region.ready md ops (flags g lh) → i ∈ Region.ready md H lh := fun i hi => by
      have hin := hlt i hi
      obtain ⟨h1, o, ho, h2⟩ := mem_ready.1 hi
      have ho' : H[i]? = some o := by rw [hget i hin]; exact ho
      refine mem_ready.2 ⟨by rw [flags_get g lh i true (by omega)] at h1; exact h1, o, ho', fun e he hb => ?_⟩
      have h3 := (headOk_spec hok ho').2 e he hb
      have h4 := h2 e he hb
      rw [flags_get g lh e.on false (by omega)] at h4; exact h4
    have hne : i0 ∈ Region.ready md ops (flags g lh) := by
      obtain ⟨o, ho⟩ : ∃ o, H[i0]? = some o := ⟨_, Array.getElem?_eq_getElem (by omega)⟩
      refine mem_ready.2 ⟨by rw [flags_get g lh i0 true (by omega)]; exact hf0, o, by rw [← hget i0 hin0]; exact ho, fun e he hb => ?_⟩
      have h3 := (headOk_spec hok ho).2 e he hb
      rw [flags_get g lh e.on false (by omega)]
      exact hall0 e.on h3
    rw [show f + 1 + g = (f + g) + 1 by omega]
    refine ⟨fun h0 => (by rw [h0] at hne; cases hne), fun i hi => ?_⟩
    have hin := hlt i hi
    have hrd := hready i hi
    have hq := h.2 i hrd
    obtain ⟨hun, o, ho, hed⟩ := mem_ready.1 hrd
    have hgd := (headOk_spec hok ho).1
    have hwt : ∀ (ys : Nat → Option Bool), Region.wanted o ys = true := fun ys => by unfold Region.wanted; rw [hgd]
    unfold qOp at hq
    rw [ho] at hq
    simp only [hwt, if_true] at hq
    have ho2 : ops[i]? = some o := by rw [← hget i hin]; exact ho
    unfold wpOp
    rw [ho2]
    simp only [hwt, if_true]
    refine .inl (Oper.wp_of_quiet hw (fun a' w' hw' hk => ?_) hq)
    rw [flags_set g lh i (by omega)]
    refine wpAny_of_headQ hn hg hg0 hget hok hs hc htl hgl hseq f _ a' w' (by simp [hl]) (unlisted_set hu (by omega) hun) ?_ hw' hk
    intro j oj hoj hlj e he hb
    by_cases hij : i = j
    · subst hij
      have : oj = o := Option.some.inj (hoj.symm.trans ho)
      subst this
      exact getD_set_true (hed e he hb)
    · rw [getD_set_ne false hij] at hlj
      exact getD_set_true (hcl j oj hoj hlj e he hb)

/-- The region: n operations that are quiet in the class C, then a forced tail. -/
theorem wp_region_head_tail {id : Nat} {Q : Exit → Act → World → Prop} {a : Act} {w : World} {l : List Oper} (C : World → Prop) (n : Nat) (hm : P.follows .mixedOrders = true)
    (hB : (decide (n < l.length) && Region.lexB .any (l.take n).toArray && headOk .any (l.take n).toArray && Region.sinkB .any l.toArray n && Region.chainB .any l.toArray n && Region.seqB .any l.toArray (l.length - n) n (flags (l.length - n) (Array.replicate n true))) = true)
    (hC : C { w with drawn := w.drawn + 1 })
    (h : wpQuiet P (l.take n).toArray C (fun a' => ∀ w', C w' → wpList P l.toArray Q (l.drop n) a' w') (l.take n) a) : (Code.region id l.toArray true).wp P Q a w := by
  simp only [Bool.and_eq_true, decide_eq_true_eq] at hB
  obtain ⟨⟨⟨⟨⟨h0, h1⟩, h2⟩, h3⟩, h4⟩, h5⟩ := hB
  have htk : (l.take n).length = n := by rw [List.length_take]; omega
  refine wp_region_any hm ?_
  simp only [Region.lexB, Bool.and_eq_true] at h1
  have hq := wpAnyQ_lex (P := P) (C := C) (md := .any) h1.1 (l.take n) 0 (Array.replicate (l.take n).length false) a (by intro j; simp) (by simpa using h1.2) h
  have := wpAny_of_headQ (P := P) (ops := l.toArray) (md := .any) (H := (l.take n).toArray) (n := n) (g := l.length - n) (tail := l.drop n) (Q' := Q) (C := C) (by simp; omega) (by simp; omega) (by omega)
    (fun i hi => by simp [hi]) h2 h3 h4 (fun j => by simp [List.getElem?_drop]) (by simp) h5 (l.take n).length (Array.replicate (l.take n).length false) a _ (by simp; omega)
    (by unfold unlisted; simp) (fun i o _ hl => by rw [getD_replicate_false] at hl; cases hl) hC hq
  have e1 : (l.take n).length + (l.length - n) = l.toArray.size := by rw [htk]; simp; omega
  have e2 : flags (l.length - n) (Array.replicate (l.take n).length false) = Array.replicate l.toArray.size false := by
    unfold flags; rw [Array.replicate_append_replicate, e1]
  rw [e1, e2] at this
  exact this
end
end Go.Proofs.YtenlpbcembadcaaDoor
