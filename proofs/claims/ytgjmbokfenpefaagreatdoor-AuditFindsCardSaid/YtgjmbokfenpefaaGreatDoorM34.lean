/- Parts of the proof, one behind the other: Tail, RSum. -/
import Derived.StillTail
import Derived.Deep.Quiet
import Derived.Deep.QuietTactic
import Derived.WalkKit
import Derived.Lib.Hide
import Derived.WalkLawsBesides
import Derived.Deep.WholeRow
import Derived.ArgAppend
import Derived.Laws.AppendOwnNone
import Derived.Laws.CopyRow
import Derived.Deep.RegionLaw
import Derived.Laws.BytesString
import Derived.Laws.IdiomStrings
import Derived.Laws.BitsAllLaws
import Derived.Test.YtgjmbokfenpefaaGreatDoorProg
import Derived.Outline
import Derived.BigQuiet
import Derived.Laws.CopyOwn
import Derived.RegionTactic
import Derived.Test.YtgjmbokfenpefaaGreatDoorM1
import Derived.Test.YtgjmbokfenpefaaGreatDoorM2
import Derived.Test.YtgjmbokfenpefaaGreatDoorM3
import Derived.Test.YtgjmbokfenpefaaGreatDoorM4
import Derived.Test.YtgjmbokfenpefaaGreatDoorM33
/- A region that draws its order: operations that only read, or call what leaves a world of a class, ahead of a tail in one forced order (a store of what they yield): one walk serves. No program is imported. -/
namespace Go.Proofs.YtgjmbokfenpefaaGreatDoor
open Go.RowKit

section
variable {P : Program} {ops H : Array Oper} {md : Region.Mode} {C : World → Prop}

/-- The flags of the head, and none of the tail's. -/
def flags (g : Nat) (lh : Array Bool) : Array Bool := lh ++ Array.replicate g false
theorem flags_get (g : Nat) (lh : Array Bool) (i : Nat) (d : Bool) (h : i < lh.size) : (flags g lh).getD i d = lh.getD i d := by
  unfold flags
  simp [Array.getElem?_append_left h]
theorem flags_tail (g : Nat) (lh : Array Bool) (i : Nat) (h : lh.size ≤ i) (h2 : i < lh.size + g) : (flags g lh).getD i true = false := by
  unfold flags
  rw [Array.getD_eq_getD_getElem?, Array.getElem?_append_right h, Array.getElem?_eq_getElem (by simp; omega)]
  simp
theorem flags_set (g : Nat) (lh : Array Bool) (i : Nat) (h : i < lh.size) : (flags g lh).setIfInBounds i true = flags g (lh.setIfInBounds i true) := by
  unfold flags
  apply Array.ext_getElem?
  intro j
  rw [Array.getElem?_setIfInBounds]
  by_cases hij : i = j
  · subst hij
    rw [if_pos rfl, Array.getElem?_append_left (by simpa using h), Array.getElem?_setIfInBounds, if_pos rfl]
    simp [h]; omega
  · rw [if_neg hij]
    by_cases hj : j < lh.size
    · rw [Array.getElem?_append_left hj, Array.getElem?_append_left (by simpa using hj), Array.getElem?_setIfInBounds, if_neg hij]
    · rw [Array.getElem?_append_right (by omega), Array.getElem?_append_right (by simp; omega)]
      simp
/-- What is checked of the region's text: the head's operations have no guard and wait for earlier ones alone. -/
def headOk (md : Region.Mode) (H : Array Oper) : Bool := (List.range H.size).all fun i => match H[i]? with
  | some o => o.guard.isNone && o.after.all fun e => !Region.binds md e || decide (e.on < i)
  | none => true
theorem headOk_spec (h : headOk md H = true) {i : Nat} {o : Oper} (ho : H[i]? = some o) : o.guard = none ∧ ∀ e ∈ o.after, Region.binds md e = true → e.on < i := by
  have hi : i < H.size := (Array.getElem?_eq_some_iff.1 ho).1
  have h1 := List.all_eq_true.1 h i (List.mem_range.2 hi)
  rw [ho] at h1
  simp only [Bool.and_eq_true] at h1
  refine ⟨Option.isNone_iff_eq_none.1 h1.1, fun e he hb => ?_⟩
  have := Array.all_eq_true'.1 h1.2 e he
  simpa [hb] using this
def unlisted (lh : Array Bool) : Nat := (lh.toList.filter (!·)).length

theorem unlisted_zero {lh : Array Bool} (h : unlisted lh = 0) (i : Nat) (hi : i < lh.size) : lh.getD i false = true := by
  have h0 : lh.toList.filter (!·) = [] := List.eq_nil_of_length_eq_zero h
  rw [List.filter_eq_nil_iff] at h0
  have := h0 lh[i] (by simp)
  simpa [hi] using this
theorem unlisted_some {lh : Array Bool} {f : Nat} (h : unlisted lh = f + 1) : ∃ i, i < lh.size ∧ lh.getD i true = false ∧ ∀ j, j < i → lh.getD j false = true := by
  have hex : ∃ i, i < lh.size ∧ lh.getD i true = false := by
    have hne : lh.toList.filter (!·) ≠ [] := fun e => by unfold unlisted at h; rw [e] at h; simp at h
    obtain ⟨x, hx⟩ := List.exists_mem_of_ne_nil _ hne
    rw [List.mem_filter] at hx
    obtain ⟨i, hi, e⟩ := List.getElem_of_mem hx.1
    refine ⟨i, by simpa using hi, ?_⟩
    have hx2 : x = false := by simpa using hx.2
    have hi' : i < lh.size := by simpa using hi
    simp [hi']
    rw [← hx2, ← e]; simp
  have key : ∀ k, (∃ i, i ≤ k ∧ i < lh.size ∧ lh.getD i true = false) → ∃ i, i < lh.size ∧ lh.getD i true = false ∧ ∀ j, j < i → lh.getD j false = true := by
    intro k
    induction k using Nat.strongRecOn with
    | _ k ih =>
      rintro ⟨i, hik, hi, hf⟩
      by_cases hall : ∀ j, j < i → lh.getD j false = true
      · exact ⟨i, hi, hf, hall⟩
      · obtain ⟨j, hj⟩ := Classical.not_forall.1 hall
        obtain ⟨hji, hjf⟩ := Classical.not_imp.1 hj
        have hjs : j < lh.size := by omega
        have : lh.getD j true = false := by
          simp [hjs] at hjf ⊢; exact hjf
        exact ih j (by omega) ⟨j, Nat.le_refl _, hjs, this⟩
  obtain ⟨i, hi, hf⟩ := hex
  exact key i ⟨i, Nat.le_refl _, hi, hf⟩
theorem unlisted_set {lh : Array Bool} {f i : Nat} (h : unlisted lh = f + 1) (hi : i < lh.size) (hf : lh.getD i true = false) : unlisted (lh.setIfInBounds i true) = f := by
  have hfi : lh[i] = false := by simpa [hi] using hf
  unfold unlisted at *
  have key : ∀ (l : List Bool) (k : Nat) (hk : k < l.length), l[k] = false → ((l.set k true).filter (!·)).length + 1 = (l.filter (!·)).length := by
    intro l
    induction l with
    | nil => intro k hk; simp at hk
    | cons x l ih =>
      intro k hk hx
      cases k with
      | zero => simp at hx; subst hx; simp
      | succ k =>
        have := ih k (by simpa using hk) (by simpa using hx)
        simp only [List.set_cons_succ, List.filter_cons]
        cases x <;> simp <;> omega
  have := key lh.toList i (by simpa using hi) (by simpa using hfi)
  rw [Array.toList_setIfInBounds]
  omega

theorem wpAny_of_headQ {n g : Nat} {tail : List Oper} {Q' : Exit → Act → World → Prop} (hn : H.size = n) (hg : ops.size = n + g) (hg0 : 0 < g) (hget : ∀ i, i < n → H[i]? = ops[i]?) (hok : headOk md H = true)
    (hs : Region.sinkB md ops n = true) (hc : Region.chainB md ops n = true) (htl : ∀ j, tail[j]? = ops[n + j]?) (hgl : tail.length = g)
    (hseq : Region.seqB md ops g n (flags g (Array.replicate n true)) = true) :
    ∀ (f : Nat) (lh : Array Bool) (a : Act) (w : World), lh.size = n → unlisted lh = f →
      (∀ i o, H[i]? = some o → lh.getD i false = true → ∀ e ∈ o.after, Region.binds md e = true → lh.getD e.on false = true) → C w →
      wpAnyQ P md H C (fun a' => ∀ w', C w' → wpList P ops Q' tail a' w') f lh a → wpAny P md ops Q' (f + g) (flags g lh) a w
  | 0, lh, a, w, hl, hu, _, hw, h => by
    have e : lh = Array.replicate n true := by
      apply Array.ext
      · simp [hl]
      · intro i h1 h2
        have := unlisted_zero hu i h1
        simpa [h1] using this
    rw [Nat.zero_add, e, ← hgl]
    exact wpAny_of_seq tail n _ a w htl (by rw [hgl]; exact hseq) (h.2 w hw)
  | f + 1, lh, a, w, hl, hu, hcl, hw, h => by
    obtain ⟨i0, hi0, hf0, hall0⟩ := unlisted_some hu
    have hin0 : i0 < n := by omega
    have inv : HeadInv md ops n (flags g lh) := by
      refine ⟨by unfold flags; simp [hl, hg], fun j oj hoj hlj e he hb => ?_, fun t ht ht' => flags_tail g lh t (by omega) (by omega)⟩
      have hjn : j < n := by
        rcases Nat.lt_or_ge j n with h' | h'
        · exact h'
        · rcases Nat.lt_or_ge j (n + g) with h2 | h2
          · have := flags_tail g lh j (by omega) (by omega)
            have hz : j < (flags g lh).size := by unfold flags; simp; omega
            simp [hz] at this hlj
            rw [this] at hlj; cases hlj
          · have hz : (flags g lh).size ≤ j := by unfold flags; simp; omega
            simp [Array.getElem?_eq_none hz] at hlj
      rw [flags_get g lh j false (by omega)] at hlj
      have hoj' : H[j]? = some oj := by rw [hget j hjn]; exact hoj
      have h3 := (headOk_spec hok hoj').2 e he hb
      rw [flags_get g lh e.on false (by omega)]
      exact hcl j oj hoj' hlj e he hb
    have hlt : ∀ i, i ∈ Region.ready md ops (flags g lh) → i < n := fun i hi => by
      rcases Nat.lt_or_ge i n with h' | h'
      · exact h'
      · exact absurd hi (tail_waits hs hc (by omega) inv _ i0 rfl hin0 (by rw [flags_get g lh i0 true (by omega)]; exact hf0) i h')
    have hready : ∀ i, i ∈ Region.ready md ops (flags g lh) → i ∈ Region.ready md H lh := fun i hi => by
      have hin := hlt i hi
      obtain ⟨h1, o, ho, h2⟩ := mem_ready.1 hi
      have ho' : H[i]? = some o := by rw [hget i hin]; exact ho
      refine mem_ready.2 ⟨by rw [flags_get g lh i true (by omega)] at h1; exact h1, o, ho', fun e he hb => ?_⟩
      have h3 := (headOk_spec hok ho').2 e he hb
      have h4 := h2 e he hb
      rw [flags_get g lh e.on false (by omega)] at h4; exact h4
    have hne : i0 ∈ Region.ready md ops (flags g lh) := by
      obtain ⟨o, ho⟩ : ∃ o, H[i0]? = some o := ⟨_, Array.getElem?_eq_getElem (by omega)⟩
      refine mem_ready.2 ⟨by rw [flags_get g lh i0 true (by omega)]; exact hf0, o, by rw [← hget i0 hin0]; exact ho, fun e he hb => ?_⟩
      have h3 := (headOk_spec hok ho).2 e he hb
      rw [flags_get g lh e.on false (by omega)]
      exact hall0 e.on h3
    rw [show f + 1 + g = (f + g) + 1 by omega]
    refine ⟨fun h0 => (by rw [h0] at hne; cases hne), fun i hi => ?_⟩
    have hin := hlt i hi
    have hrd := hready i hi
    have hq := h.2 i hrd
    obtain ⟨hun, o, ho, hed⟩ := mem_ready.1 hrd
    have hgd := (headOk_spec hok ho).1
    have hwt : ∀ (ys : Nat → Option Bool), Region.wanted o ys = true := fun ys => by unfold Region.wanted; rw [hgd]
    unfold qOp at hq
    rw [ho] at hq
    simp only [hwt, if_true] at hq
    have ho2 : ops[i]? = some o := by rw [← hget i hin]; exact ho
    unfold wpOp
    rw [ho2]
    simp only [hwt, if_true]
    refine .inl (Oper.wp_of_quiet hw (fun a' w' hw' hk => ?_) hq)
    rw [flags_set g lh i (by omega)]
    refine wpAny_of_headQ hn hg hg0 hget hok hs hc htl hgl hseq f _ a' w' (by simp [hl]) (unlisted_set hu (by omega) hun) ?_ hw' hk
    intro j oj hoj hlj e he hb
    by_cases hij : i = j
    · subst hij
      have : oj = o := Option.some.inj (hoj.symm.trans ho)
      subst this
      exact getD_set_true (hed e he hb)
    · rw [getD_set_ne false hij] at hlj
      exact getD_set_true (hcl j oj hoj hlj e he hb)

/-- The region: n operations that are quiet in the class C, then a forced tail. -/
theorem wp_region_head_tail {id : Nat} {Q : Exit → Act → World → Prop} {a : Act} {w : World} {l : List Oper} (C : World → Prop) (n : Nat) (hm : P.follows .mixedOrders = true)
    (hB : (decide (n < l.length) && Region.lexB .any (l.take n).toArray && headOk .any (l.take n).toArray && Region.sinkB .any l.toArray n && Region.chainB .any l.toArray n && Region.seqB .any l.toArray (l.length - n) n (flags (l.length - n) (Array.replicate n true))) = true)
    (hC : C { w with drawn := w.drawn + 1 })
    (h : wpQuiet P (l.take n).toArray C (fun a' => ∀ w', C w' → wpList P l.toArray Q (l.drop n) a' w') (l.take n) a) : (Code.region id l.toArray true).wp P Q a w := by
  simp only [Bool.and_eq_true, decide_eq_true_eq] at hB
  obtain ⟨⟨⟨⟨⟨h0, h1⟩, h2⟩, h3⟩, h4⟩, h5⟩ := hB
  have htk : (l.take n).length = n := by rw [List.length_take]; omega
  refine wp_region_any hm ?_
  simp only [Region.lexB, Bool.and_eq_true] at h1
  have hq := wpAnyQ_lex (P := P) (C := C) (md := .any) h1.1 (l.take n) 0 (Array.replicate (l.take n).length false) a (by intro j; simp) (by simpa using h1.2) h
  have := wpAny_of_headQ (P := P) (ops := l.toArray) (md := .any) (H := (l.take n).toArray) (n := n) (g := l.length - n) (tail := l.drop n) (Q' := Q) (C := C) (by simp; omega) (by simp; omega) (by omega)
    (fun i hi => by simp [hi]) h2 h3 h4 (fun j => by simp [List.getElem?_drop]) (by simp) h5 (l.take n).length (Array.replicate (l.take n).length false) a _ (by simp; omega)
    (by unfold unlisted; simp) (fun i o _ hl => by rw [getD_replicate_false] at hl; cases hl) hC hq
  have e1 : (l.take n).length + (l.length - n) = l.toArray.size := by rw [htk]; simp; omega
  have e2 : flags (l.length - n) (Array.replicate (l.take n).length false) = Array.replicate l.toArray.size false := by
    unfold flags; rw [Array.replicate_append_replicate, e1]
  rw [e1, e2] at this
  exact this
end
end Go.Proofs.YtgjmbokfenpefaaGreatDoor
/- The document's Sum. -/
namespace Go.Proofs.YtgjmbokfenpefaaGreatDoor
open Go.RowKit

/-- The document's numbers: of the state, and of the rounds. -/
def refCells : Nat → Value := fun i => if i < 8 then .int .u32 (W32 (iv i)) else .int .u32 (W32 (kOf (i - 8)))
theorem info8' : (Tryz.prog.info? 94).map (·.size) = some 8 := by kernel_rfl
theorem infoB : (Tryz.prog.info? 5).map (fun i => (i.zero, i.size, i.bytes)) = some (some (.int .u8 0), 1, 1) := by kernel_rfl
def pad1 (n : Nat) : Nat := (119 - n % 64) % 64
theorem zeros_snoc (k : Nat) : zeros (k + 1) = zeros k ++ [0] := by unfold zeros; rw [List.replicate_succ']
theorem PadRel.grow {N : Nat} {w0 wr w' : World} {v v' : Value} {L : Nat} {l : List UInt8} {c : UInt8} (h : PadRel N w0 wr v L l) (hN : N ≤ w0.heap.size)
    (hr : Row w' N 1 v' (L + 1) (bcells l ++ [.int .u8 (c.toNat : Int)])) (hg : wr.grownBy w' v.ownBlock) : PadRel N w0 w' v' (L + 1) (l ++ [c]) :=
  ⟨by simpa [bcells] using hr, grown_below h.below h.row hg (Nat.le_refl _) (Nat.le_trans hN h.below.size)⟩

theorem idx8r (s : Nat → BitVec 32) (j : Nat) (hj : j < 8) (wx : World) : (Instr.index 94 (.agg #[.int .u32 (W32 (s 0)), .int .u32 (W32 (s 1)), .int .u32 (W32 (s 2)), .int .u32 (W32 (s 3)), .int .u32 (W32 (s 4)), .int .u32 (W32 (s 5)), .int .u32 (W32 (s 6)), .int .u32 (W32 (s 7))]) (.int .i64 (j : Int))).run Tryz.prog wx = .ok (.int .u32 (W32 (s j))) wx := by
  rcases (by omega : j = 0 ∨ j = 1 ∨ j = 2 ∨ j = 3 ∨ j = 4 ∨ j = 5 ∨ j = 6 ∨ j = 7) with rfl | rfl | rfl | rfl | rfl | rfl | rfl | rfl <;> kernel_rfl
theorem idx8a (f : Nat → Value) (j : Nat) (hj : j < 8) (wx : World) : (Instr.index 94 (.agg (arr 8 f)) (.int .i64 (j : Int))).run Tryz.prog wx = .ok (f j) wx := by
  rcases (by omega : j = 0 ∨ j = 1 ∨ j = 2 ∨ j = 3 ∨ j = 4 ∨ j = 5 ∨ j = 6 ∨ j = 7) with rfl | rfl | rfl | rfl | rfl | rfl | rfl | rfl <;> kernel_rfl
set_option maxHeartbeats 8000000 in
set_option maxRecDepth 100000 in
theorem refSum_any (b : Nat) (s : ByteArray) (w : World) (hr : Holds w b 72 refCells 97) (hs : s.size ≤ 1073741823) :
    Calls Tryz.prog 64 #[.pointer (some ⟨b, 0, none⟩), .string s] w fun e w' => e = .returned (.string (txt (sumOf s.data.toList))) ∧ Below w.heap.size w w' := by
  have HR := Lib.hid hr
  clear hr
  have hiv : (arr 8 fun i => Value.int .u32 (W32 (iv i))).size = 8 := arr_size _ _
  obtain ⟨z, ez⟩ : ∃ z, (arr 8 fun i => refCells (0 + i)) = z := ⟨_, rfl⟩
  have hz : (Tryz.prog.info? 94).map (·.size) = some z.size := by rw [← ez, arr_size]; exact info8'
  have hzs : 8 = z.size := by rw [← ez, arr_size]
  have hz1' : z.all (·.oneCell') = true := by rw [← ez]; exact arr_one 8 _ (fun i => by unfold refCells; split <;> rfl)
  have EZ := Lib.hid ez
  have HZ := Lib.hid hz
  have HZS := Lib.hid hzs
  have HZ1 := Lib.hid hz1'
  clear hiv hz hzs hz1' ez
  go_enter Tryz.func64, Tryz.ntmps64
  go_wp2_with (first | (refine wpList_load_part rfl 94 (.tmp 33) rfl b 72 refCells 97 0 8 rfl HR.out _ (by omega) Tryz.underlying94 rfl info8' ?_; rw [EZ.out]) | (refine wpList_store_new rfl 94 (.tmp 5) (.tmp 34) rfl z rfl rfl 94 _ HZ.out HZS.out HZ1.out ?_) | (with_reducible refine wpList_bytes_row rfl 9 118 (.tmp 35) rfl 5 s rfl Tryz.underlying9 Tryz.underlying118 Tryz.underlying5 ?_; intro v1 w1 hr1 hb1) | (at_builtin; refine wpList_append_one rfl (.tmp 36) (.tmp 37) 118 rfl 5 Tryz.underlying118 (.int .u8 0) 1 infoB rfl (by decide) (w.heap.size + 1) v1 s.size (bcells s.data.toList) rfl (hr1.out.mono (by simp)) (by have := hb1.out.size; simp at this; omega) (by omega) (.int .u8 128) rfl rfl 5 ?_; intro v2 w2 hr2 hg2))
  have hb1' := Lib.hid (show Below (w.heap.size + 1) (w.alloc (.cells z 94)) w1 from by have := hb1.out; rwa [World.size_alloc] at this)
  have hr1' := Lib.hid (show Row w1 (w.heap.size + 1) 1 v1 s.size (bcells s.data.toList) from by have := hr1.out; rwa [World.size_alloc] at this)
  have hbw2 : Below (w.heap.size + 1) (w.alloc (.cells z 94)) w2 := grown_below hb1'.out hr1'.out hg2.out (Nat.le_refl _) (by have := hb1'.out.size; simp at this; omega)
  have HBW2 := Lib.hid hbw2
  have hn1 : w.heap.size < w2.heap.size := by have := hbw2.size; simp at this; omega
  clear hbw2
  have hrow2 : Row w2 (w.heap.size + 1) 1 v2 (s.size + 1) (bcells (s.data.toList ++ 0x80 :: zeros 0)) := by
    have := hr2.out
    simpa [bcells, zeros] using this
  have HROW2 := Lib.hid hrow2
  clear hrow2 hr1 hb1 hr2 hg2 hr1' hb1'
  obtain ⟨p2, cap2, rfl⟩ := HROW2.out.any
  have hp2 := Lib.hid (show PadRel (w.heap.size + 1) (w.alloc (.cells z 94)) w2 (.slice p2 (s.size + 1) cap2) (s.size + 1) (s.data.toList ++ 0x80 :: zeros 0) from ⟨HROW2.out, HBW2.out⟩)
  clear HROW2 HBW2
  have hW0 : w.heap.size + 1 ≤ (w.alloc (.cells z 94)).heap.size := by simp
  have HW0 := Lib.hid hW0
  clear hW0 hn1
  go_wp2
  go_loopw [7] (fun x wr => ∃ (k L : Nat) (p : Option Addr) (cap : Nat), x = .slice p L cap ∧ k ≤ pad1 s.size ∧ L = s.size + 1 + k ∧ PadRel (w.heap.size + 1) (w.alloc (.cells z 94)) wr (.slice p L cap) L (s.data.toList ++ 0x80 :: zeros k)) (fun x _ => s.size + 1 + pad1 s.size - sliceLen x)
  case atStart => exact ⟨0, _, _, _, rfl, Nat.zero_le _, rfl, hp2.out⟩
  case round =>
    obtain ⟨k, L, p, cap, rfl, hk, hL, hp⟩ := hrel
    have HP := Lib.hid hp
    have HL := Lib.hid hL
    have hLb : L ≤ 1073741900 := by unfold pad1 at hk; omega
    clear hp
    by_cases hlt : k < pad1 s.size
    · have ht : (((L : Int) % 64) == 56) = false := by
        rw [beq_eq_false_iff_ne]; unfold pad1 at hlt; omega
      clear hL
      --BEGIN a
      go_wp2_with (at_builtin; refine wpList_append_one rfl (.tmp 43) (.tmp 44) 118 rfl 5 Tryz.underlying118 (.int .u8 0) 1 infoB rfl (by decide) (w.heap.size + 1) _ L _ rfl HP.out.row (Nat.le_trans HW0.out HP.out.below.size) (by omega) (.int .u8 0) rfl rfl 5 ?_; intro v3 w3 hr3 hg3)
      obtain ⟨p3, cap3, rfl⟩ := hr3.out.any
      go_wp2
      go_roundw
      case rel =>
        refine ⟨k + 1, L + 1, p3, cap3, rfl, by omega, by rw [HL.out]; omega, ?_⟩
        have := HP.out.grow (c := 0) HW0.out hr3.out hg3.out
        rw [zeros_snoc]
        simpa using this
      case measure => simp only [sliceLen]; have := HL.out; omega
      --END a
    · have hkz : k = pad1 s.size := by omega
      have ht : (((L : Int) % 64) == 56) = true := by
        rw [beq_iff_eq]; unfold pad1 at hkz; omega
      have ht2 : (((L : Int) % 64) != 56) = false := by rw [bne, ht]; rfl
      have HKZ := Lib.hid hkz
      clear hL hkz hk hlt
      go_wp2
      clear ht ht2
      go_loopw [7, 8] (fun x y wr => ∃ (j L : Nat) (i : Int) (p : Option Addr) (cap : Nat), x = .slice p L cap ∧ y = .int .i64 i ∧ j ≤ 8 ∧ L = s.size + 1 + pad1 s.size + j ∧ i = 56 - 8 * (j : Int) ∧
          PadRel (w.heap.size + 1) (w.alloc (.cells z 94)) wr (.slice p L cap) L ((s.data.toList ++ 0x80 :: zeros (pad1 s.size)) ++ (be8 (8 * s.size)).take j)) (fun _ y _ => (intOf y + 8).toNat)
      case atStart => exact ⟨0, L, 56, p, cap, rfl, rfl, by omega, by rw [HL.out, HKZ.out]; rfl, by omega, by rw [List.take_zero, List.append_nil, ← HKZ.out]; exact HP.out⟩
      case round =>
        clear HP HL HKZ hLb
        obtain ⟨j, L, i, p, cap, rfl, rfl, hj, hL, hi, hp⟩ := hrel
        have HP := Lib.hid hp
        have HL := Lib.hid hL
        have HI := Lib.hid hi
        have hLb : L ≤ 1073741900 := by unfold pad1 at hL; omega
        clear hp hL
        by_cases hlt : j < 8
        · have h0 : 0 ≤ i := by omega
          have h1 : i ≤ 56 := by omega
          clear hi
          have ev : (s.size : Int) * 8 / 2 ^ i.toNat % (256 : Int) = ((UInt8.ofNat (8 * s.size / 2 ^ (8 * (7 - j)))).toNat : Int) := by
            have e : i.toNat = 8 * (7 - j) := by rw [HI.out]; omega
            rw [e, UInt8.toNat_ofNat', show (s.size : Int) * 8 = ((8 * s.size : Nat) : Int) from by omega]
            simp
          have EV := Lib.hid ev
          clear ev
          --BEGIN b
          go_wp2_with (at_builtin; rw [EV.out]; refine wpList_append_one rfl (.tmp 50) (.tmp 58) 118 rfl 5 Tryz.underlying118 (.int .u8 0) 1 infoB rfl (by decide) (w.heap.size + 1) _ L _ rfl HP.out.row (Nat.le_trans HW0.out HP.out.below.size) (by omega) _ rfl rfl 5 ?_; intro v3 w3 hr3 hg3)
          obtain ⟨p3, cap3, rfl⟩ := hr3.out.any
          go_wp2
          go_roundw
          case rel =>
            refine ⟨j + 1, L + 1, i - 8, p3, cap3, rfl, rfl, by omega, by rw [HL.out]; omega, by rw [HI.out]; omega, ?_⟩
            have := HP.out.grow HW0.out hr3.out hg3.out
            have e : (be8 (8 * s.size)).take (j + 1) = (be8 (8 * s.size)).take j ++ [UInt8.ofNat (8 * s.size / 2 ^ (8 * (7 - j)))] := by
              rw [List.take_succ_eq_append_getElem (by rw [be8_length]; exact hlt)]
              congr 1
              simp [be8]
            rw [e, ← List.append_assoc]
            exact this
          case measure => simp [intOf]; omega
          --END b
        · have hj8 : j = 8 := by omega
          have hneg : i < 0 := by omega
          have HJ := Lib.hid hj8
          clear hi hlt hj hj8
          go_wp2
          obtain ⟨g, cap', hv, hgN, hgl, hcap, hcells, _⟩ := HP.out.row.shape (by rw [HL.out]; omega)
          obtain ⟨rfl, rfl⟩ : p = some ⟨g, 0, none⟩ ∧ cap = cap' := by injection hv with a1 a2 a3; exact ⟨a1, a3⟩
          clear hv
          obtain ⟨M, hM⟩ : ∃ M, s.data.toList ++ padding s.data.toList.length = M := ⟨_, rfl⟩
          have eM : (s.data.toList ++ 0x80 :: zeros (pad1 s.size)) ++ (be8 (8 * s.size)).take j = M := by
            rw [HJ.out, List.take_of_length_le (by rw [be8_length]; omega), ← hM, size_len]
            unfold padding
            rw [show 8 * s.size % 18446744073709551616 = 8 * s.size from by omega]
            simp [zeros, pad1]
          rw [eM] at hcells
          have hLM : M.length = L := by
            have := HP.out.row.1; rw [eM, bcells_length] at this; omega
          have hL64 : L % 64 = 0 := by rw [HL.out, HJ.out]; unfold pad1; omega
          have hL0 : 0 < L := by rw [HL.out]; omega
          have HM := Lib.hid hM
          have HLM := Lib.hid hLM
          have HCAP := Lib.hid hcap
          have hbr := Lib.hid (show BRel w.heap.size g w wr M (blocks M 0) from
            ⟨((Below.refl _ _).alloc (Nat.le_refl _) _).trans (HP.out.below.mono (by omega)), by omega, hcells, by
              have h0 : Holds (w.alloc (.cells z 94)) w.heap.size 8 (fun i => .int .u32 (W32 (iv i))) 94 := by
                rw [← EZ.out]
                refine (Holds.new w 8 _ _).congr fun i hi => ?_
                show refCells (0 + i) = _
                unfold refCells; rw [if_pos (by omega), Nat.zero_add]
              exact h0.below HP.out.below (by omega)⟩)
          have hNw : w.heap.size < wr.heap.size := hbr.out.st.lt
          clear HP HL HJ HI hp2 hcells eM hM hLM hNw
          go_loopw [7] (fun x wo => ∃ (q : Nat) (a : Addr), x = .slice (some a) (L - 64 * q) (cap - 64 * q) ∧ 64 * q ≤ L ∧ (64 * q < L → a = ⟨g, 64 * q, none⟩) ∧ BRel w.heap.size g w wo M (blocks M q)) (fun x _ => sliceLen x)
          case atStart => exact ⟨0, ⟨g, 0, none⟩, rfl, Nat.zero_le _, fun _ => rfl, hbr.out⟩
          case round =>
            clear hbr
            obtain ⟨q, ad, rfl, hq, had, hb⟩ := hrel
            obtain ⟨wo, rfl⟩ : ∃ wo : World, wo = wr := ⟨_, rfl⟩
            have HB := Lib.hid hb
            clear hb
            by_cases hlt : 64 * q < L
            · obtain rfl := had hlt
              clear had
              obtain ⟨blk, hblk⟩ : ∃ blk : Nat → Nat, (fun i => (M.getD (64 * q + i) 0).toNat) = blk := ⟨_, rfl⟩
              have hrem : 64 ≤ L - 64 * q := by omega
              have hd0 : decide (0 < L - 64 * q) = true := by rw [decide_eq_true_eq]; omega
              have hcap64 : 64 * q + 64 ≤ cap := by have := HCAP.out; omega
              have hbyte : ∀ i, i < 64 → wo.cell? ⟨g, 64 * q + i, none⟩ = some (.int .u8 (blk i : Int)) := fun i hi => by
                refine HB.out.cells (64 * q + i) _ ?_
                have hl : 64 * q + i < M.length := by rw [HLM.out]; omega
                rw [← hblk]
                simp [bcells, List.getD_eq_getElem?_getD, hl]
              have hblt : ∀ i, blk i < 256 := fun i => by rw [← hblk]; exact UInt8.toNat_lt _
              have hM0 : 0 < M.length := by rw [HLM.out]; exact hL0
              have hgw := HB.out.lt hM0
              have hNw := HB.out.st.lt
              have HBLK := Lib.hid hblk
              have HBYTE := Lib.hid hbyte
              have HBLT := Lib.hid hblt
              have HM0 := Lib.hid hM0
              clear hblk hbyte hblt hM0
              go_wp2
              go_loopw [65] (fun x wi => ∃ t : Nat, t ≤ 64 ∧ x = .int .i64 t ∧ WRel2 wo wi (wupto blk t)) (fun x _ => 64 - (intOf x).toNat)
              case atStart =>
                refine ⟨0, by omega, rfl, (Below.refl _ _).alloc (Nat.le_refl _) _, ?_⟩
                exact (Holds.new wo 64 (fun _ => .int .u32 0) 95).congr fun i hi => by unfold wupto; rw [if_neg (by omega)]; rfl
              case round =>
                obtain ⟨t, ht, rfl, hw⟩ := hrel
                have HWW := Lib.hid hw
                clear hw
                by_cases ht64 : t < 64
                · by_cases ht16 : t < 16
                  · have hsl : ∀ wx, (Instr.sliceAt 118 (.slice (some ⟨g, 64 * q, none⟩) (L - 64 * q) (cap - 64 * q)) (some (.int .i64 (4 * (t : Int)))) (some (.int .i64 (4 * (t : Int) + 4))) none).run Tryz.prog wx = .ok (.slice (some ⟨g, 64 * q + 4 * t, none⟩) 4 (cap - 64 * q - 4 * t)) wx := fun wx => by
                      have := slice_lh (P := Tryz.prog) 118 5 Tryz.underlying118 sizeU8 g (64 * q) (L - 64 * q) (cap - 64 * q) (4 * t) (4 * t + 4) (by omega) (by omega) (by omega) (4 * (t : Int)) (4 * (t : Int) + 4) (by omega) (by omega) wx
                      rw [show 4 * t + 4 - 4 * t = 4 from by omega] at this
                      exact this
                    go_wp2
                    clear hsl
                    go_loopw [78] (fun x wi => ∃ j : Nat, j ≤ 4 ∧ x = .int .i64 j ∧ WRel2 wo wi (upd (wupto blk t) t (wordOf blk t j))) (fun x _ => 4 - (intOf x).toNat)
                    case atStart =>
                      refine ⟨0, by omega, rfl, HWW.out.below, HWW.out.own.congr fun i _ => ?_⟩
                      unfold upd wupto
                      by_cases h : i = t
                      · subst h; rw [if_pos rfl, if_neg (by omega)]; rfl
                      · rw [if_neg h]
                    case round =>
                      obtain ⟨j, hj, rfl, hw⟩ := hrel
                      have HW := Lib.hid hw
                      clear hw
                      by_cases hlj : j < 4
                      · have c1 : wr.cell? ⟨g, 64 * q + 4 * t + j, none⟩ = some (.int .u8 (blk (4 * t + j) : Int)) := by
                          have := HBYTE.out (4 * t + j) (by omega)
                          rw [show 64 * q + (4 * t + j) = 64 * q + 4 * t + j from by omega] at this
                          rw [HW.out.below.cell hgw]; exact this
                        have c2 : wr.cell? ⟨wo.heap.size, t, none⟩ = some (.int .u32 (W32 (wordOf blk t j))) := by
                          rw [HW.out.own.cell t (by omega)]; unfold upd; rw [if_pos rfl]
                        have f2 := HW.out.own.free t
                        have hb1 : (blk (4 * t + j) : Int) < 256 := by have := HBLT.out (4 * t + j); omega
                        --BEGIN c
                        go_wp2
                        go_roundw
                        case rel =>
                          refine ⟨j + 1, by omega, by go_num, ?_⟩
                          have e : W32 (wordOf blk t j) * 256 % 4294967296 + (blk (4 * t + j) : Int) = W32 (wordOf blk t (j + 1)) := rword_value2 _ _ (HBLT.out _)
                          rw [e]
                          have hst := HW.out.store t (wordOf blk t (j + 1))
                          refine ⟨hst.below, hst.own.congr fun i _ => ?_⟩
                          unfold upd
                          by_cases h : i = t
                          · rw [if_pos h, if_pos h]
                          · rw [if_neg h, if_neg h, if_neg h]
                        case measure => simp [intOf]; omega
                        --END c
                      · obtain rfl : j = 4 := by omega
                        --BEGIN d
                        go_wp2
                        go_roundw
                        case rel =>
                          refine ⟨t + 1, by omega, by go_num, ?_⟩
                          rw [← wupto_next, wall_low blk t ht16]
                          exact HW.out
                        case measure => simp [intOf]; omega
                        --END d
                  · --BEGIN e
                    have hx : wr.cell? ⟨wo.heap.size, t - 2, none⟩ = some (.int .u32 (W32 (wall blk (t - 2)))) := by
                      rw [HWW.out.own.cell (t - 2) (by omega)]; unfold wupto; rw [if_pos (by omega)]
                    have hy : wr.cell? ⟨wo.heap.size, t - 15, none⟩ = some (.int .u32 (W32 (wall blk (t - 15)))) := by
                      rw [HWW.out.own.cell (t - 15) (by omega)]; unfold wupto; rw [if_pos (by omega)]
                    have h7 : wr.cell? ⟨wo.heap.size, t - 7, none⟩ = some (.int .u32 (W32 (wall blk (t - 7)))) := by
                      rw [HWW.out.own.cell (t - 7) (by omega)]; unfold wupto; rw [if_pos (by omega)]
                    have h16 : wr.cell? ⟨wo.heap.size, t - 16, none⟩ = some (.int .u32 (W32 (wall blk (t - 16)))) := by
                      rw [HWW.out.own.cell (t - 16) (by omega)]; unfold wupto; rw [if_pos (by omega)]
                    have ht := HWW.out.own.cell t ht64
                    have hft := HWW.out.own.free t
                    go_wp2
                    go_quiet (fail)
                    go_wp2
                    refine wp_region_head_tail (fun w' => ∃ n, w' = wr.drewN n) 33 (by kernel_rfl) (by kernel_rfl) ⟨nq + 1, rfl⟩ ?_
                    simp only [List.take_succ_cons, List.take_zero, List.drop_succ_cons, List.drop_zero]
                    repeat (first | go_big_quiet_step ((go_at_call 105; refine Calls.quiet_of (rotR_any _ _ (by decide) (by decide) _))) | quiet_step ((go_at_call 105; refine Calls.quiet_of (rotR_any _ _ (by decide) (by decide) _))))
                    refine wpQuiet_nil ?_
                    rintro w4 ⟨n4, rfl⟩
                    go_wp2
                    go_roundw
                    case rel =>
                      refine ⟨t + 1, by omega, by go_num, ?_⟩
                      rw [w_shr3, w_shr10, w_xor, w_xor, w_xor, w_xor, w_sum4]
                      have hd : WRel2 wo (wr.drewN n4) (wupto blk t) := ⟨below_drewN HWW.out.below _, HWW.out.own⟩
                      have hst := hd.store t (wall blk t)
                      rw [wupto_next] at hst
                      rw [← wall_alt blk t (by omega) ht64] at hst
                      exact hst
                    case measure => simp [intOf]; omega
                    --END e
                · --BEGIN f
                  have HT64 := Lib.hid (show t = 64 by omega)
                  have hb3 : BRel w.heap.size g w wr M (blocks M q) := HB.out.later hNw HM0.out HWW.out.below
                  have HB3 := Lib.hid hb3
                  clear hb3
                  have hst : ∀ i, i < 8 → wr.cell? ⟨w.heap.size, i, none⟩ = some (.int .u32 (W32 (blocks M q i))) := fun i hi => HB3.out.st.cell i hi
                  have c0 := hst 0 (by omega)
                  have c1 := hst 1 (by omega)
                  have c2 := hst 2 (by omega)
                  have c3 := hst 3 (by omega)
                  have c4 := hst 4 (by omega)
                  have c5 := hst 5 (by omega)
                  have c6 := hst 6 (by omega)
                  have c7 := hst 7 (by omega)
                  clear hst
                  go_wp2
                  clear ht ht64
                  go_quiet (fail)
                  go_wp2
                  clear c0 c1 c2 c3 c4 c5 c6 c7
                  go_loopw [150, 15, 16, 17, 18, 19, 20, 21, 22] (fun i a b c d e f g' h wi => ∃ n : Nat, n ≤ 64 ∧ i = .int .i64 n ∧ a = .int .u32 (W32 (rounds (blocks M q) (wall blk) n 0)) ∧ b = .int .u32 (W32 (rounds (blocks M q) (wall blk) n 1)) ∧
                      c = .int .u32 (W32 (rounds (blocks M q) (wall blk) n 2)) ∧ d = .int .u32 (W32 (rounds (blocks M q) (wall blk) n 3)) ∧ e = .int .u32 (W32 (rounds (blocks M q) (wall blk) n 4)) ∧ f = .int .u32 (W32 (rounds (blocks M q) (wall blk) n 5)) ∧
                      g' = .int .u32 (W32 (rounds (blocks M q) (wall blk) n 6)) ∧ h = .int .u32 (W32 (rounds (blocks M q) (wall blk) n 7)) ∧ WRel2 wo wi (wupto blk 64))
                    (fun i _ _ _ _ _ _ _ _ _ => 64 - (intOf i).toNat)
                  case atStart => exact ⟨0, by omega, rfl, rfl, rfl, rfl, rfl, rfl, rfl, rfl, rfl, ⟨below_drewN HWW.out.below _, by have := HWW.out.own; rw [HT64.out] at this; exact this⟩⟩
                  case round =>
                    clear HWW HB3
                    obtain ⟨n, hn, rfl, rfl, rfl, rfl, rfl, rfl, rfl, rfl, rfl, hw⟩ := hrel
                    generalize hs : rounds (blocks M q) (wall blk) n = sx
                    have HSX := Lib.hid hs
                    have HW := Lib.hid hw
                    clear hs hw
                    by_cases hlt64 : n < 64
                    · have ck : wr.cell? ⟨b, 8 + n, none⟩ = some (.int .u32 (W32 (kOf n))) := by
                        rw [HW.out.below.cell (Nat.lt_trans HR.out.lt hNw), HB.out.below.cell HR.out.lt, HR.out.cell (8 + n) (by omega)]
                        unfold refCells; rw [if_neg (by omega), show 8 + n - 8 = n from by omega]
                      have cw : wr.cell? ⟨wo.heap.size, n, none⟩ = some (.int .u32 (W32 (wall blk n))) := by
                        rw [HW.out.own.cell n hlt64]; unfold wupto; rw [if_pos hlt64]
                      go_wp2
                      go_quiet ((go_at_call 105; refine Calls.quiet_of (rotR_any _ _ (by decide) (by decide) _)))
                      go_wp2_with (go_at_call 105; refine (rotR_any _ _ (by decide) (by decide) _).mono ?_; rintro e w' ⟨rfl, m, rfl⟩)
                      go_roundw
                      case rel =>
                        have e1 : ∀ i, rounds (blocks M q) (wall blk) (n + 1) i = rstep sx (kOf n) (wall blk n) i := fun i => by
                          show rstep (rounds (blocks M q) (wall blk) n) (kOf n) (wall blk n) i = _
                          rw [HSX.out]
                        refine ⟨n + 1, by omega, by go_num, ?_, ?_, ?_, ?_, ?_, ?_, ?_, ?_, ?_⟩
                        · rw [e1 0, rstep_ref _ _ _ 0 (by omega)]; simp only [w_xor, w_and, w_or, ch_alt, maj_alt, w_sum5, w_add]; rfl
                        · rw [e1 1]; rfl
                        · rw [e1 2]; rfl
                        · rw [e1 3]; rfl
                        · rw [e1 4, rstep_ref _ _ _ 4 (by omega)]; simp only [w_xor, w_and, ch_alt, w_sum5, w_add]; rfl
                        · rw [e1 5]; rfl
                        · rw [e1 6]; rfl
                        · rw [e1 7]; rfl
                        · exact ⟨HW.out.below.trans ⟨rfl, rfl, rfl, Nat.le_refl _, fun _ _ => rfl⟩, HW.out.own⟩
                      case measure => simp [intOf]; omega
                    · --BEGIN g
                      have HN64 := Lib.hid (show n = 64 by omega)
                      have hb4 : BRel w.heap.size g w wr M (blocks M q) := HB.out.later hNw HM0.out HW.out.below
                      have HB4 := Lib.hid hb4
                      have HIDX := Lib.hid (idx8r sx)
                      clear hb4
                      go_wp2
                      clear hn hlt64
                      go_loopw [228] (fun i wi => ∃ j : Nat, j ≤ 8 ∧ i = .int .i64 j ∧ BRel w.heap.size g w wi M (fun i => if i < j then blocks M q i + sx i else blocks M q i)) (fun i _ => 8 - (intOf i).toNat)
                      case atStart => exact ⟨0, by omega, rfl, HB4.out⟩
                      case round =>
                        clear HB4 HW
                        obtain ⟨j, hj, rfl, hb5⟩ := hrel
                        have HB5 := Lib.hid hb5
                        clear hb5
                        by_cases hlj : j < 8
                        · have hix := HIDX.out j hlj
                          have cj : wr.cell? ⟨w.heap.size, j, none⟩ = some (.int .u32 (W32 (blocks M q j))) := by
                            rw [HB5.out.st.cell j hlj]; simp
                          have fj := HB5.out.st.free j
                          go_wp2
                          go_roundw
                          case rel =>
                            refine ⟨j + 1, by omega, by go_num, ?_⟩
                            rw [w_add]
                            refine (HB5.out.store j (blocks M q j + sx j)).congr fun i _ => ?_
                            change (if i = j then blocks M q j + sx j else (if i < j then blocks M q i + sx i else blocks M q i)) = (if i < j + 1 then blocks M q i + sx i else blocks M q i)
                            by_cases hij : i = j
                            · subst hij; rw [if_pos rfl, if_pos (by omega)]
                            · rw [if_neg hij]
                              by_cases h3 : i < j
                              · rw [if_pos h3, if_pos (by omega)]
                              · rw [if_neg h3, if_neg (by omega)]
                          case measure => simp [intOf]; omega
                        · have HJ8 := Lib.hid (show j = 8 by omega)
                          obtain ⟨a', ha', hsl⟩ := slice_l (P := Tryz.prog) 118 5 Tryz.underlying118 sizeU8 g (64 * q) (L - 64 * q) (cap - 64 * q) 64 (by omega) 64 rfl
                          have HA := Lib.hid ha'
                          clear ha'
                          go_wp2
                          go_roundw
                          case rel =>
                            refine ⟨q + 1, a', ?_, by omega, fun h => ?_, ?_⟩
                            · rw [show L - 64 * (q + 1) = L - 64 * q - 64 from by omega, show cap - 64 * (q + 1) = cap - 64 * q - 64 from by omega]
                            · rw [HA.out (by have := HCAP.out; omega)]; rfl
                            · refine HB5.out.congr fun i hi => ?_
                              rw [if_pos (by rw [HJ8.out]; exact hi)]
                              show _ = mixed (blocks M q) (fun i => (M.getD (64 * q + i) 0).toNat) i
                              rw [HBLK.out]
                              unfold mixed
                              rw [← HSX.out, HN64.out]
                              rfl
                          case measure => simp only [sliceLen]; omega
                      --END g
                  --END f
            · have HQL := Lib.hid (show L = 64 * q by omega)
              --BEGIN h
              clear had
              have h32 : (Tryz.prog.info? 94).map (·.size) = some (arr 8 fun i => Value.int .u32 (W32 (blocks M q i))).size := by rw [arr_size]; exact info8'
              have H32 := Lib.hid h32
              clear h32
              have hL0' : L - 64 * q = 0 := by omega
              go_wp2_with (refine wpList_load_row rfl 94 (.tmp 5) rfl w.heap.size rfl 94 (arr 8 fun i => Value.int .u32 (W32 (blocks M q i))) (0, 0) _ HB.out.st Tryz.underlying94 rfl H32.out ?_)
              have HIX := Lib.hid (idx8a (fun i => Value.int .u32 (W32 (blocks M q i))))
              go_loopw [240, 28] (fun i x wi => ∃ j : Nat, j ≤ 8 ∧ i = .int .i64 j ∧ x = .string (txt ((sumText (blocks M q)).take (4 * j))) ∧ Below w.heap.size w wi) (fun i _ _ => 8 - (intOf i).toNat)
              case atStart => exact ⟨0, by omega, rfl, rfl, HB.out.below⟩
              case round =>
                obtain ⟨j, hj, rfl, rfl, hb⟩ := hrel
                have HBB := Lib.hid hb
                clear hb
                by_cases hlj : j < 8
                · have hix := HIX.out j hlj
                  have hsz : (txt ((sumText (blocks M q)).take (4 * j))).size ≤ 32 := by rw [txt_size, List.length_take, sumText_length]; omega
                  have hcv := run_conv4 (P := Tryz.prog) wr 118 9 5 5 Tryz.underlying118 Tryz.underlying5 Tryz.underlying9 _ _ _ _ (W32 (blocks M q j) / 16777216 % 256) (W32 (blocks M q j) / 65536 % 256) (W32 (blocks M q j) / 256 % 256) (W32 (blocks M q j) % 256) (w_byte _ 24) (w_byte _ 16) (w_byte _ 8) (w_byte0 _)
                  obtain ⟨y, hy⟩ : ∃ y, txt (quad (blocks M q j)) = y := ⟨_, rfl⟩
                  have hys : y.size ≤ 4 := by rw [← hy, txt_size]; exact Nat.le_refl _
                  change _ = Result.ok (Value.string (txt (quad (blocks M q j)))) _ at hcv
                  rw [hy] at hcv
                  have HY := Lib.hid hy
                  clear hy
                  go_wp2
                  go_roundw
                  case rel =>
                    refine ⟨j + 1, by omega, by go_num, ?_, HBB.out.alloc HBB.out.size _⟩
                    rw [sumText_quad _ _ hlj, ← txt_append, HY.out]
                  case measure => simp [intOf]; omega
                · have HJ8 := Lib.hid (show j = 8 by omega)
                  go_wp2
                  go_ret
                  refine ⟨?_, HBB.out⟩
                  have eM : (feed rs0 M).st = blocks M q := by
                    rw [← blocks_feed M q (by rw [HLM.out]; omega), List.take_of_length_le (by rw [HLM.out]; omega)]
                  have e : (sumText (blocks M q)).take (4 * j) = sumOf s.data.toList := by
                    rw [HJ8.out, List.take_of_length_le (by rw [sumText_length]; omega), ← eM, ← HM.out]
                    rfl
                  rw [← e]
                  rfl
              --END h
end Go.Proofs.YtgjmbokfenpefaaGreatDoor
