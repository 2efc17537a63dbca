/- Parts of the proof, one behind the other: RNum, Rot2, RWords, Tail, RSum, RMark, Later, Leafs, Index, Index2, As, TellErr. -/
import Derived.Test.YtpoibacokdjplaaDoorM3
import Derived.Test.YtpoibacokdjplaaDoorM2
import Derived.Test.YtpoibacokdjplaaDoorProg
import Derived.WalkLawsBesides
import Derived.Lib.Hide
import Derived.Outline
import Derived.Deep.QuietTactic
import Derived.BigQuiet
import Derived.StillTail
import Derived.Deep.Quiet
import Derived.WalkKit
import Derived.Test.YtpoibacokdjplaaDoorM4
import Derived.Deep.RegionHeld3
import Derived.Deep.DeepCutAuto
import Derived.LaidEql
import Derived.Stop.Asserts
import Derived.RowKitTokens
import Derived.Test.YtpoibacokdjplaaDoorM1
/- The document's Num. -/
namespace Go.Proofs.YtpoibacokdjplaaDoor
open Go.RowKit

/-- The last k bytes. -/
def low (m : Nat) : Nat → List UInt8
  | 0 => []
  | k + 1 => UInt8.ofNat (m / 256 ^ k) :: low m k
theorem low_eight (m : Nat) : low m 8 = be8 m := by
  simp [be8, low, List.range, List.range.loop]
theorem low_length (m : Nat) : ∀ k, (low m k).length = k
  | 0 => rfl
  | k + 1 => by simp [low, low_length m k]
theorem txt_append (a b : List UInt8) : txt a ++ txt b = txt (a ++ b) := by
  rw [← txt_of (txt a ++ txt b)]
  congr 1
theorem conv1 (w : World) (b : UInt8) (x : Int) (hx : x = (b.toNat : Int)) :
    (convert 55 9 (.slice (some ⟨w.heap.size, 0, none⟩) 1 1)).run Tryd.prog (w.alloc (.cells #[.int .u8 x] 5)) = .ok (.string (txt [b])) (w.alloc (.cells #[.int .u8 x] 5)) := by
  subst hx
  have hh := Holds.new w 1 (fun _ => .int .u8 (b.toNat : Int)) 5
  have hf : ∀ i, i < 1 → (fun _ : Nat => Value.int .u8 (b.toNat : Int)) (0 + i) = .int .u8 ((([b] : List UInt8).getD i 0).toNat : Int) := fun i hi => by
    obtain rfl : i = 0 := by omega
    rfl
  exact run_conv_text hh 55 9 5 Tryd.underlying55 Tryd.underlying5 Tryd.underlying9 [b] 0 1 1 rfl (by omega) hf

end Go.Proofs.YtpoibacokdjplaaDoor
/- The words of a block, as the document reckons them. No program is walked here. -/
namespace Go.Proofs.YtpoibacokdjplaaDoor
open Go.RowKit

theorem wext_stable (blk : Nat → Nat) (i m : Nat) : ∀ k, i < 16 + m → wext blk (m + k) i = wext blk m i
  | 0, _ => rfl
  | k + 1, h => by
    have e : wext blk (m + (k + 1)) i = wext blk (m + k) i := by
      show upd (wext blk (m + k)) (m + k + 16) _ i = _
      unfold upd; rw [if_neg (by omega)]
    rw [e, wext_stable blk i m k h]
/-- All the words. -/
def wall (blk : Nat → Nat) : Nat → BitVec 32 := wext blk 48
theorem wall_low (blk : Nat → Nat) (i : Nat) (h : i < 16) : wall blk i = wordOf blk i 4 := by
  unfold wall
  rw [show 48 = 0 + 48 from rfl, wext_stable blk i 0 48 (by omega)]
  show wfill blk 16 0 i = _
  unfold wfill; rw [if_pos h]
theorem wall_high (blk : Nat → Nat) (n : Nat) (h : n < 48) : wall blk (n + 16) = ((wall blk n + s0 (wall blk (n + 1))) + wall blk (n + 9)) + s1 (wall blk (n + 14)) := by
  have e : ∀ i, i < 16 + n → wall blk i = wext blk n i := fun i hi => by
    unfold wall; rw [show 48 = n + (48 - n) from by omega]; exact wext_stable blk i n _ hi
  have e2 : wall blk (n + 16) = wext blk (n + 1) (n + 16) := by
    unfold wall; rw [show 48 = (n + 1) + (47 - n) from by omega]; exact wext_stable blk (n + 16) (n + 1) _ (by omega)
  rw [e2, e n (by omega), e (n + 1) (by omega), e (n + 9) (by omega), e (n + 14) (by omega)]
  show upd (wext blk n) (n + 16) _ (n + 16) = _
  unfold upd; rw [if_pos rfl]
theorem wall_alt (blk : Nat → Nat) (t : Nat) (h : 16 ≤ t) (h2 : t < 64) : ((s1 (wall blk (t - 2)) + wall blk (t - 7)) + s0 (wall blk (t - 15))) + wall blk (t - 16) = wall blk t := by
  obtain ⟨n, rfl⟩ : ∃ n, t = n + 16 := ⟨t - 16, by omega⟩
  rw [wall_high blk n (by omega), show n + 16 - 2 = n + 14 from by omega, show n + 16 - 7 = n + 9 from by omega, show n + 16 - 15 = n + 1 from by omega, show n + 16 - 16 = n from by omega]
  generalize s1 (wall blk (n + 14)) = p; generalize s0 (wall blk (n + 1)) = q; generalize wall blk (n + 9) = r; generalize wall blk n = u
  ac_rfl
/-- The words up to place t; then noughts. -/
def wupto (blk : Nat → Nat) (t : Nat) : Nat → BitVec 32 := fun i => if i < t then wall blk i else 0
theorem wupto_next (blk : Nat → Nat) (t : Nat) : upd (wupto blk t) t (wall blk t) = wupto blk (t + 1) := by
  funext i; unfold upd wupto
  by_cases h : i = t
  · subst h; rw [if_pos rfl, if_pos (by omega)]
  · rw [if_neg h]
    by_cases h2 : i < t
    · rw [if_pos h2, if_pos (by omega)]
    · rw [if_neg h2, if_neg (by omega)]
theorem word_step (x : BitVec 32) (c : Nat) (h : c < 256) : x * 256 + BitVec.ofNat 32 c = (x <<< 8) ||| BitVec.ofNat 32 c := by
  have e : x * 256 = x <<< 8 := by
    apply BitVec.eq_of_toNat_eq
    rw [BitVec.toNat_mul, BitVec.toNat_shiftLeft, Nat.shiftLeft_eq]
    rfl
  rw [e]
  apply BitVec.add_eq_or_of_and_eq_zero
  ext i hi
  simp
  intro h1 h2
  have : c.testBit i = false := Nat.testBit_lt_two_pow (Nat.lt_of_lt_of_le h (by
    have : 2 ^ 8 ≤ 2 ^ i := Nat.pow_le_pow_right (by omega) (by omega)
    simpa using this))
  rw [← BitVec.getLsbD_eq_getElem, BitVec.getLsbD_ofNat, this]; simp
theorem rword_value (x : BitVec 32) (c : Nat) (h : c < 256) : (W32 x * 256 + (c : Int)) % (4294967296 : Int) = W32 ((x <<< 8) ||| BitVec.ofNat 32 c) := by
  rw [← word_step x c h, ← w_add, ← w_mul, W32_ofNat c (by omega)]
  show _ = (W32 x * 256 % 4294967296 + _) % 4294967296
  omega
theorem rword_value2 (x : BitVec 32) (c : Nat) (h : c < 256) : W32 x * 256 % (4294967296 : Int) + (c : Int) = W32 ((x <<< 8) ||| BitVec.ofNat 32 c) := by
  rw [← rword_value x c h]; omega
/-- A round, as the document writes it. -/
theorem rstep_ref (s : Nat → BitVec 32) (k w : BitVec 32) : ∀ i, i < 8 → rstep s k w i =
    (let one := (((s 7 + S1 (s 4)) + ch (s 4) (s 5) (s 6)) + k) + w
     let two := S0 (s 0) + maj (s 0) (s 1) (s 2)
     if i = 0 then one + two else if i = 4 then s 3 + one else s (i - 1)) := by
  intro i _
  have e : (s 7 + S1 (s 4)) + ((ch (s 4) (s 5) (s 6) + k) + w) = (((s 7 + S1 (s 4)) + ch (s 4) (s 5) (s 6)) + k) + w := by
    generalize s 7 + S1 (s 4) = p; generalize ch (s 4) (s 5) (s 6) = q
    ac_rfl
  unfold rstep
  simp only [e]
/-- The state behind the blocks of a text. -/
def blocks (M : List UInt8) : Nat → Nat → BitVec 32
  | 0 => iv
  | j + 1 => mixed (blocks M j) (fun i => (M.getD (64 * j + i) 0).toNat)
theorem blocks_feed (M : List UInt8) : ∀ j, 64 * j ≤ M.length → (feed rs0 (M.take (64 * j))).st = blocks M j
  | 0, _ => rfl
  | j + 1, h => by
    have e : M.take (64 * (j + 1)) = M.take (64 * j) ++ (M.drop (64 * j)).take 64 := by
      rw [show 64 * (j + 1) = 64 * j + 64 from by omega, List.take_add]
    have hl : ((M.drop (64 * j)).take 64).length = 64 := by rw [List.length_take, List.length_drop]; omega
    have ih := blocks_feed M j (by omega)
    have hs : (feed rs0 (M.take (64 * j))).size = 64 * j := by
      rw [feed_size, List.length_take]; show 0 + min (64 * j) M.length = _; omega
    rw [e, feed_append]
    rw [feed_piece _ _ (by intro e; rw [e] at hl; simp at hl) (by rw [hs, hl]; omega)]
    rw [hs, hl, if_pos (by omega), show 64 * j % 64 = 0 from by omega, ih]
    show mixed (blocks M j) _ = mixed (blocks M j) _
    apply mixed_congr
    intro i hi
    unfold lay
    rw [hl, if_pos (by omega)]
    congr 1
    rw [List.getD_eq_getElem?_getD, List.getD_eq_getElem?_getD, Nat.sub_zero, List.getElem?_take, if_pos hi, List.getElem?_drop]
/-- Four bytes of a word. -/
def quad (x : BitVec 32) : List UInt8 := [UInt8.ofNat (x.toNat / 2 ^ 24), UInt8.ofNat (x.toNat / 2 ^ 16), UInt8.ofNat (x.toNat / 2 ^ 8), UInt8.ofNat x.toNat]
theorem sumText_quad (st : Nat → BitVec 32) (j : Nat) (h : j < 8) : (sumText st).take (4 * (j + 1)) = (sumText st).take (4 * j) ++ quad (st j) := by
  unfold sumText
  rw [← List.map_take, ← List.map_take, List.take_range, List.take_range, show min (4 * (j + 1)) 32 = 4 * j + 4 from by omega, show min (4 * j) 32 = 4 * j from by omega, List.range_add, List.map_append]
  congr 1
  simp only [List.map_map]
  have e0 : (4 * j + 0) / 4 = j := by omega
  have e1 : (4 * j + 1) / 4 = j := by omega
  have e2 : (4 * j + 2) / 4 = j := by omega
  have e3 : (4 * j + 3) / 4 = j := by omega
  have m0 : (4 * j + 0) % 4 = 0 := by omega
  have m1 : (4 * j + 1) % 4 = 1 := by omega
  have m2 : (4 * j + 2) % 4 = 2 := by omega
  have m3 : (4 * j + 3) % 4 = 3 := by omega
  rw [show List.range 4 = [0, 1, 2, 3] from rfl]
  simp only [List.map_cons, List.map_nil, Function.comp, e0, e1, e2, e3, m0, m1, m2, m3, quad]
  simp
theorem run_conv4 {P : Program} (w : World) (src dst e e' : TypeId) (hs : P.underlying src = some (.slice e)) (he : P.underlying e = some (.int .u8)) (hd : P.underlying dst = some .string)
    (p q r s : UInt8) (a b c d : Int) (ha : a = (p.toNat : Int)) (hb : b = (q.toNat : Int)) (hc : c = (r.toNat : Int)) (hd' : d = (s.toNat : Int)) :
    (convert src dst (.slice (some ⟨w.heap.size, 0, none⟩) 4 4)).run P (w.alloc (.cells #[.int .u8 a, .int .u8 b, .int .u8 c, .int .u8 d] e')) = .ok (.string (txt [p, q, r, s])) (w.alloc (.cells #[.int .u8 a, .int .u8 b, .int .u8 c, .int .u8 d] e')) := by
  subst ha hb hc hd'
  have h := Holds.new w 4 (fun i => Value.int .u8 ((([p, q, r, s] : List UInt8).getD i 0).toNat : Int)) e'
  exact run_conv_text h src dst e hs he hd [p, q, r, s] 0 4 4 rfl (by omega) (fun i _ => by rw [Nat.zero_add])
theorem w_byte (x : BitVec 32) (k : Nat) : W32 x / 2 ^ k % (256 : Int) = ((UInt8.ofNat (x.toNat / 2 ^ k)).toNat : Int) := by
  rw [UInt8.toNat_ofNat']; unfold W32; simp
theorem w_byte0 (x : BitVec 32) : W32 x % (256 : Int) = ((UInt8.ofNat x.toNat).toNat : Int) := by
  rw [UInt8.toNat_ofNat']; unfold W32; simp
end Go.Proofs.YtpoibacokdjplaaDoor
/- A region that draws its order: operations that only read, or call what leaves a world of a class, ahead of a tail in one forced order (a store of what they yield): one walk serves. No program is imported. -/
namespace Go.Proofs.YtpoibacokdjplaaDoor
open Go.RowKit

section
variable {P : Program} {ops H : Array Oper} {md : Region.Mode} {C : World → Prop}

/-- The flags of the head, and none of the tail's. -/
def flags (g : Nat) (lh : Array Bool) : Array Bool := lh ++ Array.replicate g false
theorem flags_get (g : Nat) (lh : Array Bool) (i : Nat) (d : Bool) (h : i < lh.size) : (flags g lh).getD i d = lh.getD i d := by
  unfold flags
  simp [Array.getElem?_append_left h]
theorem flags_tail (g : Nat) (lh : Array Bool) (i : Nat) (h : lh.size ≤ i) (h2 : i < lh.size + g) : (flags g lh).getD i true = false := by
  unfold flags
  rw [Array.getD_eq_getD_getElem?, Array.getElem?_append_right h, Array.getElem?_eq_getElem (by simp; omega)]
  simp
theorem flags_set (g : Nat) (lh : Array Bool) (i : Nat) (h : i < lh.size) : (flags g lh).setIfInBounds i true = flags g (lh.setIfInBounds i true) := by
  unfold flags
  apply Array.ext_getElem?
  intro j
  rw [Array.getElem?_setIfInBounds]
  by_cases hij : i = j
  · subst hij
    rw [if_pos rfl, Array.getElem?_append_left (by simpa using h), Array.getElem?_setIfInBounds, if_pos rfl]
    simp [h]; omega
  · rw [if_neg hij]
    by_cases hj : j < lh.size
    · rw [Array.getElem?_append_left hj, Array.getElem?_append_left (by simpa using hj), Array.getElem?_setIfInBounds, if_neg hij]
    · rw [Array.getElem?_append_right (by omega), Array.getElem?_append_right (by simp; omega)]
      simp
/-- What is checked of the region's text: the head's operations have no guard and wait for earlier ones alone. -/
def headOk (md : Region.Mode) (H : Array Oper) : Bool := (List.range H.size).all fun i => match H[i]? with
  | some o => o.guard.isNone && o.after.all fun e => !Region.binds md e || decide (e.on < i)
  | none => true
theorem headOk_spec (h : headOk md H = true) {i : Nat} {o : Oper} (ho : H[i]? = some o) : o.guard = none ∧ ∀ e ∈ o.after, Region.binds md e = true → e.on < i := by
  have hi : i < H.size := (Array.getElem?_eq_some_iff.1 ho).1
  have h1 := List.all_eq_true.1 h i (List.mem_range.2 hi)
  rw [ho] at h1
  simp only [Bool.and_eq_true] at h1
  refine ⟨Option.isNone_iff_eq_none.1 h1.1, fun e he hb => ?_⟩
  have := Array.all_eq_true'.1 h1.2 e he
  simpa [hb] using this
def unlisted (lh : Array Bool) : Nat := (lh.toList.filter (!·)).length

theorem unlisted_zero {lh : Array Bool} (h : unlisted lh = 0) (i : Nat) (hi : i < lh.size) : lh.getD i false = true := by
  have h0 : lh.toList.filter (!·) = [] := List.eq_nil_of_length_eq_zero h
  rw [List.filter_eq_nil_iff] at h0
  have := h0 lh[i] (by simp)
  simpa [hi] using this
theorem unlisted_some {lh : Array Bool} {f : Nat} (h : unlisted lh = f + 1) : ∃ i, i < lh.size ∧ lh.getD i true = false ∧ ∀ j, j < i → lh.getD j false = true := by
  have hex : ∃ i, i < lh.size ∧ lh.getD i true = false := by
    have hne : lh.toList.filter (!·) ≠ [] := fun e => by unfold unlisted at h; rw [e] at h; simp at h
    obtain ⟨x, hx⟩ := List.exists_mem_of_ne_nil _ hne
    rw [List.mem_filter] at hx
    obtain ⟨i, hi, e⟩ := List.getElem_of_mem hx.1
    refine ⟨i, by simpa using hi, ?_⟩
    have hx2 : x = false := by simpa using hx.2
    have hi' : i < lh.size := by simpa using hi
    simp [hi']
    rw [← hx2, ← e]; simp
  have key : ∀ k, (∃ i, i ≤ k ∧ i < lh.size ∧ lh.getD i true = false) → ∃ i, i < lh.size ∧ lh.getD i true = false ∧ ∀ j, j < i → lh.getD j false = true := by
    intro k
    induction k using Nat.strongRecOn with
    | _ k ih =>
      rintro ⟨i, hik, hi, hf⟩
      by_cases hall : ∀ j, j < i → lh.getD j false = true
      · exact ⟨i, hi, hf, hall⟩
      · obtain ⟨j, hj⟩ := Classical.not_forall.1 hall
        obtain ⟨hji, hjf⟩ := Classical.not_imp.1 hj
        have hjs : j < lh.size := by omega
        have : lh.getD j true = false := by
          simp [hjs] at hjf ⊢; exact hjf
        exact ih j (by omega) ⟨j, Nat.le_refl _, hjs, this⟩
  obtain ⟨i, hi, hf⟩ := hex
  exact key i ⟨i, Nat.le_refl _, hi, hf⟩
theorem unlisted_set {lh : Array Bool} {f i : Nat} (h : unlisted lh = f + 1) (hi : i < lh.size) (hf : lh.getD i true = false) : unlisted (lh.setIfInBounds i true) = f := by
  have hfi : lh[i] = false := by simpa [hi] using hf
  unfold unlisted at *
  have key : ∀ (l : List Bool) (k : Nat) (hk : k < l.length), l[k] = false → ((l.set k true).filter (!·)).length + 1 = (l.filter (!·)).length := by
    intro l
    induction l with
    | nil => intro k hk; simp at hk
    | cons x l ih =>
      intro k hk hx
      cases k with
      | zero => simp at hx; subst hx; simp
      | succ k =>
        have := ih k (by simpa using hk) (by simpa using hx)
        simp only [List.set_cons_succ, List.filter_cons]
        cases x <;> simp <;> omega
  have := key lh.toList i (by simpa using hi) (by simpa using hfi)
  rw [Array.toList_setIfInBounds]
  omega

theorem wpAny_of_headQ {n g : Nat} {tail : List Oper} {Q' : Exit → Act → World → Prop} (hn : H.size = n) (hg : ops.size = n + g) (hg0 : 0 < g) (hget : ∀ i, i < n → H[i]? = ops[i]?) (hok : headOk md H = true)
    (hs : Region.sinkB md ops n = true) (hc : Region.chainB md ops n = true) (htl : ∀ j, tail[j]? = ops[n + j]?) (hgl : tail.length = g)
    (hseq : Region.seqB md ops g n (flags g (Array.replicate n true)) = true) :
    ∀ (f : Nat) (lh : Array Bool) (a : Act) (w : World), lh.size = n → unlisted lh = f →
      (∀ i o, H[i]? = some o → lh.getD i false = true → ∀ e ∈ o.after, Region.binds md e = true → lh.getD e.on false = true) → C w →
      wpAnyQ P md H C (fun a' => ∀ w', C w' → wpList P ops Q' tail a' w') f lh a → wpAny P md ops Q' (f + g) (flags g lh) a w
  | 0, lh, a, w, hl, hu, _, hw, h => by
    have e : lh = Array.replicate n true := by
      apply Array.ext
      · simp [hl]
      · intro i h1 h2
        have := unlisted_zero hu i h1
        simpa [h1] using this
    rw [Nat.zero_add, e, ← hgl]
    exact wpAny_of_seq tail n _ a w htl (by rw [hgl]; exact hseq) (h.2 w hw)
  | f + 1, lh, a, w, hl, hu, hcl, hw, h => by
    obtain ⟨i0, hi0, hf0, hall0⟩ := unlisted_some hu
    have hin0 : i0 < n := by omega
    have inv : HeadInv md ops n (flags g lh) := by
      refine ⟨by unfold flags; simp [hl, hg], fun j oj hoj hlj e he hb => ?_, fun t ht ht' => flags_tail g lh t (by omega) (by omega)⟩
      have hjn : j < n := by
        rcases Nat.lt_or_ge j n with h' | h'
        · exact h'
        · rcases Nat.lt_or_ge j (n + g) with h2 | h2
          · have := flags_tail g lh j (by omega) (by omega)
            have hz : j < (flags g lh).size := by unfold flags; simp; omega
            simp [hz] at this hlj
            rw [this] at hlj; cases hlj
          · have hz : (flags g lh).size ≤ j := by unfold flags; simp; omega
            simp [Array.getElem?_eq_none hz] at hlj
      rw [flags_get g lh j false (by omega)] at hlj
      have hoj' : H[j]? = some oj := by rw [hget j hjn]; exact hoj
      have h3 := (headOk_spec hok hoj').2 e he hb
      rw [flags_get g lh e.on false (by omega)]
      exact hcl j oj hoj' hlj e he hb
    have hlt : ∀ i, i ∈ Region.ready md ops (flags g lh) → i < n := fun i hi => by
      rcases Nat.lt_or_ge i n with h' | h'
      · exact h'
      · exact absurd hi (tail_waits hs hc (by omega) inv _ i0 rfl hin0 (by rw [flags_get g lh i0 true (by omega)]; exact hf0) i h')
    have hready : ∀ i, i ∈ Region.ready md ops (flags g lh) → i ∈ Region.ready md H lh := fun i hi => by
      have hin := hlt i hi
      obtain ⟨h1, o, ho, h2⟩ := mem_ready.1 hi
      have ho' : H[i]? = some o := by rw [hget i hin]; exact ho
      refine mem_ready.2 ⟨by rw [flags_get g lh i true (by omega)] at h1; exact h1, o, ho', fun e he hb => ?_⟩
      have h3 := (headOk_spec hok ho').2 e he hb
      have h4 := h2 e he hb
      rw [flags_get g lh e.on false (by omega)] at h4; exact h4
    have hne : i0 ∈ Region.ready md ops (flags g lh) := by
      obtain ⟨o, ho⟩ : ∃ o, H[i0]? = some o := ⟨_, Array.getElem?_eq_getElem (by omega)⟩
      refine mem_ready.2 ⟨by rw [flags_get g lh i0 true (by omega)]; exact hf0, o, by rw [← hget i0 hin0]; exact ho, fun e he hb => ?_⟩
      have h3 := (headOk_spec hok ho).2 e he hb
      rw [flags_get g lh e.on false (by omega)]
      exact hall0 e.on h3
    rw [show f + 1 + g = (f + g) + 1 by omega]
    refine ⟨fun h0 => (by rw [h0] at hne; cases hne), fun i hi => ?_⟩
    have hin := hlt i hi
    have hrd := hready i hi
    have hq := h.2 i hrd
    obtain ⟨hun, o, ho, hed⟩ := mem_ready.1 hrd
    have hgd := (headOk_spec hok ho).1
    have hwt : ∀ (ys : Nat → Option Bool), Region.wanted o ys = true := fun ys => by unfold Region.wanted; rw [hgd]
    unfold qOp at hq
    rw [ho] at hq
    simp only [hwt, if_true] at hq
    have ho2 : ops[i]? = some o := by rw [← hget i hin]; exact ho
    unfold wpOp
    rw [ho2]
    simp only [hwt, if_true]
    refine .inl (Oper.wp_of_quiet hw (fun a' w' hw' hk => ?_) hq)
    rw [flags_set g lh i (by omega)]
    refine wpAny_of_headQ hn hg hg0 hget hok hs hc htl hgl hseq f _ a' w' (by simp [hl]) (unlisted_set hu (by omega) hun) ?_ hw' hk
    intro j oj hoj hlj e he hb
    by_cases hij : i = j
    · subst hij
      have : oj = o := Option.some.inj (hoj.symm.trans ho)
      subst this
      exact getD_set_true (hed e he hb)
    · rw [getD_set_ne false hij] at hlj
      exact getD_set_true (hcl j oj hoj hlj e he hb)

/-- The region: n operations that are quiet in the class C, then a forced tail. -/
theorem wp_region_head_tail {id : Nat} {Q : Exit → Act → World → Prop} {a : Act} {w : World} {l : List Oper} (C : World → Prop) (n : Nat) (hm : P.follows .mixedOrders = true)
    (hB : (decide (n < l.length) && Region.lexB .any (l.take n).toArray && headOk .any (l.take n).toArray && Region.sinkB .any l.toArray n && Region.chainB .any l.toArray n && Region.seqB .any l.toArray (l.length - n) n (flags (l.length - n) (Array.replicate n true))) = true)
    (hC : C { w with drawn := w.drawn + 1 })
    (h : wpQuiet P (l.take n).toArray C (fun a' => ∀ w', C w' → wpList P l.toArray Q (l.drop n) a' w') (l.take n) a) : (Code.region id l.toArray true).wp P Q a w := by
  simp only [Bool.and_eq_true, decide_eq_true_eq] at hB
  obtain ⟨⟨⟨⟨⟨h0, h1⟩, h2⟩, h3⟩, h4⟩, h5⟩ := hB
  have htk : (l.take n).length = n := by rw [List.length_take]; omega
  refine wp_region_any hm ?_
  simp only [Region.lexB, Bool.and_eq_true] at h1
  have hq := wpAnyQ_lex (P := P) (C := C) (md := .any) h1.1 (l.take n) 0 (Array.replicate (l.take n).length false) a (by intro j; simp) (by simpa using h1.2) h
  have := wpAny_of_headQ (P := P) (ops := l.toArray) (md := .any) (H := (l.take n).toArray) (n := n) (g := l.length - n) (tail := l.drop n) (Q' := Q) (C := C) (by simp; omega) (by simp; omega) (by omega)
    (fun i hi => by simp [hi]) h2 h3 h4 (fun j => by simp [List.getElem?_drop]) (by simp) h5 (l.take n).length (Array.replicate (l.take n).length false) a _ (by simp; omega)
    (by unfold unlisted; simp) (fun i o _ hl => by rw [getD_replicate_false] at hl; cases hl) hC hq
  have e1 : (l.take n).length + (l.length - n) = l.toArray.size := by rw [htk]; simp; omega
  have e2 : flags (l.length - n) (Array.replicate (l.take n).length false) = Array.replicate l.toArray.size false := by
    unfold flags; rw [Array.replicate_append_replicate, e1]
  rw [e1, e2] at this
  exact this
end
end Go.Proofs.YtpoibacokdjplaaDoor
/- The document's Sum. -/
namespace Go.Proofs.YtpoibacokdjplaaDoor
open Go.RowKit

/-- The document's numbers: of the state, and of the rounds. -/
def refCells : Nat → Value := fun i => if i < 8 then .int .u32 (W32 (iv i)) else .int .u32 (W32 (kOf (i - 8)))
def sliceLen : Value → Nat | .slice _ n _ => n | _ => 0
theorem info8' : (Tryd.prog.info? 65).map (·.size) = some 8 := by kernel_rfl
theorem infoB : (Tryd.prog.info? 5).map (fun i => (i.zero, i.size, i.bytes)) = some (some (.int .u8 0), 1, 1) := by kernel_rfl
def pad1 (n : Nat) : Nat := (119 - n % 64) % 64
theorem zeros_snoc (k : Nat) : zeros (k + 1) = zeros k ++ [0] := by unfold zeros; rw [List.replicate_succ']
/-- Loop over the noughts: what holds. -/
structure PadRel (N : Nat) (w0 wr : World) (v : Value) (L : Nat) (l : List UInt8) : Prop where
  row : Row wr N 1 v L (bcells l)
  below : Below N w0 wr
theorem PadRel.grow {N : Nat} {w0 wr w' : World} {v v' : Value} {L : Nat} {l : List UInt8} {c : UInt8} (h : PadRel N w0 wr v L l) (hN : N ≤ w0.heap.size)
    (hr : Row w' N 1 v' (L + 1) (bcells l ++ [.int .u8 (c.toNat : Int)])) (hg : wr.grownBy w' v.ownBlock) : PadRel N w0 w' v' (L + 1) (l ++ [c]) :=
  ⟨by simpa [bcells] using hr, grown_below h.below h.row hg (Nat.le_refl _) (Nat.le_trans hN h.below.size)⟩

theorem idx8r (s : Nat → BitVec 32) (j : Nat) (hj : j < 8) (wx : World) : (Instr.index 65 (.agg #[.int .u32 (W32 (s 0)), .int .u32 (W32 (s 1)), .int .u32 (W32 (s 2)), .int .u32 (W32 (s 3)), .int .u32 (W32 (s 4)), .int .u32 (W32 (s 5)), .int .u32 (W32 (s 6)), .int .u32 (W32 (s 7))]) (.int .i64 (j : Int))).run Tryd.prog wx = .ok (.int .u32 (W32 (s j))) wx := by
  rcases (by omega : j = 0 ∨ j = 1 ∨ j = 2 ∨ j = 3 ∨ j = 4 ∨ j = 5 ∨ j = 6 ∨ j = 7) with rfl | rfl | rfl | rfl | rfl | rfl | rfl | rfl <;> kernel_rfl
theorem idx8a (f : Nat → Value) (j : Nat) (hj : j < 8) (wx : World) : (Instr.index 65 (.agg (arr 8 f)) (.int .i64 (j : Int))).run Tryd.prog wx = .ok (f j) wx := by
  rcases (by omega : j = 0 ∨ j = 1 ∨ j = 2 ∨ j = 3 ∨ j = 4 ∨ j = 5 ∨ j = 6 ∨ j = 7) with rfl | rfl | rfl | rfl | rfl | rfl | rfl | rfl <;> kernel_rfl
structure BRel (N g : Nat) (w wr : World) (M : List UInt8) (h : Nat → BitVec 32) : Prop where
  below : Below N w wr
  gl : N < g
  cells : ∀ i u, (bcells M)[i]? = some u → wr.cell? ⟨g, i, none⟩ = some u
  st : Holds wr N 8 (fun i => .int .u32 (W32 (h i))) 65
theorem BRel.lt {N g : Nat} {w wr : World} {M : List UInt8} {h : Nat → BitVec 32} (hb : BRel N g w wr M h) (hM : 0 < M.length) : g < wr.heap.size := by
  have e : (bcells M)[0]? = some ((bcells M)[0]'(by rw [bcells_length]; exact hM)) := List.getElem?_eq_getElem _
  exact block_lt_of_cell (hb.cells 0 _ e)
theorem BRel.later {N g : Nat} {w wr w' : World} {M : List UInt8} {h : Nat → BitVec 32} (hb : BRel N g w wr M h) (hN : N < wr.heap.size) (hM : 0 < M.length) (hb2 : Below wr.heap.size wr w') : BRel N g w w' M h :=
  ⟨hb.below.trans (hb2.mono (Nat.le_of_lt hN)), hb.gl, fun i u hu => by rw [hb2.cell (hb.lt hM)]; exact hb.cells i u hu, hb.st.below hb2 hb.st.lt⟩
theorem BRel.store {N g : Nat} {w wr : World} {M : List UInt8} {h : Nat → BitVec 32} (hb : BRel N g w wr M h) (k : Nat) (x : BitVec 32) : BRel N g w (wr.setCell ⟨N, k, none⟩ (.int .u32 (W32 x))) M (upd h k x) :=
  ⟨hb.below.setCell (Nat.le_refl _) _, hb.gl, fun i u hu => by rw [World.cell?_setCell_other _ _ _ _ (by intro e; injection e with e1 e2; have := hb.gl; omega)]; exact hb.cells i u hu, (hb.st.set k _).congr fun i _ => by unfold upd; split <;> rfl⟩
theorem BRel.congr {N g : Nat} {w wr : World} {M : List UInt8} {h h' : Nat → BitVec 32} (hb : BRel N g w wr M h) (e : ∀ i, i < 8 → h i = h' i) : BRel N g w wr M h' :=
  ⟨hb.below, hb.gl, hb.cells, hb.st.congr fun i hi => by rw [e i hi]⟩
structure WRel2 (wo wi : World) (f : Nat → BitVec 32) : Prop where
  below : Below wo.heap.size wo wi
  own : Holds wi wo.heap.size 64 (fun i => .int .u32 (W32 (f i))) 94
theorem WRel2.store {wo wi : World} {f : Nat → BitVec 32} (h : WRel2 wo wi f) (k : Nat) (x : BitVec 32) : WRel2 wo (wi.setCell ⟨wo.heap.size, k, none⟩ (.int .u32 (W32 x))) (upd f k x) :=
  ⟨h.below.setCell (Nat.le_refl _) _, (h.own.set k _).congr fun i _ => by unfold upd; split <;> rfl⟩

end Go.Proofs.YtpoibacokdjplaaDoor
/- Worlds later than one: for regions that hold calls that make memory. No program is imported. -/
namespace Go.Proofs.YtpoibacokdjplaaDoor
open Go.RowKit

/-- What is later than a world, and the same below N. -/
structure Later (N : Nat) (w : World) where
  at' : World
  below : Below N w at'
theorem later_of {P : Program} {f : FuncId} {args : Array Value} {w : World} {v : Value} {z : Later w.heap.size w} (h : Calls P f args z.at' fun e w' => e = .returned v ∧ Below z.at'.heap.size z.at' w') :
    Calls P f args z.at' fun e w'' => e = .returned v ∧ ∃ z' : Later w.heap.size w, w'' = z'.at' :=
  h.mono fun _ w' ⟨he, hb⟩ => ⟨he, ⟨w', z.below.trans (hb.mono z.below.size)⟩, rfl⟩
instance (N : Nat) (w : World) : Nonempty (Later N w) := ⟨⟨w, Below.refl _ _⟩⟩

end Go.Proofs.YtpoibacokdjplaaDoor
/- The document's Empty, Leaf, Join. -/
namespace Go.Proofs.YtpoibacokdjplaaDoor
open Go.RowKit

theorem markOf_len (kind : UInt8) (parts : List ByteArray) : (markOf kind parts).size = 16 := by
  unfold markOf
  rw [txt_size, List.length_take]
  unfold sumOf
  rw [sumText_length]
  rfl
theorem num_size (d : Int) : (txt (num8 d)).size = 8 := by rw [txt_size, num8_length]
end Go.Proofs.YtpoibacokdjplaaDoor
/- The program's names and indexes: isLetter, isDigit, isMark, bit, Name, Bit. -/
namespace Go.Proofs.YtpoibacokdjplaaDoor
open Go.RowKit

theorem and_one (X : Nat) (h : X < 256) : bits BinOp.and IntKind.i64 (wrap64 (X : Int)) 1 = ((X % 2 : Nat) : Int) := by
  have hall : ∀ x : Fin 256, bits BinOp.and IntKind.i64 (wrap64 ((x.val : Nat) : Int)) 1 = ((x.val % 2 : Nat) : Int) := by decide +kernel
  exact hall ⟨X, h⟩
def letterB (c : Nat) : Bool := decide (97 ≤ c ∧ c ≤ 122)
def digitB (c : Nat) : Bool := decide (48 ≤ c ∧ c ≤ 57)
theorem ixIsMark_any (s : ByteArray) (w : World) : Calls Tryd.prog 59 #[.string s] w fun e w' => e = .returned (.bool (decide (s.size = 16))) ∧ w' = w := by
  by_cases h : s.size = 16
  · go_enter Tryd.func59, Tryd.ntmps59
    go_wp2
    go_ret
    exact ⟨by simp [h], rfl⟩
  · go_enter Tryd.func59, Tryd.ntmps59
    go_wp2
    go_ret
    refine ⟨?_, rfl⟩
    simp [h]; omega
set_option maxRecDepth 100000 in
theorem bit_any (ix : ByteArray) (k : Nat) (w : World) (h16 : ix.size = 16) (hk : k < 128) :
    Calls Tryd.prog 60 #[.string ix, .int .i64 (k : Int)] w fun e w' => e = .returned (.int .i64 ((bitOf ix.data.toList k : Nat) : Int)) ∧ w' = w := by
  have hlt : k / 8 < ix.size := by omega
  obtain ⟨B, hB⟩ : ∃ B : Nat, ix[k / 8].toNat = B := ⟨_, rfl⟩
  have hB2 : B < 256 := by rw [← hB]; exact ix[k / 8].toNat_lt
  obtain ⟨D, hD⟩ : ∃ D : Nat, 7 - k % 8 = D := ⟨_, rfl⟩
  have hDi : 7 - (k : Int) % 8 = (D : Int) := by omega
  have hD7 : D < 8 := by omega
  have hbit : bitOf ix.data.toList k = B / 2 ^ D % 2 := by
    unfold bitOf
    rw [hD, ← hB]
    congr 3
    rw [List.getD_eq_getElem?_getD, List.getElem?_eq_getElem (by rw [Array.length_toList]; exact hlt)]; rfl
  have HBIT := Lib.hid hbit
  clear hbit hD
  go_enter Tryd.func60, Tryd.ntmps60
  go_wp2
  go_ret
  refine ⟨?_, rfl⟩
  show Ending.returned (Value.int IntKind.i64 (bits BinOp.and IntKind.i64 (wrap64 ((B : Int) / 2 ^ D)) 1)) = _
  rw [HBIT.out, show ((B : Int) / 2 ^ D) = ((B / 2 ^ D : Nat) : Int) by rw [Int.natCast_ediv, Int.natCast_pow]; rfl, and_one _ (Nat.lt_of_le_of_lt (Nat.div_le_self _ _) hB2)]
end Go.Proofs.YtpoibacokdjplaaDoor
/- The program's Name, Bit and Common. -/
namespace Go.Proofs.YtpoibacokdjplaaDoor
open Go.RowKit

theorem goodAt_is (l : List UInt8) (i : Nat) : goodAt l i = (letterB (l.getD i 0).toNat || (decide (i ≠ 0) && digitB (l.getD i 0).toNat)) := rfl
/-- The program's error of this number, or none. -/
def errOf (n : Int) : Value := if n = 0 then .nilIface else .iface 47 (.int .i64 n)
set_option maxRecDepth 100000 in
theorem ixBit_any (ix : ByteArray) (k : Int) (w : World) :
    Calls Tryd.prog 58 #[.string ix, .int .i64 k] w fun e w' => e = .returned (.tuple (if ix.size = 16 then (if 0 ≤ k ∧ k ≤ 127 then #[.int .i64 ((bitOf ix.data.toList k.toNat : Nat) : Int), .nilIface] else #[.int .i64 0, .iface 47 (.int .i64 2)]) else #[.int .i64 0, .iface 47 (.int .i64 1)])) ∧ w' = w := by
  by_cases h16 : ix.size = 16
  · rw [if_pos h16]
    have E1 := Lib.hid (show decide (ix.size = 16) = true by simp [h16])
    by_cases hk : 0 ≤ k ∧ k ≤ 127
    · rw [if_pos hk]
      obtain ⟨m, rfl⟩ : ∃ m : Nat, k = (m : Int) := ⟨k.toNat, by omega⟩
      have hm : m < 128 := by omega
      rw [Int.toNat_natCast]
      clear hk
      go_enter Tryd.func58, Tryd.ntmps58
      go_wp2_with fail
      refine (ixIsMark_any _ _).mono ?_
      rintro e w1 ⟨rfl, rfl⟩
      rw [E1.out]
      go_wp2_with fail
      refine (bit_any ix m _ h16 hm).mono ?_
      rintro e w1 ⟨rfl, rfl⟩
      go_wp2
      refine bodyPost_ret (results_tmp2 rfl _ _ _) rfl ?_
      exact ⟨rfl, rfl⟩
    · rw [if_neg hk]
      by_cases hk0 : k < 0
      · clear hk
        go_enter Tryd.func58, Tryd.ntmps58
        go_wp2_with fail
        refine (ixIsMark_any _ _).mono ?_
        rintro e w1 ⟨rfl, rfl⟩
        rw [E1.out]
        go_wp2
        refine bodyPost_ret (results_tmp2 rfl _ _ _) rfl ?_
        exact ⟨rfl, rfl⟩
      · have hk1 : 0 ≤ k := by omega
        have hk2 : 128 ≤ k := by omega
        clear hk hk0
        go_enter Tryd.func58, Tryd.ntmps58
        go_wp2_with fail
        refine (ixIsMark_any _ _).mono ?_
        rintro e w1 ⟨rfl, rfl⟩
        rw [E1.out]
        go_wp2
        refine bodyPost_ret (results_tmp2 rfl _ _ _) rfl ?_
        exact ⟨rfl, rfl⟩
  · rw [if_neg h16]
    have E1 := Lib.hid (show decide (ix.size = 16) = false by simp [h16])
    clear h16
    go_enter Tryd.func58, Tryd.ntmps58
    go_wp2_with fail
    refine (ixIsMark_any _ _).mono ?_
    rintro e w1 ⟨rfl, rfl⟩
    rw [E1.out]
    go_wp2
    refine bodyPost_ret (results_tmp2 rfl _ _ _) rfl ?_
    exact ⟨rfl, rfl⟩
end Go.Proofs.YtpoibacokdjplaaDoor
/- errors.As at a nil error, and at an api.Errno whose target is a *api.Errno (after the kit's worked example). -/
namespace Go.Proofs.YtpoibacokdjplaaDoor
open Go.RowKit Go.Extern.Stop Go.Stop Go.Extern

/-- A type's handle. -/
noncomputable def hand0 : Nat := Tryd.prog.globals.size
noncomputable abbrev hand (t : Nat) : Value := .pointer (some ⟨hand0, t, none⟩)
theorem tKindInt (w : World) : ((ReflectliteType.abiMethod fun t => (fun a : Nat => Value.int IntKind.u8 (a : Int)) <$> Rtype.kind t) #[hand 47]).run Tryd.prog w = .ok (.int .u8 2) w := by kernel_rfl
theorem rlm (z : Sem Value) (f : TypeId → Addr → Nat → Nat → Sem Value) (v : Value) :
    ReflectliteValue.method z f #[v] = (do match ← ReflectliteValue.parts v with | none => z | some (t, a, fl) => f t a fl (fl % 32)) := rfl
theorem tValueOfE (n : Int) (w : World) : (ReflectliteValue.unpack (.iface 47 (.int .i64 n))).run Tryd.prog w
    = .ok (.agg #[hand 47, .pointer (some ⟨w.heap.size, 0, none⟩), .int .u64 130]) (w.alloc (.cells #[.int .i64 n] 47)) := by kernel_rfl
theorem tMk (p : Addr) (w : World) : (ReflectliteValue.mk 47 p ReflectliteValue.flagAddr).run Tryd.prog w = .ok (.agg #[hand 47, .pointer (some p), .int .u64 386]) w := by kernel_rfl
theorem rls (v x : Value) : ReflectliteValue.set #[v, x] = (do
    let (some (dst, a, fl), some (src, b, _)) := (← ReflectliteValue.parts v, ← ReflectliteValue.parts x)
      | unsupported (.noEntry "extern/(internal/reflectlite.Value).Set.zeroValue")
    if fl / ReflectliteValue.flagAddr % 2 == 0 then unsupported (.noEntry "extern/(internal/reflectlite.Value).Set.unaddressable")
    let val ← loadVar src b
    if ← Rtype.directlyAssignable dst src then storeVar dst a val
    else if ← Rtype.implements dst src then
      if (← Rtype.kind src) == 20 then
        match val with
        | .nilIface => unsupported (.noEntry "extern/reflectlite: a nil value of one interface type handed on as a value of another")
        | _ => storeVar dst a val
      else storeVar dst a (.iface src val)
    else panicString ("reflectlite.Set: value of type " ++ (← Rtype.spelt src) ++ " is not assignable to type " ++ (← Rtype.spelt dst))
    pure (.tuple #[])) := rfl
theorem tPartsA (a : Addr) (w : World) : (ReflectliteValue.parts (.agg #[hand 47, .pointer (some a), .int .u64 386])).run Tryd.prog w = .ok (some (47, a, 386)) w := by kernel_rfl
theorem tPartsB (a : Addr) (w : World) : (ReflectliteValue.parts (.agg #[hand 47, .pointer (some a), .int .u64 130])).run Tryd.prog w = .ok (some (47, a, 130)) w := by kernel_rfl
theorem tDirect (w : World) : (Rtype.directlyAssignable 47 47).run Tryd.prog w = .ok true w := by kernel_rfl
theorem tSize (w : World) : (sizeOf 47).run Tryd.prog w = .ok 1 w := by kernel_rfl
theorem tSet (ta b : Addr) (n : Int) (old : Value) (W : World) (hb : W.cell? b = some (.int .i64 n)) (ht : W.cell? ta = some old) (hf : W.frozen? ta = false) :
    (ReflectliteValue.set #[.agg #[hand 47, .pointer (some ta), .int .u64 386], .agg #[hand 47, .pointer (some b), .int .u64 130]]).run Tryd.prog W
      = .ok (.tuple #[]) (W.setCell ta (.int .i64 n)) := by
  rw [rls]
  simp only [Sem.run_bind, tPartsA, tPartsB, Result.andThen]
  simp [ReflectliteValue.flagAddr, loadVar, isAgg, underlying, Tryd.underlying47, hb, Result.andThen, tDirect, storeVar, Value.cells, storeCells, Addr.add]
  rw [run_store Tryd.prog W ta _ _ (by rfl)]
  simp [ht, hf]

end Go.Proofs.YtpoibacokdjplaaDoor
