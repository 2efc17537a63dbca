/- Parts of the proof, one behind the other: RNum, Rot2, RWords, Tail. -/
import Derived.Test.YtcfpmofmjnhonaaGreatDoorM4
import Derived.Test.YtcfpmofmjnhonaaGreatDoorM2
import Derived.Test.YtcfpmofmjnhonaaGreatDoorProg
import Derived.Test.YtcfpmofmjnhonaaGreatDoorM3
import Derived.WalkLawsBesides
import Derived.Lib.Hide
import Derived.Outline
import Derived.Deep.QuietTactic
import Derived.BigQuiet
import Derived.StillTail
import Derived.Deep.Quiet
import Derived.WalkKit
/- The document's Num. -/
namespace Go.Proofs.YtcfpmofmjnhonaaGreatDoor
open Go.RowKit

/-- The last k bytes. -/
def low (m : Nat) : Nat → List UInt8
  | 0 => []
  | k + 1 => UInt8.ofNat (m / 256 ^ k) :: low m k
theorem low_eight (m : Nat) : low m 8 = be8 m := by
  simp [be8, low, List.range, List.range.loop]
theorem low_length (m : Nat) : ∀ k, (low m k).length = k
  | 0 => rfl
  | k + 1 => by simp [low, low_length m k]
theorem txt_append (a b : List UInt8) : txt a ++ txt b = txt (a ++ b) := by
  rw [← txt_of (txt a ++ txt b)]
  congr 1
theorem conv1 (w : World) (b : UInt8) (x : Int) (hx : x = (b.toNat : Int)) :
    (convert 182 9 (.slice (some ⟨w.heap.size, 0, none⟩) 1 1)).run Tryz.prog (w.alloc (.cells #[.int .u8 x] 5)) = .ok (.string (txt [b])) (w.alloc (.cells #[.int .u8 x] 5)) := by
  subst hx
  have hh := Holds.new w 1 (fun _ => .int .u8 (b.toNat : Int)) 5
  have hf : ∀ i, i < 1 → (fun _ : Nat => Value.int .u8 (b.toNat : Int)) (0 + i) = .int .u8 ((([b] : List UInt8).getD i 0).toNat : Int) := fun i hi => by
    obtain rfl : i = 0 := by omega
    rfl
  exact run_conv_text hh 182 9 5 Tryz.underlying182 Tryz.underlying5 Tryz.underlying9 [b] 0 1 1 rfl (by omega) hf

set_option maxRecDepth 100000 in
theorem refNum_any (n : Int) (w : World) :
    Calls Tryz.prog 98 #[.int .i64 n] w fun e w' => e = .returned (.string (txt (num8 n))) ∧ Below w.heap.size w w' := by
  obtain ⟨m, hm⟩ : ∃ m : Nat, (n % 18446744073709551616) = m := ⟨(n % 18446744073709551616).toNat, by omega⟩
  have hw : IntKind.u64.wrap n = m := by rw [wrap_u64, hm]
  have e : num8 n = be8 m := by unfold num8; rw [hm]; rfl
  have hm64 : m < 18446744073709551616 := by omega
  rw [e]
  clear hm e
  go_enter Tryz.func98, Tryz.ntmps98
  go_wp2
  go_loopw [3, 4, 7] (fun s u i wr => ∃ k d : Nat, k ≤ 8 ∧ d = m / 256 ^ k ∧ i = .int .i64 (k : Int) ∧ u = .int .u64 (d : Int) ∧ s = .string (txt (low m k)) ∧ Below w.heap.size w wr) (fun _ _ i _ => 8 - (intOf i).toNat)
  case atStart =>
    exact ⟨0, m, by omega, by simp, rfl, rfl, rfl, Below.refl _ _⟩
  case round =>
    obtain ⟨k, d, hk, hd, rfl, rfl, rfl, hb⟩ := hrel
    have HB := Lib.hid hb
    have HD := Lib.hid hd
    have hl := low_length m k
    generalize hL : low m k = L at hl
    have HL := Lib.hid hL
    clear hb hd hL
    by_cases hlt : k < 8
    · have hcv : (convert 182 9 (.slice (some ⟨wr.heap.size, 0, none⟩) 1 1)).run Tryz.prog (wr.alloc (.cells #[.int .u8 ((d : Int) % 256)] 5)) = .ok (.string (txt [UInt8.ofNat d])) (wr.alloc (.cells #[.int .u8 ((d : Int) % 256)] 5)) := by
        refine conv1 wr (UInt8.ofNat d) _ ?_
        rw [UInt8.toNat_ofNat']; omega
      have hap : txt [UInt8.ofNat d] ++ txt L = txt (UInt8.ofNat d :: L) := txt_append _ _
      have hz1 : (txt [UInt8.ofNat d]).size = 1 := by rw [txt_size]; rfl
      have hz2 : (txt L).size = k := by rw [txt_size, hl]
      have hd64 : d < 18446744073709551616 := by
        have := HD.out; have := Nat.div_le_self m (256 ^ k); omega
      go_wp2
      go_roundw
      case rel =>
        refine ⟨k + 1, d / 256, by omega, ?_, by go_num, by go_num, ?_, HB.out.alloc HB.out.size _⟩
        · rw [HD.out, Nat.div_div_eq_div_mul, Nat.pow_succ]
        · rw [← HL.out, HD.out]; rfl
      case measure => simp [intOf]; omega
    · have hk8 : k = 8 := by omega
      have HK8 := Lib.hid hk8
      clear hk8
      go_wp2
      go_ret
      refine ⟨?_, HB.out⟩
      have h := HL.out
      rw [HK8.out, low_eight] at h
      rw [h]; rfl
end Go.Proofs.YtcfpmofmjnhonaaGreatDoor
/- The document's rotation (a closure without captures). -/
namespace Go.Proofs.YtcfpmofmjnhonaaGreatDoor
open Go.RowKit

theorem rotR_core (x : BitVec 32) (n : Nat) (h0 : 0 < n) (h1 : n < 32) (w : World) :
    Calls Tryz.prog 147 #[.int .u32 (W32 x), .int .i64 (n : Int)] w fun e w' => e = .returned (.int .u32 (W32 (ror x n))) ∧ ∃ m, w' = w.drewN m := by
  go_enter Tryz.func147, Tryz.ntmps147
  go_wp2
  go_quiet (fail)
  go_wp2
  go_ret
  refine ⟨?_, _, rfl⟩
  have fin : (W32 x / 2 ^ n + W32 x * 2 ^ (32 - n) % 4294967296) % (4294967296 : Int) = W32 (ror x n) := by
    rw [w_shr, w_shl, w_add, ror_add _ _ _ (by omega)]
  rw [← fin]
  rfl
theorem rotR_any (x : BitVec 32) (k : Int) (h0 : 0 < k) (h1 : k < 32) (w : World) :
    Calls Tryz.prog 147 #[.int .u32 (W32 x), .int .i64 k] w fun e w' => e = .returned (.int .u32 (W32 (ror x k.toNat))) ∧ ∃ m, w' = w.drewN m := by
  have h := rotR_core x k.toNat (by omega) (by omega) w
  rwa [show ((k.toNat : Nat) : Int) = k from by omega] at h
end Go.Proofs.YtcfpmofmjnhonaaGreatDoor
/- The words of a block, as the document reckons them. No program is walked here. -/
namespace Go.Proofs.YtcfpmofmjnhonaaGreatDoor
open Go.RowKit

theorem wext_stable (blk : Nat → Nat) (i m : Nat) : ∀ k, i < 16 + m → wext blk (m + k) i = wext blk m i
  | 0, _ => rfl
  | k + 1, h => by
    have e : wext blk (m + (k + 1)) i = wext blk (m + k) i := by
      show upd (wext blk (m + k)) (m + k + 16) _ i = _
      unfold upd; rw [if_neg (by omega)]
    rw [e, wext_stable blk i m k h]
/-- All the words. -/
def wall (blk : Nat → Nat) : Nat → BitVec 32 := wext blk 48
theorem wall_low (blk : Nat → Nat) (i : Nat) (h : i < 16) : wall blk i = wordOf blk i 4 := by
  unfold wall
  rw [show 48 = 0 + 48 from rfl, wext_stable blk i 0 48 (by omega)]
  show wfill blk 16 0 i = _
  unfold wfill; rw [if_pos h]
theorem wall_high (blk : Nat → Nat) (n : Nat) (h : n < 48) : wall blk (n + 16) = ((wall blk n + s0 (wall blk (n + 1))) + wall blk (n + 9)) + s1 (wall blk (n + 14)) := by
  have e : ∀ i, i < 16 + n → wall blk i = wext blk n i := fun i hi => by
    unfold wall; rw [show 48 = n + (48 - n) from by omega]; exact wext_stable blk i n _ hi
  have e2 : wall blk (n + 16) = wext blk (n + 1) (n + 16) := by
    unfold wall; rw [show 48 = (n + 1) + (47 - n) from by omega]; exact wext_stable blk (n + 16) (n + 1) _ (by omega)
  rw [e2, e n (by omega), e (n + 1) (by omega), e (n + 9) (by omega), e (n + 14) (by omega)]
  show upd (wext blk n) (n + 16) _ (n + 16) = _
  unfold upd; rw [if_pos rfl]
theorem wall_alt (blk : Nat → Nat) (t : Nat) (h : 16 ≤ t) (h2 : t < 64) : ((s1 (wall blk (t - 2)) + wall blk (t - 7)) + s0 (wall blk (t - 15))) + wall blk (t - 16) = wall blk t := by
  obtain ⟨n, rfl⟩ : ∃ n, t = n + 16 := ⟨t - 16, by omega⟩
  rw [wall_high blk n (by omega), show n + 16 - 2 = n + 14 from by omega, show n + 16 - 7 = n + 9 from by omega, show n + 16 - 15 = n + 1 from by omega, show n + 16 - 16 = n from by omega]
  generalize s1 (wall blk (n + 14)) = p; generalize s0 (wall blk (n + 1)) = q; generalize wall blk (n + 9) = r; generalize wall blk n = u
  ac_rfl
/-- The words up to place t; then noughts. -/
def wupto (blk : Nat → Nat) (t : Nat) : Nat → BitVec 32 := fun i => if i < t then wall blk i else 0
theorem wupto_next (blk : Nat → Nat) (t : Nat) : upd (wupto blk t) t (wall blk t) = wupto blk (t + 1) := by
  funext i; unfold upd wupto
  by_cases h : i = t
  · subst h; rw [if_pos rfl, if_pos (by omega)]
  · rw [if_neg h]
    by_cases h2 : i < t
    · rw [if_pos h2, if_pos (by omega)]
    · rw [if_neg h2, if_neg (by omega)]
theorem word_step (x : BitVec 32) (c : Nat) (h : c < 256) : x * 256 + BitVec.ofNat 32 c = (x <<< 8) ||| BitVec.ofNat 32 c := by
  have e : x * 256 = x <<< 8 := by
    apply BitVec.eq_of_toNat_eq
    rw [BitVec.toNat_mul, BitVec.toNat_shiftLeft, Nat.shiftLeft_eq]
    rfl
  rw [e]
  apply BitVec.add_eq_or_of_and_eq_zero
  ext i hi
  simp
  intro h1 h2
  have : c.testBit i = false := Nat.testBit_lt_two_pow (Nat.lt_of_lt_of_le h (by
    have : 2 ^ 8 ≤ 2 ^ i := Nat.pow_le_pow_right (by omega) (by omega)
    simpa using this))
  rw [← BitVec.getLsbD_eq_getElem, BitVec.getLsbD_ofNat, this]; simp
theorem rword_value (x : BitVec 32) (c : Nat) (h : c < 256) : (W32 x * 256 + (c : Int)) % (4294967296 : Int) = W32 ((x <<< 8) ||| BitVec.ofNat 32 c) := by
  rw [← word_step x c h, ← w_add, ← w_mul, W32_ofNat c (by omega)]
  show _ = (W32 x * 256 % 4294967296 + _) % 4294967296
  omega
theorem rword_value2 (x : BitVec 32) (c : Nat) (h : c < 256) : W32 x * 256 % (4294967296 : Int) + (c : Int) = W32 ((x <<< 8) ||| BitVec.ofNat 32 c) := by
  rw [← rword_value x c h]; omega
/-- A round, as the document writes it. -/
theorem rstep_ref (s : Nat → BitVec 32) (k w : BitVec 32) : ∀ i, i < 8 → rstep s k w i =
    (let one := (((s 7 + S1 (s 4)) + ch (s 4) (s 5) (s 6)) + k) + w
     let two := S0 (s 0) + maj (s 0) (s 1) (s 2)
     if i = 0 then one + two else if i = 4 then s 3 + one else s (i - 1)) := by
  intro i _
  have e : (s 7 + S1 (s 4)) + ((ch (s 4) (s 5) (s 6) + k) + w) = (((s 7 + S1 (s 4)) + ch (s 4) (s 5) (s 6)) + k) + w := by
    generalize s 7 + S1 (s 4) = p; generalize ch (s 4) (s 5) (s 6) = q
    ac_rfl
  unfold rstep
  simp only [e]
/-- The state behind the blocks of a text. -/
def blocks (M : List UInt8) : Nat → Nat → BitVec 32
  | 0 => iv
  | j + 1 => mixed (blocks M j) (fun i => (M.getD (64 * j + i) 0).toNat)
theorem blocks_feed (M : List UInt8) : ∀ j, 64 * j ≤ M.length → (feed rs0 (M.take (64 * j))).st = blocks M j
  | 0, _ => rfl
  | j + 1, h => by
    have e : M.take (64 * (j + 1)) = M.take (64 * j) ++ (M.drop (64 * j)).take 64 := by
      rw [show 64 * (j + 1) = 64 * j + 64 from by omega, List.take_add]
    have hl : ((M.drop (64 * j)).take 64).length = 64 := by rw [List.length_take, List.length_drop]; omega
    have ih := blocks_feed M j (by omega)
    have hs : (feed rs0 (M.take (64 * j))).size = 64 * j := by
      rw [feed_size, List.length_take]; show 0 + min (64 * j) M.length = _; omega
    rw [e, feed_append]
    rw [feed_piece _ _ (by intro e; rw [e] at hl; simp at hl) (by rw [hs, hl]; omega)]
    rw [hs, hl, if_pos (by omega), show 64 * j % 64 = 0 from by omega, ih]
    show mixed (blocks M j) _ = mixed (blocks M j) _
    apply mixed_congr
    intro i hi
    unfold lay
    rw [hl, if_pos (by omega)]
    congr 1
    rw [List.getD_eq_getElem?_getD, List.getD_eq_getElem?_getD, Nat.sub_zero, List.getElem?_take, if_pos hi, List.getElem?_drop]
/-- Four bytes of a word. -/
def quad (x : BitVec 32) : List UInt8 := [UInt8.ofNat (x.toNat / 2 ^ 24), UInt8.ofNat (x.toNat / 2 ^ 16), UInt8.ofNat (x.toNat / 2 ^ 8), UInt8.ofNat x.toNat]
theorem sumText_quad (st : Nat → BitVec 32) (j : Nat) (h : j < 8) : (sumText st).take (4 * (j + 1)) = (sumText st).take (4 * j) ++ quad (st j) := by
  unfold sumText
  rw [← List.map_take, ← List.map_take, List.take_range, List.take_range, show min (4 * (j + 1)) 32 = 4 * j + 4 from by omega, show min (4 * j) 32 = 4 * j from by omega, List.range_add, List.map_append]
  congr 1
  simp only [List.map_map]
  have e0 : (4 * j + 0) / 4 = j := by omega
  have e1 : (4 * j + 1) / 4 = j := by omega
  have e2 : (4 * j + 2) / 4 = j := by omega
  have e3 : (4 * j + 3) / 4 = j := by omega
  have m0 : (4 * j + 0) % 4 = 0 := by omega
  have m1 : (4 * j + 1) % 4 = 1 := by omega
  have m2 : (4 * j + 2) % 4 = 2 := by omega
  have m3 : (4 * j + 3) % 4 = 3 := by omega
  rw [show List.range 4 = [0, 1, 2, 3] from rfl]
  simp only [List.map_cons, List.map_nil, Function.comp, e0, e1, e2, e3, m0, m1, m2, m3, quad]
  simp
theorem run_conv4 {P : Program} (w : World) (src dst e e' : TypeId) (hs : P.underlying src = some (.slice e)) (he : P.underlying e = some (.int .u8)) (hd : P.underlying dst = some .string)
    (p q r s : UInt8) (a b c d : Int) (ha : a = (p.toNat : Int)) (hb : b = (q.toNat : Int)) (hc : c = (r.toNat : Int)) (hd' : d = (s.toNat : Int)) :
    (convert src dst (.slice (some ⟨w.heap.size, 0, none⟩) 4 4)).run P (w.alloc (.cells #[.int .u8 a, .int .u8 b, .int .u8 c, .int .u8 d] e')) = .ok (.string (txt [p, q, r, s])) (w.alloc (.cells #[.int .u8 a, .int .u8 b, .int .u8 c, .int .u8 d] e')) := by
  subst ha hb hc hd'
  have h := Holds.new w 4 (fun i => Value.int .u8 ((([p, q, r, s] : List UInt8).getD i 0).toNat : Int)) e'
  exact run_conv_text h src dst e hs he hd [p, q, r, s] 0 4 4 rfl (by omega) (fun i _ => by rw [Nat.zero_add])
theorem w_byte (x : BitVec 32) (k : Nat) : W32 x / 2 ^ k % (256 : Int) = ((UInt8.ofNat (x.toNat / 2 ^ k)).toNat : Int) := by
  rw [UInt8.toNat_ofNat']; unfold W32; simp
theorem w_byte0 (x : BitVec 32) : W32 x % (256 : Int) = ((UInt8.ofNat x.toNat).toNat : Int) := by
  rw [UInt8.toNat_ofNat']; unfold W32; simp
end Go.Proofs.YtcfpmofmjnhonaaGreatDoor
/- A region that draws its order: operations that only read, or call what leaves a world of a class, ahead of a tail in one forced order (a store of what they yield): one walk serves. No program is imported. -/
namespace Go.Proofs.YtcfpmofmjnhonaaGreatDoor
open Go.RowKit

section
variable {P : Program} {ops H : Array Oper} {md : Region.Mode} {C : World → Prop}

/-- The flags of the head, and none of the tail's. -/
def flags (g : Nat) (lh : Array Bool) : Array Bool := lh ++ Array.replicate g false
theorem flags_get (g : Nat) (lh : Array Bool) (i : Nat) (d : Bool) (h : i < lh.size) : (flags g lh).getD i d = lh.getD i d := by
  unfold flags
  simp [Array.getElem?_append_left h]
theorem flags_tail (g : Nat) (lh : Array Bool) (i : Nat) (h : lh.size ≤ i) (h2 : i < lh.size + g) : (flags g lh).getD i true = false := by
  unfold flags
  rw [Array.getD_eq_getD_getElem?, Array.getElem?_append_right h, Array.getElem?_eq_getElem (by simp; omega)]
  simp
theorem flags_set (g : Nat) (lh : Array Bool) (i : Nat) (h : i < lh.size) : (flags g lh).setIfInBounds i true = flags g (lh.setIfInBounds i true) := by
  unfold flags
  apply Array.ext_getElem?
  intro j
  rw [Array.getElem?_setIfInBounds]
  by_cases hij : i = j
  · subst hij
    rw [if_pos rfl, Array.getElem?_append_left (by simpa using h), Array.getElem?_setIfInBounds, if_pos rfl]
    simp [h]; omega
  · rw [if_neg hij]
    by_cases hj : j < lh.size
    · rw [Array.getElem?_append_left hj, Array.getElem?_append_left (by simpa using hj), Array.getElem?_setIfInBounds, if_neg hij]
    · rw [Array.getElem?_append_right (by omega), Array.getElem?_append_right (by simp; omega)]
      simp
/-- What is checked of the region's text: the head's operations have no guard and wait for earlier ones alone. -/
def headOk (md : Region.Mode) (H : Array Oper) : Bool := (List.range H.size).all fun i => match H[i]? with
  | some o => o.guard.isNone && o.after.all fun e => !Region.binds md e || decide (e.on < i)
  | none => true
theorem headOk_spec (h : headOk md H = true) {i : Nat} {o : Oper} (ho : H[i]? = some o) : o.guard = none ∧ ∀ e ∈ o.after, Region.binds md e = true → e.on < i := by
  have hi : i < H.size := (Array.getElem?_eq_some_iff.1 ho).1
  have h1 := List.all_eq_true.1 h i (List.mem_range.2 hi)
  rw [ho] at h1
  simp only [Bool.and_eq_true] at h1
  refine ⟨Option.isNone_iff_eq_none.1 h1.1, fun e he hb => ?_⟩
  have := Array.all_eq_true'.1 h1.2 e he
  simpa [hb] using this
def unlisted (lh : Array Bool) : Nat := (lh.toList.filter (!·)).length

theorem unlisted_zero {lh : Array Bool} (h : unlisted lh = 0) (i : Nat) (hi : i < lh.size) : lh.getD i false = true := by
  have h0 : lh.toList.filter (!·) = [] := List.eq_nil_of_length_eq_zero h
  rw [List.filter_eq_nil_iff] at h0
  have := h0 lh[i] (by simp)
  simpa [hi] using this
theorem unlisted_some {lh : Array Bool} {f : Nat} (h : unlisted lh = f + 1) : ∃ i, i < lh.size ∧ lh.getD i true = false ∧ ∀ j, j < i → lh.getD j false = true := by
  have hex : ∃ i, i < lh.size ∧ lh.getD i true = false := by
    have hne : lh.toList.filter (!·) ≠ [] := fun e => by unfold unlisted at h; rw [e] at h; simp at h
    obtain ⟨x, hx⟩ := List.exists_mem_of_ne_nil _ hne
    rw [List.mem_filter] at hx
    obtain ⟨i, hi, e⟩ := List.getElem_of_mem hx.1
    refine ⟨i, by simpa using hi, ?_⟩
    have hx2 : x = false := by simpa using hx.2
    have hi' : i < lh.size := by simpa using hi
    simp [hi']
    rw [← hx2, ← e]; simp
  have key : ∀ k, (∃ i, i ≤ k ∧ i < lh.size ∧ lh.getD i true = false) → ∃ i, i < lh.size ∧ lh.getD i true = false ∧ ∀ j, j < i → lh.getD j false = true := by
    intro k
    induction k using Nat.strongRecOn with
    | _ k ih =>
      rintro ⟨i, hik, hi, hf⟩
      by_cases hall : ∀ j, j < i → lh.getD j false = true
      · exact ⟨i, hi, hf, hall⟩
      · obtain ⟨j, hj⟩ := Classical.not_forall.1 hall
        obtain ⟨hji, hjf⟩ := Classical.not_imp.1 hj
        have hjs : j < lh.size := by omega
        have : lh.getD j true = false := by
          simp [hjs] at hjf ⊢; exact hjf
        exact ih j (by omega) ⟨j, Nat.le_refl _, hjs, this⟩
  obtain ⟨i, hi, hf⟩ := hex
  exact key i ⟨i, Nat.le_refl _, hi, hf⟩
theorem unlisted_set {lh : Array Bool} {f i : Nat} (h : unlisted lh = f + 1) (hi : i < lh.size) (hf : lh.getD i true = false) : unlisted (lh.setIfInBounds i true) = f := by
  have hfi : lh[i] = false := by simpa [hi] using hf
  unfold unlisted at *
  have key : ∀ (l : List Bool) (k : Nat) (hk : k < l.length), l[k] = false → ((l.set k true).filter (!·)).length + 1 = (l.filter (!·)).length := by
    intro l
    induction l with
    | nil => intro k hk; simp at hk
    | cons x l ih =>
      intro k hk hx
      cases k with
      | zero => simp at hx; subst hx; simp
      | succ k =>
        have := ih k (by simpa using hk) (by simpa using hx)
        simp only [List.set_cons_succ, List.filter_cons]
        cases x <;> simp <;> omega
  have := key lh.toList i (by simpa using hi) (by simpa using hfi)
  rw [Array.toList_setIfInBounds]
  omega

theorem wpAny_of_headQ {n g : Nat} {tail : List Oper} {Q' : Exit → Act → World → Prop} (hn : H.size = n) (hg : ops.size = n + g) (hg0 : 0 < g) (hget : ∀ i, i < n → H[i]? = ops[i]?) (hok : headOk md H = true)
    (hs : Region.sinkB md ops n = true) (hc : Region.chainB md ops n = true) (htl : ∀ j, tail[j]? = ops[n + j]?) (hgl : tail.length = g)
    (hseq : Region.seqB md ops g n (flags g (Array.replicate n true)) = true) :
    ∀ (f : Nat) (lh : Array Bool) (a : Act) (w : World), lh.size = n → unlisted lh = f →
      (∀ i o, H[i]? = some o → lh.getD i false = true → ∀ e ∈ o.after, Region.binds md e = true → lh.getD e.on false = true) → C w →
      wpAnyQ P md H C (fun a' => ∀ w', C w' → wpList P ops Q' tail a' w') f lh a → wpAny P md ops Q' (f + g) (flags g lh) a w
  | 0, lh, a, w, hl, hu, _, hw, h => by
    have e : lh = Array.replicate n true := by
      apply Array.ext
      · simp [hl]
      · intro i h1 h2
        have := unlisted_zero hu i h1
        simpa [h1] using this
    rw [Nat.zero_add, e, ← hgl]
    exact wpAny_of_seq tail n _ a w htl (by rw [hgl]; exact hseq) (h.2 w hw)
  | f + 1, lh, a, w, hl, hu, hcl, hw, h => by
    obtain ⟨i0, hi0, hf0, hall0⟩ := unlisted_some hu
    have hin0 : i0 < n := by omega
    have inv : HeadInv md ops n (flags g lh) := by
      refine ⟨by unfold flags; simp [hl, hg], fun j oj hoj hlj e he hb => ?_, fun t ht ht' => flags_tail g lh t (by omega) (by omega)⟩
      have hjn : j < n := by
        rcases Nat.lt_or_ge j n with h' | h'
        · exact h'
        · rcases Nat.lt_or_ge j (n + g) with h2 | h2
          · have := flags_tail g lh j (by omega) (by omega)
            have hz : j < (flags g lh).size := by unfold flags; simp; omega
            simp [hz] at this hlj
            rw [this] at hlj; cases hlj
          · have hz : (flags g lh).size ≤ j := by unfold flags; simp; omega
            simp [Array.getElem?_eq_none hz] at hlj
      rw [flags_get g lh j false (by omega)] at hlj
      have hoj' : H[j]? = some oj := by rw [hget j hjn]; exact hoj
      have h3 := (headOk_spec hok hoj').2 e he hb
      rw [flags_get g lh e.on false (by omega)]
      exact hcl j oj hoj' hlj e he hb
    have hlt : ∀ i, i ∈ Region.ready md ops (flags g lh) → i < n := fun i hi => by
      rcases Nat.lt_or_ge i n with h' | h'
      · exact h'
      · exact absurd hi (tail_waits hs hc (by omega) inv _ i0 rfl hin0 (by rw [flags_get g lh i0 true (by omega)]; exact hf0) i h')
    have hready : ∀ i, i ∈ Region.ready md ops (flags g lh) → i ∈ Region.ready md H lh := fun i hi => by
      have hin := hlt i hi
      obtain ⟨h1, o, ho, h2⟩ := mem_ready.1 hi
      have ho' : H[i]? = some o := by rw [hget i hin]; exact ho
      refine mem_ready.2 ⟨by rw [flags_get g lh i true (by omega)] at h1; exact h1, o, ho', fun e he hb => ?_⟩
      have h3 := (headOk_spec hok ho').2 e he hb
      have h4 := h2 e he hb
      rw [flags_get g lh e.on false (by omega)] at h4; exact h4
    have hne : i0 ∈ Region.ready md ops (flags g lh) := by
      obtain ⟨o, ho⟩ : ∃ o, H[i0]? = some o := ⟨_, Array.getElem?_eq_getElem (by omega)⟩
      refine mem_ready.2 ⟨by rw [flags_get g lh i0 true (by omega)]; exact hf0, o, by rw [← hget i0 hin0]; exact ho, fun e he hb => ?_⟩
      have h3 := (headOk_spec hok ho).2 e he hb
      rw [flags_get g lh e.on false (by omega)]
      exact hall0 e.on h3
    rw [show f + 1 + g = (f + g) + 1 by omega]
    refine ⟨fun h0 => (by rw [h0] at hne; cases hne), fun i hi => ?_⟩
    have hin := hlt i hi
    have hrd := hready i hi
    have hq := h.2 i hrd
    obtain ⟨hun, o, ho, hed⟩ := mem_ready.1 hrd
    have hgd := (headOk_spec hok ho).1
    have hwt : ∀ (ys : Nat → Option Bool), Region.wanted o ys = true := fun ys => by unfold Region.wanted; rw [hgd]
    unfold qOp at hq
    rw [ho] at hq
    simp only [hwt, if_true] at hq
    have ho2 : ops[i]? = some o := by rw [← hget i hin]; exact ho
    unfold wpOp
    rw [ho2]
    simp only [hwt, if_true]
    refine .inl (Oper.wp_of_quiet hw (fun a' w' hw' hk => ?_) hq)
    rw [flags_set g lh i (by omega)]
    refine wpAny_of_headQ hn hg hg0 hget hok hs hc htl hgl hseq f _ a' w' (by simp [hl]) (unlisted_set hu (by omega) hun) ?_ hw' hk
    intro j oj hoj hlj e he hb
    by_cases hij : i = j
    · subst hij
      have : oj = o := Option.some.inj (hoj.symm.trans ho)
      subst this
      exact getD_set_true (hed e he hb)
    · rw [getD_set_ne false hij] at hlj
      exact getD_set_true (hcl j oj hoj hlj e he hb)

/-- The region: n operations that are quiet in the class C, then a forced tail. -/
theorem wp_region_head_tail {id : Nat} {Q : Exit → Act → World → Prop} {a : Act} {w : World} {l : List Oper} (C : World → Prop) (n : Nat) (hm : P.follows .mixedOrders = true)
    (hB : (decide (n < l.length) && Region.lexB .any (l.take n).toArray && headOk .any (l.take n).toArray && Region.sinkB .any l.toArray n && Region.chainB .any l.toArray n && Region.seqB .any l.toArray (l.length - n) n (flags (l.length - n) (Array.replicate n true))) = true)
    (hC : C { w with drawn := w.drawn + 1 })
    (h : wpQuiet P (l.take n).toArray C (fun a' => ∀ w', C w' → wpList P l.toArray Q (l.drop n) a' w') (l.take n) a) : (Code.region id l.toArray true).wp P Q a w := by
  simp only [Bool.and_eq_true, decide_eq_true_eq] at hB
  obtain ⟨⟨⟨⟨⟨h0, h1⟩, h2⟩, h3⟩, h4⟩, h5⟩ := hB
  have htk : (l.take n).length = n := by rw [List.length_take]; omega
  refine wp_region_any hm ?_
  simp only [Region.lexB, Bool.and_eq_true] at h1
  have hq := wpAnyQ_lex (P := P) (C := C) (md := .any) h1.1 (l.take n) 0 (Array.replicate (l.take n).length false) a (by intro j; simp) (by simpa using h1.2) h
  have := wpAny_of_headQ (P := P) (ops := l.toArray) (md := .any) (H := (l.take n).toArray) (n := n) (g := l.length - n) (tail := l.drop n) (Q' := Q) (C := C) (by simp; omega) (by simp; omega) (by omega)
    (fun i hi => by simp [hi]) h2 h3 h4 (fun j => by simp [List.getElem?_drop]) (by simp) h5 (l.take n).length (Array.replicate (l.take n).length false) a _ (by simp; omega)
    (by unfold unlisted; simp) (fun i o _ hl => by rw [getD_replicate_false] at hl; cases hl) hC hq
  have e1 : (l.take n).length + (l.length - n) = l.toArray.size := by rw [htk]; simp; omega
  have e2 : flags (l.length - n) (Array.replicate (l.take n).length false) = Array.replicate l.toArray.size false := by
    unfold flags; rw [Array.replicate_append_replicate, e1]
  rw [e1, e2] at this
  exact this
end
end Go.Proofs.YtcfpmofmjnhonaaGreatDoor
