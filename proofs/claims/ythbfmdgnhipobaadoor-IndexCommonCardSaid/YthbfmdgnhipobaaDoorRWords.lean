/- The words of a block, as the document reckons them. No program is walked here. -/
import Derived.Test.YthbfmdgnhipobaaDoorPad
namespace Go.Proofs.YthbfmdgnhipobaaDoor
open Go.RowKit

theorem wext_stable (blk : Nat → Nat) (i m : Nat) : ∀ k, i < 16 + m → wext blk (m + k) i = wext blk m i
  | 0, _ => rfl
  | k + 1, h => by
    have e : wext blk (m + (k + 1)) i = wext blk (m + k) i := by
      show upd (wext blk (m + k)) (m + k + 16) _ i = _
      unfold upd; rw [if_neg (by omega)]
    rw [e, wext_stable blk i m k h]
/-- All the words. -/
def wall (blk : Nat → Nat) : Nat → BitVec 32 := wext blk 48
theorem wall_low (blk : Nat → Nat) (i : Nat) (h : i < 16) : wall blk i = wordOf blk i 4 := by
  unfold wall
  rw [show 48 = 0 + 48 from rfl, wext_stable blk i 0 48 (by omega)]
  show wfill blk 16 0 i = _
  unfold wfill; rw [if_pos h]
theorem wall_high (blk : Nat → Nat) (n : Nat) (h : n < 48) : wall blk (n + 16) = ((wall blk n + s0 (wall blk (n + 1))) + wall blk (n + 9)) + s1 (wall blk (n + 14)) := by
  have e : ∀ i, i < 16 + n → wall blk i = wext blk n i := fun i hi => by
    unfold wall; rw [show 48 = n + (48 - n) from by omega]; exact wext_stable blk i n _ hi
  have e2 : wall blk (n + 16) = wext blk (n + 1) (n + 16) := by
    unfold wall; rw [show 48 = (n + 1) + (47 - n) from by omega]; exact wext_stable blk (n + 16) (n + 1) _ (by omega)
  rw [e2, e n (by omega), e (n + 1) (by omega), e (n + 9) (by omega), e (n + 14) (by omega)]
  show upd (wext blk n) (n + 16) _ (n + 16) = _
  unfold upd; rw [if_pos rfl]
theorem wall_alt (blk : Nat → Nat) (t : Nat) (h : 16 ≤ t) (h2 : t < 64) : ((s1 (wall blk (t - 2)) + wall blk (t - 7)) + s0 (wall blk (t - 15))) + wall blk (t - 16) = wall blk t := by
  obtain ⟨n, rfl⟩ : ∃ n, t = n + 16 := ⟨t - 16, by omega⟩
  rw [wall_high blk n (by omega), show n + 16 - 2 = n + 14 from by omega, show n + 16 - 7 = n + 9 from by omega, show n + 16 - 15 = n + 1 from by omega, show n + 16 - 16 = n from by omega]
  generalize s1 (wall blk (n + 14)) = p; generalize s0 (wall blk (n + 1)) = q; generalize wall blk (n + 9) = r; generalize wall blk n = u
  ac_rfl
/-- The words up to place t; then noughts. -/
def wupto (blk : Nat → Nat) (t : Nat) : Nat → BitVec 32 := fun i => if i < t then wall blk i else 0
theorem wupto_next (blk : Nat → Nat) (t : Nat) : upd (wupto blk t) t (wall blk t) = wupto blk (t + 1) := by
  funext i; unfold upd wupto
  by_cases h : i = t
  · subst h; rw [if_pos rfl, if_pos (by omega)]
  · rw [if_neg h]
    by_cases h2 : i < t
    · rw [if_pos h2, if_pos (by omega)]
    · rw [if_neg h2, if_neg (by omega)]
theorem word_step (x : BitVec 32) (c : Nat) (h : c < 256) : x * 256 + BitVec.ofNat 32 c = (x <<< 8) ||| BitVec.ofNat 32 c := by
  have e : x * 256 = x <<< 8 := by
    apply BitVec.eq_of_toNat_eq
    rw [BitVec.toNat_mul, BitVec.toNat_shiftLeft, Nat.shiftLeft_eq]
    rfl
  rw [e]
  apply BitVec.add_eq_or_of_and_eq_zero
  ext i hi
  simp
  intro h1 h2
  have : c.testBit i = false := Nat.testBit_lt_two_pow (Nat.lt_of_lt_of_le h (by
    have : 2 ^ 8 ≤ 2 ^ i := Nat.pow_le_pow_right (by omega) (by omega)
    simpa using this))
  rw [← BitVec.getLsbD_eq_getElem, BitVec.getLsbD_ofNat, this]; simp
theorem rword_value (x : BitVec 32) (c : Nat) (h : c < 256) : (W32 x * 256 + (c : Int)) % (4294967296 : Int) = W32 ((x <<< 8) ||| BitVec.ofNat 32 c) := by
  rw [← word_step x c h, ← w_add, ← w_mul, W32_ofNat c (by omega)]
  show _ = (W32 x * 256 % 4294967296 + _) % 4294967296
  omega
theorem rword_value2 (x : BitVec 32) (c : Nat) (h : c < 256) : W32 x * 256 % (4294967296 : Int) + (c : Int) = W32 ((x <<< 8) ||| BitVec.ofNat 32 c) := by
  rw [← rword_value x c h]; omega
/-- A round, as the document writes it. -/
theorem rstep_ref (s : Nat → BitVec 32) (k w : BitVec 32) : ∀ i, i < 8 → rstep s k w i =
    (let one := (((s 7 + S1 (s 4)) + ch (s 4) (s 5) (s 6)) + k) + w
     let two := S0 (s 0) + maj (s 0) (s 1) (s 2)
     if i = 0 then one + two else if i = 4 then s 3 + one else s (i - 1)) := by
  intro i _
  have e : (s 7 + S1 (s 4)) + ((ch (s 4) (s 5) (s 6) + k) + w) = (((s 7 + S1 (s 4)) + ch (s 4) (s 5) (s 6)) + k) + w := by
    generalize s 7 + S1 (s 4) = p; generalize ch (s 4) (s 5) (s 6) = q
    ac_rfl
  unfold rstep
  simp only [e]
/-- The state behind the blocks of a text. -/
def blocks (M : List UInt8) : Nat → Nat → BitVec 32
  | 0 => iv
  | j + 1 => mixed (blocks M j) (fun i => (M.getD (64 * j + i) 0).toNat)
theorem blocks_feed (M : List UInt8) : ∀ j, 64 * j ≤ M.length → (feed rs0 (M.take (64 * j))).st = blocks M j
  | 0, _ => rfl
  | j + 1, h => by
    have e : M.take (64 * (j + 1)) = M.take (64 * j) ++ (M.drop (64 * j)).take 64 := by
      rw [show 64 * (j + 1) = 64 * j + 64 from by omega, List.take_add]
    have hl : ((M.drop (64 * j)).take 64).length = 64 := by rw [List.length_take, List.length_drop]; omega
    have ih := blocks_feed M j (by omega)
    have hs : (feed rs0 (M.take (64 * j))).size = 64 * j := by
      rw [feed_size, List.length_take]; show 0 + min (64 * j) M.length = _; omega
    rw [e, feed_append]
    rw [feed_piece _ _ (by intro e; rw [e] at hl; simp at hl) (by rw [hs, hl]; omega)]
    rw [hs, hl, if_pos (by omega), show 64 * j % 64 = 0 from by omega, ih]
    show mixed (blocks M j) _ = mixed (blocks M j) _
    apply mixed_congr
    intro i hi
    unfold lay
    rw [hl, if_pos (by omega)]
    congr 1
    rw [List.getD_eq_getElem?_getD, List.getD_eq_getElem?_getD, Nat.sub_zero, List.getElem?_take, if_pos hi, List.getElem?_drop]
/-- Four bytes of a word. -/
def quad (x : BitVec 32) : List UInt8 := [UInt8.ofNat (x.toNat / 2 ^ 24), UInt8.ofNat (x.toNat / 2 ^ 16), UInt8.ofNat (x.toNat / 2 ^ 8), UInt8.ofNat x.toNat]
theorem sumText_quad (st : Nat → BitVec 32) (j : Nat) (h : j < 8) : (sumText st).take (4 * (j + 1)) = (sumText st).take (4 * j) ++ quad (st j) := by
  unfold sumText
  rw [← List.map_take, ← List.map_take, List.take_range, List.take_range, show min (4 * (j + 1)) 32 = 4 * j + 4 from by omega, show min (4 * j) 32 = 4 * j from by omega, List.range_add, List.map_append]
  congr 1
  simp only [List.map_map]
  have e0 : (4 * j + 0) / 4 = j := by omega
  have e1 : (4 * j + 1) / 4 = j := by omega
  have e2 : (4 * j + 2) / 4 = j := by omega
  have e3 : (4 * j + 3) / 4 = j := by omega
  have m0 : (4 * j + 0) % 4 = 0 := by omega
  have m1 : (4 * j + 1) % 4 = 1 := by omega
  have m2 : (4 * j + 2) % 4 = 2 := by omega
  have m3 : (4 * j + 3) % 4 = 3 := by omega
  rw [show List.range 4 = [0, 1, 2, 3] from rfl]
  simp only [List.map_cons, List.map_nil, Function.comp, e0, e1, e2, e3, m0, m1, m2, m3, quad]
  simp
theorem run_conv4 {P : Program} (w : World) (src dst e e' : TypeId) (hs : P.underlying src = some (.slice e)) (he : P.underlying e = some (.int .u8)) (hd : P.underlying dst = some .string)
    (p q r s : UInt8) (a b c d : Int) (ha : a = (p.toNat : Int)) (hb : b = (q.toNat : Int)) (hc : c = (r.toNat : Int)) (hd' : d = (s.toNat : Int)) :
    (convert src dst (.slice (some ⟨w.heap.size, 0, none⟩) 4 4)).run P (w.alloc (.cells #[.int .u8 a, .int .u8 b, .int .u8 c, .int .u8 d] e')) = .ok (.string (txt [p, q, r, s])) (w.alloc (.cells #[.int .u8 a, .int .u8 b, .int .u8 c, .int .u8 d] e')) := by
  subst ha hb hc hd'
  have h := Holds.new w 4 (fun i => Value.int .u8 ((([p, q, r, s] : List UInt8).getD i 0).toNat : Int)) e'
  exact run_conv_text h src dst e hs he hd [p, q, r, s] 0 4 4 rfl (by omega) (fun i _ => by rw [Nat.zero_add])
theorem w_byte (x : BitVec 32) (k : Nat) : W32 x / 2 ^ k % (256 : Int) = ((UInt8.ofNat (x.toNat / 2 ^ k)).toNat : Int) := by
  rw [UInt8.toNat_ofNat']; unfold W32; simp
theorem w_byte0 (x : BitVec 32) : W32 x % (256 : Int) = ((UInt8.ofNat x.toNat).toNat : Int) := by
  rw [UInt8.toNat_ofNat']; unfold W32; simp
theorem txt_append (l m : List UInt8) : txt l ++ txt m = txt (l ++ m) := by
  rw [← txt_of (txt l ++ txt m), ByteArray.data_append]; simp [txt]
end Go.Proofs.YthbfmdgnhipobaaDoor
