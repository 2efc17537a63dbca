/- What the padding does to a running sum. No program is walked here. -/
import Derived.Test.YthbfmdgnhipobaaDoorFeed
import Derived.Test.YthbfmdgnhipobaaDoorEight
namespace Go.Proofs.YthbfmdgnhipobaaDoor
open Go.RowKit

/-- A state's words as bytes, the greatest of each first. -/
def sumText (st : Nat → BitVec 32) : List UInt8 := (List.range 32).map fun i => UInt8.ofNat ((st (i / 4)).toNat / 2 ^ (24 - 8 * (i % 4)))
theorem sumText_length (st : Nat → BitVec 32) : (sumText st).length = 32 := by simp [sumText]
theorem sumText_get (st : Nat → BitVec 32) (i : Nat) (h : i < 32) : (sumText st).getD i 0 = UInt8.ofNat ((st (i / 4)).toNat / 2 ^ (24 - 8 * (i % 4))) := by simp [sumText, List.getD_eq_getElem?_getD, h]
/-- The state ahead of all text. -/
def ivTab : List Nat := [1779033703, 3144134277, 1013904242, 2773480762, 1359893119, 2600822924, 528734635, 1541459225]
def iv (i : Nat) : BitVec 32 := BitVec.ofNat 32 (ivTab.getD i 0)
def rs0 : RS := { st := iv, blk := fun _ => 0, size := 0 }
/-- The padding: a bit of 1, noughts, how many bits there were. -/
def padding (n : Nat) : List UInt8 := 0x80 :: (List.replicate ((119 - n % 64) % 64) 0 ++ be8 (8 * n % 18446744073709551616))
def sumOf (l : List UInt8) : List UInt8 := sumText (feed rs0 (l ++ padding l.length)).st


theorem wordOf_congr {f g : Nat → Nat} (h : ∀ i, i < 64 → f i = g i) (k : Nat) (hk : k < 16) (j : Nat) (hj : j ≤ 4) : wordOf f k j = wordOf g k j := by
  induction j with
  | zero => rfl
  | succ j ih => unfold wordOf; rw [ih (by omega), h (4 * k + j) (by omega)]
theorem wfill_congr {f g : Nat → Nat} (h : ∀ i, i < 64 → f i = g i) : wfill f 16 0 = wfill g 16 0 := by
  funext i; unfold wfill
  by_cases hi : i < 16
  · rw [if_pos hi, if_pos hi, wordOf_congr h i hi 4 (by omega)]
  · rw [if_neg hi, if_neg hi]; rfl
theorem wext_congr {f g : Nat → Nat} (h : ∀ i, i < 64 → f i = g i) (n : Nat) : wext f n = wext g n := by
  induction n with
  | zero => exact wfill_congr h
  | succ n ih => unfold wext; rw [ih]
theorem mixed_congr {f g : Nat → Nat} (h : ∀ i, i < 64 → f i = g i) (st : Nat → BitVec 32) : mixed st f = mixed st g := by
  funext i; unfold mixed; rw [wext_congr h]

def zeros (n : Nat) : List UInt8 := List.replicate n 0
theorem zeros_length (n : Nat) : (zeros n).length = n := by simp [zeros]
theorem zeros_get (n i : Nat) : ((zeros n).getD i 0).toNat = 0 := by
  unfold zeros; rw [List.getD_eq_getElem?_getD]
  by_cases h : i < n
  · simp [h]
  · rw [List.getElem?_eq_none (by simp; omega)]; rfl
theorem lay_zeros (blk : Nat → Nat) (p n i : Nat) : lay blk p (zeros n) i = if p ≤ i ∧ i < p + n then 0 else blk i := by
  unfold lay; rw [zeros_length, zeros_get]
theorem lay_nil (blk : Nat → Nat) (p : Nat) : lay blk p [] = blk := by funext i; unfold lay; rw [if_neg (by simp)]

/-- The state behind the padding, as the program goes about it: from place p of the block on noughts; where there is no room for the size, a block of its own. -/
def padded (st : Nat → BitVec 32) (blk : Nat → Nat) (p n : Nat) : Nat → BitVec 32 :=
  if 56 < p then mixed (mixed st (lay blk p (zeros (64 - p)))) (lay (lay (lay blk p (zeros (64 - p))) 0 (zeros 64)) 56 (be8 n))
  else mixed st (lay (lay blk p (zeros (64 - p))) 56 (be8 n))

theorem feed_zeros (r : RS) (h : r.size % 64 ≤ 56) (n : Nat) : (feed (feed r (zeros (56 - r.size % 64))) (be8 n)).st = mixed r.st (lay (lay r.blk (r.size % 64) (zeros (64 - r.size % 64))) 56 (be8 n)) := by
  have e1 : feed r (zeros (56 - r.size % 64)) = { st := r.st, blk := lay r.blk (r.size % 64) (zeros (56 - r.size % 64)), size := r.size + (56 - r.size % 64) } := by
    by_cases h0 : r.size % 64 = 56
    · rw [h0]; show feed r [] = _; rw [feed_nil]; show r = { st := r.st, blk := lay r.blk 56 [], size := r.size + 0 }; rw [lay_nil]; rfl
    · rw [feed_piece _ r (by intro e; have := congrArg List.length e; rw [zeros_length] at this; simp at this; omega) (by rw [zeros_length]; omega)]
      rw [zeros_length, if_neg (by omega)]
  rw [e1]
  have e2 := feed_piece (be8 n) { st := r.st, blk := lay r.blk (r.size % 64) (zeros (56 - r.size % 64)), size := r.size + (56 - r.size % 64) } (by intro e; have := congrArg List.length e; rw [be8_length] at this; simp at this) (by rw [be8_length]; show (r.size + (56 - r.size % 64)) % 64 + 8 ≤ 64; omega)
  rw [e2]
  simp only [be8_length]
  rw [if_pos (by omega), show (r.size + (56 - r.size % 64)) % 64 = 56 from by omega]
  apply mixed_congr
  intro i hi
  unfold lay
  rw [be8_length, zeros_length, zeros_length]
  by_cases h5 : 56 ≤ i
  · have a1 : 56 ≤ i ∧ i < 56 + 8 := by omega
    rw [if_pos a1, if_pos a1]
  · have a1 : ¬ (56 ≤ i ∧ i < 56 + 8) := by omega
    rw [if_neg a1, if_neg a1]
    by_cases h6 : r.size % 64 ≤ i
    · have a2 : r.size % 64 ≤ i ∧ i < r.size % 64 + (56 - r.size % 64) := by omega
      have a3 : r.size % 64 ≤ i ∧ i < r.size % 64 + (64 - r.size % 64) := by omega
      rw [if_pos a2, if_pos a3, zeros_get, zeros_get]
    · have a2 : ¬ (r.size % 64 ≤ i ∧ i < r.size % 64 + (56 - r.size % 64)) := by omega
      have a3 : ¬ (r.size % 64 ≤ i ∧ i < r.size % 64 + (64 - r.size % 64)) := by omega
      rw [if_neg a2, if_neg a3]
theorem feed_padding (r : RS) : (feed r (padding r.size)).st = padded (feed r [0x80]).st (feed r [0x80]).blk ((r.size + 1) % 64) (8 * r.size % 18446744073709551616) := by
  obtain ⟨q, hq⟩ : ∃ q, feed r [0x80] = q := ⟨_, rfl⟩
  have hs : q.size = r.size + 1 := by rw [← hq, feed_size]; rfl
  have e : padding r.size = [0x80] ++ (zeros ((119 - r.size % 64) % 64) ++ be8 (8 * r.size % 18446744073709551616)) := rfl
  rw [e, feed_append, feed_append, hq, ← hs]
  unfold padded
  by_cases hp : 56 < q.size % 64
  · rw [if_pos hp]
    have ez : zeros ((119 - r.size % 64) % 64) = zeros (64 - q.size % 64) ++ zeros 56 := by
      unfold zeros; rw [List.replicate_append_replicate]; congr 1; omega
    rw [ez, feed_append]
    have e1 := feed_piece (zeros (64 - q.size % 64)) q (by intro e; have := congrArg List.length e; rw [zeros_length] at this; simp at this; omega) (by rw [zeros_length]; omega)
    rw [zeros_length, if_pos (by omega)] at e1
    rw [e1]
    have h := feed_zeros { st := mixed q.st (lay q.blk (q.size % 64) (zeros (64 - q.size % 64))), blk := lay q.blk (q.size % 64) (zeros (64 - q.size % 64)), size := q.size + (64 - q.size % 64) } (by show (q.size + (64 - q.size % 64)) % 64 ≤ 56; omega) (8 * r.size % 18446744073709551616)
    simp only [show (q.size + (64 - q.size % 64)) % 64 = 0 from by omega] at h
    exact h
  · rw [if_neg hp]
    have ez : (119 - r.size % 64) % 64 = 56 - q.size % 64 := by omega
    rw [ez]
    exact feed_zeros q (by omega) _
theorem over_zero (st : Nat → BitVec 32) (blk : Nat → Nat) (size p n : Nat) (hl : p + n ≤ 64) (i : Nat) : over (rc st blk size) (8 + p) (List.replicate n (.int .u8 0)) i = rc st (lay blk p (zeros n)) size i := by
  rw [← over_rc st blk size p (zeros n) (by rw [zeros_length]; exact hl) i]
  congr 1
  unfold bcells zeros
  simp
end Go.Proofs.YthbfmdgnhipobaaDoor
