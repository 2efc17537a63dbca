/- What a running sum is, byte by byte. -/
import Derived.Test.YthbfmdgnhipobaaDoorMix
import Derived.Test.YthbfmdgnhipobaaDoorCopy
namespace Go.Proofs.YthbfmdgnhipobaaDoor
open Go.RowKit

structure RS where
  st : Nat → BitVec 32
  blk : Nat → Nat
  size : Nat
def RS.cells (r : RS) : Nat → Value := rc r.st r.blk r.size
def feed1 (r : RS) (b : UInt8) : RS :=
  { st := if (r.size + 1) % 64 = 0 then mixed r.st (upd r.blk (r.size % 64) b.toNat) else r.st, blk := upd r.blk (r.size % 64) b.toNat, size := r.size + 1 }
def feed (r : RS) (l : List UInt8) : RS := l.foldl feed1 r
theorem feed_nil (r : RS) : feed r [] = r := rfl
theorem feed_cons (r : RS) (b : UInt8) (l : List UInt8) : feed r (b :: l) = feed (feed1 r b) l := rfl
theorem feed_append (r : RS) (l m : List UInt8) : feed r (l ++ m) = feed (feed r l) m := by unfold feed; rw [List.foldl_append]
theorem feed_size (r : RS) (l : List UInt8) : (feed r l).size = r.size + l.length := by
  induction l generalizing r with
  | nil => rfl
  | cons b l ih => rw [feed_cons, ih]; simp [feed1]; omega
/-- A block over which bytes are laid from place p on. -/
def lay (blk : Nat → Nat) (p : Nat) (l : List UInt8) : Nat → Nat := fun i => if p ≤ i ∧ i < p + l.length then (l.getD (i - p) 0).toNat else blk i
theorem lay_cons (blk : Nat → Nat) (p : Nat) (b : UInt8) (l : List UInt8) : lay (upd blk p b.toNat) (p + 1) l = lay blk p (b :: l) := by
  funext i
  unfold lay upd
  simp only [List.length_cons]
  by_cases h : i = p
  · subst h; rw [if_neg (by omega), if_pos rfl, if_pos (by omega)]; simp
  · by_cases h2 : p + 1 ≤ i ∧ i < p + 1 + l.length
    · rw [if_pos h2, if_pos (by omega)]
      obtain ⟨j, rfl⟩ : ∃ j, i = p + 1 + j := ⟨i - (p + 1), by omega⟩
      rw [show p + 1 + j - (p + 1) = j from by omega, show p + 1 + j - p = j + 1 from by omega]
      rfl
    · rw [if_neg h2, if_neg h, if_neg (by omega)]
theorem feed_piece (l : List UInt8) : ∀ r : RS, l ≠ [] → r.size % 64 + l.length ≤ 64 →
    feed r l = { st := if (r.size + l.length) % 64 = 0 then mixed r.st (lay r.blk (r.size % 64) l) else r.st, blk := lay r.blk (r.size % 64) l, size := r.size + l.length } := by
  induction l with
  | nil => intro r h; exact absurd rfl h
  | cons b l ih =>
    intro r _ hl
    simp only [List.length_cons] at hl
    rw [feed_cons]
    cases l with
    | nil =>
      rw [feed_nil]
      have e : lay r.blk (r.size % 64) [b] = upd r.blk (r.size % 64) b.toNat := by
        rw [← lay_cons]; funext i; unfold lay; rw [if_neg (by simp)]
      simp only [feed1, e, List.length_cons, List.length_nil]
    | cons c l =>
      simp only [List.length_cons] at hl
      have hn : ¬ r.size % 64 + 1 = 0 := by omega
      have hm : (r.size + 1) % 64 = r.size % 64 + 1 := by omega
      rw [ih (feed1 r b) (by simp) (by simp only [feed1, List.length_cons]; omega)]
      simp only [feed1, hn, if_false, hm, lay_cons, List.length_cons]
      simp only [show r.size + 1 + (l.length + 1) = r.size + (l.length + 1 + 1) from by omega]
theorem feed_none (r : RS) (l : List UInt8) (h : l.length = 0) : feed r l = r := by rw [List.eq_nil_of_length_eq_zero h]; rfl
theorem over_rc (st : Nat → BitVec 32) (blk : Nat → Nat) (size p : Nat) (l : List UInt8) (hl : p + l.length ≤ 64) (i : Nat) : over (rc st blk size) (8 + p) (bcells l) i = rc st (lay blk p l) size i := by
  unfold over
  rw [bcells_length]
  by_cases h : 8 + p ≤ i ∧ i < 8 + p + l.length
  · rw [if_pos h]
    unfold rc lay
    rw [if_neg (by omega), if_pos (by omega), if_pos (by omega)]
    obtain ⟨j, rfl⟩ : ∃ j, i = 8 + p + j := ⟨i - (8 + p), by omega⟩
    rw [show 8 + p + j - (8 + p) = j from by omega, show 8 + p + j - 8 - p = j from by omega]
    have hj : j < l.length := by omega
    simp [bcells, List.getD_eq_getElem?_getD, hj]
  · rw [if_neg h]
    unfold rc lay
    by_cases h8 : i < 8
    · rw [if_pos h8, if_pos h8]
    · rw [if_neg h8, if_neg h8]
      by_cases h72 : i < 72
      · rw [if_pos h72, if_pos h72, if_neg (by omega)]
      · rw [if_neg h72, if_neg h72]
end Go.Proofs.YthbfmdgnhipobaaDoor
