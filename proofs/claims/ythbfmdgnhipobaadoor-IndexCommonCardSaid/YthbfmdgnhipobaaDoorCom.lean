/- How far two indexes are alike: plain facts of commonOf. -/
import Derived.Test.YthbfmdgnhipobaaDoorRCommon
namespace Go.Proofs.YthbfmdgnhipobaaDoor

theorem bitOf_lt (l : List UInt8) (k : Nat) : bitOf l k < 2 := by unfold bitOf; exact Nat.mod_lt _ (by decide)
theorem commonFrom_le (A B : List UInt8) : ∀ f n, commonFrom A B f n ≤ n + f
  | 0, n => Nat.le_refl _
  | f + 1, n => by
    unfold commonFrom
    split
    · have := commonFrom_le A B f (n + 1); omega
    · omega
theorem commonFrom_ge (A B : List UInt8) : ∀ f n, n ≤ commonFrom A B f n
  | 0, n => Nat.le_refl _
  | f + 1, n => by
    unfold commonFrom
    split
    · have := commonFrom_ge A B f (n + 1); omega
    · omega
theorem commonFrom_same (A B : List UInt8) : ∀ f n k, n ≤ k → k < commonFrom A B f n → bitOf A k = bitOf B k
  | 0, n, k, h1, h2 => by unfold commonFrom at h2; omega
  | f + 1, n, k, h1, h2 => by
    unfold commonFrom at h2
    split at h2
    · rename_i h
      by_cases e : k = n
      · rw [e]; exact h
      · exact commonFrom_same A B f (n + 1) k (by omega) h2
    · omega
theorem commonFrom_other (A B : List UInt8) : ∀ f n, commonFrom A B f n < n + f → bitOf A (commonFrom A B f n) ≠ bitOf B (commonFrom A B f n)
  | 0, n, h => by unfold commonFrom at h; omega
  | f + 1, n, h => by
    by_cases e : bitOf A n = bitOf B n
    · have e1 : commonFrom A B (f + 1) n = commonFrom A B f (n + 1) := by rw [commonFrom, if_pos e]
      rw [e1] at h ⊢
      exact commonFrom_other A B f (n + 1) (by omega)
    · have e1 : commonFrom A B (f + 1) n = n := by rw [commonFrom, if_neg e]
      rw [e1]; exact e
theorem commonOf_le (A B : List UInt8) : commonOf A B ≤ 128 := by have := commonFrom_le A B 128 0; unfold commonOf; omega
theorem commonOf_same (A B : List UInt8) (k : Nat) (h : k < commonOf A B) : bitOf A k = bitOf B k := commonFrom_same A B 128 0 k (Nat.zero_le _) h
theorem commonOf_other (A B : List UInt8) (h : commonOf A B < 128) : bitOf A (commonOf A B) ≠ bitOf B (commonOf A B) := commonFrom_other A B 128 0 (by unfold commonOf at h; omega)
/-- Just so many, and no other number. -/
theorem commonOf_is (A B : List UInt8) (n : Nat) (hn : n ≤ 128) (h : ∀ k, k < n → bitOf A k = bitOf B k) (ho : n < 128 → bitOf A n ≠ bitOf B n) : commonOf A B = n := by
  rcases Nat.lt_trichotomy (commonOf A B) n with hl | he | hg
  · exact absurd (h _ hl) (commonOf_other A B (by omega))
  · exact he
  · exact absurd (commonOf_same A B n hg) (ho (by have := commonOf_le A B; omega))
theorem commonOf_ge (A B : List UInt8) (n : Nat) (hn : n ≤ 128) (h : ∀ k, k < n → bitOf A k = bitOf B k) : n ≤ commonOf A B := by
  rcases Nat.lt_or_ge (commonOf A B) n with hl | hg
  · exact absurd (h _ hl) (commonOf_other A B (by omega))
  · exact hg
/-- Of three two are as far alike as the two others, or farther than both. -/
theorem commonOf_three (A B C : List UInt8) : min (commonOf A B) (commonOf B C) ≤ commonOf A C ∧ (commonOf A B = commonOf B C ∨ commonOf A C = min (commonOf A B) (commonOf B C)) := by
  have l1 := commonOf_le A B
  have l2 := commonOf_le B C
  constructor
  · exact commonOf_ge A C _ (by omega) (fun k hk => (commonOf_same A B k (by omega)).trans (commonOf_same B C k (by omega)))
  · rcases Nat.lt_trichotomy (commonOf A B) (commonOf B C) with hl | he | hg
    · right
      rw [Nat.min_eq_left (by omega)]
      refine commonOf_is A C _ l1 (fun k hk => (commonOf_same A B k hk).trans (commonOf_same B C k (by omega))) (fun h e => ?_)
      exact commonOf_other A B h (e.trans (commonOf_same B C _ hl).symm)
    · exact .inl he
    · right
      rw [Nat.min_eq_right (by omega)]
      refine commonOf_is A C _ l2 (fun k hk => (commonOf_same A B k (by omega)).trans (commonOf_same B C k hk)) (fun h e => ?_)
      exact commonOf_other B C h ((commonOf_same A B _ hg).symm.trans e)
theorem byte_of_bits (x y : Nat) (hx : x < 256) (hy : y < 256) (h : ∀ j, j < 8 → x / 2 ^ (7 - j) % 2 = y / 2 ^ (7 - j) % 2) : x = y := by
  have h0 := h 0 (by omega); have h1 := h 1 (by omega); have h2 := h 2 (by omega); have h3 := h 3 (by omega)
  have h4 := h 4 (by omega); have h5 := h 5 (by omega); have h6 := h 6 (by omega); have h7 := h 7 (by omega)
  simp at h0 h1 h2 h3 h4 h5 h6 h7
  omega
theorem commonOf_all (A B : List UInt8) (ha : A.length = 16) (hb : B.length = 16) : commonOf A B = 128 ↔ A = B := by
  constructor
  · intro h
    apply List.ext_getElem (by omega)
    intro i hi hi'
    apply UInt8.toNat_inj.1
    refine byte_of_bits _ _ (UInt8.toNat_lt _) (UInt8.toNat_lt _) (fun j hj => ?_)
    have e := commonOf_same A B (8 * i + j) (by omega)
    unfold bitOf at e
    rw [show (8 * i + j) / 8 = i by omega, show (8 * i + j) % 8 = j by omega] at e
    simpa [List.getD_eq_getElem?_getD, hi, hi'] using e
  · rintro rfl
    exact commonOf_is A A 128 (Nat.le_refl _) (fun _ _ => rfl) (fun h => by omega)
/-- Where only the first byte is told. -/
theorem bitOf_head (x : UInt8) (l : List UInt8) (k : Nat) (hk : k < 8) : bitOf (x :: l) k = x.toNat / 2 ^ (7 - k) % 2 := by
  unfold bitOf
  rw [show k / 8 = 0 by omega, show k % 8 = k by omega]; rfl
theorem common_three (l : List UInt8) : commonOf (0x80 :: l) (0x90 :: l) = 3 := by
  refine commonOf_is _ _ 3 (by omega) (fun k hk => ?_) (fun _ => ?_)
  · rw [bitOf_head _ _ _ (by omega), bitOf_head _ _ _ (by omega)]
    match k, hk with
    | 0, _ => decide
    | 1, _ => decide
    | 2, _ => decide
  · rw [bitOf_head _ _ _ (by omega), bitOf_head _ _ _ (by omega)]; decide
end Go.Proofs.YthbfmdgnhipobaaDoor
