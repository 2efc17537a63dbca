/- The document's numbers of rounds: root. -/
import Derived.Test.YthbfmdgnhipobaaDoorAbove
namespace Go.Proofs.YthbfmdgnhipobaaDoor
open Go.RowKit

def searchL (k p : Nat) : Nat → Nat → Nat → Nat
  | 0, low, _ => low
  | f + 1, low, high => if low + 1 < high then (if aboveL ((low + high) / 2) k p then searchL k p f low ((low + high) / 2) else searchL k p f ((low + high) / 2) high) else low
def rootL (p k : Nat) : Nat := searchL k p 40 0 1099511627776 % 4294967296
theorem searchL_done (k p f low high : Nat) (h : ¬ low + 1 < high) : searchL k p f low high = low := by
  cases f with
  | zero => rfl
  | succ f => show (if low + 1 < high then _ else low) = low; rw [if_neg h]
theorem searchL_step (k p f low high x : Nat) (h : low + 1 < high) (hx : (low + high) / 2 = x) : searchL k p (f + 1) low high = if aboveL x k p then searchL k p f low x else searchL k p f x high := by
  show (if low + 1 < high then _ else low) = _; rw [if_pos h, hx]

set_option maxRecDepth 100000 in
theorem root_any (p k : Nat) (w : World) (hk : k ≤ 3) :
    Calls Tryd.prog 18 #[.int .u64 (p : Int), .int .i64 (k : Int)] w fun e w' => e = .returned (.int .u32 ((rootL p k : Nat) : Int)) ∧ Below w.heap.size w w' := by
  go_enter Tryd.func18, Tryd.ntmps18
  go_wp2
  go_loopw [5, 6, 7] (fun lo hi x wr => ∃ low high f : Nat, lo = .int .u64 (low : Int) ∧ hi = .int .u64 (high : Int) ∧ high ≤ 1099511627776 ∧ low ≤ 1099511627776 ∧ low ≤ high ∧ high - low ≤ 2 ^ f ∧ searchL k p f low high = searchL k p 40 0 1099511627776 ∧ Below w.heap.size w wr)
    (fun lo hi _ _ => (intOf hi).toNat - (intOf lo).toNat)
  case atStart =>
    exact ⟨0, 1099511627776, 40, rfl, rfl, by omega, by omega, by omega, by decide, rfl, Below.refl _ _⟩
  case round =>
    obtain ⟨low, high, f, rfl, rfl, hh, hl, hlh, hf, hs, hb⟩ := hrel
    have HS := Lib.hid hs
    have HB := Lib.hid hb
    have HF := Lib.hid hf
    clear hs hb hf
    by_cases hlt : low + 1 < high
    · obtain ⟨x, hx⟩ : ∃ x, (low + high) / 2 = x := ⟨_, rfl⟩
      have hxi : ((low : Int) + (high : Int)) / 2 = (x : Int) := by omega
      have hx1 : low < x := by omega
      have hx2 : x < high := by omega
      have hx3 : x ≤ 1099511627776 := by omega
      have HX := Lib.hid hx
      obtain ⟨f', rfl⟩ : ∃ f', f = f' + 1 := by
        cases f with
        | zero => have := HF.out; simp at this; omega
        | succ f => exact ⟨f, rfl⟩
      have hp : high - low ≤ 2 * 2 ^ f' := by have := HF.out; rw [Nat.pow_succ] at this; omega
      have hs := HS.out
      rw [searchL_step k p f' low high x hlt hx] at hs
      have h1 : x - low ≤ 2 ^ f' := by omega
      have h2 : high - x ≤ 2 ^ f' := by omega
      have H1 := Lib.hid h1
      have H2 := Lib.hid h2
      have HS2 := Lib.hid hs
      clear hs hp hx h1 h2
      cases hab : aboveL x k p with
      | true =>
        go_wp2_with (go_at_call 29; refine (above_any x k p _ hx3 hk).mono ?_; rintro e w1 ⟨rfl, hb1⟩; have HB1 := Lib.hid hb1; clear hb1; rw [hab])
        go_wp2
        go_roundw
        case rel =>
          refine ⟨low, x, f', rfl, rfl, by omega, by omega, by omega, H1.out, ?_, HB.out.trans (HB1.out.mono HB.out.size)⟩
          have h := HS2.out; rw [hab, if_pos rfl] at h; exact h
        case measure => simp [intOf]; omega
      | false =>
        go_wp2_with (go_at_call 29; refine (above_any x k p _ hx3 hk).mono ?_; rintro e w1 ⟨rfl, hb1⟩; have HB1 := Lib.hid hb1; clear hb1; rw [hab])
        go_wp2
        go_roundw
        case rel =>
          refine ⟨x, high, f', rfl, rfl, by omega, by omega, by omega, H2.out, ?_, HB.out.trans (HB1.out.mono HB.out.size)⟩
          have h := HS2.out; rw [hab, if_neg (by decide)] at h; exact h
        case measure => simp [intOf]; omega
    · go_wp2
      go_ret
      refine ⟨?_, HB.out⟩
      have h := HS.out
      rw [searchL_done k p f low high hlt] at h
      unfold rootL; rw [← h]; rfl
end Go.Proofs.YthbfmdgnhipobaaDoor
