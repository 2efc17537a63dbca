/- The document's Num. -/
import Derived.Test.YthbfmdgnhipobaaDoorEight
import Derived.Test.YthbfmdgnhipobaaDoorRow2
namespace Go.Proofs.YthbfmdgnhipobaaDoor
open Go.RowKit

/-- The last k bytes. -/
def low (m : Nat) : Nat → List UInt8
  | 0 => []
  | k + 1 => UInt8.ofNat (m / 256 ^ k) :: low m k
theorem low_eight (m : Nat) : low m 8 = be8 m := by
  simp [be8, low, List.range, List.range.loop]
theorem low_length (m : Nat) : ∀ k, (low m k).length = k
  | 0 => rfl
  | k + 1 => by simp [low, low_length m k]
theorem txt_append (a b : List UInt8) : txt a ++ txt b = txt (a ++ b) := by
  rw [← txt_of (txt a ++ txt b)]
  congr 1
theorem conv1 (w : World) (b : UInt8) (x : Int) (hx : x = (b.toNat : Int)) :
    (convert 59 9 (.slice (some ⟨w.heap.size, 0, none⟩) 1 1)).run Tryd.prog (w.alloc (.cells #[.int .u8 x] 5)) = .ok (.string (txt [b])) (w.alloc (.cells #[.int .u8 x] 5)) := by
  subst hx
  have hh := Holds.new w 1 (fun _ => .int .u8 (b.toNat : Int)) 5
  have hf : ∀ i, i < 1 → (fun _ : Nat => Value.int .u8 (b.toNat : Int)) (0 + i) = .int .u8 ((([b] : List UInt8).getD i 0).toNat : Int) := fun i hi => by
    obtain rfl : i = 0 := by omega
    rfl
  exact run_conv_text hh 59 9 5 Tryd.underlying59 Tryd.underlying5 Tryd.underlying9 [b] 0 1 1 rfl (by omega) hf

set_option maxRecDepth 100000 in
theorem refNum_any (n : Int) (w : World) :
    Calls Tryd.prog 30 #[.int .i64 n] w fun e w' => e = .returned (.string (txt (num8 n))) ∧ Below w.heap.size w w' := by
  obtain ⟨m, hm⟩ : ∃ m : Nat, (n % 18446744073709551616) = m := ⟨(n % 18446744073709551616).toNat, by omega⟩
  have hw : IntKind.u64.wrap n = m := by rw [wrap_u64, hm]
  have e : num8 n = be8 m := by unfold num8; rw [hm]; rfl
  have hm64 : m < 18446744073709551616 := by omega
  rw [e]
  clear hm e
  go_enter Tryd.func30, Tryd.ntmps30
  go_wp2
  go_loopw [3, 4, 7] (fun s u i wr => ∃ k d : Nat, k ≤ 8 ∧ d = m / 256 ^ k ∧ i = .int .i64 (k : Int) ∧ u = .int .u64 (d : Int) ∧ s = .string (txt (low m k)) ∧ Below w.heap.size w wr) (fun _ _ i _ => 8 - (intOf i).toNat)
  case atStart =>
    exact ⟨0, m, by omega, by simp, rfl, rfl, rfl, Below.refl _ _⟩
  case round =>
    obtain ⟨k, d, hk, hd, rfl, rfl, rfl, hb⟩ := hrel
    have HB := Lib.hid hb
    have HD := Lib.hid hd
    have hl := low_length m k
    generalize hL : low m k = L at hl
    have HL := Lib.hid hL
    clear hb hd hL
    by_cases hlt : k < 8
    · have hcv : (convert 59 9 (.slice (some ⟨wr.heap.size, 0, none⟩) 1 1)).run Tryd.prog (wr.alloc (.cells #[.int .u8 ((d : Int) % 256)] 5)) = .ok (.string (txt [UInt8.ofNat d])) (wr.alloc (.cells #[.int .u8 ((d : Int) % 256)] 5)) := by
        refine conv1 wr (UInt8.ofNat d) _ ?_
        rw [UInt8.toNat_ofNat']; omega
      have hap : txt [UInt8.ofNat d] ++ txt L = txt (UInt8.ofNat d :: L) := txt_append _ _
      have hz1 : (txt [UInt8.ofNat d]).size = 1 := by rw [txt_size]; rfl
      have hz2 : (txt L).size = k := by rw [txt_size, hl]
      have hd64 : d < 18446744073709551616 := by
        have := HD.out; have := Nat.div_le_self m (256 ^ k); omega
      go_wp2
      go_roundw
      case rel =>
        refine ⟨k + 1, d / 256, by omega, ?_, by go_num, by go_num, ?_, HB.out.alloc HB.out.size _⟩
        · rw [HD.out, Nat.div_div_eq_div_mul, Nat.pow_succ]
        · rw [← HL.out, HD.out]; rfl
      case measure => simp [intOf]; omega
    · have hk8 : k = 8 := by omega
      have HK8 := Lib.hid hk8
      clear hk8
      go_wp2
      go_ret
      refine ⟨?_, HB.out⟩
      have h := HL.out
      rw [HK8.out, low_eight] at h
      rw [h]; rfl
end Go.Proofs.YthbfmdgnhipobaaDoor
