/- eightBytes, and Num. -/
import Derived.Test.YthbfmdgnhipobaaDoorText
import Derived.Test.YthbfmdgnhipobaaDoorRot
import Derived.RegionTactic
namespace Go.Proofs.YthbfmdgnhipobaaDoor
open Go.RowKit

/-- The eight bytes of a number below 2^64, the greatest first. -/
def be8 (n : Nat) : List UInt8 := (List.range 8).map fun i => UInt8.ofNat (n / 2 ^ (8 * (7 - i)))
theorem be8_length (n : Nat) : (be8 n).length = 8 := by simp [be8]
theorem be8_get (n i : Nat) (h : i < 8) : (be8 n).getD i 0 = UInt8.ofNat (n / 2 ^ (8 * (7 - i))) := by simp [be8, List.getD_eq_getElem?_getD, h]
theorem sizeU8 (w : World) : (Go.sizeOf 5).run Tryd.prog w = .ok 1 w := by kernel_rfl

def efill (n k : Nat) : Nat → Value := fun i => if 8 - k ≤ i then .int .u8 ((UInt8.ofNat (n / 2 ^ (8 * (7 - i)))).toNat : Int) else .int .u8 0

theorem eight_any (n : Nat) (w : World) :
    Calls Tryd.prog 40 #[.int .u64 (n : Int)] w fun e w' => e = .returned (.string (txt (be8 n))) ∧ Below w.heap.size w w' := by
  go_enter Tryd.func40, Tryd.ntmps40
  go_wp2
  go_loopw [5] (fun i wr => ∃ k : Nat, k ≤ 8 ∧ i = .int .i64 k ∧ Below w.heap.size w wr ∧ Holds wr w.heap.size 8 (efill n k) 85) (fun i _ => 8 - (intOf i).toNat)
  case atStart => exact ⟨0, by omega, rfl, (Below.refl _ _).alloc (Nat.le_refl _) _, (Holds.new w 8 (fun _ => .int .u8 0) 85).congr fun i hi => by unfold efill; rw [if_neg (by omega)]⟩
  case round =>
    obtain ⟨k, hk, rfl, hb, hh⟩ := hrel
    have HB := Lib.hid hb
    have HH := Lib.hid hh
    clear hb hh
    by_cases hlt : k < 8
    · have c := HH.out.cell (7 - k) (by omega)
      have f := HH.out.free (7 - k)
      go_wp2
      go_roundw
      case rel =>
        have ev : (n : Int) / 2 ^ (8 * k) % (256 : Int) = ((UInt8.ofNat (n / 2 ^ (8 * (7 - (7 - k))))).toNat : Int) := by
          rw [show 7 - (7 - k) = k from by omega, UInt8.toNat_ofNat']
          simp
        refine ⟨k + 1, by omega, by go_num, HB.out.setCell (Nat.le_refl _) _, (HH.out.set (7 - k) _).congr fun i hi => ?_⟩
        rw [ev]
        unfold upd efill
        by_cases h : i = 7 - k
        · subst h; rw [if_pos rfl, if_pos (by omega)]
        · rw [if_neg h]
          by_cases h2 : 8 - k ≤ i
          · rw [if_pos h2, if_pos (by omega)]
          · rw [if_neg h2, if_neg (by omega)]
      case measure => simp [intOf]; omega
    · obtain rfl : k = 8 := by omega
      have hcv := run_conv_text (P := Tryd.prog) HH.out 59 9 5 Tryd.underlying59 Tryd.underlying5 Tryd.underlying9 (be8 n) 0 8 8 (be8_length n) (by omega) (fun i hi => by
        rw [be8_get n i hi]; unfold efill; rw [if_pos (by omega), Nat.zero_add])
      go_wp2
      go_ret
      exact ⟨rfl, HB.out⟩

/-- A number's bytes. -/
def num8 (n : Int) : List UInt8 := be8 (n % 18446744073709551616).toNat
theorem wrap_u64 (n : Int) : IntKind.u64.wrap n = n % 18446744073709551616 := by simp [IntKind.wrap, IntKind.bits, IntKind.signed]
theorem num_any (n : Int) (w : World) :
    Calls Tryd.prog 34 #[.int .i64 n] w fun e w' => e = .returned (.string (txt (num8 n))) ∧ Below w.heap.size w w' := by
  obtain ⟨m, hm⟩ : ∃ m : Nat, (n % 18446744073709551616) = m := ⟨(n % 18446744073709551616).toNat, by omega⟩
  have hw : IntKind.u64.wrap n = m := by rw [wrap_u64, hm]
  have e : num8 n = be8 m := by unfold num8; rw [hm]; rfl
  rw [e]
  clear hm e
  go_enter Tryd.func34, Tryd.ntmps34
  go_wp2_with fail
  refine (eight_any m _).mono ?_
  rintro e w1 ⟨rfl, hb⟩
  have HB := Lib.hid hb
  clear hb
  go_wp2
  go_ret
  exact ⟨rfl, HB.out⟩
end Go.Proofs.YthbfmdgnhipobaaDoor
