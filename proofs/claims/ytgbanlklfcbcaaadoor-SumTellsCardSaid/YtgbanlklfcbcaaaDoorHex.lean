/- Hex of the program. -/
import Derived.Test.YtgbanlklfcbcaaaDoorBuild
import Derived.Test.YtgbanlklfcbcaaaDoorShelf
namespace Go.Proofs.YtgbanlklfcbcaaaDoor
open Go.RowKit

def hexTab : List UInt8 := [48, 49, 50, 51, 52, 53, 54, 55, 56, 57, 97, 98, 99, 100, 101, 102]
def hexd (n : Nat) : UInt8 := hexTab.getD n 0
def hexOf (l : List UInt8) : List UInt8 := l.flatMap fun b => [hexd (b.toNat / 16), hexd (b.toNat % 16)]
theorem hexOf_snoc (l : List UInt8) (b : UInt8) : hexOf (l ++ [b]) = hexOf l ++ [hexd (b.toNat / 16), hexd (b.toNat % 16)] := by simp [hexOf]
theorem hexOf_length (l : List UInt8) : (hexOf l).length = 2 * l.length := by
  induction l with
  | nil => rfl
  | cons b l ih => simp only [hexOf, List.flatMap_cons, List.length_append, List.length_cons, List.length_nil] at ih ⊢; omega
theorem hexAt (n : Nat) (h : n < 16) (w : World) : (Instr.index 9 (.string ⟨#[48, 49, 50, 51, 52, 53, 54, 55, 56, 57, 97, 98, 99, 100, 101, 102]⟩) (.int .u8 (n : Int))).run Tryd.prog w = .ok (.int .u8 ((hexd n).toNat : Int)) w := by
  rcases (by omega : n = 0 ∨ n = 1 ∨ n = 2 ∨ n = 3 ∨ n = 4 ∨ n = 5 ∨ n = 6 ∨ n = 7 ∨ n = 8 ∨ n = 9 ∨ n = 10 ∨ n = 11 ∨ n = 12 ∨ n = 13 ∨ n = 14 ∨ n = 15) with
    rfl | rfl | rfl | rfl | rfl | rfl | rfl | rfl | rfl | rfl | rfl | rfl | rfl | rfl | rfl | rfl <;> kernel_rfl

set_option maxRecDepth 100000 in
theorem hex_any (s : ByteArray) (w : World) (hs : s.size ≤ 1073741823) :
    Calls Tryd.prog 8 #[.string s] w fun e w' => e = .returned (.string (txt (hexOf s.data.toList))) ∧ Below w.heap.size w w' := by
  go_enter Tryd.func8, Tryd.ntmps8
  go_wp2_with fail
  refine (Tryd.Builder_Grow_fresh w.heap.size w.heap.size (2 * s.size) _ (Nat.le_refl _) (heap_alloc_new _ _) (by simp) (by omega)).mono ?_
  rintro e w1 ⟨rfl, h1, hb1⟩
  have hlt : w.heap.size ≤ w1.heap.size := by have := hb1.size; simp at this; omega
  have HB1 := Lib.hid (show Below w.heap.size w w1 from ((Below.refl _ _).alloc (Nat.le_refl _) _).trans hb1)
  have H1 := Lib.hid h1
  clear h1 hb1
  go_wp2
  go_loopw [11] (fun i wr => ∃ k : Nat, k ≤ s.size ∧ i = .int .i64 k ∧ Below w.heap.size w wr ∧ Lib.IsBuilder 51 5 w.heap.size w.heap.size (bcells (hexOf (s.data.toList.take k))) wr) (fun i _ => s.size - (intOf i).toNat)
  case atStart => exact ⟨0, by omega, rfl, HB1.out, .inr H1.out⟩
  case round =>
    obtain ⟨k, hk, rfl, hb, hh⟩ := hrel
    have HB := Lib.hid hb
    have HH := Lib.hid hh
    clear hb hh
    by_cases hlt : k < s.size
    · have hb256 : s[k].toNat < 256 := s[k].toNat_lt
      have hd1 : ∀ wx, (Instr.index 9 (.string ⟨#[48, 49, 50, 51, 52, 53, 54, 55, 56, 57, 97, 98, 99, 100, 101, 102]⟩) (.int .u8 ((s[k].toNat : Int) / 16))).run Tryd.prog wx = .ok (.int .u8 ((hexd (s[k].toNat / 16)).toNat : Int)) wx := fun wx => by
        have := hexAt (s[k].toNat / 16) (by omega) wx
        rwa [show ((s[k].toNat / 16 : Nat) : Int) = (s[k].toNat : Int) / 16 from by omega] at this
      have hd2 : ∀ wx, (Instr.index 9 (.string ⟨#[48, 49, 50, 51, 52, 53, 54, 55, 56, 57, 97, 98, 99, 100, 101, 102]⟩) (.int .u8 ((s[k].toNat : Int) % 16))).run Tryd.prog wx = .ok (.int .u8 ((hexd (s[k].toNat % 16)).toNat : Int)) wx := fun wx => by
        have := hexAt (s[k].toNat % 16) (by omega) wx
        rwa [show ((s[k].toNat % 16 : Nat) : Int) = (s[k].toNat : Int) % 16 from by omega] at this
      have hlen : (bcells (hexOf (s.data.toList.take k))).length = 2 * k := by rw [bcells_length, hexOf_length, List.length_take, size_len]; omega
      have HL := Lib.hid hlen
      clear hlen
      go_wp2_with fail
      refine (writeByte_any w.heap.size w.heap.size _ _ _ HH.out (by rw [HL.out]; omega) HB.out.size).mono ?_
      rintro e w2 ⟨rfl, h2, hb2⟩
      have HB2 := Lib.hid hb2
      have H2 := Lib.hid h2
      clear h2 hb2
      go_wp2_with fail
      refine (writeByte_any w.heap.size w.heap.size _ _ _ (.inr H2.out) (by rw [List.length_append, HL.out]; simp; omega) (Nat.le_trans HB.out.size HB2.out.size)).mono ?_
      rintro e w3 ⟨rfl, h3, hb3⟩
      have HB3 := Lib.hid hb3
      have H3 := Lib.hid h3
      clear h3 hb3
      go_wp2
      go_roundw
      case rel =>
        refine ⟨k + 1, by omega, by go_num, (HB.out.trans HB2.out).trans HB3.out, .inr ?_⟩
        have e : s.data.toList.take (k + 1) = s.data.toList.take k ++ [s[k]] := by
          rw [List.take_succ_eq_append_getElem (by rw [size_len]; exact hlt)]; rfl
        have h := H3.out
        rw [List.append_assoc] at h
        rw [e, hexOf_snoc]
        have e2 : bcells (hexOf (s.data.toList.take k) ++ [hexd (s[k].toNat / 16), hexd (s[k].toNat % 16)]) = bcells (hexOf (s.data.toList.take k)) ++ ([.int .u8 ((hexd (s[k].toNat / 16)).toNat : Int)] ++ [.int .u8 ((hexd (s[k].toNat % 16)).toNat : Int)]) := by simp [bcells]
        rw [e2]
        exact h
      case measure => simp [intOf]; omega
    · obtain rfl : k = s.size := by omega
      go_wp2_with fail
      refine (Tryd.Builder_String_any w.heap.size w.heap.size (hexOf (s.data.toList.take s.size)) _ HH.out HB.out.size).mono ?_
      rintro e w2 ⟨rfl, hb2⟩
      have HB2 := Lib.hid hb2
      clear hb2
      go_wp2
      go_ret
      refine ⟨?_, HB.out.trans HB2.out⟩
      rw [List.take_of_length_le (by rw [size_len]; exact Nat.le_refl _)]
      rfl
end Go.Proofs.YtgbanlklfcbcaaaDoor
