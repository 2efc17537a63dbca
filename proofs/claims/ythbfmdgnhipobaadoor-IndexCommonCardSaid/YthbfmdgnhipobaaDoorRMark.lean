/- The document's Mark. -/
import Derived.Test.YthbfmdgnhipobaaDoorRNum
import Derived.Test.YthbfmdgnhipobaaDoorRSum
import Derived.Test.YthbfmdgnhipobaaDoorSum
namespace Go.Proofs.YthbfmdgnhipobaaDoor
open Go.RowKit

set_option maxRecDepth 100000 in
theorem refMark_any (b : Nat) (kind : UInt8) (parts : List ByteArray) (pa : Option Addr) (cap : Nat) (w : World) (hr : Holds w b 72 refCells 46) (hs : total parts ≤ 1073741800) (hn : parts.length ≤ 1000000)
    (hc : ∀ (i : Nat) p, parts[i]? = some p → ∃ a, pa = some a ∧ a.block < w.heap.size ∧ w.cell? (a.add i) = some (.string p)) :
    Calls Tryd.prog 19 #[.pointer (some ⟨b, 0, none⟩), .int .u8 (kind.toNat : Int), .slice pa parts.length cap] w fun e w' => e = .returned (.string (markOf kind parts)) ∧ Below w.heap.size w w' := by
  have HR := Lib.hid hr
  have HC := Lib.hid hc
  clear hr hc
  have hcv := conv1 w kind _ rfl
  go_enter Tryd.func19, Tryd.ntmps19
  go_wp2
  clear hcv
  have hbw : Below w.heap.size w (w.alloc (.cells #[.int .u8 (kind.toNat : Int)] 5)) := (Below.refl _ _).alloc (Nat.le_refl _) _
  have HBW := Lib.hid hbw
  clear hbw
  go_loopw [7, 15] (fun s i wr => ∃ (k : Nat) (x : ByteArray), k ≤ parts.length ∧ i = .int .i64 (k : Int) ∧ s = .string x ∧ x = txt (markText kind (parts.take k)) ∧ Below w.heap.size w wr) (fun _ i _ => parts.length - (intOf i).toNat)
  case atStart => exact ⟨0, _, by omega, rfl, rfl, rfl, HBW.out⟩
  case round =>
    obtain ⟨k, x, hkl, rfl, rfl, hx, hb⟩ := hrel
    have HB := Lib.hid hb
    have HX := Lib.hid hx
    clear hb hx
    by_cases hlt : k < parts.length
    · obtain ⟨p, hp⟩ : ∃ p, parts[k]? = some p := ⟨_, List.getElem?_eq_getElem hlt⟩
      obtain ⟨ad, rfl, hal, hcell⟩ := HC.out k p hp
      have hcr : wr.cell? (ad.add k) = some (.string p) := by
        rw [HB.out.cell (by rw [show (ad.add k).block = ad.block from by unfold Addr.add; split <;> rfl]; exact hal)]; exact hcell
      have hpl : p.size ≤ 1073741800 := Nat.le_trans (total_le parts p (List.mem_of_getElem? hp)) hs
      have HP := Lib.hid hp
      clear hcell hp
      have hxz : x.size + 8 + p.size ≤ 1073741809 := by
        rw [HX.out, txt_size, markText_length]
        have e1 : total (parts.take (k + 1)) = total (parts.take k) + (p.size + 8) := by
          rw [List.take_add_one, HP.out]; simp [total]
        have e2 := total_take parts (k + 1)
        omega
      go_wp2_with fail
      refine (refNum_any _ _).mono ?_
      rintro e w3 ⟨rfl, hb3⟩
      have HB3 := Lib.hid hb3
      clear hb3
      have hyz : (txt (num8 p.size)).size = 8 := by rw [txt_size, num8_length]
      generalize hy : txt (num8 p.size) = y at hyz
      have HY := Lib.hid hy
      clear hy
      go_wp2
      go_roundw
      case rel =>
        refine ⟨k + 1, x ++ y ++ p, by omega, by go_num, rfl, ?_, HB.out.trans (HB3.out.mono HB.out.size)⟩
        have e : parts.take (k + 1) = parts.take k ++ [p] := by rw [List.take_add_one, HP.out]; rfl
        rw [e, markText_snoc, HX.out, ← HY.out, txt_append, ← txt_of p, txt_append, List.append_assoc, txt_list]
      case measure => simp [intOf]; omega
    · obtain rfl : k = parts.length := by omega
      have hxz : x.size ≤ 1073741809 := by
        rw [HX.out, txt_size, markText_length]
        have e2 := total_take parts parts.length
        omega
      go_wp2_with fail
      refine (refSum_any b x _ (HR.out.below HB.out HR.out.lt) (by omega)).mono ?_
      rintro e w3 ⟨rfl, hb3⟩
      have HB3 := Lib.hid hb3
      clear hb3
      have hyz : (txt (sumOf x.data.toList)).size = 32 := by rw [txt_size]; unfold sumOf; rw [sumText_length]
      generalize hy : txt (sumOf x.data.toList) = y at hyz
      have h16 : 16 ≤ y.size := by omega
      have HY := Lib.hid hy
      clear hy hyz
      go_wp2
      go_ret
      refine ⟨?_, HB.out.trans (HB3.out.mono HB.out.size)⟩
      have ey : y = txt (sumOf (markText kind parts)) := by
        rw [← HY.out, HX.out, txt_list, List.take_length]
      have ex : y.extract 0 16 = markOf kind parts := by
        unfold markOf
        rw [← txt_of (y.extract 0 16), ByteArray.data_extract, Array.toList_extract, ey, txt_list]
        simp [List.extract_eq_take_drop]
      rw [← ex]
      rfl
end Go.Proofs.YthbfmdgnhipobaaDoor
