/- The document's Hex: strconv.FormatInt at base 16. -/
import Derived.Test.YtgbanlklfcbcaaaDoorRNum
import Derived.Test.YtgbanlklfcbcaaaDoorHex
import Derived.Test.YtgbanlklfcbcaaaDoorTz
namespace Go.Proofs.YtgbanlklfcbcaaaDoor
open Go.RowKit

theorem zero65 (w : World) : (zeroValue 77).run Tryd.prog w = .ok (.agg (arr 65 fun _ => .int .u8 0)) w := by kernel_rfl

theorem digAt (n : Nat) (h : n < 16) (w : World) : (Instr.index 9 (.string ⟨#[48, 49, 50, 51, 52, 53, 54, 55, 56, 57, 97, 98, 99, 100, 101, 102, 103, 104, 105, 106, 107, 108, 109, 110, 111, 112, 113, 114, 115, 116, 117, 118, 119, 120, 121, 122]⟩) (.int .u64 (n : Int))).run Tryd.prog w = .ok (.int .u8 ((hexd n).toNat : Int)) w := by
  rcases (by omega : n = 0 ∨ n = 1 ∨ n = 2 ∨ n = 3 ∨ n = 4 ∨ n = 5 ∨ n = 6 ∨ n = 7 ∨ n = 8 ∨ n = 9 ∨ n = 10 ∨ n = 11 ∨ n = 12 ∨ n = 13 ∨ n = 14 ∨ n = 15) with
    rfl | rfl | rfl | rfl | rfl | rfl | rfl | rfl | rfl | rfl | rfl | rfl | rfl | rfl | rfl | rfl <;> kernel_rfl
theorem and15 (d : Nat) (h : d < 1000) : bits BinOp.and IntKind.u64 (d : Int) 15 = ((d % 16 : Nat) : Int) := by
  rw [show (15 : Int) = ((15 : Nat) : Int) from rfl, bits_and_u64_nat d 15 (by omega) (by omega)]
  congr 1
  exact Nat.and_two_pow_sub_one_eq_mod d 4
def hfill (n j : Nat) : Nat → Value := fun i => if 64 < i + j then .int .u8 ((hexd (n / 16 ^ (64 - i) % 16)).toNat : Int) else .int .u8 0
theorem hfill_next (n j : Nat) (hj : j < 64) (i : Nat) (hi : i < 65) : upd (hfill n j) (64 - j) (.int .u8 ((hexd (n / 16 ^ j % 16)).toNat : Int)) i = hfill n (j + 1) i := by
  unfold upd hfill
  by_cases h : i = 64 - j
  · subst h; rw [if_pos rfl, if_pos (by omega), show 64 - (64 - j) = j by omega]
  · rw [if_neg h]
    by_cases h2 : 64 < i + j
    · rw [if_pos h2, if_pos (by omega)]
    · rw [if_neg h2, if_neg (by omega)]
theorem pow_any (w : World) : Calls Tryd.prog 44 #[.int .i64 16] w fun e w' => e = .returned (.bool true) ∧ w' = w := by
  have k1 : bits BinOp.and IntKind.i64 16 15 = 0 := by decide +kernel
  go_enter Tryd.func44, Tryd.ntmps44
  go_wp2
  go_ret
  exact ⟨rfl, rfl⟩
set_option maxRecDepth 100000 in
theorem bits_any (n : Nat) (w : World) (h1 : 256 ≤ n) (h2 : n < 512) (hc : w.cell? ⟨4, 15, none⟩ = some (.int .u8 4)) :
    Calls Tryd.prog 40 #[.slice none 0 0, .int .u64 (n : Int), .int .i64 16, .bool false, .bool false] w fun e w' => e = .returned (.tuple #[.slice none 0 0, .string (txt [49, hexd (n / 16 % 16), hexd (n % 16)])]) ∧ Below w.heap.size w w' := by
  have hz := zero65
  go_enter Tryd.func40, Tryd.ntmps40
  have hlt := block_lt_of_cell hc
  have hc2 : (w.alloc (.cells (arr 65 fun _ => .int .u8 0) 77)).cell? ⟨4, 15, none⟩ = some (.int .u8 4) := by
    rw [((Below.refl w.heap.size w).alloc (Nat.le_refl _) _).cell hlt]; exact hc
  have HC2 := Lib.hid hc2
  clear hc hc2
  go_wp2_with (first | (go_at_call 44; refine (pow_any _).mono ?_; rintro e w1 ⟨rfl, rfl⟩) | (go_at_call 45; refine (tz_any _ HC2.out).mono ?_; rintro e w1 ⟨rfl, rfl⟩))
  clear hz
  have hbw : Below w.heap.size w (w.alloc (.cells (arr 65 fun _ => .int .u8 0) 77)) := (Below.refl _ _).alloc (Nat.le_refl _) _
  have HBW := Lib.hid hbw
  clear hbw
  go_loopw [1, 13] (fun u i wr => ∃ j d : Nat, j ≤ 2 ∧ d = n / 16 ^ j ∧ u = .int .u64 (d : Int) ∧ i = .int .i64 ((65 - j : Nat) : Int) ∧ Below w.heap.size w wr ∧ Holds wr w.heap.size 65 (hfill n j) 77) (fun u _ _ => (intOf u).toNat)
  case atStart =>
    refine ⟨0, n, by omega, by simp, rfl, rfl, HBW.out, (Holds.new w 65 _ _).congr fun i hi => ?_⟩
    unfold hfill; rw [if_neg (by omega)]
  case round =>
    obtain ⟨j, d, hj, hd, rfl, rfl, hb, hh⟩ := hrel
    have HB := Lib.hid hb
    have HH := Lib.hid hh
    have HD := Lib.hid hd
    have hdn : d ≤ n := by rw [hd]; exact Nat.div_le_self _ _
    have hand := and15 d (by omega)
    have hdig := digAt (d % 16) (by omega)
    obtain ⟨m, hm⟩ : ∃ m, d % 16 = m := ⟨_, rfl⟩
    rw [hm] at hand hdig
    obtain ⟨c, hc⟩ : ∃ c : UInt8, hexd m = c := ⟨_, rfl⟩
    rw [hc] at hdig
    have HM := Lib.hid hm
    have HC := Lib.hid hc
    clear hb hh hd hm hc
    by_cases hj2 : j < 2
    · have hd16 : 16 ≤ d := by
        rw [HD.out]
        rcases (by omega : j = 0 ∨ j = 1) with rfl | rfl
        · simp; omega
        · simp; omega
      obtain ⟨q, hq⟩ : ∃ q, 64 - j = q := ⟨_, rfl⟩
      have hq2 : 65 - j = q + 1 := by omega
      have hq3 : q < 65 := by omega
      rw [hq2]
      have hcell := HH.out.cell q hq3
      have hfree := HH.out.free q
      rw [show hfill n j q = .int .u8 0 by unfold hfill; rw [if_neg (by omega)]] at hcell
      have HQ := Lib.hid hq
      clear hq hq2
      go_wp2
      go_roundw
      case rel =>
        refine ⟨j + 1, d / 16, by omega, ?_, by go_num, ?_, HB.out.setCell (Nat.le_refl _) _, ?_⟩
        · rw [HD.out, Nat.div_div_eq_div_mul, Nat.pow_succ]
        · have := HQ.out; congr 1; omega
        · rw [← HQ.out]
          have := hfill_next n j (by omega)
          refine (HH.out.set (64 - j) _).congr fun i hi => ?_
          rw [← HC.out, ← HM.out, HD.out]
          exact this i hi
      case measure => simp [intOf]; omega
    · have hj2' : j = 2 := by omega
      have hd1 : d = 1 := by rw [HD.out, hj2']; simp; omega
      have hm1 : m = 1 := by rw [← HM.out, hd1]
      subst hj2'
      subst hd1
      have hdig1 : ∀ wx, (Instr.index 9 (.string ⟨#[48, 49, 50, 51, 52, 53, 54, 55, 56, 57, 97, 98, 99, 100, 101, 102, 103, 104, 105, 106, 107, 108, 109, 110, 111, 112, 113, 114, 115, 116, 117, 118, 119, 120, 121, 122]⟩) (.int .u64 1)).run Tryd.prog wx = .ok (.int .u8 49) wx := fun wx => digAt 1 (by omega) wx
      have hcell := HH.out.cell 62 (by omega)
      have hfree := HH.out.free 62
      rw [show hfill n 2 62 = .int .u8 0 by unfold hfill; rw [if_neg (by omega)]] at hcell
      clear hand hdig hj2
      have hh3 : Holds (wr.setCell ⟨w.heap.size, 62, none⟩ (.int .u8 49)) w.heap.size 65 (upd (hfill n 2) 62 (.int .u8 49)) 77 := HH.out.set 62 _
      have hcv : (convert 47 9 (.slice (some ⟨w.heap.size, 62, none⟩) 3 3)).run Tryd.prog (wr.setCell ⟨w.heap.size, 62, none⟩ (.int .u8 49)) = .ok (.string (txt [49, hexd (n / 16 % 16), hexd (n % 16)])) (wr.setCell ⟨w.heap.size, 62, none⟩ (.int .u8 49)) := by
        refine run_conv_text hh3 47 9 5 Tryd.underlying47 Tryd.underlying5 Tryd.underlying9 [49, hexd (n / 16 % 16), hexd (n % 16)] 62 3 3 rfl (by omega) (fun i hi => ?_)
        rcases (by omega : i = 0 ∨ i = 1 ∨ i = 2) with rfl | rfl | rfl
        · rfl
        · show hfill n 2 63 = _
          unfold hfill; rw [if_pos (by omega)]; simp
        · show hfill n 2 64 = _
          unfold hfill; rw [if_pos (by omega)]; simp
      go_wp2
      refine bodyPost_ret (results_tmp2 rfl _ _ _) rfl ?_
      exact ⟨rfl, HB.out.setCell (Nat.le_refl _) _⟩

set_option maxRecDepth 100000 in
theorem fmtInner_any (n : Nat) (w : World) (h1 : 256 ≤ n) (h2 : n < 512) (hc : w.cell? ⟨4, 15, none⟩ = some (.int .u8 4)) :
    Calls Tryd.prog 31 #[.int .i64 (n : Int), .int .i64 16] w fun e w' => e = .returned (.string (txt [49, hexd (n / 16 % 16), hexd (n % 16)])) ∧ Below w.heap.size w w' := by
  have HC := Lib.hid hc
  clear hc
  go_enter Tryd.func31, Tryd.ntmps31
  go_wp2_with (go_at_call 40; refine (bits_any n _ h1 h2 HC.out).mono ?_; rintro e w1 ⟨rfl, hb1⟩; have HB1 := Lib.hid hb1; clear hb1)
  go_ret
  exact ⟨rfl, HB1.out⟩
set_option maxRecDepth 100000 in
theorem fmt_any (n : Nat) (w : World) (h1 : 256 ≤ n) (h2 : n < 512) (hc : w.cell? ⟨4, 15, none⟩ = some (.int .u8 4)) :
    Calls Tryd.prog 24 #[.int .i64 (n : Int), .int .i64 16] w fun e w' => e = .returned (.string (txt [49, hexd (n / 16 % 16), hexd (n % 16)])) ∧ Below w.heap.size w w' := by
  have HC := Lib.hid hc
  clear hc
  go_enter Tryd.func24, Tryd.ntmps24
  go_wp2_with (go_at_call 31; refine (fmtInner_any n _ h1 h2 HC.out).mono ?_; rintro e w1 ⟨rfl, hb1⟩; have HB1 := Lib.hid hb1; clear hb1)
  go_ret
  exact ⟨rfl, HB1.out⟩
set_option maxRecDepth 100000 in
theorem refHex_any (s : ByteArray) (w : World) (hs : s.size ≤ 1000000) (hc : w.cell? ⟨4, 15, none⟩ = some (.int .u8 4)) :
    Calls Tryd.prog 9 #[.string s] w fun e w' => e = .returned (.string (txt (hexOf s.data.toList))) ∧ Below w.heap.size w w' := by
  have HC := Lib.hid hc
  have hlt := block_lt_of_cell hc
  have HLT := Lib.hid hlt
  clear hc hlt
  go_enter Tryd.func9, Tryd.ntmps9
  go_wp2
  go_loopw [3, 7] (fun t i wr => ∃ (k : Nat) (x : ByteArray), k ≤ s.size ∧ i = .int .i64 (k : Int) ∧ t = .string x ∧ x = txt (hexOf (s.data.toList.take k)) ∧ Below w.heap.size w wr) (fun _ i _ => s.size - (intOf i).toNat)
  case atStart => exact ⟨0, _, by omega, rfl, rfl, rfl, Below.refl _ _⟩
  case round =>
    obtain ⟨k, x, hk, rfl, rfl, hx, hb⟩ := hrel
    have HB := Lib.hid hb
    have HX := Lib.hid hx
    have hxz : x.size ≤ 2 * k := by rw [hx, txt_size, hexOf_length, List.length_take]; omega
    clear hb hx
    by_cases hlt : k < s.size
    · have hb256 : s[k].toNat < 256 := s[k].toNat_lt
      obtain ⟨n, hn⟩ : ∃ n, s[k].toNat + 256 = n := ⟨_, rfl⟩
      have hni : (s[k].toNat : Int) + 256 = (n : Int) := by omega
      have hn1 : 256 ≤ n := by omega
      have hn2 : n < 512 := by omega
      have HN := Lib.hid hn
      clear hn
      go_wp2_with fail
      refine (fmt_any n _ hn1 hn2 ((HB.out.cell HLT.out).trans HC.out)).mono ?_
      rintro e w3 ⟨rfl, hb3⟩
      have HB3 := Lib.hid hb3
      clear hb3
      have hyz : (txt [49, hexd (n / 16 % 16), hexd (n % 16)]).size = 3 := by rw [txt_size]; rfl
      have hext : (txt [49, hexd (n / 16 % 16), hexd (n % 16)]).extract 1 3 = txt [hexd (n / 16 % 16), hexd (n % 16)] := by
        rw [← txt_of (ByteArray.extract _ _ _), ByteArray.data_extract, Array.toList_extract, txt_list]; rfl
      have hzz : (txt [hexd (n / 16 % 16), hexd (n % 16)]).size = 2 := by rw [txt_size]; rfl
      generalize hz : txt [hexd (n / 16 % 16), hexd (n % 16)] = z at hext hzz
      generalize hy : txt [49, hexd (n / 16 % 16), hexd (n % 16)] = y at hyz hext
      have HZ := Lib.hid hz
      clear hy hz
      go_wp2
      go_roundw
      case rel =>
        refine ⟨k + 1, x ++ z, by omega, by go_num, rfl, ?_, HB.out.trans (HB3.out.mono HB.out.size)⟩
        have e : s.data.toList.take (k + 1) = s.data.toList.take k ++ [s[k]] := by
          rw [List.take_succ_eq_append_getElem (by rw [size_len]; exact hlt)]; rfl
        have e1 : n / 16 % 16 = s[k].toNat / 16 := by have := HN.out; omega
        have e2 : n % 16 = s[k].toNat % 16 := by have := HN.out; omega
        rw [e, hexOf_snoc, HX.out, ← HZ.out, txt_append, e1, e2]
      case measure => simp [intOf]; omega
    · obtain rfl : k = s.size := by omega
      go_wp2
      go_ret
      refine ⟨?_, HB.out⟩
      have h := HX.out
      rw [List.take_of_length_le (by rw [size_len]; exact Nat.le_refl _)] at h
      rw [← h]
      rfl
end Go.Proofs.YtgbanlklfcbcaaaDoor
