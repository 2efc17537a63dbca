/- SumTells, the walk. -/
import Derived.Test.YtgbanlklfcbcaaaDoorLongs
import Derived.Test.YtgbanlklfcbcaaaDoorNew
import Derived.Test.YtgbanlklfcbcaaaDoorRMark
import Derived.Test.YtgbanlklfcbcaaaDoorRHex
import Derived.Test.YtgbanlklfcbcaaaDoorRNum
namespace Go.Proofs.YtgbanlklfcbcaaaDoor
open Go.RowKit

set_option maxHeartbeats 4000000 in
set_option maxRecDepth 100000 in
theorem tells_any (s : ByteArray) (n : Int) (kind : UInt8) (parts : List ByteArray) (pa : Option Addr) (cap : Nat) (w : World) (hk : HasK w) (h4 : w.cell? ⟨4, 15, none⟩ = some (.int .u8 4))
    (hc : ∀ (i : Nat) p, parts[i]? = some p → ∃ a, pa = some a ∧ a.block < w.heap.size ∧ w.cell? (a.add i) = some (.string p)) :
    Calls Tryd.prog 3 #[.string s, .int .i64 n, .int .u8 (kind.toNat : Int), .slice pa parts.length cap] w fun e w' => e = .returned (.bool true) ∧ Below w.heap.size w w' := by
  have hlt := block_lt_of_cell h4
  have HC := Lib.hid hc
  have HK := Lib.hid hk
  have H4 := Lib.hid h4
  have HLT := Lib.hid hlt
  clear hc hk h4 hlt
  by_cases hs : 400 < s.size
  · go_enter Tryd.func3, Tryd.ntmps3
    go_wp2
    go_ret
    exact ⟨rfl, Below.refl _ _⟩
  · go_enter Tryd.func3, Tryd.ntmps3
    go_wp2_with fail
    refine (longs_any parts pa cap _ HC.out).mono ?_
    rintro e w0 ⟨b, rfl, rfl, hb⟩
    cases b with
    | true =>
      go_wp2
      go_ret
      exact ⟨rfl, Below.refl _ _⟩
    | false =>
      obtain ⟨hl1, hl2⟩ := hb rfl
      have htot : total parts ≤ 1073741800 := by
        have : total parts ≤ 68 * parts.length := by
          clear hb HC
          unfold total
          have key : ∀ l : List ByteArray, (∀ p ∈ l, p.size ≤ 60) → (l.map fun p => p.size + 8).sum ≤ 68 * l.length := by
            intro l
            induction l with
            | nil => intro _; simp
            | cons a l ih =>
              intro h
              have h1 := h a (by simp)
              have h2 := ih (fun p hp => h p (by simp [hp]))
              simp only [List.map_cons, List.sum_cons, List.length_cons]
              omega
          refine key parts fun p hp => ?_
          obtain ⟨i, hi, e⟩ := List.getElem_of_mem hp
          exact hl2 i p (by rw [List.getElem?_eq_getElem hi, e])
        omega
      have hs2 : s.size ≤ 1000 := by omega
      have hl3 : parts.length ≤ 1000000 := by omega
      clear hl2 hb
      go_wp2_with fail
      refine (new_any _).mono ?_
      rintro e w1 ⟨b, rfl, hbb, hb1, hh1⟩
      have HB1 := Lib.hid hb1
      have HH1 := Lib.hid hh1
      clear hb1 hh1
      obtain ⟨y1, hy1⟩ : ∃ y, txt (sumOf s.data.toList) = y := ⟨_, rfl⟩
      obtain ⟨y2, hy2⟩ : ∃ y, txt (hexOf s.data.toList) = y := ⟨_, rfl⟩
      obtain ⟨y3, hy3⟩ : ∃ y, txt (num8 n) = y := ⟨_, rfl⟩
      obtain ⟨y4, hy4⟩ : ∃ y, markOf kind parts = y := ⟨_, rfl⟩
      have Y1 := Lib.hid hy1
      have Y2 := Lib.hid hy2
      have Y3 := Lib.hid hy3
      have Y4 := Lib.hid hy4
      clear hy1 hy2 hy3 hy4
      go_wp2_with fail
      refine (sum_any s _ (HK.out.below HB1.out HK.out.lt) (by omega)).mono ?_
      rintro e w2 ⟨rfl, hb2⟩
      rw [Y1.out]
      have HB2 := Lib.hid (HB1.out.trans (hb2.mono HB1.out.size))
      have HH2 := Lib.hid (HH1.out.below hb2 HH1.out.lt)
      clear hb2
      go_wp2_with fail
      refine (refSum_any b s _ HH2.out (by omega)).mono ?_
      rintro e w3 ⟨rfl, hb3⟩
      rw [Y1.out]
      have HB3 := Lib.hid (HB2.out.trans (hb3.mono HB2.out.size))
      have HH3 := Lib.hid (HH2.out.below hb3 HH2.out.lt)
      clear hb3
      go_wp2_with fail
      refine (hex_any s _ (by omega)).mono ?_
      rintro e w4 ⟨rfl, hb4⟩
      rw [Y2.out]
      have HB4 := Lib.hid (HB3.out.trans (hb4.mono HB3.out.size))
      have HH4 := Lib.hid (HH3.out.below hb4 HH3.out.lt)
      clear hb4
      go_wp2_with fail
      refine (refHex_any s _ (by omega) ((HB4.out.cell HLT.out).trans H4.out)).mono ?_
      rintro e w5 ⟨rfl, hb5⟩
      rw [Y2.out]
      have HB5 := Lib.hid (HB4.out.trans (hb5.mono HB4.out.size))
      have HH5 := Lib.hid (HH4.out.below hb5 HH4.out.lt)
      clear hb5
      go_wp2_with fail
      refine (num_any n _).mono ?_
      rintro e w6 ⟨rfl, hb6⟩
      rw [Y3.out]
      have HB6 := Lib.hid (HB5.out.trans (hb6.mono HB5.out.size))
      have HH6 := Lib.hid (HH5.out.below hb6 HH5.out.lt)
      clear hb6
      go_wp2_with fail
      refine (refNum_any n _).mono ?_
      rintro e w7 ⟨rfl, hb7⟩
      rw [Y3.out]
      have HB7 := Lib.hid (HB6.out.trans (hb7.mono HB6.out.size))
      have HH7 := Lib.hid (HH6.out.below hb7 HH6.out.lt)
      clear hb7
      go_wp2_with fail
      refine (mark_any kind parts pa cap _ (HK.out.below HB7.out HK.out.lt) htot hl3 (fun i p hp => ?_)).mono ?_
      · obtain ⟨a, ha, hal, hcell⟩ := HC.out i p hp
        exact ⟨a, ha, Nat.lt_of_lt_of_le hal HB7.out.size, (HB7.out.cell (by rw [show (a.add i).block = a.block from by unfold Addr.add; split <;> rfl]; exact hal)).trans hcell⟩
      rintro e w8 ⟨rfl, hb8⟩
      rw [Y4.out]
      have HB8 := Lib.hid (HB7.out.trans (hb8.mono HB7.out.size))
      have HH8 := Lib.hid (HH7.out.below hb8 HH7.out.lt)
      clear hb8
      go_wp2_with fail
      refine (refMark_any b kind parts pa cap _ HH8.out htot hl3 (fun i p hp => ?_)).mono ?_
      · obtain ⟨a, ha, hal, hcell⟩ := HC.out i p hp
        exact ⟨a, ha, Nat.lt_of_lt_of_le hal HB8.out.size, (HB8.out.cell (by rw [show (a.add i).block = a.block from by unfold Addr.add; split <;> rfl]; exact hal)).trans hcell⟩
      rintro e w9 ⟨rfl, hb9⟩
      rw [Y4.out]
      have HB9 := Lib.hid (HB8.out.trans (hb9.mono HB8.out.size))
      clear hb9
      go_wp2
      go_ret
      exact ⟨rfl, HB9.out⟩
end Go.Proofs.YtgbanlklfcbcaaaDoor
