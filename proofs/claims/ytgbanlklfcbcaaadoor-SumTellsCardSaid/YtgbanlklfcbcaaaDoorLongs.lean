/- long, longs. -/
import Derived.Test.YtgbanlklfcbcaaaDoorArr
import Derived.Test.YtgbanlklfcbcaaaDoorProg
namespace Go.Proofs.YtgbanlklfcbcaaaDoor
open Go.RowKit

set_option maxRecDepth 100000 in
theorem long_any (s : ByteArray) (w : World) : Calls Tryd.prog 14 #[.string s] w fun e w' => e = .returned (.bool (decide (60 < s.size))) ∧ w' = w := by
  go_enter Tryd.func14, Tryd.ntmps14
  go_wp2
  go_ret
  refine ⟨?_, rfl⟩
  show Ending.returned (Value.bool _) = _
  congr 2
  simp; omega
set_option maxRecDepth 100000 in
theorem longs_any (parts : List ByteArray) (pa : Option Addr) (cap : Nat) (w : World)
    (hc : ∀ (i : Nat) p, parts[i]? = some p → ∃ a, pa = some a ∧ a.block < w.heap.size ∧ w.cell? (a.add i) = some (.string p)) :
    Calls Tryd.prog 4 #[.slice pa parts.length cap] w fun e w' => ∃ b, e = .returned (.bool b) ∧ w' = w ∧ (b = false → parts.length ≤ 140 ∧ ∀ (i : Nat) p, parts[i]? = some p → p.size ≤ 60) := by
  have HC := Lib.hid hc
  clear hc
  by_cases hl : 140 < parts.length
  · go_enter Tryd.func4, Tryd.ntmps4
    go_wp2
    go_ret
    exact ⟨true, rfl, rfl, fun h => by cases h⟩
  · go_enter Tryd.func4, Tryd.ntmps4
    go_wp2
    go_loopw [3] (fun i wr => ∃ k : Nat, k ≤ parts.length ∧ i = .int .i64 (k : Int) ∧ wr = w ∧ ∀ (i : Nat) p, i < k → parts[i]? = some p → p.size ≤ 60) (fun i _ => parts.length - (intOf i).toNat)
    case atStart => exact ⟨0, by omega, rfl, rfl, fun i p h => by omega⟩
    case round =>
      obtain ⟨k, hk, rfl, rfl, hall⟩ := hrel
      have HA := Lib.hid hall
      clear hall
      by_cases hlt : k < parts.length
      · obtain ⟨p, hp⟩ : ∃ p, parts[k]? = some p := ⟨_, List.getElem?_eq_getElem hlt⟩
        obtain ⟨ad, rfl, hal, hcell⟩ := HC.out k p hp
        have HP := Lib.hid hp
        clear hp
        by_cases hpl : 60 < p.size
        · go_wp2_with (go_at_call 14; refine (long_any p _).mono ?_; rintro e w1 ⟨rfl, rfl⟩)
          go_ret
          exact ⟨true, rfl, rfl, fun h => by cases h⟩
        · go_wp2_with (go_at_call 14; refine (long_any p _).mono ?_; rintro e w1 ⟨rfl, rfl⟩)
          go_roundw
          case rel =>
            refine ⟨k + 1, by omega, by go_num, ?_, fun i p' hi hp' => ?_⟩
            · first | rfl | trivial
            · by_cases hik : i < k
              · exact HA.out i p' hik hp'
              · obtain rfl : i = k := by omega
                have := HP.out; rw [this] at hp'; injection hp' with hp'; subst hp'; omega
          case measure => simp [intOf]; omega
      · go_wp2
        go_ret
        exact ⟨false, rfl, rfl, fun _ => ⟨by omega, fun i p hp => HA.out i p (by have := (List.getElem?_eq_some_iff.1 hp).1; omega) hp⟩⟩
end Go.Proofs.YtgbanlklfcbcaaaDoor
