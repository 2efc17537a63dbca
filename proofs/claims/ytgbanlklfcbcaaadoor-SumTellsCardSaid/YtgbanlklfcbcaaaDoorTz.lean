/- math/bits.TrailingZeros of 16. -/
import Derived.Test.YtgbanlklfcbcaaaDoorArr
import Derived.Test.YtgbanlklfcbcaaaDoorProg
namespace Go.Proofs.YtgbanlklfcbcaaaDoor
open Go.RowKit

set_option maxRecDepth 100000 in
theorem tz64_any (w : World) (hc : w.cell? ⟨4, 15, none⟩ = some (.int .u8 4)) :
    Calls Tryd.prog 47 #[.int .u64 16] w fun e w' => e = .returned (.int .i64 4) ∧ w' = w := by
  have k1 : IntKind.u64.wrap (-16) = 18446744073709551600 := by decide +kernel
  have k2 : bits BinOp.and IntKind.u64 16 18446744073709551600 = 16 := by decide +kernel
  go_enter Tryd.func47, Tryd.ntmps47
  go_wp2
  go_ret
  exact ⟨rfl, rfl⟩
set_option maxRecDepth 100000 in
theorem tz_any (w : World) (hc : w.cell? ⟨4, 15, none⟩ = some (.int .u8 4)) :
    Calls Tryd.prog 45 #[.int .u64 16] w fun e w' => e = .returned (.int .i64 4) ∧ w' = w := by
  go_enter Tryd.func45, Tryd.ntmps45
  go_wp2_with fail
  refine (tz64_any _ hc).mono ?_
  rintro e w1 ⟨rfl, rfl⟩
  go_wp2
  go_ret
  exact ⟨rfl, rfl⟩
end Go.Proofs.YtgbanlklfcbcaaaDoor
