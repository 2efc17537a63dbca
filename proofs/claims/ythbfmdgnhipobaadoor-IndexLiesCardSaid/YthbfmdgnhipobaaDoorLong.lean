/- long. -/
import Derived.Test.YthbfmdgnhipobaaDoorArr
import Derived.Test.YthbfmdgnhipobaaDoorProg
namespace Go.Proofs.YthbfmdgnhipobaaDoor
open Go.RowKit

set_option maxRecDepth 100000 in
theorem long_any (s : ByteArray) (w : World) : Calls Tryd.prog 5 #[.string s] w fun e w' => e = .returned (.bool (decide (60 < s.size))) ∧ w' = w := by
  go_enter Tryd.func5, Tryd.ntmps5
  go_wp2
  go_ret
  refine ⟨?_, rfl⟩
  show Ending.returned (Value.bool _) = _
  congr 2
  simp; omega
end Go.Proofs.YthbfmdgnhipobaaDoor
