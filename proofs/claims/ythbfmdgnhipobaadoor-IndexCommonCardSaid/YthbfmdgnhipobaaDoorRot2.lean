/- The document's rotation (a closure without captures). -/
import Derived.Test.YthbfmdgnhipobaaDoorProg
import Derived.Test.YthbfmdgnhipobaaDoorBits
import Derived.WalkLawsBesides
import Derived.Lib.Hide
import Derived.Outline
import Derived.Deep.QuietTactic
import Derived.BigQuiet
namespace Go.Proofs.YthbfmdgnhipobaaDoor
open Go.RowKit

theorem rotR_core (x : BitVec 32) (n : Nat) (h0 : 0 < n) (h1 : n < 32) (w : World) :
    Calls Tryd.prog 38 #[.int .u32 (W32 x), .int .i64 (n : Int)] w fun e w' => e = .returned (.int .u32 (W32 (ror x n))) ∧ ∃ m, w' = w.drewN m := by
  go_enter Tryd.func38, Tryd.ntmps38
  go_wp2
  go_quiet (fail)
  go_wp2
  go_ret
  refine ⟨?_, _, rfl⟩
  have fin : (W32 x / 2 ^ n + W32 x * 2 ^ (32 - n) % 4294967296) % (4294967296 : Int) = W32 (ror x n) := by
    rw [w_shr, w_shl, w_add, ror_add _ _ _ (by omega)]
  rw [← fin]
  rfl
theorem rotR_any (x : BitVec 32) (k : Int) (h0 : 0 < k) (h1 : k < 32) (w : World) :
    Calls Tryd.prog 38 #[.int .u32 (W32 x), .int .i64 k] w fun e w' => e = .returned (.int .u32 (W32 (ror x k.toNat))) ∧ ∃ m, w' = w.drewN m := by
  have h := rotR_core x k.toNat (by omega) (by omega) w
  rwa [show ((k.toNat : Nat) : Int) = k from by omega] at h
end Go.Proofs.YthbfmdgnhipobaaDoor
