/- The program's words: rotations, and the bytes of a number. -/
import Derived.Test.YthbfmdgnhipobaaDoorProg
import Derived.Test.YthbfmdgnhipobaaDoorBits
import Derived.WalkLawsBesides
import Derived.Lib.Hide
import Derived.Outline
namespace Go.Proofs.YthbfmdgnhipobaaDoor
open Go.RowKit

theorem rot_bits_all : ∀ n : Fin 32, 0 < n.val → bits BinOp.and IntKind.u64 (IntKind.u64.wrap (-(n.val : Int))) 31 = ((32 - n.val : Nat) : Int) := by decide
theorem rot_core (x : BitVec 32) (k : Int) (m : Nat) (hk : bits BinOp.and IntKind.u64 (IntKind.u64.wrap k) 31 = (m : Int)) (h0 : 0 < m) (h1 : m < 32) (w : World) :
    Calls Tryd.prog 44 #[.int .u32 (W32 x), .int .i64 k] w fun e w' => e = .returned (.int .u32 (W32 (ror x (32 - m)))) ∧ w = w' := by
  have fin : bits BinOp.or IntKind.u32 (W32 x * 2 ^ m % 4294967296) (W32 x / 2 ^ (32 - m)) = W32 (ror x (32 - m)) := by
    rw [w_shl, w_shr, w_or, ror_or _ _ _ (by omega)]
  have F := Lib.hid fin; clear fin
  go_enter Tryd.func44, Tryd.ntmps44
  go_wp2
  go_ret
  refine ⟨?_, rfl⟩
  rw [← F.out]
  rfl
/-- bits.RotateLeft32 by -k, 0 < k < 32. -/
theorem rot_any (x : BitVec 32) (k : Int) (h0 : -32 < k) (h1 : k < 0) (w : World) :
    Calls Tryd.prog 44 #[.int .u32 (W32 x), .int .i64 k] w fun e w' => e = .returned (.int .u32 (W32 (ror x (-k).toNat))) ∧ w = w' := by
  have e := rot_bits_all ⟨(-k).toNat, by omega⟩ (by show 0 < (-k).toNat; omega)
  simp only at e
  rw [show (-(((-k).toNat : Nat) : Int)) = k from by omega] at e
  have h := rot_core x k (32 - (-k).toNat) e (by omega) (by omega) w
  rwa [show 32 - (32 - (-k).toNat) = (-k).toNat from by omega] at h

end Go.Proofs.YthbfmdgnhipobaaDoor
