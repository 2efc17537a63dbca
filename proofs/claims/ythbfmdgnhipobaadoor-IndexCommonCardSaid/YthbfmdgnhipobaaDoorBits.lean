/- Plain words of 32 bits as the walk shows them. No program is imported. -/
import Derived.WalkKit
import Derived.Laws.BitsAllLaws
namespace Go.Proofs.YthbfmdgnhipobaaDoor
open Go.RowKit

/-- A word as a number of the model. -/
def W32 (x : BitVec 32) : Int := (x.toNat : Int)
theorem W32_nonneg (x : BitVec 32) : 0 ≤ W32 x := Int.natCast_nonneg _
theorem W32_lt (x : BitVec 32) : W32 x < 4294967296 := by unfold W32; have := x.isLt; omega
theorem W32_inj {x y : BitVec 32} (h : W32 x = W32 y) : x = y := by unfold W32 at h; apply BitVec.eq_of_toNat_eq; omega
theorem W32_of (n : Int) (h0 : 0 ≤ n) (h1 : n < 4294967296) : W32 (BitVec.ofNat 32 n.toNat) = n := by
  unfold W32; rw [BitVec.toNat_ofNat]; omega
theorem W32_ofNat (n : Nat) (h1 : n < 4294967296) : W32 (BitVec.ofNat 32 n) = (n : Int) := by
  unfold W32; rw [BitVec.toNat_ofNat]; omega

theorem w_add (a b : BitVec 32) : (W32 a + W32 b) % 4294967296 = W32 (a + b) := by
  unfold W32; rw [BitVec.toNat_add]; omega
theorem w_mul (a b : BitVec 32) : (W32 a * W32 b) % 4294967296 = W32 (a * b) := by
  unfold W32; rw [BitVec.toNat_mul]; simp
theorem w_xor (a b : BitVec 32) : bits BinOp.xor IntKind.u32 (W32 a) (W32 b) = W32 (a ^^^ b) := by
  unfold W32; rw [u32_xor_nat _ _ a.isLt b.isLt, BitVec.toNat_xor]
theorem w_and (a b : BitVec 32) : bits BinOp.and IntKind.u32 (W32 a) (W32 b) = W32 (a &&& b) := by
  unfold W32; rw [u32_and_nat _ _ a.isLt b.isLt, BitVec.toNat_and]
theorem w_or (a b : BitVec 32) : bits BinOp.or IntKind.u32 (W32 a) (W32 b) = W32 (a ||| b) := by
  unfold W32; rw [u32_or_nat _ _ a.isLt b.isLt, BitVec.toNat_or]
theorem w_andNot (a b : BitVec 32) : bits BinOp.andNot IntKind.u32 (W32 a) (W32 b) = W32 (a &&& ~~~b) := by
  unfold W32; rw [u32_andNot_nat _ _ a.isLt b.isLt, BitVec.toNat_and, BitVec.toNat_not]
theorem w_shl (a : BitVec 32) (n : Nat) : (W32 a * 2 ^ n) % 4294967296 = W32 (a <<< n) := by
  unfold W32; rw [BitVec.toNat_shiftLeft, Nat.shiftLeft_eq]; simp [Int.natCast_emod]
theorem w_shr (a : BitVec 32) (n : Nat) : W32 a / 2 ^ n = W32 (a >>> n) := by
  unfold W32; rw [BitVec.toNat_ushiftRight, Nat.shiftRight_eq_div_pow]; simp

theorem w_shr3 (a : BitVec 32) : W32 a / (8 : Int) = W32 (a >>> 3) := w_shr a 3
theorem w_shr10 (a : BitVec 32) : W32 a / (1024 : Int) = W32 (a >>> 10) := w_shr a 10
theorem w_sum3 (a b c : BitVec 32) : (W32 a + W32 b + W32 c) % (4294967296 : Int) = W32 (a + b + c) := by
  rw [← w_add, ← w_add]; omega
theorem w_sum4 (a b c d : BitVec 32) : (W32 a + W32 b + W32 c + W32 d) % (4294967296 : Int) = W32 (a + b + c + d) := by
  rw [← w_add, ← w_sum3]; omega
theorem w_sum5 (a b c d e : BitVec 32) : (W32 a + W32 b + W32 c + W32 d + W32 e) % (4294967296 : Int) = W32 (a + b + c + d + e) := by
  rw [← w_add, ← w_sum4]; omega
theorem w_t1 (a b c d e : BitVec 32) : (W32 a + W32 b + (W32 c + W32 d + W32 e)) % (4294967296 : Int) = W32 ((a + b) + ((c + d) + e)) := by
  rw [← w_add (a + b), ← w_sum3 c, ← w_add a]; omega
/-- A rotation, as both texts mean it: by n to the right. -/
def ror (x : BitVec 32) (n : Nat) : BitVec 32 := (x >>> n) ||| (x <<< (32 - n))
theorem ror_or (x : BitVec 32) (n m : Nat) (h : n + m = 32) : (x <<< m) ||| (x >>> n) = ror x n := by
  unfold ror; rw [show 32 - n = m from by omega, BitVec.or_comm]
theorem ror_add (x : BitVec 32) (n m : Nat) (h : n + m = 32) : (x >>> n) + (x <<< m) = ror x n := by
  unfold ror; rw [show 32 - n = m from by omega]
  apply BitVec.add_eq_or_of_and_eq_zero
  ext i hi
  simp
  intro h1 h2
  exfalso
  rcases Nat.lt_or_ge (n + i) 32 with h3 | h3
  · omega
  · rw [BitVec.getLsbD_of_ge x _ h3] at h1; cases h1

def ch (e f g : BitVec 32) : BitVec 32 := (e &&& f) ^^^ (g &&& ~~~e)
def maj (a b c : BitVec 32) : BitVec 32 := ((a &&& b) ^^^ (a &&& c)) ^^^ (b &&& c)
theorem ch_alt (e f g : BitVec 32) : g ^^^ (e &&& (f ^^^ g)) = ch e f g := by
  unfold ch; ext i hi; simp; cases e[i] <;> cases f[i] <;> cases g[i] <;> rfl
theorem maj_alt (a b c : BitVec 32) : (a &&& b) ||| (c &&& (a ||| b)) = maj a b c := by
  unfold maj; ext i hi; simp; cases a[i] <;> cases b[i] <;> cases c[i] <;> rfl
def S0 (x : BitVec 32) : BitVec 32 := (ror x 2 ^^^ ror x 13) ^^^ ror x 22
def S1 (x : BitVec 32) : BitVec 32 := (ror x 6 ^^^ ror x 11) ^^^ ror x 25
def s0 (x : BitVec 32) : BitVec 32 := (ror x 7 ^^^ ror x 18) ^^^ (x >>> 3)
def s1 (x : BitVec 32) : BitVec 32 := (ror x 17 ^^^ ror x 19) ^^^ (x >>> 10)
end Go.Proofs.YthbfmdgnhipobaaDoor
