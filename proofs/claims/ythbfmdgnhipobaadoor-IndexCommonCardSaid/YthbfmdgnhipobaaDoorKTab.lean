/- The numbers of rounds, reckoned from roots of primes, are the tables'. -/
import Derived.Test.YthbfmdgnhipobaaDoorRoot
import Derived.Test.YthbfmdgnhipobaaDoorPrimes
import Derived.Test.YthbfmdgnhipobaaDoorRSum
namespace Go.Proofs.YthbfmdgnhipobaaDoor
open Go.RowKit

theorem k_all : (List.range 64).all (fun i => rootL ((pl 310).getD i 0) 3 == kTab.getD i 0) = true := by decide +kernel
theorem h_all : (List.range 8).all (fun i => rootL ((pl 310).getD i 0) 2 == (iv i).toNat) = true := by decide +kernel
theorem k_root (i : Nat) (h : i < 64) : rootL ((pl 310).getD i 0) 3 = kTab.getD i 0 := by
  have := List.all_eq_true.1 k_all i (List.mem_range.2 h); simpa using this
theorem h_root (i : Nat) (h : i < 8) : rootL ((pl 310).getD i 0) 2 = (iv i).toNat := by
  have := List.all_eq_true.1 h_all i (List.mem_range.2 h); simpa using this

theorem k_val (i : Nat) (h : i < 64) : ((rootL ((pl 310).getD i 0) 3 : Nat) : Int) = W32 (kOf i) := by
  have h1 := k_root i h
  have h2 : rootL ((pl 310).getD i 0) 3 < 4294967296 := Nat.mod_lt _ (by decide)
  rw [h1] at h2 ⊢
  unfold W32 kOf
  rw [BitVec.toNat_ofNat, Nat.mod_eq_of_lt (by omega)]
theorem h_val (i : Nat) (h : i < 8) : ((rootL ((pl 310).getD i 0) 2 : Nat) : Int) = W32 (iv i) := by
  have h1 := h_root i h
  rw [h1]; rfl

end Go.Proofs.YthbfmdgnhipobaaDoor
