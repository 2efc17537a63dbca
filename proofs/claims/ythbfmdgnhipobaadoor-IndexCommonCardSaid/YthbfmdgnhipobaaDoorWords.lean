/- (*running).words: the sixteen words of a block, and those made of them. -/
import Derived.Test.YthbfmdgnhipobaaDoorRot
import Derived.Test.YthbfmdgnhipobaaDoorArr
import Derived.Deep.QuietTactic
import Derived.BigQuiet
import Derived.Laws.CopyOwn
namespace Go.Proofs.YthbfmdgnhipobaaDoor
open Go.RowKit

def V32 (x : BitVec 32) : Value := .int .u32 (W32 x)
/-- The first j bytes of word k of a block. -/
def wordOf (blk : Nat → Nat) (k : Nat) : Nat → BitVec 32
  | 0 => 0
  | j + 1 => (wordOf blk k j <<< 8) ||| BitVec.ofNat 32 (blk (4 * k + j))
def wfill (blk : Nat → Nat) (k j : Nat) : Nat → BitVec 32 := fun i => if i < k then wordOf blk i 4 else if i = k then wordOf blk k j else 0

theorem w_nat (n : Nat) : (n : Int) % (4294967296 : Int) = W32 (BitVec.ofNat 32 n) := by unfold W32; rw [BitVec.toNat_ofNat]; omega
theorem w_shl8 (x : BitVec 32) : W32 x * (256 : Int) % (4294967296 : Int) = W32 (x <<< 8) := by rw [← w_shl]; rfl
theorem wfill_step (blk : Nat → Nat) (k j : Nat) : upd (wfill blk k j) k (wordOf blk k (j + 1)) = wfill blk k (j + 1) := by
  funext i; unfold upd wfill
  by_cases h : i = k
  · simp [h]
  · simp [h]
theorem wfill_next (blk : Nat → Nat) (k : Nat) : wfill blk k 4 = wfill blk (k + 1) 0 := by
  funext i; unfold wfill
  by_cases h : i < k
  · rw [if_pos h, if_pos (by omega)]
  · by_cases h2 : i = k
    · subst h2; simp
    · rw [if_neg h, if_neg h2, if_neg (by omega)]; simp [wordOf]
theorem wfill_self (blk : Nat → Nat) (k j : Nat) : wfill blk k j k = wordOf blk k j := by simp [wfill]
/-- The words behind n of those that are made. -/
def wext (blk : Nat → Nat) : Nat → Nat → BitVec 32
  | 0 => wfill blk 16 0
  | n + 1 => upd (wext blk n) (n + 16) (((wext blk n n + s0 (wext blk n (n + 1))) + wext blk n (n + 9)) + s1 (wext blk n (n + 14)))

structure WRel (N : Nat) (w wr : World) (g : Nat → BitVec 32) : Prop where
  below : Below N w wr
  size : wr.heap.size = N + 2
  res : Holds wr N 64 (fun _ => .int .u32 0) 44
  own : Holds wr (N + 1) 64 (fun i => V32 (g i)) 44
theorem WRel.store {N : Nat} {w wr : World} {g : Nat → BitVec 32} (h : WRel N w wr g) (k : Nat) (x : BitVec 32) : WRel N w (wr.setCell ⟨N + 1, k, none⟩ (.int .u32 (W32 x))) (upd g k x) :=
  ⟨h.below.setCell (by show N ≤ N + 1; omega) _, by simp [World.setCell]; exact h.size, h.res.other (by show N ≠ N + 1; omega) _, (h.own.set k _).congr fun i _ => by unfold upd; split <;> rfl⟩
theorem WRel.drew {N : Nat} {w wr : World} {g : Nat → BitVec 32} (h : WRel N w wr g) : WRel N w wr.drew g := ⟨h.below.drew, h.size, h.res, h.own⟩

theorem size1 (w : World) : (Go.sizeOf 5).run Tryd.prog w = .ok 1 w := by kernel_rfl
theorem words_any (B : Nat) (blk : Nat → Nat) (w : World) (hB : B < w.heap.size)
    (hblk : ∀ i, i < 64 → w.cell? ⟨B, 8 + i, none⟩ = some (.int .u8 (blk i : Int))) :
    Calls Tryd.prog 43 #[.pointer (some ⟨B, 0, none⟩)] w fun e w' => e = .returned (.agg (arr 64 fun i => V32 (wext blk 48 i))) ∧ Below w.heap.size w w' := by
  have H := Lib.hid hblk; clear hblk
  go_enter Tryd.func43, Tryd.ntmps43
  go_wp2
  go_loopw [10] (fun i wr => ∃ k : Nat, k ≤ 16 ∧ i = .int .i64 k ∧ WRel w.heap.size w wr (wfill blk k 0)) (fun i _ => 16 - (intOf i).toNat)
  case atStart =>
    refine ⟨0, by omega, rfl, ⟨(((Below.refl _ _).alloc (Nat.le_refl _) _).alloc (by simp) _), by simp, ?_, ?_⟩⟩
    · exact (Holds.new w 64 (fun _ => .int .u32 0) 44).alloc _
    · have hz := Holds.new (w.alloc (.cells (arr 64 (fun _ => .int .u32 0)) 44)) 64 (fun _ => .int .u32 0) 44
      rw [World.size_alloc] at hz
      exact hz
  case round =>
    obtain ⟨k, hk, rfl, hr⟩ := hrel
    by_cases hlt : k < 16
    · have hsl := fun wx => sliceAt_lh (P := Tryd.prog) 62 5 64 Tryd.underlying62 size1 B 8 (4 * k) (4 * k + 4) (by omega) (by omega) (by omega) (4 * (k : Int)) (4 * (k : Int) + 4) (by omega) (by omega) wx
      simp only [show 4 * k + 4 - 4 * k = 4 from by omega] at hsl
      go_wp2
      clear hsl
      go_loopw [23] (fun j wj => ∃ i : Nat, i ≤ 4 ∧ j = .int .i64 i ∧ WRel w.heap.size w wj (wfill blk k i)) (fun j _ => 4 - (intOf j).toNat)
      case atStart => exact ⟨0, by omega, rfl, hr⟩
      case round =>
        clear hr
        obtain ⟨j, hj, rfl, hr⟩ := hrel
        by_cases hlj : j < 4
        · have hc1 : wr.cell? ⟨B, 8 + 4 * k + j, none⟩ = some (.int .u8 (blk (4 * k + j) : Int)) := by
            have := H.out (4 * k + j) (by omega)
            rw [show 8 + (4 * k + j) = 8 + 4 * k + j from by omega] at this
            rw [← this]; exact hr.below.cell hB
          have hc2 : wr.cell? ⟨w.heap.size + 1, k, none⟩ = some (.int .u32 (W32 (wfill blk k j k))) := hr.own.cell k (by omega)
          have hf2 : wr.frozen? ⟨w.heap.size + 1, k, none⟩ = false := hr.own.free k
          go_wp2
          go_roundw
          case rel =>
            refine ⟨j + 1, by omega, by go_num, ?_⟩
            rw [wfill_self, w_shl8, w_nat, w_or, ← wfill_step]
            exact hr.store k _
          case measure => simp [intOf]; omega
        · obtain rfl : j = 4 := by omega
          go_wp2
          go_roundw
          case rel => exact ⟨k + 1, by omega, by go_num, by rw [← wfill_next]; exact hr⟩
          case measure => simp [intOf]; omega
    · have HK := Lib.hid (show k = 16 by omega)
      go_wp2
      clear hk hlt H
      go_loopw [38] (fun i wi => ∃ n : Nat, n ≤ 48 ∧ i = .int .i64 n ∧ WRel w.heap.size w wi (wext blk n)) (fun i _ => 48 - (intOf i).toNat)
      case atStart => exact ⟨0, by omega, rfl, by rw [HK.out] at hr; exact hr⟩
      case round =>
        clear hr
        obtain ⟨n, hn, rfl, hr⟩ := hrel
        by_cases hlt : n < 48
        · have hc : ∀ i, i < 64 → wr.cell? ⟨w.heap.size + 1, i, none⟩ = some (.int .u32 (W32 (wext blk n i))) := fun i hi => hr.own.cell i hi
          have h0 := hc n (by omega)
          have h1 := hc (n + 1) (by omega)
          have h9 := hc (n + 9) (by omega)
          have h14 := hc (n + 14) (by omega)
          have hf := hr.own.free (n + 16)
          have h16 := hc (n + 16) (by omega)
          clear hc
          go_wp2
          go_quiet (fail)
          go_wp2_with (go_at_call 44; refine (rot_any _ _ (by decide) (by decide) _).mono ?_; rintro e w' ⟨rfl, rfl⟩)
          go_region
          all_goals go_wp2
          go_roundw
          case rel =>
            refine ⟨n + 1, by omega, by go_num, ?_⟩
            rw [w_shr3, w_shr10, w_xor, w_xor, w_xor, w_xor, w_sum4]
            have hd : WRel w.heap.size w (wr.drewN (nq + 1)) (wext blk n) := ⟨below_drewN hr.below _, hr.size, hr.res, hr.own⟩
            exact hd.store (n + 16) _
          case measure => simp [intOf]; omega
        · obtain rfl : n = 48 := by omega
          clear hn hlt
          have hi : (Tryd.prog.info? 44).map (·.size) = some (arr 64 fun i => V32 (wext blk 48 i)).size := by rw [arr_size]; kernel_rfl
          have hz : (arr 64 fun _ => Value.int .u32 0).size = (arr 64 fun i => V32 (wext blk 48 i)).size := by rw [arr_size, arr_size]
          have h1 := arr_one 64 (fun i => V32 (wext blk 48 i)) (fun _ => rfl)
          obtain ⟨z, ez⟩ : ∃ z, z = arr 64 fun i => V32 (wext blk 48 i) := ⟨_, rfl⟩
          have Hr := hr
          have Hown : wr.heap[w.heap.size + 1]? = some (.cells z 44 (0, 0)) := by rw [ez]; exact hr.own
          have Hres : wr.heap[w.heap.size]? = some (.cells (arr 64 fun _ => Value.int .u32 0) 44 (0, 0)) := hr.res
          rw [← ez] at hi hz h1
          have EZ := Lib.hid ez
          have HR := Lib.hid Hr
          have HI := Lib.hid hi
          have HZ := Lib.hid hz
          have H1 := Lib.hid h1
          have HO := Lib.hid Hown
          have HE := Lib.hid Hres
          clear ez Hr hr hi hz h1 Hown Hres
          go_wp2_with (first | (refine wpList_load_row rfl 44 (.tmp 3) rfl (w.heap.size + 1) rfl 44 z (0, 0) _ HO.out Tryd.underlying44 rfl HI.out ?_) | (refine wpList_store_row rfl 44 (.tmp 2) (.tmp 81) rfl w.heap.size z rfl rfl 44 _ HE.out HI.out HZ.out H1.out ?_))
          have hp : Holds (wr.setRow w.heap.size z) w.heap.size 64 (fun i => V32 (wext blk 48 i)) 44 := by
            rw [EZ.out]; exact HR.out.res.row _
          have hrun : ∀ tmps : Array Value, tmps.getD 2 undef = .pointer (some ⟨w.heap.size, 0, none⟩) → (results Tryd.f43 tmps).run Tryd.prog (wr.setRow w.heap.size z) = .ok (.agg z) (wr.setRow w.heap.size z) := fun tmps ht =>
            results_cell_row (by rfl) tmps _ w.heap.size 44 z (0, 0) _ ht (by rw [EZ.out] at hp ⊢; exact hp) Tryd.underlying44 rfl HI.out
          exact bodyPost_ret (hrun _ rfl) rfl ⟨by rw [EZ.out], below_setRow HR.out.below (Nat.le_refl _) _⟩
end Go.Proofs.YthbfmdgnhipobaaDoor
