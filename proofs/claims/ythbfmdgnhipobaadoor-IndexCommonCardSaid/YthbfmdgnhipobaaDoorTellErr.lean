/- api.Tell, plain.Place: errors taken apart (nil, and a bare api.Errno). -/
import Derived.Test.YthbfmdgnhipobaaDoorAs
namespace Go.Proofs.YthbfmdgnhipobaaDoor
open Go.RowKit

theorem tell_nil (w : World) : Calls Tryd.prog 36 #[.nilIface] w fun e w' => e = .returned (.int .i64 0) ∧ w' = w := by
  go_enter Tryd.func36, Tryd.ntmps36
  go_wp2
  go_ret
  exact ⟨rfl, rfl⟩
theorem tell_errno (n : Int) (w : World) (hg : w.cell? ⟨1, 0, none⟩ = some (.iface 100 (.agg #[hand 29]))) :
    Calls Tryd.prog 36 #[.iface 25 (.int .i64 n)] w fun e w' => e = .returned (.int .i64 n) ∧ Below w.heap.size w w' := by
  have hgl : (1 : Nat) < w.heap.size := block_lt_of_cell hg
  have hg1 : (w.alloc (.cells #[.int .i64 0] 25)).cell? ⟨1, 0, none⟩ = some (.iface 100 (.agg #[hand 29])) := by
    rw [World.cell?_alloc_lt _ _ ⟨1, 0, none⟩ hgl]; exact hg
  have HG := Lib.hid hg1
  clear hg hg1
  go_enter Tryd.func36, Tryd.ntmps36
  go_wp2_with fail
  refine (as_hit n ⟨w.heap.size, 0, none⟩ (.int .i64 0) _ HG.out (by simp) (by simp)).mono ?_
  rintro e w' ⟨rfl, o1, o2, o3, o4, rfl⟩
  go_wp2
  go_ret
  refine ⟨rfl, ?_⟩
  exact (((((Below.refl w.heap.size w).alloc (Nat.le_refl _) _).alloc (by simp) _).alloc (by simp; omega) _).alloc (by simp; omega) _).alloc (by simp; omega) _
set_option maxRecDepth 100000 in
theorem place_nil (w : World) : Calls Tryd.prog 21 #[.nilIface] w fun e w' => e = .returned (.tuple #[.int .i64 0, .int .i64 (-1)]) ∧ w' = w := by
  go_enter Tryd.func21, Tryd.ntmps21
  go_wp2_with fail
  refine (tell_nil _).mono ?_
  rintro e w1 ⟨rfl, rfl⟩
  go_wp2
  refine wp_loop_rounds 1 ?_
  rw [rounds_succ]
  go_wp2
  refine bodyPost_ret (results_tmp2 rfl _ _ _) rfl ?_
  exact ⟨rfl, rfl⟩
theorem notAt (n : Int) (w : World) : (Instr.typeAssert (.iface 25 (.int .i64 n)) 29 69 true).run Tryd.prog w = .ok (.tuple #[.pointer none, .bool false]) w := by kernel_rfl
theorem noUnwrap (v : Value) (w : World) : (Instr.typeAssert (.iface 25 v) 29 73 true).run Tryd.prog w = .ok (.tuple #[.nilIface, .bool false]) w :=
  run_typeAssert_lacksB Tryd.underlying73 (by kernel_rfl) (by kernel_rfl) v _ w
set_option maxRecDepth 100000 in
theorem place_errno (n : Int) (w : World) (hg : w.cell? ⟨1, 0, none⟩ = some (.iface 100 (.agg #[hand 29]))) :
    Calls Tryd.prog 21 #[.iface 25 (.int .i64 n)] w fun e w' => e = .returned (.tuple #[.int .i64 n, .int .i64 (-1)]) ∧ Below w.heap.size w w' := by
  go_enter Tryd.func21, Tryd.ntmps21
  go_wp2_with fail
  refine (tell_errno n _ hg).mono ?_
  rintro e w1 ⟨rfl, hb⟩
  have HB := Lib.hid hb
  clear hb
  have a1 := notAt n
  have a2 := noUnwrap
  go_wp2
  refine wp_loop_rounds 1 ?_
  rw [rounds_succ]
  go_wp2
  refine bodyPost_ret (results_tmp2 rfl _ _ _) rfl ?_
  exact ⟨rfl, HB.out⟩
set_option maxRecDepth 100000 in
theorem bare_nil (n : Int) (w : World) : Calls Tryd.prog 9 #[.nilIface, .int .i64 n] w fun e w' => e = .returned (.bool (decide (n = 0))) ∧ w' = w := by
  go_enter Tryd.func9, Tryd.ntmps9
  go_wp2_with fail
  refine (place_nil _).mono ?_
  rintro e w1 ⟨rfl, rfl⟩
  by_cases h : n = 0
  · subst h
    go_wp2
    go_ret
    exact ⟨rfl, rfl⟩
  · go_wp2
    go_ret
    refine ⟨?_, rfl⟩
    show Ending.returned (Value.bool _) = _
    congr 2
    simp; omega
set_option maxRecDepth 100000 in
theorem bare_errno (m n : Int) (w : World) (hg : w.cell? ⟨1, 0, none⟩ = some (.iface 100 (.agg #[hand 29]))) :
    Calls Tryd.prog 9 #[.iface 25 (.int .i64 m), .int .i64 n] w fun e w' => e = .returned (.bool (decide (m = n))) ∧ Below w.heap.size w w' := by
  go_enter Tryd.func9, Tryd.ntmps9
  go_wp2_with fail
  refine (place_errno m _ hg).mono ?_
  rintro e w1 ⟨rfl, hb⟩
  have HB := Lib.hid hb
  clear hb
  by_cases h : m = n
  · subst h
    go_wp2
    go_ret
    exact ⟨by simp, HB.out⟩
  · go_wp2
    go_ret
    refine ⟨?_, HB.out⟩
    simp [h]
end Go.Proofs.YthbfmdgnhipobaaDoor
