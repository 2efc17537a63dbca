/- Parts of the proof, one behind the other: Back, ItemEq, ItemHas, PMarks, PEnd, PRoot. -/
import Derived.RangeFuncNested
import Derived.RangeFuncBound
import Derived.RangeFuncCalls
import Derived.RangeFuncLeaves
import Derived.Shelf.Abstract
import Derived.Shelf.RegionOpen
import Derived.WalkKit
import Derived.OwnWalkIn
import Derived.TacticsInMore
import Derived.LoopNIn
import Derived.LoopIn
import Derived.Test.YtenlpbcembadcaaDoorM5
import Derived.Test.YtenlpbcembadcaaDoorM10
import Derived.Laws.StructEq
import Derived.Test.YtenlpbcembadcaaDoorM12
import Derived.Test.YtenlpbcembadcaaDoorM14
import Derived.Test.YtenlpbcembadcaaDoorM7
import Derived.Test.YtenlpbcembadcaaDoorM8
/- slices.Backward over strings: what its rounds are handed, in what order. -/
namespace Go.Proofs.YtenlpbcembadcaaDoor
open Go.RowKit Go.Shelf
attribute [local go_sem] Oper.semAt_some

/-- What has come when k rounds are over: the last places first. -/
def backTo (n k : Nat) : List Nat := (List.range k).map fun j => n - 1 - j
theorem backTo_succ (n k : Nat) : backTo n (k + 1) = backTo n k ++ [n - 1 - k] := by simp [backTo, List.range_succ]
theorem backTo_length (n k : Nat) : (backTo n k).length = k := by simp [backTo]
def back (P : List ByteArray) (ys : List (Fin P.length)) (k : Nat) : Prop := ys.map (·.val) = backTo P.length k
theorem back_snoc {P : List ByteArray} {ys : List (Fin P.length)} {k : Nat} (h : back P ys k) (x : Fin P.length) (hx : x.val = P.length - 1 - k) : back P (ys ++ [x]) (k + 1) := by
  unfold back at h ⊢
  rw [backTo_succ, List.map_append, h, List.map_singleton, hx]
theorem back_len {P : List ByteArray} {ys : List (Fin P.length)} {k : Nat} (h : back P ys k) : ys.length = k := by
  have := congrArg List.length h
  rwa [List.length_map, backTo_length] at this
def placed (P : List ByteArray) (x : Fin P.length) : ByteArray := P.getD x.val ⟨#[]⟩
/-- The texts lie below n₀. -/
def StrsAt (n₀ : Nat) (w : World) (A : Option Addr) (L : List ByteArray) : Prop := ∀ (i : Nat) p, L[i]? = some p → ∃ a, A = some a ∧ a.block < n₀ ∧ w.cell? (a.add i) = some (.string p)
theorem StrsAt.below {n₀ : Nat} {w w' : World} {A : Option Addr} {L : List ByteArray} (h : StrsAt n₀ w A L) (hb : Below n₀ w w') : StrsAt n₀ w' A L := fun i p hp => by
  obtain ⟨a, ha, hl, hc⟩ := h i p hp
  exact ⟨a, ha, hl, (hb.cell (by rw [block_add]; exact hl)).trans hc⟩

/-- What a round that goes on keeps: what lies below n₀, and the box with the slice. -/
def KeepBox (n₀ Bs : Nat) (v : Value) (W W' : World) : Prop := Below n₀ W W' ∧ (W.cell? ⟨Bs, 0, none⟩ = some v → W'.cell? ⟨Bs, 0, none⟩ = some v)
theorem keepBox_t {n₀ Bs : Nat} {v : Value} {A B C : World} (h : KeepBox n₀ Bs v A B) (k : KeepBox n₀ Bs v B C) : KeepBox n₀ Bs v A C := ⟨h.1.trans k.1, fun e => k.2 (h.2 e)⟩
theorem keepBox_b {n₀ Bs : Nat} {v : Value} {w : World} (hn : n₀ ≤ w.heap.size) (W : World) (l : Nat) (o o' : Obj) (hl : w.heap.size ≤ l) (h : W.heap[l]? = some o) (hc : o.isCells = false) (hw : o.isWalk = false) : KeepBox n₀ Bs v W (W.putObj l o') :=
  ⟨belowK_b hn W l o o' hl h hc hw, fun e => cell_kept e (grownBy_putObj' W l o') (fun r e => by cases e; exact ⟨_, h, hc⟩)⟩

set_option maxRecDepth 100000 in
set_option maxHeartbeats 2000000 in
theorem back1_in (F : Fence) (n : Nat) (h8 : F.fn 59) (hro : F.round = none) (hn : 1 ≤ n) (l Bs n₀ cap : Nat) (A : Option Addr) (P : List ByteArray) (hlen : P.length ≤ 1000000) (J Jx : List (Fin P.length) → World → Prop)
    (hY : ∀ pre x W, J pre W → pre.length < P.length → YieldAt F (n - 1) Tryd.prog l #[.int .i64 (x.val : Int), .string (placed P x)] W fun e W' =>
      (e = .returned (.bool true) ∧ J (pre ++ [x]) W' ∧ KeepBox n₀ Bs (.slice A P.length cap) W W') ∨ (e = .returned (.bool false) ∧ Jx (pre ++ [x]) W'))
    (W : World) (hBs : W.cell? ⟨Bs, 0, none⟩ = some (.slice A P.length cap)) (hc : StrsAt n₀ W A P) (h0 : J [] W) :
    CallsIn F n Tryd.prog 59 #[.func (.yield l) #[] #[], .pointer (some ⟨Bs, 0, none⟩)] W fun e W' => (∃ v, e = .returned v) ∧
      ((∃ ys, back P ys P.length ∧ J ys W') ∨ (∃ pre, (∃ k, k ≤ P.length ∧ back P pre k) ∧ Jx pre W')) := by
  refine callsIn_of_wp Tryd.func59 rfl h8 ?_ hro
  simp only [Tryd.ntmps59, List.size_toArray, List.length_cons, List.length_nil, Nat.reduceAdd, Nat.reduceSub, Array.replicate_succ, Array.replicate_zero, List.push_toArray, List.append_toArray, List.nil_append, List.cons_append]
  have hw0 : IntKind.i64.wrap ((P.length : Int) - 1) = (P.length : Int) - 1 := IntWalk.i64_in _ (by omega)
  gi_wp2
  gi_loopw [3] (fun i wr => ∃ k : Nat, k ≤ P.length ∧ i = .int .i64 ((P.length : Int) - 1 - k) ∧ (∃ ys, back P ys k ∧ J ys wr) ∧ Below n₀ W wr ∧ wr.cell? ⟨Bs, 0, none⟩ = some (.slice A P.length cap))
    (fun i _ => (intOf i + 1).toNat)
  case atStart => exact ⟨0, Nat.zero_le _, by simp, ⟨[], rfl, h0⟩, Below.refl _ _, hBs⟩
  case round =>
    obtain ⟨k, hk, rfl, ⟨ys, hys, hJs⟩, hnx, hcs⟩ := hrel
    by_cases hlt : k < P.length
    · obtain ⟨m, hm⟩ : ∃ m : Nat, P.length - 1 - k = m := ⟨_, rfl⟩
      have hmi : (P.length : Int) - 1 - k = (m : Int) := by omega
      have hml : (m : Int) < (P.length : Int) := by omega
      have hw1 : IntKind.i64.wrap ((m : Int) - 1) = (m : Int) - 1 := IntWalk.i64_in _ (by omega)
      obtain ⟨a, rfl, hal, hcc⟩ := hc m (P.getD m ⟨#[]⟩) (by rw [List.getD_eq_getElem?_getD, List.getElem?_eq_getElem (by omega)]; rfl)
      have hcx : wr.cell? (a.add m) = some (.string (P.getD m ⟨#[]⟩)) := (hnx.cell (by rw [block_add]; exact hal)).trans hcc
      obtain ⟨fn, tmps, assign, body, hy, hR⟩ := hY ys ⟨m, by omega⟩ wr hJs (by rw [back_len hys]; exact hlt)
      dsimp only [placed] at hy
      have hbs := back_snoc hys ⟨m, by omega⟩ hm.symm
      rw [hmi]
      generalize P.getD m ⟨#[]⟩ = p at hcx hy
      gi_wp2
      refine hR.mono ?_
      rintro e W3 (⟨rfl, hJ3, hk3⟩ | ⟨rfl, hJx3⟩)
      · gi_wp2
        go_roundw
        case rel => exact ⟨k + 1, by omega, by congr 1; omega, ⟨_, hbs, hJ3⟩, hnx.trans hk3.1, hk3.2 hcs⟩
        case measure => simp only [intOf]; omega
      · gi_wp2
        refine bodyPost_ret (results_none rfl _ _ _) rfl ?_
        exact ⟨⟨_, rfl⟩, .inr ⟨_, ⟨k + 1, by omega, hbs⟩, hJx3⟩⟩
    · obtain rfl : k = P.length := by omega
      rw [show (P.length : Int) - 1 - P.length = -1 by omega]
      gi_wp2
      go_end0
      exact ⟨⟨_, rfl⟩, .inl ⟨_, hys, hJs⟩⟩

set_option maxHeartbeats 1000000 in
theorem back_in (F : Fence) (n : Nat) (h6 : F.fn 32) (hro : F.round = none) (a : Option Addr) (len cap : Nat) (w : World) :
    CallsIn F n Tryd.prog 32 #[.slice a len cap] w fun e w' => e = .returned (.func (.func 59) #[] #[.pointer (some ⟨w.heap.size, 0, none⟩)]) ∧ w' = w.alloc (.cells #[.slice a len cap] 22) := by
  refine callsIn_of_wp Tryd.func32 rfl h6 ?_ hro
  simp only [Tryd.ntmps32, List.size_toArray, List.length_cons, List.length_nil, Nat.reduceAdd, Nat.reduceSub, Array.replicate_succ, Array.replicate_zero, List.push_toArray, List.append_toArray, List.nil_append, List.cons_append]
  gi_wp2
  go_ret
  exact ⟨rfl, rfl⟩

/-- What slices.Backward hands back stops after all the texts, the last first; or a round said no more. -/
theorem back_stops (F : Fence) (n : Nat) (h8 : F.fn 59) (hro : F.round = none) (hn : 1 ≤ n) (Bs n₀ cap : Nat) (A : Option Addr) (P : List ByteArray) (hlen : P.length ≤ 1000000) (w : World) (hBs : Bs < w.heap.size) (hn₀ : n₀ ≤ w.heap.size)
    (hc : w.cell? ⟨Bs, 0, none⟩ = some (.slice A P.length cap)) (hI : StrsAt n₀ w A P) :
    SeqStopsK F n Tryd.prog 59 #[.pointer (some ⟨Bs, 0, none⟩)] (fun x : Fin P.length => #[Value.int .i64 (x.val : Int), Value.string (placed P x)]) (KeepBox n₀ Bs (.slice A P.length cap)) (fun ys => back P ys P.length)
      (fun pre => ∃ k, k ≤ P.length ∧ back P pre k) P.length w := fun l J Jx W hW _ _ hY h0 =>
  back1_in F n h8 hro hn l Bs n₀ cap A P hlen J Jx hY W ((hW.cell (p := ⟨Bs, 0, none⟩) hBs).trans hc) (hI.below (hW.mono hn₀)) h0
end Go.Proofs.YtenlpbcembadcaaDoor
/- Items compared: one with one, and slices.Equal of the same items. -/
namespace Go.Proofs.YtenlpbcembadcaaDoor
open Go.RowKit

theorem stoodI : Tryd.prog.stoodInHeld 24 = false := by kernel_rfl
theorem itemFields : Tryd.prog.underlying 24 = some (.struct (Tryd.prog.fieldsOf 24)) := by kernel_rfl
theorem textI_ne {a b : ByteArray} (h : ¬ a = b) : (a.toList == b.toList) = false := by
  rw [beq_eq_false_iff_ne]
  intro e
  rw [ByteArray.toList_eq, ByteArray.toList_eq] at e
  exact h (text_of e)
set_option maxHeartbeats 1000000 in
theorem run_neq_items (a b : It) (w : World) :
    (binOp .neq 24 (.agg #[.string a.1, .string a.2]) (.agg #[.string b.1, .string b.2])).run Tryd.prog w = .ok (.bool (!decide (a = b))) w := by
  rw [run_neq_struct, run_equalIn_agg _ 9999 _ _ _ itemFields stoodI]
  by_cases h2 : a.1 = b.1
  · by_cases h3 : a.2 = b.2
    · have e : decide (a = b) = true := by simp [Prod.ext_iff, h2, h3]
      rw [e, h2, h3]
      go_simp
    · have e : decide (a = b) = false := by simp [Prod.ext_iff, h3]
      have e3 := textI_ne h3
      rw [e, h2]
      go_simp
  · have e : decide (a = b) = false := by simp [Prod.ext_iff, h2]
    have e3 := textI_ne h2
    rw [e]
    go_simp
end Go.Proofs.YtenlpbcembadcaaDoor
/- slices.Contains of items: what is among them is found. -/
namespace Go.Proofs.YtenlpbcembadcaaDoor
open Go.RowKit

set_option maxHeartbeats 1000000 in
theorem run_eql_items (a b : It) (w : World) :
    (binOp .eql 24 (.agg #[.string a.1, .string a.2]) (.agg #[.string b.1, .string b.2])).run Tryd.prog w = .ok (.bool (decide (a = b))) w := by
  rw [run_eql_struct, run_equalIn_agg _ 9999 _ _ _ itemFields stoodI]
  by_cases h2 : a.1 = b.1
  · by_cases h3 : a.2 = b.2
    · have e : decide (a = b) = true := by simp [Prod.ext_iff, h2, h3]
      rw [e, h2, h3]
      go_simp
    · have e : decide (a = b) = false := by simp [Prod.ext_iff, h3]
      have e3 := textI_ne h3
      rw [e, h2]
      go_simp
  · have e : decide (a = b) = false := by simp [Prod.ext_iff, h2]
    have e3 := textI_ne h2
    rw [e]
    go_simp
end Go.Proofs.YtenlpbcembadcaaDoor
/- Whether some text is no mark, by slices.ContainsFunc. -/
namespace Go.Proofs.YtenlpbcembadcaaDoor
open Go.RowKit

theorem pNoMark_any (s : ByteArray) (w : World) : Calls Tryd.prog 62 #[.string s] w fun e w' => e = .returned (.bool (!decide (s.size = 16))) ∧ w' = w := by
  by_cases h : s.size = 16
  · rw [decide_eq_true h]
    have hi : ((s.size : Int) == 16) = true := by rw [beq_iff_eq]; omega
    have hj : ((s.size : Int) != 16) = false := by simp [bne, hi]
    go_enter Tryd.func62, Tryd.ntmps62
    go_wp2
    go_ret
    exact ⟨rfl, rfl⟩
  · rw [decide_eq_false h]
    have hi : ((s.size : Int) == 16) = false := by rw [beq_eq_false_iff_ne]; omega
    have hj : ((s.size : Int) != 16) = true := by simp [bne, hi]
    go_enter Tryd.func62, Tryd.ntmps62
    go_wp2
    go_ret
    exact ⟨rfl, rfl⟩
set_option maxRecDepth 100000 in
theorem pMarksIx_any (P : List ByteArray) (A : Option Addr) (cap : Nat) (w : World) (hl : P.length ≤ 1000000) (hm : Strs w A P) :
    Calls Tryd.prog 82 #[.slice A P.length cap, .func (.func 62) #[] #[]] w fun e w' => w' = w ∧ ∃ n : Int, e = .returned (.int .i64 n) ∧ ((0 ≤ n ∧ marksOk P = false) ∨ (n = -1 ∧ marksOk P = true)) := by
  have HM := Lib.hid hm
  clear hm
  go_enter Tryd.func82, Tryd.ntmps82
  go_wp2
  go_loopw [8] (fun t wr => ∃ j : Nat, j ≤ P.length ∧ t = .int .i64 (j : Int) ∧ wr = w ∧ marksUpto P j = true) (fun t _ => P.length - (intOf t).toNat)
  case atStart => exact ⟨0, by omega, rfl, rfl, rfl⟩
  case round =>
    obtain ⟨j, hj, rfl, rfl, hall⟩ := hrel
    have HALL := Lib.hid hall
    clear hall
    by_cases hlt : j < P.length
    · obtain ⟨p, hp⟩ : ∃ p, P[j]? = some p := ⟨_, List.getElem?_eq_getElem hlt⟩
      obtain ⟨a, rfl, hal, c0⟩ := HM.out j p hp
      have HP := Lib.hid hp
      clear hp
      go_wp2_with fail
      refine (pNoMark_any p _).mono ?_
      rintro e w1 ⟨rfl, rfl⟩
      by_cases he : p.size = 16
      · rw [decide_eq_true he]
        have HE := Lib.hid he
        clear he
        go_wp2
        go_roundw
        case rel =>
          refine ⟨j + 1, by omega, by go_num, ?_, ?_⟩
          · first | rfl | trivial
          · have := HALL.out
            unfold marksUpto marksOk at this ⊢
            rw [List.take_add_one, HP.out, List.all_append, this]
            simp [HE.out]
        case measure => simp [intOf]; omega
      · rw [decide_eq_false he]
        have HE := Lib.hid he
        clear he
        go_wp2
        go_ret
        exact ⟨rfl, j, rfl, .inl ⟨by omega, marksOk_false HP.out HE.out⟩⟩
    · go_wp2
      go_ret
      exact ⟨rfl, -1, rfl, .inr ⟨rfl, by have h := HALL.out; unfold marksUpto at h; rwa [List.take_of_length_le (by omega)] at h⟩⟩
theorem pMarks_any (P : List ByteArray) (A : Option Addr) (cap : Nat) (w : World) (hl : P.length ≤ 1000000) (hm : Strs w A P) :
    Calls Tryd.prog 61 #[.slice A P.length cap, .func (.func 62) #[] #[]] w fun e w' => e = .returned (.bool (!marksOk P)) ∧ w' = w := by
  go_enter Tryd.func61, Tryd.ntmps61
  go_wp2_with fail
  refine (pMarksIx_any P A cap _ hl hm).mono ?_
  rintro e w1 ⟨rfl, n, rfl, ⟨h0, hf⟩ | ⟨rfl, hf⟩⟩
  · have HF := Lib.hid hf
    clear hf
    go_wp2
    go_ret
    exact ⟨by rw [HF.out]; rfl, rfl⟩
  · have HF := Lib.hid hf
    clear hf
    go_wp2
    go_ret
    exact ⟨by rw [HF.out]; rfl, rfl⟩
theorem pAre_any (P : List ByteArray) (A : Option Addr) (cap : Nat) (w : World) (hl : P.length ≤ 1000000) (hm : Strs w A P) :
    Calls Tryd.prog 36 #[.slice A P.length cap] w fun e w' => e = .returned (.bool (marksOk P)) ∧ w' = w := by
  obtain ⟨M, hM⟩ : ∃ M, marksOk P = M := ⟨_, rfl⟩
  have HM := Lib.hid hM
  rw [hM]
  clear hM
  go_enter Tryd.func36, Tryd.ntmps36
  go_wp2_with fail
  refine (pMarks_any P A cap _ hl hm).mono ?_
  rintro e w1 ⟨rfl, rfl⟩
  rw [HM.out]
  go_wp2
  go_ret
  exact ⟨rfl, rfl⟩
theorem pAreOne_any (s : ByteArray) (a : Nat) (w : World) (hm : Strs w (some ⟨a, 0, none⟩) [s]) :
    Calls Tryd.prog 36 #[.slice (some ⟨a, 0, none⟩) 1 1] w fun e w' => e = .returned (.bool (decide (s.size = 16))) ∧ w' = w :=
  (pAre_any [s] (some ⟨a, 0, none⟩) 1 w (by simp) hm).mono fun e w' h => ⟨h.1.trans (by simp [marksOk]), h.2⟩
theorem empty_of {s : ByteArray} (h : s.size = 0) : s = ⟨#[]⟩ := by
  obtain ⟨d⟩ := s
  congr 1
  exact Array.eq_empty_of_size_eq_zero h
theorem pEmpty_any (x : It) (w : World) : Calls Tryd.prog 37 #[.agg #[.string x.1, .string x.2]] w fun e w' => e = .returned (.bool (decide (x.1.size = 0 ∧ x.2.size = 0))) ∧ Below w.heap.size w w' := by
  have HBW := Lib.hid (alloc_below w (.cells #[.string x.1, .string x.2] 24))
  have he : decide (x.1.size = 0 ∧ x.2.size = 0) = decide (x = (⟨#[]⟩, ⟨#[]⟩)) := by
    by_cases h : x.1.size = 0 ∧ x.2.size = 0
    · rw [decide_eq_true h, decide_eq_true (Prod.ext (empty_of h.1) (empty_of h.2))]
    · rw [decide_eq_false h, decide_eq_false (fun e => h (by subst e; exact ⟨rfl, rfl⟩))]
  obtain ⟨T, hT⟩ : ∃ T, decide (x.1.size = 0 ∧ x.2.size = 0) = T := ⟨_, rfl⟩
  have hne : ∀ u : World, (binOp .eql 24 (.agg #[.string x.1, .string x.2]) (.agg #[.string ⟨#[]⟩, .string ⟨#[]⟩])).run Tryd.prog u = .ok (.bool T) u := fun u => by rw [← hT, he]; exact run_eql_items x (⟨#[]⟩, ⟨#[]⟩) u
  rw [hT]
  clear hT he
  go_enter Tryd.func37, Tryd.ntmps37
  go_wp2
  go_ret
  exact ⟨rfl, HBW.out⟩
end Go.Proofs.YtenlpbcembadcaaDoor
/- The program's mark of what lies at a way's end. -/
namespace Go.Proofs.YtenlpbcembadcaaDoor
open Go.RowKit

set_option maxRecDepth 100000 in
theorem pEnd_any (P : List ByteArray) (A : Option Addr) (cap : Nat) (x : It) (w : World) (hk : HasK w) (hx : x.1.size ≤ 1000000) (hy : x.2.size ≤ 1000000) (hxx : x.1.size = 0 → x.2.size = 0) :
    Calls Tryd.prog 31 #[.agg #[.slice A P.length cap, .string x.1, .string x.2]] w fun e w' => e = .returned (.string (startOf P x)) ∧ Below w.heap.size w w' := by
  have HB0 := Lib.hid (alloc_below w (.cells #[.slice A P.length cap, .string x.1, .string x.2] 26))
  have HH0 := Lib.hid (show Holds (w.alloc (.cells #[.slice A P.length cap, .string x.1, .string x.2] 26)) w.heap.size 3 (pCells (.slice A P.length cap) x) 26 from Holds.new w 3 (pCells (.slice A P.length cap) x) 26)
  have HK := Lib.hid hk
  clear hk
  obtain ⟨S, hS⟩ : ∃ S, startOf P x = S := ⟨_, rfl⟩
  rw [hS]
  have HS := Lib.hid hS
  clear hS
  go_enter Tryd.func31, Tryd.ntmps31
  go_wp2_with fail
  generalize w.alloc (.cells #[.slice A P.length cap, .string x.1, .string x.2] 26) = w0 at HB0 HH0
  refine (pEmpty_any x _).mono ?_
  rintro e w1 ⟨rfl, hb1⟩
  have HB1 := Lib.hid (HB0.out.trans (hb1.mono HB0.out.size))
  have HH1 := Lib.hid (HH0.out.below hb1 HH0.out.lt)
  clear hb1 HB0 HH0
  have p0 : w1.cell? ⟨w.heap.size, 0, none⟩ = some (.slice A P.length cap) := HH1.out.cell 0 (by omega)
  have p1 : w1.cell? ⟨w.heap.size, 1, none⟩ = some (.string x.1) := HH1.out.cell 1 (by omega)
  have p2 : w1.cell? ⟨w.heap.size, 2, none⟩ = some (.string x.2) := HH1.out.cell 2 (by omega)
  by_cases hz : x.1.size = 0
  · have hF : S = emptyM P.length := by rw [← HS.out]; unfold startOf; rw [if_pos hz]
    subst hF
    rw [decide_eq_true ⟨hz, hxx hz⟩]
    clear hz hxx
    go_wp2_with fail
    refine (tEmpty_any P.length _ (HK.out.below HB1.out HK.out.lt)).mono ?_
    rintro e w2 ⟨rfl, hb2⟩
    have HB2 := Lib.hid (HB1.out.trans (hb2.mono HB1.out.size))
    clear hb2
    go_wp2
    go_ret
    exact ⟨rfl, HB2.out⟩
  · have hF : S = leafM x P.length := by rw [← HS.out]; unfold startOf; rw [if_neg hz]
    subst hF
    rw [decide_eq_false (fun e => hz e.1)]
    clear hz hxx
    go_wp2_with fail
    refine (tLeaf_any x P.length _ (HK.out.below HB1.out HK.out.lt) hx hy).mono ?_
    rintro e w2 ⟨rfl, hb2⟩
    have HB2 := Lib.hid (HB1.out.trans (hb2.mono HB1.out.size))
    clear hb2
    go_wp2
    go_ret
    exact ⟨rfl, HB2.out⟩
end Go.Proofs.YtenlpbcembadcaaDoor
/- The program's Root: from a leaf's mark back along the path, by a range over slices.Backward. -/
namespace Go.Proofs.YtenlpbcembadcaaDoor
open Go.RowKit Go.Shelf
attribute [local go_sem] Oper.semAt_some

def leadStep (ix : ByteArray) (P : List ByteArray) (s : ByteArray) (k : Nat) : ByteArray := if bitOf ix.data.toList k = 0 then joinM s (P.getD k ⟨#[]⟩) else joinM (P.getD k ⟨#[]⟩) s
theorem backTo_next (n : Nat) : backTo (n + 1) (n + 1) = n :: backTo n n := by
  unfold backTo
  rw [List.range_succ_eq_map, List.map_cons, List.map_map]
  congr 1
  apply List.map_congr_left
  intro j _
  show n + 1 - 1 - (j + 1) = n - 1 - j
  omega
theorem leadFrom_fold (ix : ByteArray) (P : List ByteArray) : ∀ (n : Nat) (s : ByteArray), leadFrom ix P n s = (backTo n n).foldl (leadStep ix P) s
  | 0, s => rfl
  | n + 1, s => by
    rw [backTo_next, List.foldl_cons]
    exact leadFrom_fold ix P n _
def leadTo (ix : ByteArray) (P : List ByteArray) (s : ByteArray) (ys : List (Fin P.length)) : ByteArray := (ys.map (·.val)).foldl (leadStep ix P) s
theorem leadTo_snoc (ix : ByteArray) (P : List ByteArray) (s : ByteArray) (ys : List (Fin P.length)) (x : Fin P.length) : leadTo ix P s (ys ++ [x]) = leadStep ix P (leadTo ix P s ys) x.val := by simp [leadTo]
theorem leadTo_all {ix : ByteArray} {P : List ByteArray} {s : ByteArray} {ys : List (Fin P.length)} (h : back P ys P.length) : leadTo ix P s ys = leadFrom ix P P.length s := by
  unfold leadTo
  rw [leadFrom_fold, h]
def PRight : Prop := ∀ (ix : ByteArray) (P : List ByteArray) (A : Option Addr) (cap : Nat) (x : It) (w : World), HasK w → P.length ≤ 1000000 → Strs w A P → ix.size ≤ 1000000 → x.1.size ≤ 1000000 → x.2.size ≤ 1000000 →
    Calls Tryd.prog 11 #[.string ix, .agg #[.slice A P.length cap, .string x.1, .string x.2]] w fun e w' => e = .returned (.bool (rightProof ix P x)) ∧ Below w.heap.size w w'

set_option maxHeartbeats 2000000 in
set_option maxRecDepth 100000 in
theorem pRoot_no (RT : PRight) (ix : ByteArray) (P : List ByteArray) (A : Option Addr) (cap : Nat) (x : It) (w : World) (hk : HasK w) (hl : P.length ≤ 1000000) (hm : Strs w A P) (hi : ix.size ≤ 1000000) (hx : x.1.size ≤ 1000000) (hy : x.2.size ≤ 1000000) (h : rightProof ix P x = false) :
    Calls Tryd.prog 9 #[.string ix, .agg #[.slice A P.length cap, .string x.1, .string x.2]] w fun e w' => e = .returned (.tuple #[.string ⟨#[]⟩, errOf 1]) ∧ Below w.heap.size w w' := by
  refine (callsIn_wide (n := 3)).1 ?_
  refine callsIn_of_wp_marks Tryd.func9 rfl trivial ?_ rfl
  simp only [Tryd.ntmps9, List.size_toArray, List.length_cons, List.length_nil, Nat.reduceAdd, Nat.reduceSub, Array.replicate_succ, Array.replicate_zero, List.push_toArray, List.append_toArray, List.nil_append, List.cons_append]
  gi_wp2
  have HB0 := Lib.hid (show Below w.heap.size w ((w.alloc (.cells #[.string ix] 9)).alloc (.cells #[.slice A P.length cap, .string x.1, .string x.2] 26)) from ((Below.refl _ w).alloc (Nat.le_refl _) _).alloc (by simp) _)
  refine ⟨trivial, (callsIn_wide.2 (RT ix P A cap x _ (hk.below HB0.out hk.lt) hl (hm.below HB0.out) hi hx hy)).mono ?_⟩
  rintro e w1 ⟨rfl, hb1⟩
  rw [h]
  have HB1 := Lib.hid (HB0.out.trans (hb1.mono HB0.out.size))
  clear hb1
  gi_wp2
  exact ⟨_, results_tmp2 rfl _ _ _, rfl, HB1.out⟩

def rootAct (ix : ByteArray) (P : List ByteArray) (A : Option Addr) (cap : Nat) (x : It) (bI bM bS : Nat) (j : Fin P.length) : Act :=
  { tmps := #[.string ix, .agg #[.slice A P.length cap, .string x.1, .string x.2], .pointer (some ⟨bI, 0, none⟩), .pointer (some ⟨bI + 1, 0, none⟩), .string ⟨#[]⟩, .nilIface, .pointer (some ⟨bM, 0, none⟩), .int .i64 (j.val : Int), .string (placed P j), undef, undef, .string ix,
      .agg #[.slice A P.length cap, .string x.1, .string x.2], .bool true, .bool false, undef, .agg #[.slice A P.length cap, .string x.1, .string x.2], .string (startOf P x), .pointer (some ⟨bI + 1, 0, none⟩), .slice A P.length cap,
      .func (.func 59) #[] #[.pointer (some ⟨bS, 0, none⟩)], .int .i64 (j.val : Int), .string (placed P j),
      undef, undef, undef, undef, undef, undef, undef, undef, undef, undef, undef, undef, undef, undef, undef], defers := [] }
theorem below_from {B : Nat} {W W' : World} (h : Below W.heap.size W W') : KeepsFrom B W W' := ⟨h.size, fun k _ _ hk _ => (h.block k (Array.getElem?_eq_some_iff.1 hk).1).trans hk⟩

theorem other_cell {W : World} {B : Nat} {a : Addr} {v : Value} (h : W.cell? a = some v) (hne : B ≠ a.block) (u : Value) : (W.setCell ⟨B, 0, none⟩ u).cell? a = some v :=
  (World.cell?_of_block ((grownBy_setCell' W B u).block a.block (block_lt_of_cell h) (fun e => hne (by cases e; rfl)))).trans h

set_option maxHeartbeats 4000000 in
set_option maxRecDepth 100000 in
theorem pRoot_yes (RT : PRight) (ix : ByteArray) (P : List ByteArray) (A : Option Addr) (cap : Nat) (x : It) (w : World) (hk : HasK w) (hl : P.length ≤ 1000000) (hm : Strs w A P) (hi : ix.size ≤ 1000000) (hx : x.1.size ≤ 1000000) (hy : x.2.size ≤ 1000000) (h : rightProof ix P x = true) :
    Calls Tryd.prog 9 #[.string ix, .agg #[.slice A P.length cap, .string x.1, .string x.2]] w fun e w' => e = .returned (.tuple #[.string (leadFrom ix P P.length (startOf P x)), errOf 0]) ∧ Below w.heap.size w w' := by
  refine (callsIn_wide (n := 3)).1 ?_
  refine callsIn_of_wp_marks Tryd.func9 rfl trivial ?_ rfl
  simp only [Tryd.ntmps9, List.size_toArray, List.length_cons, List.length_nil, Nat.reduceAdd, Nat.reduceSub, Array.replicate_succ, Array.replicate_zero, List.push_toArray, List.append_toArray, List.nil_append, List.cons_append]
  gi_wp2
  obtain ⟨w0, hw0⟩ : ∃ w0, (w.alloc (.cells #[.string ix] 9)).alloc (.cells #[.slice A P.length cap, .string x.1, .string x.2] 26) = w0 := ⟨_, rfl⟩
  have HB0 := Lib.hid (show Below w.heap.size w w0 by rw [← hw0]; exact ((Below.refl _ w).alloc (Nat.le_refl _) _).alloc (by simp) _)
  have hz0 : w0.heap.size = w.heap.size + 2 := by rw [← hw0]; simp
  have bI : w0.cell? ⟨w.heap.size, 0, none⟩ = some (.string ix) := by
    rw [← hw0]; exact ((alloc_below (w.alloc (.cells #[.string ix] 9)) (.cells #[.slice A P.length cap, .string x.1, .string x.2] 26)).cell (by simp)).trans (cell_of_row _ w.heap.size 0 _ 9 (0, 0) (heap_alloc_new _ _))
  have HH := Lib.hid (show Holds w0 (w.heap.size + 1) 3 (pCells (.slice A P.length cap) x) 26 by
    rw [← hw0]; have := Holds.new (w.alloc (.cells #[.string ix] 9)) 3 (pCells (.slice A P.length cap) x) 26; rw [World.size_alloc] at this; exact this)
  rw [hw0]
  clear hw0
  refine ⟨trivial, (callsIn_wide.2 (RT ix P A cap x _ (hk.below HB0.out hk.lt) hl (hm.below HB0.out) hi hx hy)).mono ?_⟩
  rintro e w1 ⟨rfl, hb1⟩
  rw [h]
  have HB1 := Lib.hid (HB0.out.trans (hb1.mono HB0.out.size))
  have HH1 := Lib.hid (HH.out.below hb1 HH.out.lt)
  replace bI := (hb1.cell (by show w.heap.size < _; omega)).trans bI
  have hz1 : w.heap.size + 2 ≤ w1.heap.size := by have := hb1.size; omega
  clear hb1 HB0 HH hz0 w0
  have p0 : w1.cell? ⟨w.heap.size + 1, 0, none⟩ = some (.slice A P.length cap) := HH1.out.cell 0 (by omega)
  have p1 : w1.cell? ⟨w.heap.size + 1, 1, none⟩ = some (.string x.1) := HH1.out.cell 1 (by omega)
  have p2 : w1.cell? ⟨w.heap.size + 1, 2, none⟩ = some (.string x.2) := HH1.out.cell 2 (by omega)
  obtain ⟨h16, h128, hmk, hxx⟩ := rightProof_facts h
  have HMK := Lib.hid hmk
  have hx0 : x.1.size = 0 → x.2.size = 0 := by rcases hxx with ⟨_, e⟩ | ⟨e, _⟩ <;> omega
  clear hmk hxx
  gi_wp2
  refine ⟨trivial, (callsIn_wide.2 (pEnd_any P A cap x _ (hk.below HB1.out hk.lt) hx hy hx0)).mono ?_⟩
  rintro e w2 ⟨rfl, hb2⟩
  have HB2 := Lib.hid (HB1.out.trans (hb2.mono HB1.out.size))
  have HH2 := Lib.hid (HH1.out.below hb2 HH1.out.lt)
  replace bI := (hb2.cell (by show w.heap.size < _; omega)).trans bI
  have hz2 : w.heap.size + 2 ≤ w2.heap.size := by have := hb2.size; omega
  clear hb2 HB1 HH1 hz1 p0 p1 p2 w1
  obtain ⟨w3, hw3⟩ : ∃ w3, w2.alloc (.cells #[.string (startOf P x)] 9) = w3 := ⟨_, rfl⟩
  have hb3 : Below w2.heap.size w2 w3 := by rw [← hw3]; exact alloc_below _ _
  have HB3 := Lib.hid (HB2.out.trans (hb3.mono HB2.out.size))
  have HH3 := Lib.hid (HH2.out.below hb3 HH2.out.lt)
  have HBX := Lib.hid (show Boxed w3 w2.heap.size 9 (.string (startOf P x)) by rw [← hw3]; exact Boxed.new w2 9 _)
  have hz3 : w2.heap.size < w3.heap.size := by rw [← hw3]; simp
  replace bI := (hb3.cell (by show w.heap.size < _; omega)).trans bI
  have p0 : w3.cell? ⟨w.heap.size + 1, 0, none⟩ = some (.slice A P.length cap) := HH3.out.cell 0 (by omega)
  clear hb3 HB2 HH2
  gi_wp2
  refine ⟨trivial, (back_in Fence.wide 2 trivial rfl _ _ _ _).mono ?_⟩
  rintro e w6 ⟨rfl, rfl⟩
  gi_wp2
  obtain ⟨t, ht⟩ : ∃ t : Fin P.length → Act, t = rootAct ix P A cap x w.heap.size w2.heap.size w3.heap.size := ⟨_, rfl⟩
  clear p0 hw3
  have HQ := Lib.hid (show (startOf P x).size = 16 from start_size P x)
  have bN := Boxed.new w3 22 (.slice A P.length cap)
  have HB4 := Lib.hid (HB3.out.trans ((alloc_below w3 (.cells #[.slice A P.length cap] 22)).mono HB3.out.size))
  have hm4 := StrsAt.below (n₀ := w.heap.size) hm HB4.out
  have bI4 := ((alloc_below w3 (.cells #[.slice A P.length cap] 22)).cell (p := ⟨w.heap.size, 0, none⟩) (show w.heap.size < w3.heap.size by omega)).trans bI
  have bX4 := HBX.out.alloc (.cells #[.slice A P.length cap] 22)
  refine wpIn_rangeFunc_ownG rfl (by omega) (gf := 59) (lb := #[.pointer (some ⟨w3.heap.size, 0, none⟩)]) rfl trivial (enters_of Tryd.func59 (by kernel_rfl) rfl)
    (back_stops Fence.wide 2 trivial rfl (by omega) w3.heap.size w.heap.size cap A P hl _ (by simp) (by simp; omega) bN.cell hm4) keepBox_t (keepBox_b (by simp; omega)) (Below.refl _ _) (fun _ => rfl)
    (fun pre W => ((leadTo ix P (startOf P x) pre).size = 16 ∧ W.cell? ⟨w2.heap.size, 0, none⟩ = some (.string (leadTo ix P (startOf P x) pre)) ∧ W.frozen? ⟨w2.heap.size, 0, none⟩ = false ∧ W.cell? ⟨w.heap.size, 0, none⟩ = some (.string ix)) ∧ Below w.heap.size w W)
    (fun _ _ _ => False)
    (OwnFrom.and (Own.from (fun s A B row hs hg hr => ⟨hs.1, cell_kept hs.2.1 hg hr, (frozen_kept hs.2.1 hg hr).trans hs.2.2.1, cell_kept hs.2.2.2 hg hr⟩) _) (ownFrom_below (Nat.le_refl _) (by simp; omega)))
    (fun _ _ _ _ _ hs _ _ => hs)
    ⟨⟨HQ.out, bX4.cell, bX4.frozen, bI4⟩, HB4.out⟩
    t ?assign ?body ?done ?stop
  case assign =>
    intro l j W K hK
    subst ht
    gi_wp2
    exact hK
  case body =>
    rintro l pre j W ⟨⟨hs, hc, hf, hi'⟩, hB⟩ _
    subst ht
    dsimp only [rootAct]
    have hj := j.isLt
    obtain ⟨B, hb⟩ : ∃ B : Nat, bitOf ix.data.toList j.val = B := ⟨_, rfl⟩
    have hB2 : B = 0 ∨ B = 1 := by have := bitOf_lt ix.data.toList j.val; omega
    have HBIT := Lib.hid (show bitAns ix j.val = ((B : Int), 0) by unfold bitAns; rw [if_pos h16, if_pos ⟨by omega, by omega⟩, Int.toNat_natCast, hb])
    have HPS := Lib.hid (show (placed P j).size = 16 from marksOk_get HMK.out (by unfold placed; rw [List.getD_eq_getElem?_getD, List.getElem?_eq_getElem hj]; rfl))
    have HSTEP := Lib.hid (show leadTo ix P (startOf P x) (pre ++ [j]) = if B = 0 then joinM (leadTo ix P (startOf P x) pre) (placed P j) else joinM (placed P j) (leadTo ix P (startOf P x) pre) by rw [leadTo_snoc]; unfold leadStep placed; rw [hb])
    have HBW := Lib.hid hB
    have HKW := Lib.hid (hk.below hB hk.lt)
    have HNN := Lib.hid (show w2.heap.size < W.heap.size from block_lt_of_cell hc)
    clear hb hB
    generalize placed P j = p at HPS HSTEP ⊢
    generalize leadTo ix P (startOf P x) pre = u at hs hc HSTEP
    rcases hB2 with rfl | rfl
    · have HU := Lib.hid (show leadTo ix P (startOf P x) (pre ++ [j]) = joinM u p ∧ (leadTo ix P (startOf P x) (pre ++ [j])).size = 16 from ⟨HSTEP.out, by rw [HSTEP.out]; exact join_size _ _⟩)
      gi_wp2_with (refine ⟨trivial, ?_⟩; gi_at_call 33; refine (CallsIn.inRound l (callsIn_wide.2 (ixBit_is ix j.val ((0 : Nat) : Int) 0 _ HBIT.out))).mono ?_; rintro e w' ⟨rfl, rfl⟩)
      refine ⟨trivial, (CallsIn.inRound l (callsIn_wide.2 (tJoin_any u p _ HKW.out (by omega) (by have := HPS.out; omega)))).mono ?_⟩
      rintro e W1 ⟨rfl, hb1⟩
      have h1 := hb1.mono HBW.out.size
      have e1 := (hb1.cell (p := ⟨w2.heap.size, 0, none⟩) HNN.out).trans hc
      have e2 := (hb1.frozen (p := ⟨w2.heap.size, 0, none⟩) HNN.out).trans hf
      have e3 := (hb1.cell (p := ⟨w.heap.size, 0, none⟩) (show w.heap.size < _ from Nat.lt_trans (by omega) HNN.out)).trans hi'
      have HB1 := Lib.hid hb1
      clear hb1
      gi_wp2
      refine ⟨(below_from HB1.out).trans ((KeepsOthers.setCell _ _ _).from _), ⟨h1.setCell (p := ⟨w2.heap.size, 0, none⟩) (show w.heap.size ≤ w2.heap.size by omega) _, fun e => ?_⟩, ⟨HU.out.2, ?_, ?_, ?_⟩, (HBW.out.trans h1).setCell (p := ⟨w2.heap.size, 0, none⟩) (show w.heap.size ≤ w2.heap.size by omega) _⟩
      · exact other_cell ((HB1.out.cell (block_lt_of_cell e)).trans e) (show w2.heap.size ≠ w3.heap.size by omega) _
      · rw [HU.out.1]; exact World.cell?_setCell_same' _ _ _ (by rw [e1]; rfl)
      · rw [World.frozen?_setCell]; exact e2
      · exact other_cell e3 (show w2.heap.size ≠ w.heap.size by omega) _
    · have HU := Lib.hid (show leadTo ix P (startOf P x) (pre ++ [j]) = joinM p u ∧ (leadTo ix P (startOf P x) (pre ++ [j])).size = 16 from ⟨HSTEP.out, by rw [HSTEP.out]; exact join_size _ _⟩)
      gi_wp2_with (refine ⟨trivial, ?_⟩; gi_at_call 33; refine (CallsIn.inRound l (callsIn_wide.2 (ixBit_is ix j.val ((1 : Nat) : Int) 0 _ HBIT.out))).mono ?_; rintro e w' ⟨rfl, rfl⟩)
      refine ⟨trivial, (CallsIn.inRound l (callsIn_wide.2 (tJoin_any p u _ HKW.out (by have := HPS.out; omega) (by omega)))).mono ?_⟩
      rintro e W1 ⟨rfl, hb1⟩
      have h1 := hb1.mono HBW.out.size
      have e1 := (hb1.cell (p := ⟨w2.heap.size, 0, none⟩) HNN.out).trans hc
      have e2 := (hb1.frozen (p := ⟨w2.heap.size, 0, none⟩) HNN.out).trans hf
      have e3 := (hb1.cell (p := ⟨w.heap.size, 0, none⟩) (show w.heap.size < _ from Nat.lt_trans (by omega) HNN.out)).trans hi'
      have HB1 := Lib.hid hb1
      clear hb1
      gi_wp2
      refine ⟨(below_from HB1.out).trans ((KeepsOthers.setCell _ _ _).from _), ⟨h1.setCell (p := ⟨w2.heap.size, 0, none⟩) (show w.heap.size ≤ w2.heap.size by omega) _, fun e => ?_⟩, ⟨HU.out.2, ?_, ?_, ?_⟩, (HBW.out.trans h1).setCell (p := ⟨w2.heap.size, 0, none⟩) (show w.heap.size ≤ w2.heap.size by omega) _⟩
      · exact other_cell ((HB1.out.cell (block_lt_of_cell e)).trans e) (show w2.heap.size ≠ w3.heap.size by omega) _
      · rw [HU.out.1]; exact World.cell?_setCell_same' _ _ _ (by rw [e1]; rfl)
      · rw [World.frozen?_setCell]; exact e2
      · exact other_cell e3 (show w2.heap.size ≠ w.heap.size by omega) _
  case done =>
    rintro D ys W hD hys ⟨⟨_, hc, hf, _⟩, hB⟩ hK
    rw [leadTo_all hys] at hc
    gi_wp2
    refine ⟨by simp, .inl ⟨_, _, rfl, run_takeDeferred hK, ?_⟩⟩
    exact ⟨_, results_tmp2 rfl _ _ _, rfl, hB.trans (belowK_b (w := w) (Nat.le_refl _) W D _ _ (by simp at hD; omega) hK rfl rfl)⟩
  case stop =>
    rintro D c pre W _ _ hh _
    exact hh.elim
end Go.Proofs.YtenlpbcembadcaaDoor
