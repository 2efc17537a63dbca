/- Parts of the proof, one behind the other: Root, KTab, New. -/
import Derived.Test.YtedmgfompaoeoaaDoorM7
import Derived.Test.YtedmgfompaoeoaaDoorM6
/- The document's numbers of rounds: root. -/
namespace Go.Proofs.YtedmgfompaoeoaaDoor
open Go.RowKit

def searchL (k p : Nat) : Nat → Nat → Nat → Nat
  | 0, low, _ => low
  | f + 1, low, high => if low + 1 < high then (if aboveL ((low + high) / 2) k p then searchL k p f low ((low + high) / 2) else searchL k p f ((low + high) / 2) high) else low
def rootL (p k : Nat) : Nat := searchL k p 40 0 1099511627776 % 4294967296
theorem searchL_done (k p f low high : Nat) (h : ¬ low + 1 < high) : searchL k p f low high = low := by
  cases f with
  | zero => rfl
  | succ f => show (if low + 1 < high then _ else low) = low; rw [if_neg h]
theorem searchL_step (k p f low high x : Nat) (h : low + 1 < high) (hx : (low + high) / 2 = x) : searchL k p (f + 1) low high = if aboveL x k p then searchL k p f low x else searchL k p f x high := by
  show (if low + 1 < high then _ else low) = _; rw [if_pos h, hx]

set_option maxRecDepth 100000 in
theorem root_any (p k : Nat) (w : World) (hk : k ≤ 3) :
    Calls Tryd.prog 19 #[.int .u64 (p : Int), .int .i64 (k : Int)] w fun e w' => e = .returned (.int .u32 ((rootL p k : Nat) : Int)) ∧ Below w.heap.size w w' := by
  go_enter Tryd.func19, Tryd.ntmps19
  go_wp2
  go_loopw [5, 6, 7] (fun lo hi x wr => ∃ low high f : Nat, lo = .int .u64 (low : Int) ∧ hi = .int .u64 (high : Int) ∧ high ≤ 1099511627776 ∧ low ≤ 1099511627776 ∧ low ≤ high ∧ high - low ≤ 2 ^ f ∧ searchL k p f low high = searchL k p 40 0 1099511627776 ∧ Below w.heap.size w wr)
    (fun lo hi _ _ => (intOf hi).toNat - (intOf lo).toNat)
  case atStart =>
    exact ⟨0, 1099511627776, 40, rfl, rfl, by omega, by omega, by omega, by decide, rfl, Below.refl _ _⟩
  case round =>
    obtain ⟨low, high, f, rfl, rfl, hh, hl, hlh, hf, hs, hb⟩ := hrel
    have HS := Lib.hid hs
    have HB := Lib.hid hb
    have HF := Lib.hid hf
    clear hs hb hf
    by_cases hlt : low + 1 < high
    · obtain ⟨x, hx⟩ : ∃ x, (low + high) / 2 = x := ⟨_, rfl⟩
      have hxi : ((low : Int) + (high : Int)) / 2 = (x : Int) := by omega
      have hx1 : low < x := by omega
      have hx2 : x < high := by omega
      have hx3 : x ≤ 1099511627776 := by omega
      have HX := Lib.hid hx
      obtain ⟨f', rfl⟩ : ∃ f', f = f' + 1 := by
        cases f with
        | zero => have := HF.out; simp at this; omega
        | succ f => exact ⟨f, rfl⟩
      have hp : high - low ≤ 2 * 2 ^ f' := by have := HF.out; rw [Nat.pow_succ] at this; omega
      have hs := HS.out
      rw [searchL_step k p f' low high x hlt hx] at hs
      have h1 : x - low ≤ 2 ^ f' := by omega
      have h2 : high - x ≤ 2 ^ f' := by omega
      have H1 := Lib.hid h1
      have H2 := Lib.hid h2
      have HS2 := Lib.hid hs
      clear hs hp hx h1 h2
      cases hab : aboveL x k p with
      | true =>
        go_wp2_with (go_at_call 38; refine (above_any x k p _ hx3 hk).mono ?_; rintro e w1 ⟨rfl, hb1⟩; have HB1 := Lib.hid hb1; clear hb1; rw [hab])
        go_wp2
        go_roundw
        case rel =>
          refine ⟨low, x, f', rfl, rfl, by omega, by omega, by omega, H1.out, ?_, HB.out.trans (HB1.out.mono HB.out.size)⟩
          have h := HS2.out; rw [hab, if_pos rfl] at h; exact h
        case measure => simp [intOf]; omega
      | false =>
        go_wp2_with (go_at_call 38; refine (above_any x k p _ hx3 hk).mono ?_; rintro e w1 ⟨rfl, hb1⟩; have HB1 := Lib.hid hb1; clear hb1; rw [hab])
        go_wp2
        go_roundw
        case rel =>
          refine ⟨x, high, f', rfl, rfl, by omega, by omega, by omega, H2.out, ?_, HB.out.trans (HB1.out.mono HB.out.size)⟩
          have h := HS2.out; rw [hab, if_neg (by decide)] at h; exact h
        case measure => simp [intOf]; omega
    · go_wp2
      go_ret
      refine ⟨?_, HB.out⟩
      have h := HS.out
      rw [searchL_done k p f low high hlt] at h
      unfold rootL; rw [← h]; rfl
end Go.Proofs.YtedmgfompaoeoaaDoor
/- The numbers of rounds, reckoned from roots of primes, are the tables'. -/
namespace Go.Proofs.YtedmgfompaoeoaaDoor
open Go.RowKit

theorem k_all : (List.range 64).all (fun i => rootL ((pl 310).getD i 0) 3 == kTab.getD i 0) = true := by decide +kernel
theorem h_all : (List.range 8).all (fun i => rootL ((pl 310).getD i 0) 2 == (iv i).toNat) = true := by decide +kernel
theorem k_root (i : Nat) (h : i < 64) : rootL ((pl 310).getD i 0) 3 = kTab.getD i 0 := by
  have := List.all_eq_true.1 k_all i (List.mem_range.2 h); simpa using this
theorem h_root (i : Nat) (h : i < 8) : rootL ((pl 310).getD i 0) 2 = (iv i).toNat := by
  have := List.all_eq_true.1 h_all i (List.mem_range.2 h); simpa using this

theorem k_val (i : Nat) (h : i < 64) : ((rootL ((pl 310).getD i 0) 3 : Nat) : Int) = W32 (kOf i) := by
  have h1 := k_root i h
  have h2 : rootL ((pl 310).getD i 0) 3 < 4294967296 := Nat.mod_lt _ (by decide)
  rw [h1] at h2 ⊢
  unfold W32 kOf
  rw [BitVec.toNat_ofNat, Nat.mod_eq_of_lt (by omega)]
theorem h_val (i : Nat) (h : i < 8) : ((rootL ((pl 310).getD i 0) 2 : Nat) : Int) = W32 (iv i) := by
  have h1 := h_root i h
  rw [h1]; rfl

end Go.Proofs.YtedmgfompaoeoaaDoor
/- The document's numbers of rounds: New. -/
namespace Go.Proofs.YtedmgfompaoeoaaDoor
open Go.RowKit

def partR (i j : Nat) : Value := if j < 8 then (if j < i then .int .u32 (W32 (iv j)) else .int .u32 0) else if j - 8 < i then .int .u32 (W32 (kOf (j - 8))) else .int .u32 0
theorem zeroR (w : World) : (zeroValue 53).run Tryd.prog w = .ok (.agg (arr 72 fun _ => .int .u32 0)) w := by kernel_rfl
structure NewRel (N : Nat) (w wr : World) (v : Value) (i : Nat) : Prop where
  below : Below N w wr
  own : Holds wr N 72 (partR i) 53
  row : Row wr (N + 1) 1 v 64 (i64s (pl 310))

set_option maxRecDepth 100000 in
theorem new_any (w : World) :
    Calls Tryd.prog 6 #[] w fun e w' => ∃ b, e = .returned (.pointer (some ⟨b, 0, none⟩)) ∧ w.heap.size ≤ b ∧ Below w.heap.size w w' ∧ Holds w' b 72 refCells 53 := by
  go_enter Tryd.func6, Tryd.ntmps6
  have hzR := zeroR
  go_wp2_with (go_at_call 18; refine (primes_any _).mono ?_; rintro e w1 ⟨v1, rfl, hb1, hr1⟩; obtain ⟨q, cap, rfl⟩ := hr1.any; have HB1 := Lib.hid hb1; have HR1 := Lib.hid hr1; clear hb1 hr1)
  clear hzR
  go_loopw [8] (fun i wr => ∃ n : Nat, n ≤ 64 ∧ i = .int .i64 (n : Int) ∧ NewRel w.heap.size w wr (.slice q 64 cap) n) (fun i _ => 64 - (intOf i).toNat)
  case atStart =>
    refine ⟨0, by omega, rfl, ?_, ?_, ?_⟩
    · exact ((Below.refl _ _).alloc (Nat.le_refl _) _).trans (HB1.out.mono (by simp))
    · refine ((Holds.new w 72 (fun _ => .int .u32 0) 53).below HB1.out (by simp)).congr fun j hj => ?_
      unfold partR; split <;> rw [if_neg (by omega)]
    · have h := HR1.out; simpa using h
  case round =>
    obtain ⟨n, hn, rfl, hr⟩ := hrel
    have HR := Lib.hid hr
    clear hr
    by_cases hlt : n < 64
    · obtain ⟨g, cap', hv, hg1, hg2, _, hcell, _⟩ := HR.out.row.shape (by omega)
      injection hv with e1 e2 e3
      subst e1
      have hc := hcell n _ (i64s_get (pl 310) n (by rw [pl_310]; exact hlt))
      have hp := pl_pos 310 n (by rw [pl_310]; exact hlt)
      have hkv := k_val n hlt
      have hlow := h_val n
      clear hcell e3
      generalize (pl 310).getD n 0 = p at hc hp hkv hlow
      have HK := Lib.hid hkv
      have HL := Lib.hid hlow
      have hN : w.heap.size < wr.heap.size := HR.out.own.lt
      clear hkv hlow
      by_cases h8 : n < 8
      · go_wp2
        refine wp_region_head_tail (fun w' => ∃ z : Later wr.heap.size wr, w' = z.at') 8 (by kernel_rfl) (by kernel_rfl) ⟨⟨wr.drew, (Below.refl _ _).drew⟩, rfl⟩ ?_
        simp only [List.take_succ_cons, List.take_zero, List.drop_succ_cons, List.drop_zero]
        repeat (first | go_big_quiet_step ((go_at_call 19; refine later_of (root_any p 3 _ (by decide)))) | quiet_step ((go_at_call 19; refine later_of (root_any p 3 _ (by decide)))))
        refine wpQuiet_nil ?_
        rintro w4 ⟨⟨w4, hb4⟩, rfl⟩
        have hown4 := HR.out.own.below hb4 hN
        have hcell4 := hown4.cell (8 + n) (by omega)
        have hfree4 := hown4.free (8 + n)
        rw [show partR n (8 + n) = .int .u32 0 by unfold partR; rw [if_neg (by omega), if_neg (by omega)]] at hcell4
        have HOWN4 := Lib.hid hown4
        have HB4 := Lib.hid hb4
        clear hown4 hb4
        go_wp2
        have hN5 : w.heap.size < (w4.setCell ⟨w.heap.size, 8 + n, none⟩ (.int .u32 ((rootL p 3 : Nat) : Int))).heap.size := by have := HB4.out.size; simp [World.setCell]; omega
        have hown5 := HOWN4.out.set (8 + n) (.int .u32 ((rootL p 3 : Nat) : Int))
        have hb5 : Below w.heap.size w (w4.setCell ⟨w.heap.size, 8 + n, none⟩ (.int .u32 ((rootL p 3 : Nat) : Int))) := (HR.out.below.trans (HB4.out.mono (Nat.le_of_lt hN))).setCell (Nat.le_refl _) _
        have hrow5 : Row (w4.setCell ⟨w.heap.size, 8 + n, none⟩ (.int .u32 ((rootL p 3 : Nat) : Int))) (w.heap.size + 1) 1 (.slice (some ⟨g, 0, none⟩) 64 cap) 64 (i64s (pl 310)) := (HR.out.row.belowAll HB4.out).setOther (HR.out.row.fresh (Nat.lt_succ_self _)) _
        have HOWN5 := Lib.hid hown5
        have HB5 := Lib.hid hb5
        have HROW5 := Lib.hid hrow5
        clear hown5 hb5 hrow5 hcell4 hfree4
        generalize hw5 : w4.setCell ⟨w.heap.size, 8 + n, none⟩ (.int .u32 ((rootL p 3 : Nat) : Int)) = w5 at HOWN5 HB5 HROW5 hN5
        clear hw5
        refine wp_region_head_tail (fun w' => ∃ z : Later w5.heap.size w5, w' = z.at') 8 (by kernel_rfl) (by kernel_rfl) ⟨⟨w5.drew, (Below.refl _ _).drew⟩, rfl⟩ ?_
        simp only [List.take_succ_cons, List.take_zero, List.drop_succ_cons, List.drop_zero]
        repeat (first | go_big_quiet_step ((go_at_call 19; refine later_of (root_any p 2 _ (by decide)))) | quiet_step ((go_at_call 19; refine later_of (root_any p 2 _ (by decide)))))
        refine wpQuiet_nil ?_
        rintro w6 ⟨⟨w6, hb6⟩, rfl⟩
        have hown6 := HOWN5.out.below hb6 hN5
        have hcell6 := hown6.cell n (by omega)
        have hfree6 := hown6.free n
        rw [show upd (partR n) (8 + n) (.int .u32 ((rootL p 3 : Nat) : Int)) n = .int .u32 0 by unfold upd partR; rw [if_neg (by omega), if_pos (by omega), if_neg (by omega)]] at hcell6
        have HOWN6 := Lib.hid hown6
        have HB6 := Lib.hid hb6
        clear hown6 hb6
        go_wp2
        go_roundw
        case rel =>
          refine ⟨n + 1, by omega, by go_num, ?_, ?_, ?_⟩
          · exact (HB5.out.trans (HB6.out.mono (Nat.le_of_lt hN5))).setCell (Nat.le_refl _) _
          · refine (HOWN6.out.set n _).congr fun j hj => ?_
            rw [HK.out, HL.out h8]
            unfold upd partR
            by_cases hj8 : j < 8
            · rw [if_pos hj8, if_pos hj8]
              by_cases hjn : j = n
              · subst hjn; rw [if_pos rfl, if_pos (by omega)]
              · rw [if_neg hjn, if_neg (by omega)]
                by_cases hjl : j < n
                · rw [if_pos hjl, if_pos (by omega)]
                · rw [if_neg hjl, if_neg (by omega)]
            · rw [if_neg (by omega), if_neg hj8, if_neg hj8]
              by_cases hjn : j = 8 + n
              · subst hjn; rw [if_pos rfl, if_pos (by omega), show 8 + n - 8 = n by omega]
              · rw [if_neg hjn]
                by_cases hjl : j - 8 < n
                · rw [if_pos hjl, if_pos (by omega)]
                · rw [if_neg hjl, if_neg (by omega)]
          · exact (HROW5.out.belowAll HB6.out).setOther (HROW5.out.fresh (Nat.lt_succ_self _)) _
        case measure => simp [intOf]; omega
      · go_wp2
        refine wp_region_head_tail (fun w' => ∃ z : Later wr.heap.size wr, w' = z.at') 8 (by kernel_rfl) (by kernel_rfl) ⟨⟨wr.drew, (Below.refl _ _).drew⟩, rfl⟩ ?_
        simp only [List.take_succ_cons, List.take_zero, List.drop_succ_cons, List.drop_zero]
        repeat (first | go_big_quiet_step ((go_at_call 19; refine later_of (root_any p 3 _ (by decide)))) | quiet_step ((go_at_call 19; refine later_of (root_any p 3 _ (by decide)))))
        refine wpQuiet_nil ?_
        rintro w4 ⟨⟨w4, hb4⟩, rfl⟩
        have hown4 := HR.out.own.below hb4 hN
        have hcell4 := hown4.cell (8 + n) (by omega)
        have hfree4 := hown4.free (8 + n)
        rw [show partR n (8 + n) = .int .u32 0 by unfold partR; rw [if_neg (by omega), if_neg (by omega)]] at hcell4
        have HOWN4 := Lib.hid hown4
        have HB4 := Lib.hid hb4
        clear hown4 hb4
        go_wp2
        go_roundw
        case rel =>
          refine ⟨n + 1, by omega, by go_num, ?_, ?_, ?_⟩
          · exact (HR.out.below.trans (HB4.out.mono (Nat.le_of_lt hN))).setCell (Nat.le_refl _) _
          · refine (HOWN4.out.set (8 + n) _).congr fun j hj => ?_
            rw [HK.out]
            unfold upd partR
            by_cases hj8 : j < 8
            · rw [if_neg (by omega), if_pos hj8, if_pos hj8, if_pos (by omega), if_pos (by omega)]
            · rw [if_neg hj8, if_neg hj8]
              by_cases hjn : j = 8 + n
              · subst hjn; rw [if_pos rfl, if_pos (by omega), show 8 + n - 8 = n by omega]
              · rw [if_neg hjn]
                by_cases hjl : j - 8 < n
                · rw [if_pos hjl, if_pos (by omega)]
                · rw [if_neg hjl, if_neg (by omega)]
          · exact (HR.out.row.belowAll HB4.out).setOther (HR.out.row.fresh (Nat.lt_succ_self _)) _
        case measure => simp [intOf]; omega
    · have h64 : n = 64 := by omega
      have H64 := Lib.hid h64
      clear h64
      go_wp2
      go_ret
      refine ⟨w.heap.size, rfl, Nat.le_refl _, HR.out.below, HR.out.own.congr fun j hj => ?_⟩
      have := H64.out
      unfold partR refCells
      by_cases hj8 : j < 8
      · rw [if_pos hj8, if_pos hj8, if_pos (by omega)]
      · rw [if_neg hj8, if_neg hj8, if_pos (by omega)]
end Go.Proofs.YtedmgfompaoeoaaDoor
