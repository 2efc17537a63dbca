/- Parts of the proof, one behind the other: New, PHas, RParts, PParts, RWhole, LaterR. -/
import Derived.Test.YtiaoolopbikfgaaDoorM10
import Derived.Test.YtiaoolopbikfgaaDoorM7
import Derived.Test.YtiaoolopbikfgaaDoorM9
import Derived.Test.YtiaoolopbikfgaaDoorM8
import Derived.BigQuiet
/- The document's numbers of rounds: New. -/
namespace Go.Proofs.YtiaoolopbikfgaaDoor
open Go.RowKit

def partR (i j : Nat) : Value := if j < 8 then (if j < i then .int .u32 (W32 (iv j)) else .int .u32 0) else if j - 8 < i then .int .u32 (W32 (kOf (j - 8))) else .int .u32 0
theorem zeroR (w : World) : (zeroValue 52).run Tryd.prog w = .ok (.agg (arr 72 fun _ => .int .u32 0)) w := by kernel_rfl
structure NewRel (N : Nat) (w wr : World) (v : Value) (i : Nat) : Prop where
  below : Below N w wr
  own : Holds wr N 72 (partR i) 52
  row : Row wr (N + 1) 1 v 64 (i64s (pl 310))

set_option maxRecDepth 100000 in
theorem new_any (w : World) :
    Calls Tryd.prog 6 #[] w fun e w' => ∃ b, e = .returned (.pointer (some ⟨b, 0, none⟩)) ∧ w.heap.size ≤ b ∧ Below w.heap.size w w' ∧ Holds w' b 72 refCells 52 := by
  go_enter Tryd.func6, Tryd.ntmps6
  have hzR := zeroR
  go_wp2_with (go_at_call 20; refine (primes_any _).mono ?_; rintro e w1 ⟨v1, rfl, hb1, hr1⟩; obtain ⟨q, cap, rfl⟩ := hr1.any; have HB1 := Lib.hid hb1; have HR1 := Lib.hid hr1; clear hb1 hr1)
  clear hzR
  go_loopw [8] (fun i wr => ∃ n : Nat, n ≤ 64 ∧ i = .int .i64 (n : Int) ∧ NewRel w.heap.size w wr (.slice q 64 cap) n) (fun i _ => 64 - (intOf i).toNat)
  case atStart =>
    refine ⟨0, by omega, rfl, ?_, ?_, ?_⟩
    · exact ((Below.refl _ _).alloc (Nat.le_refl _) _).trans (HB1.out.mono (by simp))
    · refine ((Holds.new w 72 (fun _ => .int .u32 0) 52).below HB1.out (by simp)).congr fun j hj => ?_
      unfold partR; split <;> rw [if_neg (by omega)]
    · have h := HR1.out; simpa using h
  case round =>
    obtain ⟨n, hn, rfl, hr⟩ := hrel
    have HR := Lib.hid hr
    clear hr
    by_cases hlt : n < 64
    · obtain ⟨g, cap', hv, hg1, hg2, _, hcell, _⟩ := HR.out.row.shape (by omega)
      injection hv with e1 e2 e3
      subst e1
      have hc := hcell n _ (i64s_get (pl 310) n (by rw [pl_310]; exact hlt))
      have hp := pl_pos 310 n (by rw [pl_310]; exact hlt)
      have hkv := k_val n hlt
      have hlow := h_val n
      clear hcell e3
      generalize (pl 310).getD n 0 = p at hc hp hkv hlow
      have HK := Lib.hid hkv
      have HL := Lib.hid hlow
      have hN : w.heap.size < wr.heap.size := HR.out.own.lt
      clear hkv hlow
      by_cases h8 : n < 8
      · go_wp2
        refine wp_region_head_tail (fun w' => ∃ z : Later wr.heap.size wr, w' = z.at') 8 (by kernel_rfl) (by kernel_rfl) ⟨⟨wr.drew, (Below.refl _ _).drew⟩, rfl⟩ ?_
        simp only [List.take_succ_cons, List.take_zero, List.drop_succ_cons, List.drop_zero]
        repeat (first | go_big_quiet_step ((go_at_call 21; refine later_of (root_any p 3 _ (by decide)))) | quiet_step ((go_at_call 21; refine later_of (root_any p 3 _ (by decide)))))
        refine wpQuiet_nil ?_
        rintro w4 ⟨⟨w4, hb4⟩, rfl⟩
        have hown4 := HR.out.own.below hb4 hN
        have hcell4 := hown4.cell (8 + n) (by omega)
        have hfree4 := hown4.free (8 + n)
        rw [show partR n (8 + n) = .int .u32 0 by unfold partR; rw [if_neg (by omega), if_neg (by omega)]] at hcell4
        have HOWN4 := Lib.hid hown4
        have HB4 := Lib.hid hb4
        clear hown4 hb4
        go_wp2
        have hN5 : w.heap.size < (w4.setCell ⟨w.heap.size, 8 + n, none⟩ (.int .u32 ((rootL p 3 : Nat) : Int))).heap.size := by have := HB4.out.size; simp [World.setCell]; omega
        have hown5 := HOWN4.out.set (8 + n) (.int .u32 ((rootL p 3 : Nat) : Int))
        have hb5 : Below w.heap.size w (w4.setCell ⟨w.heap.size, 8 + n, none⟩ (.int .u32 ((rootL p 3 : Nat) : Int))) := (HR.out.below.trans (HB4.out.mono (Nat.le_of_lt hN))).setCell (Nat.le_refl _) _
        have hrow5 : Row (w4.setCell ⟨w.heap.size, 8 + n, none⟩ (.int .u32 ((rootL p 3 : Nat) : Int))) (w.heap.size + 1) 1 (.slice (some ⟨g, 0, none⟩) 64 cap) 64 (i64s (pl 310)) := (HR.out.row.belowAll HB4.out).setOther (HR.out.row.fresh (Nat.lt_succ_self _)) _
        have HOWN5 := Lib.hid hown5
        have HB5 := Lib.hid hb5
        have HROW5 := Lib.hid hrow5
        clear hown5 hb5 hrow5 hcell4 hfree4
        generalize hw5 : w4.setCell ⟨w.heap.size, 8 + n, none⟩ (.int .u32 ((rootL p 3 : Nat) : Int)) = w5 at HOWN5 HB5 HROW5 hN5
        clear hw5
        refine wp_region_head_tail (fun w' => ∃ z : Later w5.heap.size w5, w' = z.at') 8 (by kernel_rfl) (by kernel_rfl) ⟨⟨w5.drew, (Below.refl _ _).drew⟩, rfl⟩ ?_
        simp only [List.take_succ_cons, List.take_zero, List.drop_succ_cons, List.drop_zero]
        repeat (first | go_big_quiet_step ((go_at_call 21; refine later_of (root_any p 2 _ (by decide)))) | quiet_step ((go_at_call 21; refine later_of (root_any p 2 _ (by decide)))))
        refine wpQuiet_nil ?_
        rintro w6 ⟨⟨w6, hb6⟩, rfl⟩
        have hown6 := HOWN5.out.below hb6 hN5
        have hcell6 := hown6.cell n (by omega)
        have hfree6 := hown6.free n
        rw [show upd (partR n) (8 + n) (.int .u32 ((rootL p 3 : Nat) : Int)) n = .int .u32 0 by unfold upd partR; rw [if_neg (by omega), if_pos (by omega), if_neg (by omega)]] at hcell6
        have HOWN6 := Lib.hid hown6
        have HB6 := Lib.hid hb6
        clear hown6 hb6
        go_wp2
        go_roundw
        case rel =>
          refine ⟨n + 1, by omega, by go_num, ?_, ?_, ?_⟩
          · exact (HB5.out.trans (HB6.out.mono (Nat.le_of_lt hN5))).setCell (Nat.le_refl _) _
          · refine (HOWN6.out.set n _).congr fun j hj => ?_
            rw [HK.out, HL.out h8]
            unfold upd partR
            by_cases hj8 : j < 8
            · rw [if_pos hj8, if_pos hj8]
              by_cases hjn : j = n
              · subst hjn; rw [if_pos rfl, if_pos (by omega)]
              · rw [if_neg hjn, if_neg (by omega)]
                by_cases hjl : j < n
                · rw [if_pos hjl, if_pos (by omega)]
                · rw [if_neg hjl, if_neg (by omega)]
            · rw [if_neg (by omega), if_neg hj8, if_neg hj8]
              by_cases hjn : j = 8 + n
              · subst hjn; rw [if_pos rfl, if_pos (by omega), show 8 + n - 8 = n by omega]
              · rw [if_neg hjn]
                by_cases hjl : j - 8 < n
                · rw [if_pos hjl, if_pos (by omega)]
                · rw [if_neg hjl, if_neg (by omega)]
          · exact (HROW5.out.belowAll HB6.out).setOther (HROW5.out.fresh (Nat.lt_succ_self _)) _
        case measure => simp [intOf]; omega
      · go_wp2
        refine wp_region_head_tail (fun w' => ∃ z : Later wr.heap.size wr, w' = z.at') 8 (by kernel_rfl) (by kernel_rfl) ⟨⟨wr.drew, (Below.refl _ _).drew⟩, rfl⟩ ?_
        simp only [List.take_succ_cons, List.take_zero, List.drop_succ_cons, List.drop_zero]
        repeat (first | go_big_quiet_step ((go_at_call 21; refine later_of (root_any p 3 _ (by decide)))) | quiet_step ((go_at_call 21; refine later_of (root_any p 3 _ (by decide)))))
        refine wpQuiet_nil ?_
        rintro w4 ⟨⟨w4, hb4⟩, rfl⟩
        have hown4 := HR.out.own.below hb4 hN
        have hcell4 := hown4.cell (8 + n) (by omega)
        have hfree4 := hown4.free (8 + n)
        rw [show partR n (8 + n) = .int .u32 0 by unfold partR; rw [if_neg (by omega), if_neg (by omega)]] at hcell4
        have HOWN4 := Lib.hid hown4
        have HB4 := Lib.hid hb4
        clear hown4 hb4
        go_wp2
        go_roundw
        case rel =>
          refine ⟨n + 1, by omega, by go_num, ?_, ?_, ?_⟩
          · exact (HR.out.below.trans (HB4.out.mono (Nat.le_of_lt hN))).setCell (Nat.le_refl _) _
          · refine (HOWN4.out.set (8 + n) _).congr fun j hj => ?_
            rw [HK.out]
            unfold upd partR
            by_cases hj8 : j < 8
            · rw [if_neg (by omega), if_pos hj8, if_pos hj8, if_pos (by omega), if_pos (by omega)]
            · rw [if_neg hj8, if_neg hj8]
              by_cases hjn : j = 8 + n
              · subst hjn; rw [if_pos rfl, if_pos (by omega), show 8 + n - 8 = n by omega]
              · rw [if_neg hjn]
                by_cases hjl : j - 8 < n
                · rw [if_pos hjl, if_pos (by omega)]
                · rw [if_neg hjl, if_neg (by omega)]
          · exact (HR.out.row.belowAll HB4.out).setOther (HR.out.row.fresh (Nat.lt_succ_self _)) _
        case measure => simp [intOf]; omega
    · have h64 : n = 64 := by omega
      have H64 := Lib.hid h64
      clear h64
      go_wp2
      go_ret
      refine ⟨w.heap.size, rfl, Nat.le_refl _, HR.out.below, HR.out.own.congr fun j hj => ?_⟩
      have := H64.out
      unfold partR refCells
      by_cases hj8 : j < 8
      · rw [if_pos hj8, if_pos hj8, if_pos (by omega)]
      · rw [if_neg hj8, if_neg hj8, if_pos (by omega)]
end Go.Proofs.YtiaoolopbikfgaaDoor
/- The program's Has: what is among heads is found. -/
namespace Go.Proofs.YtiaoolopbikfgaaDoor
open Go.RowKit

set_option maxHeartbeats 1000000 in
theorem run_eql_heads (a b : Hd) (w : World) :
    (binOp .eql 31 (.agg #[.int .i64 a.epoch, .string a.root, .string a.prev]) (.agg #[.int .i64 b.epoch, .string b.root, .string b.prev])).run Tryd.prog w = .ok (.bool (decide (a = b))) w := by
  rw [run_eql_struct, run_equalIn_agg _ 9999 _ _ _ headFields stood]
  by_cases h1 : a.epoch = b.epoch
  · by_cases h2 : a.root = b.root
    · by_cases h3 : a.prev = b.prev
      · have e : decide (a = b) = true := by simp [hd_eq_iff, h1, h2, h3]
        rw [e, h1, h2, h3]
        go_simp
      · have e : decide (a = b) = false := by simp [hd_eq_iff, h3]
        have e3 := text_ne h3
        rw [e, h1, h2]
        go_simp
    · have e : decide (a = b) = false := by simp [hd_eq_iff, h2]
      have e3 := text_ne h2
      rw [e, h1]
      go_simp
  · have e : decide (a = b) = false := by simp [hd_eq_iff, h1]
    have e3 : (a.epoch == b.epoch) = false := by rw [beq_eq_false_iff_ne]; exact h1
    rw [e]
    go_simp
set_option maxRecDepth 100000 in
theorem pHas1_any (x h : Hd) (hb : Nat) (w : World) (hh : w.cell? ⟨hb, 0, none⟩ = some (.int .i64 h.epoch) ∧ w.cell? ⟨hb, 1, none⟩ = some (.string h.root) ∧ w.cell? ⟨hb, 2, none⟩ = some (.string h.prev)) :
    Calls Tryd.prog 29 #[.agg #[.int .i64 x.epoch, .string x.root, .string x.prev], .pointer (some ⟨hb, 0, none⟩)] w fun e w' => e = .returned (.bool (decide (x = h))) ∧ Below w.heap.size w w' := by
  have HB0 := Lib.hid (alloc_below w (.cells #[.int .i64 x.epoch, .string x.root, .string x.prev] 31))
  have hlt := block_lt_of_cell hh.1
  have c0 := (HB0.out.cell (p := ⟨hb, 0, none⟩) hlt).trans hh.1
  have c1 := (HB0.out.cell (p := ⟨hb, 1, none⟩) hlt).trans hh.2.1
  have c2 := (HB0.out.cell (p := ⟨hb, 2, none⟩) hlt).trans hh.2.2
  clear hh hlt
  have HN := Holds.new w 3 (hdF x) 31
  have d0 : (w.alloc (.cells #[.int .i64 x.epoch, .string x.root, .string x.prev] 31)).cell? ⟨w.heap.size, 0, none⟩ = some (.int .i64 x.epoch) := HN.cell 0 (by omega)
  have d1 : (w.alloc (.cells #[.int .i64 x.epoch, .string x.root, .string x.prev] 31)).cell? ⟨w.heap.size, 1, none⟩ = some (.string x.root) := HN.cell 1 (by omega)
  have d2 : (w.alloc (.cells #[.int .i64 x.epoch, .string x.root, .string x.prev] 31)).cell? ⟨w.heap.size, 2, none⟩ = some (.string x.prev) := HN.cell 2 (by omega)
  clear HN
  have hne := fun u : World => run_eql_heads x h u
  generalize decide (x = h) = T at hne
  have HC := Lib.hid (show _ ∧ _ ∧ _ ∧ _ ∧ _ ∧ _ from ⟨c0, c1, c2, d0, d1, d2⟩)
  clear c0 c1 c2 d0 d1 d2
  go_enter Tryd.func29, Tryd.ntmps29
  obtain ⟨c0, c1, c2, d0, d1, d2⟩ := HC.out
  go_wp2
  go_ret
  exact ⟨rfl, HB0.out⟩
set_option maxRecDepth 100000 in
theorem pHasIx_in (L : List Hd) (A : Option Addr) (cap : Nat) (h : Hd) (hb : Nat) (w : World) (hl : L.length ≤ 1000000) (hm : Hds w A L) (hx : h ∈ L) (hh : w.cell? ⟨hb, 0, none⟩ = some (.int .i64 h.epoch) ∧ w.cell? ⟨hb, 1, none⟩ = some (.string h.root) ∧ w.cell? ⟨hb, 2, none⟩ = some (.string h.prev)) :
    Calls Tryd.prog 38 #[.slice A L.length cap, .func (.func 29) #[] #[.pointer (some ⟨hb, 0, none⟩)]] w fun e w' => Below w.heap.size w w' ∧ ∃ n : Int, e = .returned (.int .i64 n) ∧ 0 ≤ n := by
  have HM := Lib.hid hm
  have HX := Lib.hid hx
  have HH := Lib.hid hh
  have HLT := Lib.hid (block_lt_of_cell hh.1)
  clear hm hx hh
  go_enter Tryd.func38, Tryd.ntmps38
  go_wp2
  go_loopw [8] (fun i wr => ∃ k : Nat, k ≤ L.length ∧ i = .int .i64 (k : Int) ∧ Hid (Below w.heap.size w wr ∧ ¬ h ∈ L.take k)) (fun i _ => L.length - (intOf i).toNat)
  case atStart => exact ⟨0, by omega, rfl, Lib.hid ⟨Below.refl _ _, by simp⟩⟩
  case round =>
    obtain ⟨k, hk, rfl, HU⟩ := hrel
    by_cases hlt : k < L.length
    · obtain ⟨a, rfl, hal, c0, c1, c2⟩ := (HM.out.below HU.out.1).at_ hlt
      have d1 : wr.cell? ⟨(a.add (k * 3)).block, (a.add (k * 3)).off + 1, none⟩ = some (.string (hdAt L k).root) := c1
      have d2 : wr.cell? ⟨(a.add (k * 3)).block, (a.add (k * 3)).off + 2, none⟩ = some (.string (hdAt L k).prev) := c2
      have HY := Lib.hid (show L[k]? = some (hdAt L k) by rw [List.getElem?_eq_getElem hlt, hdAt_of hlt])
      generalize hdAt L k = x at c0 d1 d2 HY
      clear c1 c2
      have HCA := Lib.hid (pHas1_any x h hb wr ⟨(HU.out.1.cell (p := ⟨hb, 0, none⟩) HLT.out).trans HH.out.1, (HU.out.1.cell (p := ⟨hb, 1, none⟩) HLT.out).trans HH.out.2.1, (HU.out.1.cell (p := ⟨hb, 2, none⟩) HLT.out).trans HH.out.2.2⟩)
      go_wp2_with fail
      clear c0 d1 d2
      refine HCA.out.mono ?_
      rintro e w1 ⟨rfl, hb1⟩
      have HB1 := Lib.hid (HU.out.1.trans (hb1.mono HU.out.1.size))
      clear hb1 HCA
      by_cases hxy : x = h
      · rw [decide_eq_true hxy]
        clear hxy
        go_wp2
        go_ret
        exact ⟨HB1.out, k, rfl, by omega⟩
      · rw [decide_eq_false hxy]
        have HXY := Lib.hid hxy
        clear hxy
        go_wp2
        go_roundw
        case rel =>
          refine ⟨k + 1, by omega, by go_num, Lib.hid ⟨HB1.out, ?_⟩⟩
          rw [List.take_add_one, HY.out, List.mem_append]
          rintro (e | e)
          · exact HU.out.2 e
          · exact HXY.out (List.mem_singleton.1 e).symm
        case measure => simp [intOf]; omega
    · exfalso
      refine HU.out.2 ?_
      rw [List.take_of_length_le (by omega)]
      exact HX.out
set_option maxRecDepth 100000 in
theorem pHasFunc_in (L : List Hd) (A : Option Addr) (cap : Nat) (h : Hd) (hb : Nat) (w : World) (hl : L.length ≤ 1000000) (hm : Hds w A L) (hx : h ∈ L) (hh : w.cell? ⟨hb, 0, none⟩ = some (.int .i64 h.epoch) ∧ w.cell? ⟨hb, 1, none⟩ = some (.string h.root) ∧ w.cell? ⟨hb, 2, none⟩ = some (.string h.prev)) :
    Calls Tryd.prog 28 #[.slice A L.length cap, .func (.func 29) #[] #[.pointer (some ⟨hb, 0, none⟩)]] w fun e w' => e = .returned (.bool true) ∧ Below w.heap.size w w' := by
  have HH := Lib.hid hh
  clear hh
  go_enter Tryd.func28, Tryd.ntmps28
  go_wp2_with fail
  refine (pHasIx_in L A cap h hb _ hl hm hx HH.out).mono ?_
  rintro e w1 ⟨hb1, n, rfl, hn⟩
  have HB1 := Lib.hid hb1
  clear hb1
  go_wp2
  go_ret
  exact ⟨rfl, HB1.out⟩
set_option maxRecDepth 100000 in
theorem pHas_in (L : List Hd) (A : Option Addr) (cap : Nat) (h : Hd) (w : World) (hl : L.length ≤ 1000000) (hm : Hds w A L) (hx : h ∈ L) :
    Calls Tryd.prog 12 #[.slice A L.length cap, .agg #[.int .i64 h.epoch, .string h.root, .string h.prev]] w fun e w' => e = .returned (.bool true) ∧ Below w.heap.size w w' := by
  have HB0 := Lib.hid (alloc_below w (.cells #[.int .i64 h.epoch, .string h.root, .string h.prev] 31))
  have HN := Holds.new w 3 (hdF h) 31
  have HH := Lib.hid (show (w.alloc (.cells #[.int .i64 h.epoch, .string h.root, .string h.prev] 31)).cell? ⟨w.heap.size, 0, none⟩ = some (.int .i64 h.epoch) ∧ (w.alloc (.cells #[.int .i64 h.epoch, .string h.root, .string h.prev] 31)).cell? ⟨w.heap.size, 1, none⟩ = some (.string h.root) ∧ (w.alloc (.cells #[.int .i64 h.epoch, .string h.root, .string h.prev] 31)).cell? ⟨w.heap.size, 2, none⟩ = some (.string h.prev) from ⟨HN.cell 0 (by omega), HN.cell 1 (by omega), HN.cell 2 (by omega)⟩)
  have HM := Lib.hid (hm.below HB0.out)
  clear HN hm
  go_enter Tryd.func12, Tryd.ntmps12
  go_wp2_with fail
  refine (pHasFunc_in L A cap h _ _ hl HM.out hx HH.out).mono ?_
  rintro e w1 ⟨rfl, hb1⟩
  have HB1 := Lib.hid (HB0.out.trans (hb1.mono HB0.out.size))
  clear hb1
  go_wp2
  go_ret
  exact ⟨rfl, HB1.out⟩
end Go.Proofs.YtiaoolopbikfgaaDoor
/- The document's Parts. -/
namespace Go.Proofs.YtiaoolopbikfgaaDoor
open Go.RowKit

theorem partsFrom_le (a b : List Hd) : ∀ f i, partsFrom a b f i ≤ a.length ∨ partsFrom a b f i ≤ i + f
  | 0, i => .inl (Nat.le_refl _)
  | f + 1, i => by
    rw [partsFrom]
    split
    · have := partsFrom_le a b f (i + 1); omega
    · right; omega
set_option maxHeartbeats 1000000 in
set_option maxRecDepth 100000 in
theorem refParts_any (L M : List Hd) (A B : Option Addr) (cap cap' : Nat) (w : World) (_hl : L.length ≤ 1000000) (_hl' : M.length ≤ 1000000) (ha : Hds w A L) (hb : Hds w B M) :
    Calls Tryd.prog 18 #[.slice A L.length cap, .slice B M.length cap'] w fun e w' => e = .returned (.int .i64 ((partsAns L M : Nat) : Int)) ∧ Below w.heap.size w w' := by
  have HA := Lib.hid ha
  have HB := Lib.hid hb
  clear ha hb
  obtain ⟨y, hy⟩ : ∃ y, partsAns L M = y := ⟨_, rfl⟩
  rw [hy]
  have HY := Lib.hid hy
  clear hy
  go_enter Tryd.func18, Tryd.ntmps18
  go_wp2
  go_loopw [9] (fun i wr => ∃ k f : Nat, k + f = L.length ∧ i = .int .i64 (k : Int) ∧ Hid (partsFrom L M f k = y ∧ Below w.heap.size w wr)) (fun i _ => L.length - (intOf i).toNat)
  case atStart => exact ⟨0, L.length, by omega, rfl, Lib.hid ⟨HY.out, Below.refl _ _⟩⟩
  case round =>
    obtain ⟨k, f, hkf, rfl, HU⟩ := hrel
    by_cases hlt : k < L.length
    · obtain ⟨g, rfl⟩ : ∃ g, f = g + 1 := ⟨f - 1, by omega⟩
      obtain ⟨a, rfl, hal, c0, c1, c2⟩ := (HA.out.below HU.out.2).at_ hlt
      have d1 : wr.cell? ⟨(a.add (k * 3)).block, (a.add (k * 3)).off + 1, none⟩ = some (.string (hdAt L k).root) := c1
      have d2 : wr.cell? ⟨(a.add (k * 3)).block, (a.add (k * 3)).off + 2, none⟩ = some (.string (hdAt L k).prev) := c2
      obtain ⟨X, hX⟩ : ∃ X, hdAt L k = X := ⟨_, rfl⟩
      rw [hX] at c0 d1 d2
      have HX := Lib.hid hX
      clear hX c1
      have HB1 := Lib.hid (show Below w.heap.size w (wr.alloc (.cells #[.int .i64 X.epoch, .string X.root, .string X.prev] 31)) from HU.out.2.alloc HU.out.2.size _)
      have HN1 := Lib.hid (show Holds (wr.alloc (.cells #[.int .i64 X.epoch, .string X.root, .string X.prev] 31)) wr.heap.size 3 (hdF X) 31 from Holds.new wr 3 (hdF X) 31)
      by_cases hm : k < M.length
      · have e1 : decide ((M.length : Int) ≤ (k : Int)) = false := by simp; omega
        go_wp2
        clear c0 d1 d2
        generalize wr.alloc (.cells #[.int .i64 X.epoch, .string X.root, .string X.prev] 31) = w1 at HB1 HN1 ⊢
        have x0 : w1.cell? ⟨wr.heap.size, 0, none⟩ = some (.int .i64 X.epoch) := HN1.out.cell 0 (by omega)
        have x1 : w1.cell? ⟨wr.heap.size, 1, none⟩ = some (.string X.root) := HN1.out.cell 1 (by omega)
        have x2 : w1.cell? ⟨wr.heap.size, 2, none⟩ = some (.string X.prev) := HN1.out.cell 2 (by omega)
        obtain ⟨b, rfl, hbl, b0, b1, b2⟩ := (HB.out.below HB1.out).at_ hm
        have q1 : w1.cell? ⟨(b.add (k * 3)).block, (b.add (k * 3)).off + 1, none⟩ = some (.string (hdAt M k).root) := b1
        have q2 : w1.cell? ⟨(b.add (k * 3)).block, (b.add (k * 3)).off + 2, none⟩ = some (.string (hdAt M k).prev) := b2
        obtain ⟨Z, hZ⟩ : ∃ Z, hdAt M k = Z := ⟨_, rfl⟩
        rw [hZ] at b0 q1 q2
        have HZ := Lib.hid hZ
        clear hZ b1 b2
        by_cases hzx : Z = X
        · subst hzx
          go_quiet (fail)
          go_wp2
          go_roundw
          case rel =>
            refine ⟨k + 1, g, by omega, by go_num, Lib.hid ⟨?_, below_drew HB1.out _⟩⟩
            have hw := HU.out.1
            rw [partsFrom, if_pos ⟨hm, by rw [HZ.out, HX.out]⟩] at hw
            exact hw
          case measure => simp [intOf]; omega
        · have hne : ∀ u : World, (binOp .neq 31 (.agg #[.int .i64 Z.epoch, .string Z.root, .string Z.prev]) (.agg #[.int .i64 X.epoch, .string X.root, .string X.prev])).run Tryd.prog u = .ok (.bool true) u := fun u => by rw [run_neq_heads, decide_eq_false hzx]; rfl
          go_quiet (fail)
          go_wp2
          go_ret
          have hw := HU.out.1
          rw [partsFrom, if_neg (fun h => hzx (by rw [← HZ.out, ← HX.out]; exact h.2))] at hw
          subst hw
          exact ⟨rfl, below_drew HB1.out _⟩
      · have e1 : decide ((M.length : Int) ≤ (k : Int)) = true := by simp; omega
        go_wp2
        clear c0 d1 d2
        go_quiet (fail)
        go_wp2
        go_ret
        have hw := HU.out.1
        rw [partsFrom, if_neg (fun h => hm h.1)] at hw
        subst hw
        exact ⟨rfl, below_drew HB1.out _⟩
    · obtain rfl : f = 0 := by omega
      go_wp2
      go_ret
      have hw := HU.out.1
      unfold partsFrom at hw
      subst hw
      exact ⟨rfl, HU.out.2⟩
end Go.Proofs.YtiaoolopbikfgaaDoor
/- The program's Parts. -/
namespace Go.Proofs.YtiaoolopbikfgaaDoor
open Go.RowKit

theorem partsFrom_end {a b : List Hd} {m f : Nat} (hm : m = a.length ∨ m = b.length ∧ m ≤ a.length) (hf : m + f = a.length) : partsFrom a b f m = m := by
  cases f with
  | zero => unfold partsFrom; omega
  | succ f =>
    rw [partsFrom, if_neg]
    rintro ⟨h, _⟩
    omega
set_option maxHeartbeats 1000000 in
set_option maxRecDepth 100000 in
theorem pParts_any (L M : List Hd) (A B : Option Addr) (cap cap' : Nat) (w : World) (hl : L.length ≤ 1000000) (_hl' : M.length ≤ 1000000) (ha : Hds w A L) (hb : Hds w B M) :
    Calls Tryd.prog 17 #[.slice A L.length cap, .slice B M.length cap'] w fun e w' => e = .returned (.int .i64 ((partsAns L M : Nat) : Int)) ∧ Below w.heap.size w w' := by
  have HA := Lib.hid ha
  have HB := Lib.hid hb
  clear ha hb
  obtain ⟨y, hy⟩ : ∃ y, partsAns L M = y := ⟨_, rfl⟩
  rw [hy]
  have HY := Lib.hid hy
  clear hy
  obtain ⟨m, hm1, hm2, hm3⟩ : ∃ m : Nat, m ≤ L.length ∧ m ≤ M.length ∧ Hid (m = L.length ∨ m = M.length ∧ m ≤ L.length) := ⟨min L.length M.length, by omega, by omega, Lib.hid (by omega)⟩
  have hmin : min (L.length : Int) (M.length : Int) = (m : Int) := by have := hm3.out; omega
  go_enter Tryd.func17, Tryd.ntmps17
  go_wp2
  go_loopw [13] (fun i wr => ∃ k f : Nat, k ≤ m ∧ k + f = L.length ∧ i = .int .i64 (k : Int) ∧ Hid (partsFrom L M f k = y ∧ Below w.heap.size w wr)) (fun i _ => m - (intOf i).toNat)
  case atStart => exact ⟨0, L.length, by omega, by omega, rfl, Lib.hid ⟨HY.out, Below.refl _ _⟩⟩
  case round =>
    obtain ⟨k, f, hkm, hkf, rfl, HU⟩ := hrel
    by_cases hlt : k < m
    · obtain ⟨g, rfl⟩ : ∃ g, f = g + 1 := ⟨f - 1, by omega⟩
      have hkl : k < L.length := by omega
      have hkm' : k < M.length := by omega
      obtain ⟨a, rfl, hal, c0, c1, c2⟩ := (HA.out.below HU.out.2).at_ hkl
      obtain ⟨b, rfl, hbl, b0, b1, b2⟩ := (HB.out.below HU.out.2).at_ hkm'
      have d1 : wr.cell? ⟨(a.add (k * 3)).block, (a.add (k * 3)).off + 1, none⟩ = some (.string (hdAt L k).root) := c1
      have d2 : wr.cell? ⟨(a.add (k * 3)).block, (a.add (k * 3)).off + 2, none⟩ = some (.string (hdAt L k).prev) := c2
      have q1 : wr.cell? ⟨(b.add (k * 3)).block, (b.add (k * 3)).off + 1, none⟩ = some (.string (hdAt M k).root) := b1
      have q2 : wr.cell? ⟨(b.add (k * 3)).block, (b.add (k * 3)).off + 2, none⟩ = some (.string (hdAt M k).prev) := b2
      clear c1 c2 b1 b2
      obtain ⟨X, hX⟩ : ∃ X, hdAt L k = X := ⟨_, rfl⟩
      rw [hX] at c0 d1 d2
      have HX := Lib.hid hX
      obtain ⟨Z, hZ⟩ : ∃ Z, hdAt M k = Z := ⟨_, rfl⟩
      rw [hZ] at b0 q1 q2
      have HZ := Lib.hid hZ
      have HKF := Lib.hid hkf
      clear hX hZ hkf
      have hk0 : (0 : Int) ≤ (k : Int) := by omega
      have hk1 : (k : Int) < (L.length : Int) := by omega
      have hk2 : (k : Int) < (M.length : Int) := by omega
      by_cases hzx : X = Z
      · have hne : ∀ u : World, (binOp .neq 31 (.agg #[.int .i64 X.epoch, .string X.root, .string X.prev]) (.agg #[.int .i64 Z.epoch, .string Z.root, .string Z.prev])).run Tryd.prog u = .ok (.bool false) u := fun u => by rw [run_neq_heads, decide_eq_true hzx]; rfl
        have HZX := Lib.hid hzx
        clear hzx
        go_wp2
        go_quiet (fail)
        go_wp2
        go_roundw
        case rel =>
          refine ⟨k + 1, g, by omega, by have := HKF.out; omega, by go_num, Lib.hid ⟨?_, below_drew HU.out.2 _⟩⟩
          have hw := HU.out.1
          rw [partsFrom, if_pos ⟨hkm', by rw [HZ.out, HX.out, HZX.out]⟩] at hw
          exact hw
        case measure => simp [intOf]; omega
      · have hne : ∀ u : World, (binOp .neq 31 (.agg #[.int .i64 X.epoch, .string X.root, .string X.prev]) (.agg #[.int .i64 Z.epoch, .string Z.root, .string Z.prev])).run Tryd.prog u = .ok (.bool true) u := fun u => by rw [run_neq_heads, decide_eq_false hzx]; rfl
        have HZX := Lib.hid hzx
        clear hzx
        go_wp2
        go_quiet (fail)
        go_wp2
        go_ret
        have hw := HU.out.1
        rw [partsFrom, if_neg (fun h => HZX.out (by rw [← HZ.out, ← HX.out]; exact h.2.symm))] at hw
        subst hw
        exact ⟨rfl, below_drew HU.out.2 _⟩
    · obtain rfl : k = m := by omega
      go_wp2
      go_ret
      have hw := HU.out.1
      rw [partsFrom_end hm3.out hkf] at hw
      subst hw
      exact ⟨rfl, HU.out.2⟩
end Go.Proofs.YtiaoolopbikfgaaDoor
/- The document's Whole and Parts. -/
namespace Go.Proofs.YtiaoolopbikfgaaDoor
open Go.RowKit

/-- A head's variable that was made ahead of a call is as it was behind it. -/
theorem newFacts {w w2 : World} {t : TypeId} (hb : Below (w.alloc (.cells #[.int .i64 0, .string ⟨#[]⟩, .string ⟨#[]⟩] t)).drew.heap.size (w.alloc (.cells #[.int .i64 0, .string ⟨#[]⟩, .string ⟨#[]⟩] t)).drew w2) :
    w2.cell? ⟨w.heap.size, 0, none⟩ = some (.int .i64 0) ∧ w2.cell? ⟨w.heap.size, 1, none⟩ = some (.string ⟨#[]⟩) ∧ w2.cell? ⟨w.heap.size, 2, none⟩ = some (.string ⟨#[]⟩) ∧ w2.frozen? ⟨w.heap.size, 0, none⟩ = false ∧ w2.frozen? ⟨w.heap.size, 1, none⟩ = false ∧ w2.frozen? ⟨w.heap.size, 2, none⟩ = false := by
  have h := (Holds.new w 3 (hdF noHd) t).drew.below hb (by show w.heap.size < (w.alloc _).heap.size; simp)
  exact ⟨h.cell 0 (by omega), h.cell 1 (by omega), h.cell 2 (by omega), h.free 0, h.free 1, h.free 2⟩
theorem newHolds {w w2 : World} {t : TypeId} (hb : Below (w.alloc (.cells #[.int .i64 0, .string ⟨#[]⟩, .string ⟨#[]⟩] t)).drew.heap.size (w.alloc (.cells #[.int .i64 0, .string ⟨#[]⟩, .string ⟨#[]⟩] t)).drew w2) (Y : Hd) :
    Holds (((w2.setCell ⟨w.heap.size, 0, none⟩ (.int .i64 Y.epoch)).setCell ⟨w.heap.size, 1, none⟩ (.string Y.root)).setCell ⟨w.heap.size, 2, none⟩ (.string Y.prev)) w.heap.size 3 (hdF Y) t ∧
      Below w.heap.size w (((w2.setCell ⟨w.heap.size, 0, none⟩ (.int .i64 Y.epoch)).setCell ⟨w.heap.size, 1, none⟩ (.string Y.root)).setCell ⟨w.heap.size, 2, none⟩ (.string Y.prev)) := by
  have h := (Holds.new w 3 (hdF noHd) t).drew.below hb (by show w.heap.size < (w.alloc _).heap.size; simp)
  refine ⟨(((h.set 0 _).set 1 _).set 2 _).congr fun i hi => ?_, (((((Below.refl _ _).alloc (Nat.le_refl _) _).drew.trans (hb.mono (by simp))).setCell (Nat.le_refl _) _).setCell (Nat.le_refl _) _).setCell (Nat.le_refl _) _⟩
  rcases (show i = 0 ∨ i = 1 ∨ i = 2 by omega) with rfl | rfl | rfl <;> simp [upd, hdF]
set_option maxHeartbeats 1000000 in
set_option maxRecDepth 100000 in
theorem refWhole_any (b : Nat) (L : List Hd) (A : Option Addr) (cap : Nat) (w : World) (hl : L.length ≤ 1000000) (hcap : L.length ≤ cap) (hr : Holds w b 72 refCells 52) (hm : Hds w A L) :
    Calls Tryd.prog 15 #[.pointer (some ⟨b, 0, none⟩), .slice A L.length cap] w fun e w' => e = .returned (.tuple #[.int .i64 ((wholeAns L).1 : Int), .bool (wholeAns L).2]) ∧ Below w.heap.size w w' := by
  have HR := Lib.hid hr
  have HM := Lib.hid hm
  clear hr hm
  obtain ⟨y, t, hy⟩ : ∃ y t, wholeAns L = (y, t) := ⟨_, _, rfl⟩
  rw [hy]
  have HY := Lib.hid hy
  clear hy
  go_enter Tryd.func15, Tryd.ntmps15
  go_wp2
  go_loopw [11] (fun i wr => ∃ k f : Nat, k + f = L.length ∧ i = .int .i64 (k : Int) ∧ Hid (wholeFrom L f k = (y, t) ∧ Below w.heap.size w wr)) (fun i _ => L.length - (intOf i).toNat)
  case atStart => exact ⟨0, L.length, by omega, rfl, Lib.hid ⟨HY.out, Below.refl _ _⟩⟩
  case round =>
    obtain ⟨k, f, hkf, rfl, HU⟩ := hrel
    by_cases hlt : k < L.length
    · obtain ⟨g, rfl⟩ : ∃ g, f = g + 1 := ⟨f - 1, by omega⟩
      obtain ⟨a, rfl, hal, c0, c1, c2⟩ := (HM.out.below HU.out.2).at_ hlt
      have d1 : wr.cell? ⟨(a.add (k * 3)).block, (a.add (k * 3)).off + 1, none⟩ = some (.string (hdAt L k).root) := c1
      have d2 : wr.cell? ⟨(a.add (k * 3)).block, (a.add (k * 3)).off + 2, none⟩ = some (.string (hdAt L k).prev) := c2
      obtain ⟨X, hX⟩ : ∃ X, hdAt L k = X := ⟨_, rfl⟩
      rw [hX] at c0 d1 d2
      have HX := Lib.hid hX
      have HC := Lib.hid (show wr.cell? (a.add (k * 3)) = some (.int .i64 X.epoch) ∧ wr.cell? ⟨(a.add (k * 3)).block, (a.add (k * 3)).off + 1, none⟩ = some (.string X.root) ∧ wr.cell? ⟨(a.add (k * 3)).block, (a.add (k * 3)).off + 2, none⟩ = some (.string X.prev) from ⟨c0, d1, d2⟩)
      have HAL := Lib.hid (show (a.add (k * 3)).block < wr.heap.size by rw [block_add]; exact hal)
      obtain ⟨Y, m, hn⟩ : ∃ Y m, nextAns (L.take k) X.root = (Y, m) := ⟨_, _, rfl⟩
      have HNX := Lib.hid hn
      clear hX c1 hn
      have HLK := Lib.hid (show linkOk L k = (decide (m = 0) && decide (Y = X)) by unfold linkOk; rw [HX.out, HNX.out])
      have hkc : (k : Int) ≤ (cap : Int) := by omega
      have HTK := Lib.hid (show (L.take k).length = k by rw [List.length_take]; omega)
      have HCALL := Lib.hid (show ∀ u : World, Below w.heap.size w u → Calls Tryd.prog 13 #[.pointer (some ⟨b, 0, none⟩), .slice (some a) k cap, .string X.root] u (fun e w' => e = .returned (.tuple #[.agg #[.int .i64 Y.epoch, .string Y.root, .string Y.prev], .int .i64 m]) ∧ Below u.heap.size u w') from fun u hu => by
        have := refNext_is b (L.take k) (some a) cap X.root Y m u (by rw [HTK.out]; omega) (HR.out.below hu HR.out.lt) ((HM.out.below hu).take k) HNX.out
        rwa [HTK.out] at this)
      have HS := Lib.hid (show ∀ u : World, Below wr.heap.size wr u → (u.cell? ⟨(a.add (k * 3)).block, (a.add (k * 3)).off + 1, none⟩ = some (.string X.root) ∧ Below wr.heap.size wr u) from
        fun u hu => ⟨(hu.cell (p := ⟨(a.add (k * 3)).block, (a.add (k * 3)).off + 1, none⟩) HAL.out).trans HC.out.2.1, hu⟩)
      go_wp2_with fail
      go_region_held3 (fun w' => w'.cell? ⟨(a.add (k * 3)).block, (a.add (k * 3)).off + 1, none⟩ = some (.string X.root) ∧ Below wr.heap.size wr w')
        (first
          | exact HS.out _ (Below.refl _ _).drew
          | exact HS.out _ ((Below.refl _ _).alloc (Nat.le_refl _) _).drew
          | exact HS.out _ ((Below.refl _ _).drew.trans (hb2.mono (Nat.le_refl _)))
          | exact HS.out _ (((Below.refl _ _).drew.trans (hb2.mono (Nat.le_refl _))).alloc hb2.size _)
          | exact HS.out _ (((Below.refl _ _).alloc (Nat.le_refl _) _).drew.trans (hb2.mono (by simp)))
          | exact HS.out _ ((((((Below.refl _ _).alloc (Nat.le_refl _) _).drew.trans (hb2.mono (by simp))).setCell (Nat.le_refl _) _).setCell (Nat.le_refl _) _).setCell (Nat.le_refl _) _))
        (first | (go_at_call 13; refine (HCALL.out _ (HU.out.2.trans (Below.mono (And.right (by assumption)) HU.out.2.size))).mono ?_; rintro e w2 ⟨rfl, hb2⟩; try (have hnew := newFacts hb2; obtain ⟨q0, q1, q2, f0, f1, f2⟩ := hnew)))
      all_goals
        first
          | (have HXB := Lib.hid (newHolds hb2 Y).1
             have HBW := Lib.hid (newHolds hb2 Y).2
             generalize (((w2.setCell ⟨wr.heap.size, 0, none⟩ (.int .i64 Y.epoch)).setCell ⟨wr.heap.size, 1, none⟩ (.string Y.root)).setCell ⟨wr.heap.size, 2, none⟩ (.string Y.prev)) = W at HXB HBW ⊢
             have x0 : W.cell? ⟨wr.heap.size, 0, none⟩ = some (.int .i64 Y.epoch) := HXB.out.cell 0 (by omega)
             have x1 : W.cell? ⟨wr.heap.size, 1, none⟩ = some (.string Y.root) := HXB.out.cell 1 (by omega)
             have x2 : W.cell? ⟨wr.heap.size, 2, none⟩ = some (.string Y.prev) := HXB.out.cell 2 (by omega)
             clear q0 q1 q2 f0 f1 f2)
          | (have HXB := Lib.hid (show Holds (w2.alloc (.cells #[.int .i64 Y.epoch, .string Y.root, .string Y.prev] 31)) w2.heap.size 3 (hdF Y) 31 from Holds.new w2 3 (hdF Y) 31)
             have HBW := Lib.hid (show Below wr.heap.size wr (w2.alloc (.cells #[.int .i64 Y.epoch, .string Y.root, .string Y.prev] 31)) from ((Below.refl _ _).drew.trans (hb2.mono (Nat.le_refl _))).alloc hb2.size _)
             generalize (w2.alloc (.cells #[.int .i64 Y.epoch, .string Y.root, .string Y.prev] 31)) = W at HXB HBW ⊢
             have x0 : W.cell? ⟨w2.heap.size, 0, none⟩ = some (.int .i64 Y.epoch) := HXB.out.cell 0 (by omega)
             have x1 : W.cell? ⟨w2.heap.size, 1, none⟩ = some (.string Y.root) := HXB.out.cell 1 (by omega)
             have x2 : W.cell? ⟨w2.heap.size, 2, none⟩ = some (.string Y.prev) := HXB.out.cell 2 (by omega))
        rename_i hheld
        have l0 := (HBW.out.cell (p := a.add (k * 3)) HAL.out).trans HC.out.1
        have l1 := (HBW.out.cell (p := ⟨(a.add (k * 3)).block, (a.add (k * 3)).off + 1, none⟩) HAL.out).trans HC.out.2.1
        have l2 := (HBW.out.cell (p := ⟨(a.add (k * 3)).block, (a.add (k * 3)).off + 2, none⟩) HAL.out).trans HC.out.2.2
        have HBW' := Lib.hid (HU.out.2.trans (HBW.out.mono HU.out.2.size))
        clear hheld hb2 c0 d1 d2
        by_cases hm0 : m = 0
        · subst hm0
          by_cases hyx : Y = X
          · subst hyx
            go_wp2
            go_quiet (fail)
            go_wp2
            go_roundw
            case rel =>
              refine ⟨k + 1, g, by omega, by go_num, Lib.hid ⟨?_, below_drew HBW'.out _⟩⟩
              have hw := HU.out.1
              rw [wholeFrom, HLK.out, if_pos (by simp)] at hw
              exact hw
            case measure => simp [intOf]; omega
          · have hne : ∀ u : World, (binOp .neq 31 (.agg #[.int .i64 Y.epoch, .string Y.root, .string Y.prev]) (.agg #[.int .i64 X.epoch, .string X.root, .string X.prev])).run Tryd.prog u = .ok (.bool true) u := fun u => by rw [run_neq_heads, decide_eq_false hyx]; rfl
            go_wp2
            go_quiet (fail)
            go_wp2
            refine bodyPost_ret (results_tmp2 rfl _ _ _) rfl ?_
            have hw := HU.out.1
            rw [wholeFrom, HLK.out, if_neg (by simp [hyx])] at hw
            obtain ⟨rfl, rfl⟩ := Prod.mk.inj hw
            exact ⟨rfl, below_drew HBW'.out _⟩
        · have e1 : (m == 0) = false := by rw [beq_eq_false_iff_ne]; exact hm0
          have e2 : (m != 0) = true := by simpa using hm0
          go_wp2
          go_quiet (fail)
          go_wp2
          refine bodyPost_ret (results_tmp2 rfl _ _ _) rfl ?_
          have hw := HU.out.1
          rw [wholeFrom, HLK.out, if_neg (by simp [hm0])] at hw
          obtain ⟨rfl, rfl⟩ := Prod.mk.inj hw
          exact ⟨rfl, below_drew HBW'.out _⟩
    · obtain rfl : f = 0 := by omega
      go_wp2
      refine bodyPost_ret (results_tmp2 rfl _ _ _) rfl ?_
      have hw := HU.out.1
      unfold wholeFrom at hw
      obtain ⟨rfl, rfl⟩ := Prod.mk.inj hw
      exact ⟨rfl, HU.out.2⟩
end Go.Proofs.YtiaoolopbikfgaaDoor
/- Regions that only read and call what makes memory. No program is imported. -/
namespace Go.Proofs.YtiaoolopbikfgaaDoor
open Go.RowKit

/-- A region that only reads and calls what makes memory: one walk, in the text's order, over the worlds later than its own. -/
theorem wp_region_later {P : Program} {id : Nat} {Q : Exit → Act → World → Prop} {a : Act} {w : World} {l : List Oper} (hm : P.follows .mixedOrders = true) (hB : Region.lexB .any l.toArray = true)
    (h : wpQuiet P l.toArray (fun w' => ∃ z : Later w.heap.size w, w' = z.at') (fun a' => ∀ w', (∃ z : Later w.heap.size w, w' = z.at') → Q .normal a' w') l a) : (Code.region id l.toArray true).wp P Q a w :=
  wp_region_quiet (C := fun w' => ∃ z : Later w.heap.size w, w' = z.at') hm hB ⟨⟨w.drew, (Below.refl _ _).drew⟩, rfl⟩ (by simpa using h)

end Go.Proofs.YtiaoolopbikfgaaDoor
