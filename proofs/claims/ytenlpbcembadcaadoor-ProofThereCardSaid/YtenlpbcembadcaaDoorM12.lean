/- Parts of the proof, one behind the other: KTab, New, HeldK, LaterR, There1, Node, PNode. -/
import Derived.Test.YtenlpbcembadcaaDoorM11
import Derived.Test.YtenlpbcembadcaaDoorM6
import Derived.Test.YtenlpbcembadcaaDoorM7
import Derived.Test.YtenlpbcembadcaaDoorM10
import Derived.BigQuiet
import Derived.Test.YtenlpbcembadcaaDoorM9
/- The numbers of rounds, reckoned from roots of primes, are the tables'. -/
namespace Go.Proofs.YtenlpbcembadcaaDoor
open Go.RowKit

theorem k_all : (List.range 64).all (fun i => rootL ((pl 310).getD i 0) 3 == kTab.getD i 0) = true := by decide +kernel
theorem h_all : (List.range 8).all (fun i => rootL ((pl 310).getD i 0) 2 == (iv i).toNat) = true := by decide +kernel
theorem k_root (i : Nat) (h : i < 64) : rootL ((pl 310).getD i 0) 3 = kTab.getD i 0 := by
  have := List.all_eq_true.1 k_all i (List.mem_range.2 h); simpa using this
theorem h_root (i : Nat) (h : i < 8) : rootL ((pl 310).getD i 0) 2 = (iv i).toNat := by
  have := List.all_eq_true.1 h_all i (List.mem_range.2 h); simpa using this

theorem k_val (i : Nat) (h : i < 64) : ((rootL ((pl 310).getD i 0) 3 : Nat) : Int) = W32 (kOf i) := by
  have h1 := k_root i h
  have h2 : rootL ((pl 310).getD i 0) 3 < 4294967296 := Nat.mod_lt _ (by decide)
  rw [h1] at h2 ⊢
  unfold W32 kOf
  rw [BitVec.toNat_ofNat, Nat.mod_eq_of_lt (by omega)]
theorem h_val (i : Nat) (h : i < 8) : ((rootL ((pl 310).getD i 0) 2 : Nat) : Int) = W32 (iv i) := by
  have h1 := h_root i h
  rw [h1]; rfl

end Go.Proofs.YtenlpbcembadcaaDoor
/- The document's numbers of rounds: New. -/
namespace Go.Proofs.YtenlpbcembadcaaDoor
open Go.RowKit

def partR (i j : Nat) : Value := if j < 8 then (if j < i then .int .u32 (W32 (iv j)) else .int .u32 0) else if j - 8 < i then .int .u32 (W32 (kOf (j - 8))) else .int .u32 0
theorem zeroR (w : World) : (zeroValue 63).run Tryd.prog w = .ok (.agg (arr 72 fun _ => .int .u32 0)) w := by kernel_rfl
structure NewRel (N : Nat) (w wr : World) (v : Value) (i : Nat) : Prop where
  below : Below N w wr
  own : Holds wr N 72 (partR i) 63
  row : Row wr (N + 1) 1 v 64 (i64s (pl 310))

set_option maxRecDepth 100000 in
theorem new_any (w : World) :
    Calls Tryd.prog 7 #[] w fun e w' => ∃ b, e = .returned (.pointer (some ⟨b, 0, none⟩)) ∧ w.heap.size ≤ b ∧ Below w.heap.size w w' ∧ Holds w' b 72 refCells 63 := by
  go_enter Tryd.func7, Tryd.ntmps7
  have hzR := zeroR
  go_wp2_with (go_at_call 25; refine (primes_any _).mono ?_; rintro e w1 ⟨v1, rfl, hb1, hr1⟩; obtain ⟨q, cap, rfl⟩ := hr1.any; have HB1 := Lib.hid hb1; have HR1 := Lib.hid hr1; clear hb1 hr1)
  clear hzR
  go_loopw [8] (fun i wr => ∃ n : Nat, n ≤ 64 ∧ i = .int .i64 (n : Int) ∧ NewRel w.heap.size w wr (.slice q 64 cap) n) (fun i _ => 64 - (intOf i).toNat)
  case atStart =>
    refine ⟨0, by omega, rfl, ?_, ?_, ?_⟩
    · exact ((Below.refl _ _).alloc (Nat.le_refl _) _).trans (HB1.out.mono (by simp))
    · refine ((Holds.new w 72 (fun _ => .int .u32 0) 63).below HB1.out (by simp)).congr fun j hj => ?_
      unfold partR; split <;> rw [if_neg (by omega)]
    · have h := HR1.out; simpa using h
  case round =>
    obtain ⟨n, hn, rfl, hr⟩ := hrel
    have HR := Lib.hid hr
    clear hr
    by_cases hlt : n < 64
    · obtain ⟨g, cap', hv, hg1, hg2, _, hcell, _⟩ := HR.out.row.shape (by omega)
      injection hv with e1 e2 e3
      subst e1
      have hc := hcell n _ (i64s_get (pl 310) n (by rw [pl_310]; exact hlt))
      have hp := pl_pos 310 n (by rw [pl_310]; exact hlt)
      have hkv := k_val n hlt
      have hlow := h_val n
      clear hcell e3
      generalize (pl 310).getD n 0 = p at hc hp hkv hlow
      have HK := Lib.hid hkv
      have HL := Lib.hid hlow
      have hN : w.heap.size < wr.heap.size := HR.out.own.lt
      clear hkv hlow
      by_cases h8 : n < 8
      · go_wp2
        refine wp_region_head_tail (fun w' => ∃ z : Later wr.heap.size wr, w' = z.at') 8 (by kernel_rfl) (by kernel_rfl) ⟨⟨wr.drew, (Below.refl _ _).drew⟩, rfl⟩ ?_
        simp only [List.take_succ_cons, List.take_zero, List.drop_succ_cons, List.drop_zero]
        repeat (first | go_big_quiet_step ((go_at_call 26; refine later_of (root_any p 3 _ (by decide)))) | quiet_step ((go_at_call 26; refine later_of (root_any p 3 _ (by decide)))))
        refine wpQuiet_nil ?_
        rintro w4 ⟨⟨w4, hb4⟩, rfl⟩
        have hown4 := HR.out.own.below hb4 hN
        have hcell4 := hown4.cell (8 + n) (by omega)
        have hfree4 := hown4.free (8 + n)
        rw [show partR n (8 + n) = .int .u32 0 by unfold partR; rw [if_neg (by omega), if_neg (by omega)]] at hcell4
        have HOWN4 := Lib.hid hown4
        have HB4 := Lib.hid hb4
        clear hown4 hb4
        go_wp2
        have hN5 : w.heap.size < (w4.setCell ⟨w.heap.size, 8 + n, none⟩ (.int .u32 ((rootL p 3 : Nat) : Int))).heap.size := by have := HB4.out.size; simp [World.setCell]; omega
        have hown5 := HOWN4.out.set (8 + n) (.int .u32 ((rootL p 3 : Nat) : Int))
        have hb5 : Below w.heap.size w (w4.setCell ⟨w.heap.size, 8 + n, none⟩ (.int .u32 ((rootL p 3 : Nat) : Int))) := (HR.out.below.trans (HB4.out.mono (Nat.le_of_lt hN))).setCell (Nat.le_refl _) _
        have hrow5 : Row (w4.setCell ⟨w.heap.size, 8 + n, none⟩ (.int .u32 ((rootL p 3 : Nat) : Int))) (w.heap.size + 1) 1 (.slice (some ⟨g, 0, none⟩) 64 cap) 64 (i64s (pl 310)) := (HR.out.row.belowAll HB4.out).setOther (HR.out.row.fresh (Nat.lt_succ_self _)) _
        have HOWN5 := Lib.hid hown5
        have HB5 := Lib.hid hb5
        have HROW5 := Lib.hid hrow5
        clear hown5 hb5 hrow5 hcell4 hfree4
        generalize hw5 : w4.setCell ⟨w.heap.size, 8 + n, none⟩ (.int .u32 ((rootL p 3 : Nat) : Int)) = w5 at HOWN5 HB5 HROW5 hN5
        clear hw5
        refine wp_region_head_tail (fun w' => ∃ z : Later w5.heap.size w5, w' = z.at') 8 (by kernel_rfl) (by kernel_rfl) ⟨⟨w5.drew, (Below.refl _ _).drew⟩, rfl⟩ ?_
        simp only [List.take_succ_cons, List.take_zero, List.drop_succ_cons, List.drop_zero]
        repeat (first | go_big_quiet_step ((go_at_call 26; refine later_of (root_any p 2 _ (by decide)))) | quiet_step ((go_at_call 26; refine later_of (root_any p 2 _ (by decide)))))
        refine wpQuiet_nil ?_
        rintro w6 ⟨⟨w6, hb6⟩, rfl⟩
        have hown6 := HOWN5.out.below hb6 hN5
        have hcell6 := hown6.cell n (by omega)
        have hfree6 := hown6.free n
        rw [show upd (partR n) (8 + n) (.int .u32 ((rootL p 3 : Nat) : Int)) n = .int .u32 0 by unfold upd partR; rw [if_neg (by omega), if_pos (by omega), if_neg (by omega)]] at hcell6
        have HOWN6 := Lib.hid hown6
        have HB6 := Lib.hid hb6
        clear hown6 hb6
        go_wp2
        go_roundw
        case rel =>
          refine ⟨n + 1, by omega, by go_num, ?_, ?_, ?_⟩
          · exact (HB5.out.trans (HB6.out.mono (Nat.le_of_lt hN5))).setCell (Nat.le_refl _) _
          · refine (HOWN6.out.set n _).congr fun j hj => ?_
            rw [HK.out, HL.out h8]
            unfold upd partR
            by_cases hj8 : j < 8
            · rw [if_pos hj8, if_pos hj8]
              by_cases hjn : j = n
              · subst hjn; rw [if_pos rfl, if_pos (by omega)]
              · rw [if_neg hjn, if_neg (by omega)]
                by_cases hjl : j < n
                · rw [if_pos hjl, if_pos (by omega)]
                · rw [if_neg hjl, if_neg (by omega)]
            · rw [if_neg (by omega), if_neg hj8, if_neg hj8]
              by_cases hjn : j = 8 + n
              · subst hjn; rw [if_pos rfl, if_pos (by omega), show 8 + n - 8 = n by omega]
              · rw [if_neg hjn]
                by_cases hjl : j - 8 < n
                · rw [if_pos hjl, if_pos (by omega)]
                · rw [if_neg hjl, if_neg (by omega)]
          · exact (HROW5.out.belowAll HB6.out).setOther (HROW5.out.fresh (Nat.lt_succ_self _)) _
        case measure => simp [intOf]; omega
      · go_wp2
        refine wp_region_head_tail (fun w' => ∃ z : Later wr.heap.size wr, w' = z.at') 8 (by kernel_rfl) (by kernel_rfl) ⟨⟨wr.drew, (Below.refl _ _).drew⟩, rfl⟩ ?_
        simp only [List.take_succ_cons, List.take_zero, List.drop_succ_cons, List.drop_zero]
        repeat (first | go_big_quiet_step ((go_at_call 26; refine later_of (root_any p 3 _ (by decide)))) | quiet_step ((go_at_call 26; refine later_of (root_any p 3 _ (by decide)))))
        refine wpQuiet_nil ?_
        rintro w4 ⟨⟨w4, hb4⟩, rfl⟩
        have hown4 := HR.out.own.below hb4 hN
        have hcell4 := hown4.cell (8 + n) (by omega)
        have hfree4 := hown4.free (8 + n)
        rw [show partR n (8 + n) = .int .u32 0 by unfold partR; rw [if_neg (by omega), if_neg (by omega)]] at hcell4
        have HOWN4 := Lib.hid hown4
        have HB4 := Lib.hid hb4
        clear hown4 hb4
        go_wp2
        go_roundw
        case rel =>
          refine ⟨n + 1, by omega, by go_num, ?_, ?_, ?_⟩
          · exact (HR.out.below.trans (HB4.out.mono (Nat.le_of_lt hN))).setCell (Nat.le_refl _) _
          · refine (HOWN4.out.set (8 + n) _).congr fun j hj => ?_
            rw [HK.out]
            unfold upd partR
            by_cases hj8 : j < 8
            · rw [if_neg (by omega), if_pos hj8, if_pos hj8, if_pos (by omega), if_pos (by omega)]
            · rw [if_neg hj8, if_neg hj8]
              by_cases hjn : j = 8 + n
              · subst hjn; rw [if_pos rfl, if_pos (by omega), show 8 + n - 8 = n by omega]
              · rw [if_neg hjn]
                by_cases hjl : j - 8 < n
                · rw [if_pos hjl, if_pos (by omega)]
                · rw [if_neg hjl, if_neg (by omega)]
          · exact (HR.out.row.belowAll HB4.out).setOther (HR.out.row.fresh (Nat.lt_succ_self _)) _
        case measure => simp [intOf]; omega
    · have h64 : n = 64 := by omega
      have H64 := Lib.hid h64
      clear h64
      go_wp2
      go_ret
      refine ⟨w.heap.size, rfl, Nat.le_refl _, HR.out.below, HR.out.own.congr fun j hj => ?_⟩
      have := H64.out
      unfold partR refCells
      by_cases hj8 : j < 8
      · rw [if_pos hj8, if_pos hj8, if_pos (by omega)]
      · rw [if_neg hj8, if_neg hj8, if_pos (by omega)]
end Go.Proofs.YtenlpbcembadcaaDoor
/- The keeps' held: items few and short enough. -/
namespace Go.Proofs.YtenlpbcembadcaaDoor
open Go.RowKit

def longItem (x : It) : Bool := decide (40 < x.1.size) || decide (40 < x.2.size)
set_option maxRecDepth 100000 in
theorem held1_any (x : It) (w : World) :
    Calls Tryd.prog 45 #[.agg #[.string x.1, .string x.2]] w fun e w' => e = .returned (.bool (longItem x)) ∧ Below w.heap.size w w' := by
  have HB := Lib.hid (alloc_below w (.cells #[.string x.1, .string x.2] 24))
  go_enter Tryd.func45, Tryd.ntmps45
  by_cases h : 40 < x.1.size
  · go_wp2
    go_ret
    exact ⟨by unfold longItem; simp [h], HB.out⟩
  · by_cases h2 : 40 < x.2.size
    · go_wp2
      go_ret
      exact ⟨by unfold longItem; simp [h2]; omega, HB.out⟩
    · go_wp2
      go_ret
      exact ⟨by unfold longItem; simp [h, h2]; omega, HB.out⟩
set_option maxRecDepth 100000 in
theorem heldIx_any (L : List It) (A : Option Addr) (cap : Nat) (w : World) (hm : Itms w A L) (hl : L.length ≤ 1000000) :
    Calls Tryd.prog 22 #[.slice A L.length cap, .func (.func 45) #[] #[]] w fun e w' => Below w.heap.size w w' ∧ ∃ n : Int, e = .returned (.int .i64 n) ∧ (0 ≤ n ∨ n = -1 ∧ L.all (fun x => !longItem x) = true) := by
  have HM := Lib.hid hm
  clear hm
  go_enter Tryd.func22, Tryd.ntmps22
  go_wp2
  go_loopw [8] (fun i wr => ∃ k : Nat, k ≤ L.length ∧ i = .int .i64 (k : Int) ∧ Below w.heap.size w wr ∧ (L.take k).all (fun x => !longItem x) = true) (fun i _ => L.length - (intOf i).toNat)
  case atStart => exact ⟨0, by omega, rfl, Below.refl _ _, rfl⟩
  case round =>
    obtain ⟨k, hk, rfl, hb, hall⟩ := hrel
    have HB := Lib.hid hb
    have HALL := Lib.hid hall
    clear hb hall
    by_cases hlt : k < L.length
    · have hmk := Itms.below HM.out HB.out
      obtain ⟨a, rfl, hal, c0, c1⟩ := hmk.at_ hlt
      have d2 : wr.cell? ⟨(a.add (k * 2)).block, (a.add (k * 2)).off + 1, none⟩ = some (.string (itAt L k).2) := c1
      have HX := Lib.hid (show L[k]? = some (itAt L k) by rw [List.getElem?_eq_getElem hlt, itAt_get (List.getElem?_eq_getElem hlt)])
      clear hmk
      generalize itAt L k = x at c0 c1 d2 HX
      go_wp2_with fail
      refine (held1_any x _).mono ?_
      rintro e w1 ⟨rfl, hb1⟩
      have HB1 := Lib.hid (HB.out.trans (hb1.mono HB.out.size))
      clear hb1 c0 c1 d2
      generalize hq : longItem x = q
      have HQ := Lib.hid hq
      clear hq
      cases q with
      | true =>
        go_wp2
        go_ret
        exact ⟨HB1.out, k, rfl, .inl (by omega)⟩
      | false =>
        go_wp2
        go_roundw
        case rel =>
          refine ⟨k + 1, by omega, by go_num, HB1.out, ?_⟩
          rw [List.take_add_one, HX.out, List.all_append, HALL.out]
          simp [HQ.out]
        case measure => simp [intOf]; omega
    · go_wp2
      go_ret
      have he : L.take k = L := List.take_of_length_le (by omega)
      exact ⟨HB.out, -1, rfl, .inr ⟨rfl, by have := HALL.out; rw [he] at this; exact this⟩⟩
theorem heldHas_any (L : List It) (A : Option Addr) (cap : Nat) (w : World) (hm : Itms w A L) (hl : L.length ≤ 1000000) :
    Calls Tryd.prog 44 #[.slice A L.length cap, .func (.func 45) #[] #[]] w fun e w' => Below w.heap.size w w' ∧ ∃ b, e = .returned (.bool b) ∧ (b = false → L.all (fun x => !longItem x) = true) := by
  have HM := Lib.hid hm
  clear hm
  go_enter Tryd.func44, Tryd.ntmps44
  go_wp2_with fail
  refine (heldIx_any L A cap _ HM.out hl).mono ?_
  rintro e w1 ⟨hb, n, rfl, hn⟩
  have HB := Lib.hid hb
  clear hb
  rcases hn with hn | ⟨rfl, hn⟩
  · go_wp2
    go_ret
    exact ⟨HB.out, true, rfl, fun h => by cases h⟩
  · have HN := Lib.hid hn
    clear hn
    go_wp2
    go_ret
    exact ⟨HB.out, false, rfl, fun _ => HN.out⟩
/-- Held: few items, and short ones. -/
theorem held_any (L : List It) (A : Option Addr) (cap : Nat) (w : World) (hm : Itms w A L) :
    Calls Tryd.prog 17 #[.slice A L.length cap] w fun e w' => Below w.heap.size w w' ∧ ∃ b, e = .returned (.bool b) ∧ (b = true → L.length ≤ 40 ∧ L.all (fun x => !longItem x) = true) := by
  have HM := Lib.hid hm
  clear hm
  by_cases hl : L.length ≤ 40
  · go_enter Tryd.func17, Tryd.ntmps17
    go_wp2_with fail
    refine (heldHas_any L A cap _ HM.out (by omega)).mono ?_
    rintro e w1 ⟨hb, b, rfl, hn⟩
    have HB := Lib.hid hb
    have HN := Lib.hid hn
    clear hb hn
    cases b with
    | true =>
      go_wp2
      go_ret
      exact ⟨HB.out, false, rfl, fun h => by cases h⟩
    | false =>
      have HN2 := Lib.hid (HN.out rfl)
      clear HN
      go_wp2
      go_ret
      exact ⟨HB.out, true, rfl, fun _ => ⟨hl, HN2.out⟩⟩
  · go_enter Tryd.func17, Tryd.ntmps17
    go_wp2
    go_ret
    exact ⟨Below.refl _ _, rfl⟩
end Go.Proofs.YtenlpbcembadcaaDoor
/- Regions that only read and call what makes memory. No program is imported. -/
namespace Go.Proofs.YtenlpbcembadcaaDoor
open Go.RowKit

/-- A region that only reads and calls what makes memory: one walk, in the text's order, over the worlds later than its own. -/
theorem wp_region_later {P : Program} {id : Nat} {Q : Exit → Act → World → Prop} {a : Act} {w : World} {l : List Oper} (hm : P.follows .mixedOrders = true) (hB : Region.lexB .any l.toArray = true)
    (h : wpQuiet P l.toArray (fun w' => ∃ z : Later w.heap.size w, w' = z.at') (fun a' => ∀ w', (∃ z : Later w.heap.size w, w' = z.at') → Q .normal a' w') l a) : (Code.region id l.toArray true).wp P Q a w :=
  wp_region_quiet (C := fun w' => ∃ z : Later w.heap.size w, w' = z.at') hm hB ⟨⟨w.drew, (Below.refl _ _).drew⟩, rfl⟩ (by simpa using h)

end Go.Proofs.YtenlpbcembadcaaDoor
/- ProofThere's question, whether an item is the one asked for. -/
namespace Go.Proofs.YtenlpbcembadcaaDoor
open Go.RowKit

theorem sameB (a b : ByteArray) : (a.toList == b.toList) = decide (a = b) := by
  by_cases h : a = b
  · subst h; simp
  · rw [decide_eq_false h, beq_eq_false_iff_ne]
    intro e
    rw [ByteArray.toList_eq, ByteArray.toList_eq] at e
    exact h (text_of e)
def textAt (S : List ByteArray) (i : Nat) : ByteArray := S.getD i ⟨#[]⟩
theorem textAt_of {S : List ByteArray} {i : Nat} (h : i < S.length) : S[i]? = some (textAt S i) := by
  unfold textAt
  rw [List.getD_eq_getElem?_getD, List.getElem?_eq_getElem h]; rfl
set_option maxRecDepth 100000 in
theorem there1_any (S : List ByteArray) (A : Option Addr) (cap i pb ib : Nat) (x : It) (w : World) (hi : i < S.length) (_hl : S.length ≤ 1000000) (hm : Strs w A S)
    (hp : w.cell? ⟨pb, 0, none⟩ = some (.slice A S.length cap)) (hq : w.cell? ⟨ib, 0, none⟩ = some (.int .i64 (i : Int))) :
    Calls Tryd.prog 23 #[.agg #[.string x.1, .string x.2], .pointer (some ⟨pb, 0, none⟩), .pointer (some ⟨ib, 0, none⟩)] w fun e w' => e = .returned (.bool (decide (x.1 = textAt S i))) ∧ Below w.heap.size w w' := by
  have HB0 := Lib.hid (alloc_below w (.cells #[.string x.1, .string x.2] 24))
  have hm0 := hm.below HB0.out
  have hp0 := (HB0.out.cell (block_lt_of_cell hp)).trans hp
  have hi0 := (HB0.out.cell (block_lt_of_cell hq)).trans hq
  have hc0 : (w.alloc (.cells #[.string x.1, .string x.2] 24)).cell? ⟨w.heap.size, 0, none⟩ = some (.string x.1) := cell_of_row _ w.heap.size 0 _ 24 (0, 0) (heap_alloc_new _ _)
  obtain ⟨a, rfl, _, c0⟩ := hm0 i _ (textAt_of hi)
  have hii : (i : Int) < (S.length : Int) := by omega
  clear hm hp hq hm0
  generalize textAt S i = q at c0
  go_enter Tryd.func23, Tryd.ntmps23
  have HP := Lib.hid hp0
  have HI := Lib.hid hi0
  have HC0 := Lib.hid hc0
  have HQ := Lib.hid c0
  clear hp0 hi0 hc0 c0
  go_wp2_with fail
  generalize w.alloc (.cells #[.string x.1, .string x.2] 24) = w0 at HB0 HP HI HC0 HQ
  have hp0 := HP.out
  have hi0 := HI.out
  have hc0 := HC0.out
  have c0 := HQ.out
  clear HP HI HC0 HQ
  by_cases h1 : x.1 = q
  · have e1 : (x.1.toList == q.toList) = true := by rw [sameB, decide_eq_true h1]
    have HE := Lib.hid h1
    clear h1
    go_quiet (fail)
    go_wp2
    go_ret
    exact ⟨by rw [decide_eq_true HE.out]; rfl, below_drew HB0.out nq⟩
  · have e1 : (x.1.toList == q.toList) = false := by rw [sameB, decide_eq_false h1]
    have HE := Lib.hid h1
    clear h1
    go_quiet (fail)
    go_wp2
    go_ret
    exact ⟨by rw [decide_eq_false HE.out]; rfl, below_drew HB0.out nq⟩
/-- Where the first item of a mark lies, or that there is none. -/
def FoundAt (M : List It) (q : ByteArray) (n : Int) : Prop := (∃ k : Nat, n = (k : Int) ∧ k < M.length ∧ (itAt M k).1 = q) ∨ (n = -1 ∧ ∀ y ∈ M, y.1 ≠ q)
set_option maxRecDepth 100000 in
theorem thereIx_any (S : List ByteArray) (M : List It) (A B : Option Addr) (cap c i pb ib : Nat) (w : World) (hi : i < S.length) (hl : S.length ≤ 1000000) (hlm : M.length ≤ 1000000) (hm : Strs w A S) (hn : Itms w B M)
    (hp : w.cell? ⟨pb, 0, none⟩ = some (.slice A S.length cap)) (hq : w.cell? ⟨ib, 0, none⟩ = some (.int .i64 (i : Int))) :
    Calls Tryd.prog 22 #[.slice B M.length c, .func (.func 23) #[] #[.pointer (some ⟨pb, 0, none⟩), .pointer (some ⟨ib, 0, none⟩)]] w fun e w' => Below w.heap.size w w' ∧ ∃ n : Int, e = .returned (.int .i64 n) ∧ FoundAt M (textAt S i) n := by
  have HM := Lib.hid hm
  have HN := Lib.hid hn
  have HP := Lib.hid hp
  have HI := Lib.hid hq
  clear hm hn hp hq
  go_enter Tryd.func22, Tryd.ntmps22
  go_wp2
  go_loopw [8] (fun t wr => ∃ j : Nat, j ≤ M.length ∧ t = .int .i64 (j : Int) ∧ Below w.heap.size w wr ∧ ∀ y ∈ M.take j, y.1 ≠ textAt S i) (fun t _ => M.length - (intOf t).toNat)
  case atStart => exact ⟨0, by omega, rfl, Below.refl _ _, fun y hy => by simp at hy⟩
  case round =>
    obtain ⟨j, hj, rfl, hb, hall⟩ := hrel
    have HB := Lib.hid hb
    have HALL := Lib.hid hall
    clear hb hall
    by_cases hlt : j < M.length
    · have hmk := Itms.below HN.out HB.out
      obtain ⟨a, rfl, hal, c0, c1⟩ := hmk.at_ hlt
      have d2 : wr.cell? ⟨(a.add (j * 2)).block, (a.add (j * 2)).off + 1, none⟩ = some (.string (itAt M j).2) := c1
      have HX := Lib.hid (show M[j]? = some (itAt M j) by rw [List.getElem?_eq_getElem hlt, itAt_get (List.getElem?_eq_getElem hlt)])
      clear hmk
      have HXJ := Lib.hid (show itAt M j = itAt M j from rfl)
      generalize hx : itAt M j = x at c0 c1 d2 HX
      have HXX := Lib.hid hx
      clear hx HXJ
      go_wp2_with fail
      refine (there1_any S A cap i pb ib x _ hi hl (HM.out.below HB.out) ((HB.out.cell (block_lt_of_cell HP.out)).trans HP.out) ((HB.out.cell (block_lt_of_cell HI.out)).trans HI.out)).mono ?_
      rintro e w1 ⟨rfl, hb1⟩
      have HB1 := Lib.hid (HB.out.trans (hb1.mono HB.out.size))
      clear hb1 c0 c1 d2
      by_cases he : x.1 = textAt S i
      · rw [decide_eq_true he]
        have HE := Lib.hid he
        clear he
        go_wp2
        go_ret
        exact ⟨HB1.out, j, rfl, .inl ⟨j, rfl, hlt, by rw [HXX.out]; exact HE.out⟩⟩
      · rw [decide_eq_false he]
        have HE := Lib.hid he
        clear he
        go_wp2
        go_roundw
        case rel =>
          refine ⟨j + 1, by omega, by go_num, HB1.out, fun y hy => ?_⟩
          rw [List.take_add_one, HX.out] at hy
          rcases List.mem_append.1 hy with h | h
          · exact HALL.out y h
          · simp at h
            subst h
            exact HE.out
        case measure => simp [intOf]; omega
    · go_wp2
      go_ret
      have he : M.take j = M := List.take_of_length_le (by omega)
      exact ⟨HB.out, -1, rfl, .inr ⟨rfl, by have := HALL.out; rw [he] at this; exact this⟩⟩
end Go.Proofs.YtenlpbcembadcaaDoor
/- The document's NODE and Root. -/
namespace Go.Proofs.YtenlpbcembadcaaDoor
open Go.RowKit

theorem nodeOf_nil (f : Nat) (L : List It) (d : Nat) (h : L.length = 0) : nodeOf f L d = emptyM d := by
  obtain rfl := List.eq_nil_of_length_eq_zero h
  cases f <;> simp [nodeOf]
theorem nodeOf_one (f : Nat) (L : List It) (d : Nat) (h : L.length = 1) : nodeOf f L d = leafM (itAt L 0) d := by
  match L, h with
  | [x], _ => cases f <;> simp [nodeOf, itAt]
theorem nodeOf_two (f : Nat) (L : List It) (d : Nat) (h : 2 ≤ L.length) : nodeOf (f + 1) L d = joinM (nodeOf f (half L d 0) (d + 1)) (nodeOf f (half L d 1) (d + 1)) := by
  rw [nodeOf, if_neg (by omega), if_neg (by omega)]
theorem nodeOf_size : ∀ (f : Nat) (L : List It) (d : Nat), (nodeOf f L d).size = 16 := by
  intro f L d
  rcases (show L.length = 0 ∨ L.length = 1 ∨ 2 ≤ L.length by omega) with h | h | h
  · rw [nodeOf_nil f L d h]; unfold emptyM; exact markOf_len _ _
  · rw [nodeOf_one f L d h]; unfold leafM; exact markOf_len _ _
  · cases f with
    | zero =>
      match L, h with
      | x :: _, _ => exact markOf_len _ _
    | succ f => rw [nodeOf_two f L d h]; exact markOf_len _ _
/-- The root of what is right. -/
def rootOf (L : List It) : ByteArray := nodeOf 128 L 0
def rootAns (L : List It) : ByteArray × Int := if rightItems L = true then (rootOf L, 0) else (⟨#[]⟩, 1)
theorem right_cm {L : List It} (h : rightItems L = true) : ∀ x ∈ L, x.2.size ≤ 1000000 := fun x hx => by have := (right_sizes h x hx).2; omega
end Go.Proofs.YtenlpbcembadcaaDoor
/- The program's NODE and Root. -/
namespace Go.Proofs.YtenlpbcembadcaaDoor
open Go.RowKit

set_option maxRecDepth 100000 in
theorem tNode_few (f d : Nat) (L : List It) (A : Option Addr) (cap : Nat) (w : World) (h2 : L.length < 2) (hap : Apart L d) (hcm : ∀ x ∈ L, x.2.size ≤ 1000000) (hk : HasK w) (hm : Itms w A L) :
    Calls Tryd.prog 49 #[.slice A L.length cap, .int .i64 (d : Int)] w fun e w' => e = .returned (.string (nodeOf f L d)) ∧ Below w.heap.size w w' := by
  have HK := Lib.hid hk
  have HM := Lib.hid hm
  have HAP := Lib.hid hap
  have HCM := Lib.hid hcm
  clear hk hm hap hcm
  rcases (show L.length = 0 ∨ L.length = 1 by omega) with h | h
  · have HT := Lib.hid (nodeOf_nil f L d h)
    have h0 : ((L.length : Int) == 0) = true := by rw [beq_iff_eq]; omega
    clear h h2
    go_enter Tryd.func49, Tryd.ntmps49
    go_wp2_with fail
    refine (tEmpty_any d _ HK.out).mono ?_
    rintro e w1 ⟨rfl, hb1⟩
    have HB1 := Lib.hid hb1
    clear hb1 h0
    go_wp2
    go_ret
    exact ⟨by rw [HT.out]; rfl, HB1.out⟩
  · have HT := Lib.hid (nodeOf_one f L d h)
    have h0 : ((L.length : Int) == 0) = false := by rw [beq_eq_false_iff_ne]; omega
    have h1 : ((L.length : Int) == 1) = true := by rw [beq_iff_eq]; omega
    have hlt : (0 : Int) < (L.length : Int) := by omega
    obtain ⟨a, rfl, hal, c0, c1⟩ := HM.out.at_ (show 0 < L.length by omega)
    have hx : itAt L 0 ∈ L := by rw [itAt_of (show 0 < L.length by omega)]; exact List.getElem_mem _
    have hx1 := HAP.out.1 _ hx
    have hx2 := HCM.out _ hx
    rw [Nat.zero_mul, add_zero'] at c0 c1
    have d2 : w.cell? ⟨a.block, a.off + 1, none⟩ = some (.string (itAt L 0).2) := c1
    generalize itAt L 0 = x at c0 d2 hx1 hx2 HT
    have HX1 := Lib.hid hx1
    have HX2 := Lib.hid hx2
    clear c1 hx1 hx2 hx h h2
    go_enter Tryd.func49, Tryd.ntmps49
    go_wp2_with fail
    refine (tLeaf_any x d _ HK.out (by have := HX1.out; omega) HX2.out).mono ?_
    rintro e w1 ⟨rfl, hb1⟩
    have HB1 := Lib.hid hb1
    clear hb1 h0 h1
    go_wp2
    go_ret
    exact ⟨by rw [HT.out]; rfl, HB1.out⟩
set_option maxRecDepth 100000 in
theorem tNode_any : ∀ (f d : Nat) (L : List It) (A : Option Addr) (cap : Nat) (w : World), d + f = 128 → Apart L d → L.Pairwise ltI → L.length ≤ 1000000 → L.length ≤ cap → (∀ x ∈ L, x.2.size ≤ 1000000) → HasK w → Itms w A L →
    Calls Tryd.prog 49 #[.slice A L.length cap, .int .i64 (d : Int)] w fun e w' => e = .returned (.string (nodeOf f L d)) ∧ Below w.heap.size w w' := by
  intro f
  induction f with
  | zero =>
    intro d L A cap w hdf hap hs hl hc hcm hk hm
    refine tNode_few 0 d L A cap w ?_ hap hcm hk hm
    rcases Nat.lt_or_ge L.length 2 with h | h
    · exact h
    · have := hap.lt h; omega
  | succ f ih =>
    intro d L A cap w hdf hap hs hl hc hcm hk hm
    rcases Nat.lt_or_ge L.length 2 with h | h
    · exact tNode_few (f + 1) d L A cap w h hap hcm hk hm
    · have IH := Lib.hid ih
      have HK := Lib.hid hk
      have HM := Lib.hid hm
      have HAP := Lib.hid hap
      have HS := Lib.hid hs
      have HCM := Lib.hid hcm
      have HDF := Lib.hid hdf
      have HCAP := Lib.hid hc
      clear ih hk hm hap hs hcm hdf hc
      have hd : d < 128 := HAP.out.lt h
      have HT := Lib.hid (nodeOf_two f L d h)
      have ED := Lib.hid (show ((d : Int) + 1) = ((d + 1 : Nat) : Int) by omega)
      have h0 : ((L.length : Int) == 0) = false := by rw [beq_eq_false_iff_ne]; omega
      have h1 : ((L.length : Int) == 1) = false := by rw [beq_eq_false_iff_ne]; omega
      go_enter Tryd.func49, Tryd.ntmps49
      go_wp2_with fail
      refine (tHalves_any L A cap d _ hl HCAP.out HM.out HS.out HAP.out hd).mono ?_
      rintro e w1 ⟨A0, c0, A1, c1, rfl, hb1, hi0, hi1, hc0, hc1⟩
      have HB1 := Lib.hid hb1
      have HI0 := Lib.hid hi0
      have HI1 := Lib.hid hi1
      have HC0 := Lib.hid hc0
      have HC1 := Lib.hid hc1
      clear hb1 hi0 hi1 hc0 hc1 h0 h1
      go_wp2_with fail
      rw [ED.out]
      refine (IH.out (d + 1) (half L d 0) A0 c0 _ (by have := HDF.out; omega) (HAP.out.half 0) (half_rise HS.out d 0) (Nat.le_trans (half_le _ _ _) hl) HC0.out (fun x hx => HCM.out x (List.mem_filter.1 hx).1) (HK.out.below HB1.out HK.out.lt) HI0.out).mono ?_
      rintro e w2 ⟨rfl, hb2⟩
      have HI1' := Lib.hid (HI1.out.below hb2)
      have HB2 := Lib.hid (HB1.out.trans (hb2.mono HB1.out.size))
      have hs1 := nodeOf_size f (half L d 0) (d + 1)
      generalize nodeOf f (half L d 0) (d + 1) = n0 at hs1 HT
      have HS1 := Lib.hid hs1
      clear hb2 hs1
      go_wp2_with fail
      rw [ED.out]
      refine (IH.out (d + 1) (half L d 1) A1 c1 _ (by have := HDF.out; omega) (HAP.out.half 1) (half_rise HS.out d 1) (Nat.le_trans (half_le _ _ _) hl) HC1.out (fun x hx => HCM.out x (List.mem_filter.1 hx).1) (HK.out.below HB2.out HK.out.lt) HI1'.out).mono ?_
      rintro e w3 ⟨rfl, hb3⟩
      have HB3 := Lib.hid (HB2.out.trans (hb3.mono HB2.out.size))
      have hs2 := nodeOf_size f (half L d 1) (d + 1)
      generalize nodeOf f (half L d 1) (d + 1) = n1 at hs2 HT
      have HS2 := Lib.hid hs2
      clear hb3 hs2
      go_wp2_with fail
      refine (tJoin_any n0 n1 _ (HK.out.below HB3.out HK.out.lt) (by have := HS1.out; omega) (by have := HS2.out; omega)).mono ?_
      rintro e w4 ⟨rfl, hb4⟩
      have HB4 := Lib.hid (HB3.out.trans (hb4.mono HB3.out.size))
      clear hb4
      go_wp2
      go_ret
      exact ⟨by rw [HT.out]; rfl, HB4.out⟩
set_option maxRecDepth 100000 in
theorem tRoot_is (L : List It) (A : Option Addr) (cap : Nat) (x : ByteArray) (n : Int) (w : World) (hk : HasK w) (hl : L.length ≤ 1000000) (hc : L.length ≤ cap) (hm : Itms w A L) (h : rootAns L = (x, n)) :
    Calls Tryd.prog 20 #[.slice A L.length cap] w fun e w' => e = .returned (.tuple #[.string x, errOf n]) ∧ Below w.heap.size w w' := by
  have HK := Lib.hid hk
  have HM := Lib.hid hm
  have HCAP := Lib.hid hc
  clear hk hm hc
  unfold rootAns at h
  by_cases hk : rightItems L = true
  · rw [if_pos hk] at h
    cases h
    have HAP := Lib.hid (right_apart hk)
    have HCM := Lib.hid (right_cm hk)
    have HS := Lib.hid (right_sorted hk)
    have HR := Lib.hid hk
    clear hk
    go_enter Tryd.func20, Tryd.ntmps20
    go_wp2_with fail
    refine (tRight_any L A cap _ hl HM.out).mono ?_
    rintro e w1 ⟨rfl, hb1⟩
    rw [HR.out]
    have HB1 := Lib.hid hb1
    have HM1 := Lib.hid (HM.out.below hb1)
    clear hb1
    go_wp2_with fail
    refine (tNode_any 128 0 L A cap _ rfl HAP.out HS.out hl HCAP.out HCM.out (HK.out.below HB1.out HK.out.lt) HM1.out).mono ?_
    rintro e w2 ⟨rfl, hb2⟩
    have HB2 := Lib.hid (HB1.out.trans (hb2.mono HB1.out.size))
    clear hb2
    go_wp2
    refine bodyPost_ret (results_tmp2 rfl _ _ _) rfl ?_
    exact ⟨rfl, HB2.out⟩
  · rw [if_neg hk] at h
    cases h
    have HR := Lib.hid (show rightItems L = false by simpa using hk)
    clear hk
    go_enter Tryd.func20, Tryd.ntmps20
    go_wp2_with fail
    refine (tRight_any L A cap _ hl HM.out).mono ?_
    rintro e w1 ⟨rfl, hb1⟩
    rw [HR.out]
    have HB1 := Lib.hid hb1
    clear hb1
    go_wp2
    refine bodyPost_ret (results_tmp2 rfl _ _ _) rfl ?_
    exact ⟨rfl, HB1.out⟩
end Go.Proofs.YtenlpbcembadcaaDoor
