/- Parts of the proof, one behind the other: Primes, KTab, New, HeldK, ItemEq, ItemHas, LaterR, Order1, Pick, Node, PNode. -/
import Derived.Test.YtpoibacokdjplaaDoorM9
import Derived.Test.YtpoibacokdjplaaDoorM5
import Derived.Laws.StructEq
import Derived.BigQuiet
import Derived.Test.YtpoibacokdjplaaDoorM7
import Derived.Test.YtpoibacokdjplaaDoorM8
/- The document's numbers of rounds: primes. -/
namespace Go.Proofs.YtpoibacokdjplaaDoor
open Go.RowKit

def i64s (l : List Nat) : List Value := l.map fun (n : Nat) => Value.int .i64 (n : Int)
theorem i64s_get (l : List Nat) (i : Nat) (h : i < l.length) : (i64s l)[i]? = some (.int .i64 ((l.getD i 0 : Nat) : Int)) := by simp [i64s, List.getD_eq_getElem?_getD, h]
theorem infoI64 : (Tryd.prog.info? 3).map (fun i => (i.zero, i.size, i.bytes)) = some (some (.int .i64 0), 1, 8) := by kernel_rfl
/-- The primes among the first so many numbers from 2. -/
def pl : Nat → List Nat
  | 0 => []
  | m + 1 => if (pl m).all (fun p => (m + 2) % p != 0) then pl m ++ [m + 2] else pl m
theorem pl_le (m : Nat) : (pl m).length ≤ (pl (m + 1)).length := by
  show _ ≤ (if _ then _ else _ : List Nat).length
  split <;> simp
theorem pl_mono {m n : Nat} (h : m ≤ n) : (pl m).length ≤ (pl n).length := by
  induction n with
  | zero => obtain rfl : m = 0 := by omega
            exact Nat.le_refl _
  | succ n ih =>
    by_cases hm : m = n + 1
    · subst hm; exact Nat.le_refl _
    · exact Nat.le_trans (ih (by omega)) (pl_le n)
theorem pl_length (m : Nat) : (pl m).length ≤ m := by
  induction m with
  | zero => exact Nat.le_refl _
  | succ m ih =>
    show (if _ then _ else _ : List Nat).length ≤ _
    split
    · simp; omega
    · omega
theorem pl_309 : (pl 309).length = 63 := by decide +kernel
theorem pl_310 : (pl 310).length = 64 := by decide +kernel
theorem pl_pos : ∀ (m i : Nat), i < (pl m).length → 2 ≤ (pl m).getD i 0 ∧ (pl m).getD i 0 ≤ m + 1
  | 0, i, h => by simp [pl] at h
  | m + 1, i, h => by
    have ih := pl_pos m i
    unfold pl at h ⊢
    split at h <;> rename_i hc
    · rw [if_pos hc]
      by_cases hi : i < (pl m).length
      · have := ih hi
        rw [List.getD_eq_getElem?_getD, List.getElem?_append_left hi, ← List.getD_eq_getElem?_getD]; omega
      · have : i = (pl m).length := by simp at h; omega
        subst this
        simp [List.getD_eq_getElem?_getD]
    · rw [if_neg hc]
      have := ih h; omega

/-- None of the first i divides. -/
def noneOf (l : List Nat) (K i : Nat) : Bool := (l.take i).all (fun p => K % p != 0)
theorem noneOf_next (l : List Nat) (K i : Nat) (h : i < l.length) : noneOf l K (i + 1) = (noneOf l K i && (K % l.getD i 0 != 0)) := by
  unfold noneOf
  rw [List.take_add_one, List.all_append, List.getElem?_eq_getElem h, List.getD_eq_getElem?_getD, List.getElem?_eq_getElem h]
  simp
theorem noneOf_all (l : List Nat) (K : Nat) : noneOf l K l.length = l.all (fun p => K % p != 0) := by unfold noneOf; rw [List.take_length]
theorem cell_row64 {w : World} {base : Nat} {p : Option Addr} {cap : Nat} {l : List Nat} (h : Row w base 1 (.slice p l.length cap) l.length (i64s l)) (i : Nat) (hi : i < l.length) :
    ∃ g, p = some ⟨g, 0, none⟩ ∧ w.cell? ⟨g, i, none⟩ = some (.int .i64 ((l.getD i 0 : Nat) : Int)) := by
  obtain ⟨g, cap', hv, _, _, _, hcell, _⟩ := h.shape (by omega)
  injection hv with e1 e2 e3
  exact ⟨g, e1, hcell i _ (i64s_get l i hi)⟩

end Go.Proofs.YtpoibacokdjplaaDoor
/- The numbers of rounds, reckoned from roots of primes, are the tables'. -/
namespace Go.Proofs.YtpoibacokdjplaaDoor
open Go.RowKit

theorem k_all : (List.range 64).all (fun i => rootL ((pl 310).getD i 0) 3 == kTab.getD i 0) = true := by decide +kernel
theorem h_all : (List.range 8).all (fun i => rootL ((pl 310).getD i 0) 2 == (iv i).toNat) = true := by decide +kernel
theorem k_root (i : Nat) (h : i < 64) : rootL ((pl 310).getD i 0) 3 = kTab.getD i 0 := by
  have := List.all_eq_true.1 k_all i (List.mem_range.2 h); simpa using this
theorem h_root (i : Nat) (h : i < 8) : rootL ((pl 310).getD i 0) 2 = (iv i).toNat := by
  have := List.all_eq_true.1 h_all i (List.mem_range.2 h); simpa using this

theorem k_val (i : Nat) (h : i < 64) : ((rootL ((pl 310).getD i 0) 3 : Nat) : Int) = W32 (kOf i) := by
  have h1 := k_root i h
  have h2 : rootL ((pl 310).getD i 0) 3 < 4294967296 := Nat.mod_lt _ (by decide)
  rw [h1] at h2 ⊢
  unfold W32 kOf
  rw [BitVec.toNat_ofNat, Nat.mod_eq_of_lt (by omega)]
theorem h_val (i : Nat) (h : i < 8) : ((rootL ((pl 310).getD i 0) 2 : Nat) : Int) = W32 (iv i) := by
  have h1 := h_root i h
  rw [h1]; rfl

end Go.Proofs.YtpoibacokdjplaaDoor
/- The document's numbers of rounds: New. -/
namespace Go.Proofs.YtpoibacokdjplaaDoor
open Go.RowKit

def partR (i j : Nat) : Value := if j < 8 then (if j < i then .int .u32 (W32 (iv j)) else .int .u32 0) else if j - 8 < i then .int .u32 (W32 (kOf (j - 8))) else .int .u32 0
end Go.Proofs.YtpoibacokdjplaaDoor
/- The keeps' held: items few and short enough. -/
namespace Go.Proofs.YtpoibacokdjplaaDoor
open Go.RowKit

def longItem (x : It) : Bool := decide (40 < x.1.size) || decide (40 < x.2.size)
set_option maxRecDepth 100000 in
theorem held1_any (x : It) (w : World) :
    Calls Tryd.prog 16 #[.agg #[.string x.1, .string x.2]] w fun e w' => e = .returned (.bool (longItem x)) ∧ Below w.heap.size w w' := by
  have HB := Lib.hid (alloc_below w (.cells #[.string x.1, .string x.2] 28))
  go_enter Tryd.func16, Tryd.ntmps16
  by_cases h : 40 < x.1.size
  · go_wp2
    go_ret
    exact ⟨by unfold longItem; simp [h], HB.out⟩
  · by_cases h2 : 40 < x.2.size
    · go_wp2
      go_ret
      exact ⟨by unfold longItem; simp [h2]; omega, HB.out⟩
    · go_wp2
      go_ret
      exact ⟨by unfold longItem; simp [h, h2]; omega, HB.out⟩
set_option maxRecDepth 100000 in
theorem heldIx_any (L : List It) (A : Option Addr) (cap : Nat) (w : World) (hm : Itms w A L) (hl : L.length ≤ 1000000) :
    Calls Tryd.prog 23 #[.slice A L.length cap, .func (.func 16) #[] #[]] w fun e w' => Below w.heap.size w w' ∧ ∃ n : Int, e = .returned (.int .i64 n) ∧ (0 ≤ n ∨ n = -1 ∧ L.all (fun x => !longItem x) = true) := by
  have HM := Lib.hid hm
  clear hm
  go_enter Tryd.func23, Tryd.ntmps23
  go_wp2
  go_loopw [8] (fun i wr => ∃ k : Nat, k ≤ L.length ∧ i = .int .i64 (k : Int) ∧ Below w.heap.size w wr ∧ (L.take k).all (fun x => !longItem x) = true) (fun i _ => L.length - (intOf i).toNat)
  case atStart => exact ⟨0, by omega, rfl, Below.refl _ _, rfl⟩
  case round =>
    obtain ⟨k, hk, rfl, hb, hall⟩ := hrel
    have HB := Lib.hid hb
    have HALL := Lib.hid hall
    clear hb hall
    by_cases hlt : k < L.length
    · have hmk := Itms.below HM.out HB.out
      obtain ⟨a, rfl, hal, c0, c1⟩ := hmk.at_ hlt
      have d2 : wr.cell? ⟨(a.add (k * 2)).block, (a.add (k * 2)).off + 1, none⟩ = some (.string (itAt L k).2) := c1
      have HX := Lib.hid (show L[k]? = some (itAt L k) by rw [List.getElem?_eq_getElem hlt, itAt_get (List.getElem?_eq_getElem hlt)])
      clear hmk
      generalize itAt L k = x at c0 c1 d2 HX
      go_wp2_with fail
      refine (held1_any x _).mono ?_
      rintro e w1 ⟨rfl, hb1⟩
      have HB1 := Lib.hid (HB.out.trans (hb1.mono HB.out.size))
      clear hb1 c0 c1 d2
      generalize hq : longItem x = q
      have HQ := Lib.hid hq
      clear hq
      cases q with
      | true =>
        go_wp2
        go_ret
        exact ⟨HB1.out, k, rfl, .inl (by omega)⟩
      | false =>
        go_wp2
        go_roundw
        case rel =>
          refine ⟨k + 1, by omega, by go_num, HB1.out, ?_⟩
          rw [List.take_add_one, HX.out, List.all_append, HALL.out]
          simp [HQ.out]
        case measure => simp [intOf]; omega
    · go_wp2
      go_ret
      have he : L.take k = L := List.take_of_length_le (by omega)
      exact ⟨HB.out, -1, rfl, .inr ⟨rfl, by have := HALL.out; rw [he] at this; exact this⟩⟩
theorem heldHas_any (L : List It) (A : Option Addr) (cap : Nat) (w : World) (hm : Itms w A L) (hl : L.length ≤ 1000000) :
    Calls Tryd.prog 13 #[.slice A L.length cap, .func (.func 16) #[] #[]] w fun e w' => Below w.heap.size w w' ∧ ∃ b, e = .returned (.bool b) ∧ (b = false → L.all (fun x => !longItem x) = true) := by
  have HM := Lib.hid hm
  clear hm
  go_enter Tryd.func13, Tryd.ntmps13
  go_wp2_with fail
  refine (heldIx_any L A cap _ HM.out hl).mono ?_
  rintro e w1 ⟨hb, n, rfl, hn⟩
  have HB := Lib.hid hb
  clear hb
  rcases hn with hn | ⟨rfl, hn⟩
  · go_wp2
    go_ret
    exact ⟨HB.out, true, rfl, fun h => by cases h⟩
  · have HN := Lib.hid hn
    clear hn
    go_wp2
    go_ret
    exact ⟨HB.out, false, rfl, fun _ => HN.out⟩
/-- Held: few items, and short ones. -/
theorem held_any (L : List It) (A : Option Addr) (cap : Nat) (w : World) (hm : Itms w A L) :
    Calls Tryd.prog 4 #[.slice A L.length cap] w fun e w' => Below w.heap.size w w' ∧ ∃ b, e = .returned (.bool b) ∧ (b = true → L.length ≤ 40 ∧ L.all (fun x => !longItem x) = true) := by
  have HM := Lib.hid hm
  clear hm
  by_cases hl : L.length ≤ 40
  · go_enter Tryd.func4, Tryd.ntmps4
    go_wp2_with fail
    refine (heldHas_any L A cap _ HM.out (by omega)).mono ?_
    rintro e w1 ⟨hb, b, rfl, hn⟩
    have HB := Lib.hid hb
    have HN := Lib.hid hn
    clear hb hn
    cases b with
    | true =>
      go_wp2
      go_ret
      exact ⟨HB.out, false, rfl, fun h => by cases h⟩
    | false =>
      have HN2 := Lib.hid (HN.out rfl)
      clear HN
      go_wp2
      go_ret
      exact ⟨HB.out, true, rfl, fun _ => ⟨hl, HN2.out⟩⟩
  · go_enter Tryd.func4, Tryd.ntmps4
    go_wp2
    go_ret
    exact ⟨Below.refl _ _, rfl⟩
end Go.Proofs.YtpoibacokdjplaaDoor
/- Items compared: one with one, and slices.Equal of the same items. -/
namespace Go.Proofs.YtpoibacokdjplaaDoor
open Go.RowKit

theorem stoodI : Tryd.prog.stoodInHeld 28 = false := by kernel_rfl
theorem itemFields : Tryd.prog.underlying 28 = some (.struct (Tryd.prog.fieldsOf 28)) := by kernel_rfl
theorem textI_ne {a b : ByteArray} (h : ¬ a = b) : (a.toList == b.toList) = false := by
  rw [beq_eq_false_iff_ne]
  intro e
  rw [ByteArray.toList_eq, ByteArray.toList_eq] at e
  exact h (text_of e)
set_option maxHeartbeats 1000000 in
theorem run_neq_items (a b : It) (w : World) :
    (binOp .neq 28 (.agg #[.string a.1, .string a.2]) (.agg #[.string b.1, .string b.2])).run Tryd.prog w = .ok (.bool (!decide (a = b))) w := by
  rw [run_neq_struct, run_equalIn_agg _ 9999 _ _ _ itemFields stoodI]
  by_cases h2 : a.1 = b.1
  · by_cases h3 : a.2 = b.2
    · have e : decide (a = b) = true := by simp [Prod.ext_iff, h2, h3]
      rw [e, h2, h3]
      go_simp
    · have e : decide (a = b) = false := by simp [Prod.ext_iff, h3]
      have e3 := textI_ne h3
      rw [e, h2]
      go_simp
  · have e : decide (a = b) = false := by simp [Prod.ext_iff, h2]
    have e3 := textI_ne h2
    rw [e]
    go_simp
set_option maxRecDepth 100000 in
theorem equalItems_same (L : List It) (A B : Option Addr) (cap cap' : Nat) (w : World) (hl : L.length ≤ 1000000) (ha : Itms w A L) (hb : Itms w B L) :
    Calls Tryd.prog 12 #[.slice A L.length cap, .slice B L.length cap'] w fun e w' => e = .returned (.bool true) ∧ ∃ q, w' = w.drewN q := by
  have HA := Lib.hid ha
  have HB := Lib.hid hb
  clear ha hb
  go_enter Tryd.func12, Tryd.ntmps12
  go_wp2
  go_loopw [13] (fun i wr => ∃ k q : Nat, k ≤ L.length ∧ i = .int .i64 (k : Int) ∧ wr = w.drewN q) (fun i _ => L.length - (intOf i).toNat)
  case atStart => exact ⟨0, 0, by omega, rfl, rfl⟩
  case round =>
    obtain ⟨k, q, hk, rfl, rfl⟩ := hrel
    by_cases hlt : k < L.length
    · obtain ⟨a, rfl, _, c0, c1⟩ := HA.out.at_ hlt
      obtain ⟨b, rfl, _, f0, f1⟩ := HB.out.at_ hlt
      have c2 : w.cell? ⟨(a.add (k * 2)).block, (a.add (k * 2)).off + 1, none⟩ = some (.string (itAt L k).2) := c1
      have f2 : w.cell? ⟨(b.add (k * 2)).block, (b.add (k * 2)).off + 1, none⟩ = some (.string (itAt L k).2) := f1
      generalize itAt L k = x at c0 c2 f0 f2
      clear c1 f1
      have hne : ∀ u : World, (binOp .neq 28 (.agg #[.string x.1, .string x.2]) (.agg #[.string x.1, .string x.2])).run Tryd.prog u = .ok (.bool false) u := fun u => by rw [run_neq_items]; simp
      go_wp2
      go_quiet (fail)
      go_wp2
      go_roundw
      case rel => exact ⟨k + 1, _, by omega, by go_num, rfl⟩
      case measure => simp [intOf]; omega
    · go_wp2
      go_ret
      exact ⟨rfl, q, rfl⟩
end Go.Proofs.YtpoibacokdjplaaDoor
/- slices.Contains of items: what is among them is found. -/
namespace Go.Proofs.YtpoibacokdjplaaDoor
open Go.RowKit

set_option maxHeartbeats 1000000 in
theorem run_eql_items (a b : It) (w : World) :
    (binOp .eql 28 (.agg #[.string a.1, .string a.2]) (.agg #[.string b.1, .string b.2])).run Tryd.prog w = .ok (.bool (decide (a = b))) w := by
  rw [run_eql_struct, run_equalIn_agg _ 9999 _ _ _ itemFields stoodI]
  by_cases h2 : a.1 = b.1
  · by_cases h3 : a.2 = b.2
    · have e : decide (a = b) = true := by simp [Prod.ext_iff, h2, h3]
      rw [e, h2, h3]
      go_simp
    · have e : decide (a = b) = false := by simp [Prod.ext_iff, h3]
      have e3 := textI_ne h3
      rw [e, h2]
      go_simp
  · have e : decide (a = b) = false := by simp [Prod.ext_iff, h2]
    have e3 := textI_ne h2
    rw [e]
    go_simp
set_option maxRecDepth 100000 in
theorem indexItem_in (L : List It) (A : Option Addr) (cap : Nat) (x : It) (w : World) (hl : L.length ≤ 1000000) (hm : Itms w A L) (hx : x ∈ L) :
    Calls Tryd.prog 24 #[.slice A L.length cap, .agg #[.string x.1, .string x.2]] w fun e w' => Below w.heap.size w w' ∧ ∃ n : Int, e = .returned (.int .i64 n) ∧ 0 ≤ n := by
  have HB0 := Lib.hid (alloc_below w (.cells #[.string x.1, .string x.2] 28))
  have HM := Lib.hid (hm.below HB0.out)
  have HX := Lib.hid hx
  have HC := Lib.hid (show (w.alloc (.cells #[.string x.1, .string x.2] 28)).cell? ⟨w.heap.size, 0, none⟩ = some (.string x.1) ∧ (w.alloc (.cells #[.string x.1, .string x.2] 28)).cell? ⟨w.heap.size, 1, none⟩ = some (.string x.2) from
    ⟨cell_of_row _ w.heap.size 0 _ 28 (0, 0) (heap_alloc_new _ _), cell_of_row _ w.heap.size 1 _ 28 (0, 0) (heap_alloc_new _ _)⟩)
  clear hm hx
  go_enter Tryd.func24, Tryd.ntmps24
  go_wp2
  generalize w.alloc (.cells #[.string x.1, .string x.2] 28) = w0 at HB0 HM HC
  go_loopw [8] (fun i wr => ∃ k q : Nat, k ≤ L.length ∧ i = .int .i64 (k : Int) ∧ wr = w0.drewN q ∧ ¬ x ∈ L.take k) (fun i _ => L.length - (intOf i).toNat)
  case atStart => exact ⟨0, 0, by omega, rfl, rfl, by simp⟩
  case round =>
    obtain ⟨k, q, hk, rfl, rfl, hn⟩ := hrel
    have HN := Lib.hid hn
    clear hn
    by_cases hlt : k < L.length
    · obtain ⟨a, rfl, _, c0, c1⟩ := HM.out.at_ hlt
      have c2 : w0.cell? ⟨(a.add (k * 2)).block, (a.add (k * 2)).off + 1, none⟩ = some (.string (itAt L k).2) := c1
      obtain ⟨f0, f1⟩ := HC.out
      have HY := Lib.hid (show L[k]? = some (itAt L k) by rw [List.getElem?_eq_getElem hlt, itAt_get (List.getElem?_eq_getElem hlt)])
      generalize itAt L k = y at c0 c2 HY
      clear c1
      by_cases hxy : x = y
      · have hne : ∀ u : World, (binOp .eql 28 (.agg #[.string x.1, .string x.2]) (.agg #[.string y.1, .string y.2])).run Tryd.prog u = .ok (.bool true) u := fun u => by rw [run_eql_items, decide_eq_true hxy]
        clear hxy
        go_wp2
        go_quiet (fail)
        go_wp2
        go_ret
        exact ⟨below_drew (below_drew HB0.out _) _, k, rfl, by omega⟩
      · have hne : ∀ u : World, (binOp .eql 28 (.agg #[.string x.1, .string x.2]) (.agg #[.string y.1, .string y.2])).run Tryd.prog u = .ok (.bool false) u := fun u => by rw [run_eql_items, decide_eq_false hxy]
        have HXY := Lib.hid hxy
        clear hxy
        go_wp2
        go_quiet (fail)
        go_wp2
        go_roundw
        case rel =>
          refine ⟨k + 1, _, by omega, by go_num, rfl, ?_⟩
          rw [List.take_add_one, HY.out, List.mem_append]
          rintro (h | h)
          · exact HN.out h
          · exact HXY.out (List.mem_singleton.1 h)
        case measure => simp [intOf]; omega
    · exfalso
      refine HN.out ?_
      rw [List.take_of_length_le (by omega)]
      exact HX.out
set_option maxRecDepth 100000 in
theorem containsItem_in (L : List It) (A : Option Addr) (cap : Nat) (x : It) (w : World) (hl : L.length ≤ 1000000) (hm : Itms w A L) (hx : x ∈ L) :
    Calls Tryd.prog 15 #[.slice A L.length cap, .agg #[.string x.1, .string x.2]] w fun e w' => e = .returned (.bool true) ∧ Below w.heap.size w w' := by
  have HB0 := Lib.hid (alloc_below w (.cells #[.string x.1, .string x.2] 28))
  have HM := Lib.hid (hm.below HB0.out)
  have HX := Lib.hid hx
  clear hm hx
  go_enter Tryd.func15, Tryd.ntmps15
  go_wp2_with fail
  refine (indexItem_in L A cap x _ hl HM.out HX.out).mono ?_
  rintro e w1 ⟨hb, n, rfl, hn⟩
  have HB := Lib.hid (HB0.out.trans (hb.mono HB0.out.size))
  clear hb
  go_wp2
  go_ret
  exact ⟨rfl, HB.out⟩
end Go.Proofs.YtpoibacokdjplaaDoor
/- Regions that only read and call what makes memory. No program is imported. -/
namespace Go.Proofs.YtpoibacokdjplaaDoor
open Go.RowKit

/-- A region that only reads and calls what makes memory: one walk, in the text's order, over the worlds later than its own. -/
theorem wp_region_later {P : Program} {id : Nat} {Q : Exit → Act → World → Prop} {a : Act} {w : World} {l : List Oper} (hm : P.follows .mixedOrders = true) (hB : Region.lexB .any l.toArray = true)
    (h : wpQuiet P l.toArray (fun w' => ∃ z : Later w.heap.size w, w' = z.at') (fun a' => ∀ w', (∃ z : Later w.heap.size w, w' = z.at') → Q .normal a' w') l a) : (Code.region id l.toArray true).wp P Q a w :=
  wp_region_quiet (C := fun w' => ∃ z : Later w.heap.size w, w' = z.at') hm hB ⟨⟨w.drew, (Below.refl _ _).drew⟩, rfl⟩ (by simpa using h)

end Go.Proofs.YtpoibacokdjplaaDoor
/- TrieOrder's question, whether one is set again later. -/
namespace Go.Proofs.YtpoibacokdjplaaDoor
open Go.RowKit

def againI (y x : It) : Bool := decide (x.1 = y.1) && decide (x.2.size = 16)
theorem eq_bytes {a b : ByteArray} : (a.toList == b.toList) = decide (a = b) := by
  by_cases h : a = b
  · subst h; simp
  · rw [textI_ne h, decide_eq_false h]
set_option maxRecDepth 100000 in
theorem order1_any (L : List It) (A : Option Addr) (cap k pb ib : Nat) (x : It) (w : World) (hk : k < L.length) (_hl : L.length ≤ 1000000) (hm : Itms w A L)
    (hp : w.cell? ⟨pb, 0, none⟩ = some (.slice A L.length cap)) (hi : w.cell? ⟨ib, 0, none⟩ = some (.int .i64 (k : Int))) :
    Calls Tryd.prog 14 #[.agg #[.string x.1, .string x.2], .pointer (some ⟨pb, 0, none⟩), .pointer (some ⟨ib, 0, none⟩)] w fun e w' => e = .returned (.bool (againI (itAt L k) x)) ∧ Below w.heap.size w w' := by
  have HB0 := Lib.hid (alloc_below w (.cells #[.string x.1, .string x.2] 28))
  have HM := Lib.hid (hm.below HB0.out)
  have hp0 := (HB0.out.cell (block_lt_of_cell hp)).trans hp
  have hi0 := (HB0.out.cell (block_lt_of_cell hi)).trans hi
  have hc0 : (w.alloc (.cells #[.string x.1, .string x.2] 28)).cell? ⟨w.heap.size, 0, none⟩ = some (.string x.1) := cell_of_row _ w.heap.size 0 _ 28 (0, 0) (heap_alloc_new _ _)
  have hc1 : (w.alloc (.cells #[.string x.1, .string x.2] 28)).cell? ⟨w.heap.size, 1, none⟩ = some (.string x.2) := cell_of_row _ w.heap.size 1 _ 28 (0, 0) (heap_alloc_new _ _)
  clear hm hp hi
  go_enter Tryd.func14, Tryd.ntmps14
  have HP := Lib.hid hp0
  have HI := Lib.hid hi0
  have HC0 := Lib.hid hc0
  have HC1 := Lib.hid hc1
  clear hp0 hi0 hc0 hc1
  go_wp2_with fail
  generalize w.alloc (.cells #[.string x.1, .string x.2] 28) = w0 at HB0 HM HP HI HC0 HC1
  have hp0 := HP.out
  have hi0 := HI.out
  have hc0 := HC0.out
  have hc1 := HC1.out
  clear HP HI HC0 HC1
  obtain ⟨a, rfl, _, c0, c1⟩ := HM.out.at_ hk
  generalize hy : itAt L k = y at c0 c1
  have HY := Lib.hid hy
  clear hy
  clear c1
  by_cases h1 : x.1 = y.1
  · have e1 : (x.1.toList == y.1.toList) = true := by rw [eq_bytes, decide_eq_true h1]
    have HE := Lib.hid h1
    clear h1
    by_cases h2 : x.2.size = 16
    · have HS := Lib.hid h2
      have e2 : (Value.int .i64 (x.2.size : Int)) = .int .i64 16 := by rw [h2]; rfl
      clear h2
      go_quiet (fail)
      go_wp2
      go_ret
      refine ⟨?_, below_drew HB0.out nq⟩
      unfold againI
      rw [HY.out, decide_eq_true HE.out, decide_eq_true HS.out]
      rfl
    · have HS := Lib.hid h2
      have e2 : ¬ (x.2.size : Int) = 16 := by omega
      have e3 : ((x.2.size : Int) == 16) = false := by rw [beq_eq_false_iff_ne]; exact e2
      clear h2
      go_quiet (fail)
      go_wp2
      go_ret
      refine ⟨?_, below_drew HB0.out nq⟩
      unfold againI
      rw [HY.out, decide_eq_true HE.out, decide_eq_false HS.out]
      rfl
  · have e1 : (x.1.toList == y.1.toList) = false := by rw [eq_bytes, decide_eq_false h1]
    have HE := Lib.hid h1
    clear h1
    go_quiet (fail)
    go_wp2
    go_ret
    refine ⟨?_, below_drew HB0.out nq⟩
    unfold againI
    rw [HY.out, decide_eq_false HE.out]
    rfl
set_option maxRecDepth 100000 in
theorem orderIx_any (L M : List It) (A B : Option Addr) (cap c k pb ib : Nat) (w : World) (hk : k < L.length) (hl : L.length ≤ 1000000) (hlm : M.length ≤ 1000000) (hm : Itms w A L) (hn : Itms w B M)
    (hp : w.cell? ⟨pb, 0, none⟩ = some (.slice A L.length cap)) (hi : w.cell? ⟨ib, 0, none⟩ = some (.int .i64 (k : Int))) :
    Calls Tryd.prog 23 #[.slice B M.length c, .func (.func 14) #[] #[.pointer (some ⟨pb, 0, none⟩), .pointer (some ⟨ib, 0, none⟩)]] w fun e w' => Below w.heap.size w w' ∧ ∃ n : Int, e = .returned (.int .i64 n) ∧ ((0 ≤ n ∧ M.any (againI (itAt L k)) = true) ∨ (n = -1 ∧ M.any (againI (itAt L k)) = false)) := by
  have HM := Lib.hid hm
  have HN := Lib.hid hn
  have HP := Lib.hid hp
  have HI := Lib.hid hi
  clear hm hn hp hi
  go_enter Tryd.func23, Tryd.ntmps23
  go_wp2
  go_loopw [8] (fun i wr => ∃ j : Nat, j ≤ M.length ∧ i = .int .i64 (j : Int) ∧ Below w.heap.size w wr ∧ (M.take j).any (againI (itAt L k)) = false) (fun i _ => M.length - (intOf i).toNat)
  case atStart => exact ⟨0, by omega, rfl, Below.refl _ _, rfl⟩
  case round =>
    obtain ⟨j, hj, rfl, hb, hall⟩ := hrel
    have HB := Lib.hid hb
    have HALL := Lib.hid hall
    clear hb hall
    by_cases hlt : j < M.length
    · have hmk := Itms.below HN.out HB.out
      obtain ⟨a, rfl, hal, c0, c1⟩ := hmk.at_ hlt
      have d2 : wr.cell? ⟨(a.add (j * 2)).block, (a.add (j * 2)).off + 1, none⟩ = some (.string (itAt M j).2) := c1
      have HX := Lib.hid (show M[j]? = some (itAt M j) by rw [List.getElem?_eq_getElem hlt, itAt_get (List.getElem?_eq_getElem hlt)])
      clear hmk
      generalize itAt M j = x at c0 c1 d2 HX
      go_wp2_with fail
      refine (order1_any L A cap k pb ib x _ hk hl (HM.out.below HB.out) ((HB.out.cell (block_lt_of_cell HP.out)).trans HP.out) ((HB.out.cell (block_lt_of_cell HI.out)).trans HI.out)).mono ?_
      rintro e w1 ⟨rfl, hb1⟩
      have HB1 := Lib.hid (HB.out.trans (hb1.mono HB.out.size))
      clear hb1 c0 c1 d2
      generalize hq : againI (itAt L k) x = q
      have HQ := Lib.hid hq
      clear hq
      cases q with
      | true =>
        go_wp2
        go_ret
        exact ⟨HB1.out, j, rfl, .inl ⟨by omega, List.any_eq_true.2 ⟨x, List.mem_of_getElem? HX.out, HQ.out⟩⟩⟩
      | false =>
        go_wp2
        go_roundw
        case rel =>
          refine ⟨j + 1, by omega, by go_num, HB1.out, ?_⟩
          rw [List.take_add_one, HX.out, List.any_append, HALL.out]
          simp [HQ.out]
        case measure => simp [intOf]; omega
    · go_wp2
      go_ret
      have he : M.take j = M := List.take_of_length_le (by omega)
      exact ⟨HB.out, -1, rfl, .inr ⟨rfl, by have := HALL.out; rw [he] at this; exact this⟩⟩
theorem orderHas_any (L M : List It) (A B : Option Addr) (cap c k pb ib : Nat) (w : World) (hk : k < L.length) (hl : L.length ≤ 1000000) (hlm : M.length ≤ 1000000) (hm : Itms w A L) (hn : Itms w B M)
    (hp : w.cell? ⟨pb, 0, none⟩ = some (.slice A L.length cap)) (hi : w.cell? ⟨ib, 0, none⟩ = some (.int .i64 (k : Int))) :
    Calls Tryd.prog 13 #[.slice B M.length c, .func (.func 14) #[] #[.pointer (some ⟨pb, 0, none⟩), .pointer (some ⟨ib, 0, none⟩)]] w fun e w' => e = .returned (.bool (M.any (againI (itAt L k)))) ∧ Below w.heap.size w w' := by
  have HM := Lib.hid hm
  have HN := Lib.hid hn
  have HP := Lib.hid hp
  have HI := Lib.hid hi
  clear hm hn hp hi
  go_enter Tryd.func13, Tryd.ntmps13
  go_wp2_with fail
  refine (orderIx_any L M A B cap c k pb ib _ hk hl hlm HM.out HN.out HP.out HI.out).mono ?_
  rintro e w1 ⟨hb, n, rfl, hn⟩
  have HB := Lib.hid hb
  clear hb
  rcases hn with ⟨hn, hq⟩ | ⟨rfl, hq⟩
  · have HQ := Lib.hid hq
    clear hq
    go_wp2
    go_ret
    rw [HQ.out]
    exact ⟨rfl, HB.out⟩
  · have HQ := Lib.hid hq
    clear hq
    go_wp2
    go_ret
    rw [HQ.out]
    exact ⟨rfl, HB.out⟩
end Go.Proofs.YtpoibacokdjplaaDoor
/- The keeps' pick. -/
namespace Go.Proofs.YtpoibacokdjplaaDoor
open Go.RowKit

theorem pick_any (a : Int) (n : Nat) (w : World) (h1 : 1 ≤ n) (h2 : n ≤ 1000000) :
    Calls Tryd.prog 8 #[.int .i64 a, .int .i64 n] w fun e w' => w' = w ∧ ∃ r : Nat, r < n ∧ e = .returned (.int .i64 (r : Int)) := by
  obtain ⟨r, hr, hrn⟩ : ∃ r : Nat, (IntKind.u64.wrap a).tmod n = (r : Int) ∧ r < n := by
    have hu : 0 ≤ IntKind.u64.wrap a := by
      show 0 ≤ a % 18446744073709551616
      omega
    have h3 := Int.tmod_nonneg (n : Int) hu
    have h4 := Int.tmod_lt_of_pos (IntKind.u64.wrap a) (show (0 : Int) < n by omega)
    exact ⟨((IntKind.u64.wrap a).tmod n).toNat, by omega, by omega⟩
  have HR := Lib.hid hr
  clear hr
  go_enter Tryd.func8, Tryd.ntmps8
  go_wp2
  go_ret
  rw [HR.out]
  exact ⟨rfl, r, hrn, by rw [show wrap64 (r : Int) = r by unfold wrap64; omega]; rfl⟩
end Go.Proofs.YtpoibacokdjplaaDoor
/- The document's NODE and Root. -/
namespace Go.Proofs.YtpoibacokdjplaaDoor
open Go.RowKit

theorem nodeOf_nil (f : Nat) (L : List It) (d : Nat) (h : L.length = 0) : nodeOf f L d = emptyM d := by
  obtain rfl := List.eq_nil_of_length_eq_zero h
  cases f <;> simp [nodeOf]
theorem nodeOf_one (f : Nat) (L : List It) (d : Nat) (h : L.length = 1) : nodeOf f L d = leafM (itAt L 0) d := by
  match L, h with
  | [x], _ => cases f <;> simp [nodeOf, itAt]
theorem nodeOf_two (f : Nat) (L : List It) (d : Nat) (h : 2 ≤ L.length) : nodeOf (f + 1) L d = joinM (nodeOf f (half L d 0) (d + 1)) (nodeOf f (half L d 1) (d + 1)) := by
  rw [nodeOf, if_neg (by omega), if_neg (by omega)]
theorem nodeOf_size : ∀ (f : Nat) (L : List It) (d : Nat), (nodeOf f L d).size = 16 := by
  intro f L d
  rcases (show L.length = 0 ∨ L.length = 1 ∨ 2 ≤ L.length by omega) with h | h | h
  · rw [nodeOf_nil f L d h]; unfold emptyM; exact markOf_len _ _
  · rw [nodeOf_one f L d h]; unfold leafM; exact markOf_len _ _
  · cases f with
    | zero =>
      match L, h with
      | x :: _, _ => exact markOf_len _ _
    | succ f => rw [nodeOf_two f L d h]; exact markOf_len _ _
/-- The root of what is right. -/
def rootOf (L : List It) : ByteArray := nodeOf 128 L 0
def rootAns (L : List It) : ByteArray × Int := if rightItems L = true then (rootOf L, 0) else (⟨#[]⟩, 1)
theorem right_cm {L : List It} (h : rightItems L = true) : ∀ x ∈ L, x.2.size ≤ 1000000 := fun x hx => by have := (right_sizes h x hx).2; omega
end Go.Proofs.YtpoibacokdjplaaDoor
/- The program's NODE and Root. -/
namespace Go.Proofs.YtpoibacokdjplaaDoor
open Go.RowKit

set_option maxRecDepth 100000 in
theorem tNode_few (f d : Nat) (L : List It) (A : Option Addr) (cap : Nat) (w : World) (h2 : L.length < 2) (hap : Apart L d) (hcm : ∀ x ∈ L, x.2.size ≤ 1000000) (hk : HasK w) (hm : Itms w A L) :
    Calls Tryd.prog 22 #[.slice A L.length cap, .int .i64 (d : Int)] w fun e w' => e = .returned (.string (nodeOf f L d)) ∧ Below w.heap.size w w' := by
  have HK := Lib.hid hk
  have HM := Lib.hid hm
  have HAP := Lib.hid hap
  have HCM := Lib.hid hcm
  clear hk hm hap hcm
  rcases (show L.length = 0 ∨ L.length = 1 by omega) with h | h
  · have HT := Lib.hid (nodeOf_nil f L d h)
    have h0 : ((L.length : Int) == 0) = true := by rw [beq_iff_eq]; omega
    clear h h2
    go_enter Tryd.func22, Tryd.ntmps22
    go_wp2_with fail
    refine (tEmpty_any d _ HK.out).mono ?_
    rintro e w1 ⟨rfl, hb1⟩
    have HB1 := Lib.hid hb1
    clear hb1 h0
    go_wp2
    go_ret
    exact ⟨by rw [HT.out]; rfl, HB1.out⟩
  · have HT := Lib.hid (nodeOf_one f L d h)
    have h0 : ((L.length : Int) == 0) = false := by rw [beq_eq_false_iff_ne]; omega
    have h1 : ((L.length : Int) == 1) = true := by rw [beq_iff_eq]; omega
    have hlt : (0 : Int) < (L.length : Int) := by omega
    obtain ⟨a, rfl, hal, c0, c1⟩ := HM.out.at_ (show 0 < L.length by omega)
    have hx : itAt L 0 ∈ L := by rw [itAt_of (show 0 < L.length by omega)]; exact List.getElem_mem _
    have hx1 := HAP.out.1 _ hx
    have hx2 := HCM.out _ hx
    rw [Nat.zero_mul, add_zero'] at c0 c1
    have d2 : w.cell? ⟨a.block, a.off + 1, none⟩ = some (.string (itAt L 0).2) := c1
    generalize itAt L 0 = x at c0 d2 hx1 hx2 HT
    have HX1 := Lib.hid hx1
    have HX2 := Lib.hid hx2
    clear c1 hx1 hx2 hx h h2
    go_enter Tryd.func22, Tryd.ntmps22
    go_wp2_with fail
    refine (tLeaf_any x d _ HK.out (by have := HX1.out; omega) HX2.out).mono ?_
    rintro e w1 ⟨rfl, hb1⟩
    have HB1 := Lib.hid hb1
    clear hb1 h0 h1
    go_wp2
    go_ret
    exact ⟨by rw [HT.out]; rfl, HB1.out⟩
set_option maxRecDepth 100000 in
theorem tNode_any : ∀ (f d : Nat) (L : List It) (A : Option Addr) (cap : Nat) (w : World), d + f = 128 → Apart L d → L.Pairwise ltI → L.length ≤ 1000000 → L.length ≤ cap → (∀ x ∈ L, x.2.size ≤ 1000000) → HasK w → Itms w A L →
    Calls Tryd.prog 22 #[.slice A L.length cap, .int .i64 (d : Int)] w fun e w' => e = .returned (.string (nodeOf f L d)) ∧ Below w.heap.size w w' := by
  intro f
  induction f with
  | zero =>
    intro d L A cap w hdf hap hs hl hc hcm hk hm
    refine tNode_few 0 d L A cap w ?_ hap hcm hk hm
    rcases Nat.lt_or_ge L.length 2 with h | h
    · exact h
    · have := hap.lt h; omega
  | succ f ih =>
    intro d L A cap w hdf hap hs hl hc hcm hk hm
    rcases Nat.lt_or_ge L.length 2 with h | h
    · exact tNode_few (f + 1) d L A cap w h hap hcm hk hm
    · have IH := Lib.hid ih
      have HK := Lib.hid hk
      have HM := Lib.hid hm
      have HAP := Lib.hid hap
      have HS := Lib.hid hs
      have HCM := Lib.hid hcm
      have HDF := Lib.hid hdf
      have HCAP := Lib.hid hc
      clear ih hk hm hap hs hcm hdf hc
      have hd : d < 128 := HAP.out.lt h
      have HT := Lib.hid (nodeOf_two f L d h)
      have ED := Lib.hid (show ((d : Int) + 1) = ((d + 1 : Nat) : Int) by omega)
      have h0 : ((L.length : Int) == 0) = false := by rw [beq_eq_false_iff_ne]; omega
      have h1 : ((L.length : Int) == 1) = false := by rw [beq_eq_false_iff_ne]; omega
      go_enter Tryd.func22, Tryd.ntmps22
      go_wp2_with fail
      refine (tHalves_any L A cap d _ hl HCAP.out HM.out HS.out HAP.out hd).mono ?_
      rintro e w1 ⟨A0, c0, A1, c1, rfl, hb1, hi0, hi1, hc0, hc1⟩
      have HB1 := Lib.hid hb1
      have HI0 := Lib.hid hi0
      have HI1 := Lib.hid hi1
      have HC0 := Lib.hid hc0
      have HC1 := Lib.hid hc1
      clear hb1 hi0 hi1 hc0 hc1 h0 h1
      go_wp2_with fail
      rw [ED.out]
      refine (IH.out (d + 1) (half L d 0) A0 c0 _ (by have := HDF.out; omega) (HAP.out.half 0) (half_rise HS.out d 0) (Nat.le_trans (half_le _ _ _) hl) HC0.out (fun x hx => HCM.out x (List.mem_filter.1 hx).1) (HK.out.below HB1.out HK.out.lt) HI0.out).mono ?_
      rintro e w2 ⟨rfl, hb2⟩
      have HI1' := Lib.hid (HI1.out.below hb2)
      have HB2 := Lib.hid (HB1.out.trans (hb2.mono HB1.out.size))
      have hs1 := nodeOf_size f (half L d 0) (d + 1)
      generalize nodeOf f (half L d 0) (d + 1) = n0 at hs1 HT
      have HS1 := Lib.hid hs1
      clear hb2 hs1
      go_wp2_with fail
      rw [ED.out]
      refine (IH.out (d + 1) (half L d 1) A1 c1 _ (by have := HDF.out; omega) (HAP.out.half 1) (half_rise HS.out d 1) (Nat.le_trans (half_le _ _ _) hl) HC1.out (fun x hx => HCM.out x (List.mem_filter.1 hx).1) (HK.out.below HB2.out HK.out.lt) HI1'.out).mono ?_
      rintro e w3 ⟨rfl, hb3⟩
      have HB3 := Lib.hid (HB2.out.trans (hb3.mono HB2.out.size))
      have hs2 := nodeOf_size f (half L d 1) (d + 1)
      generalize nodeOf f (half L d 1) (d + 1) = n1 at hs2 HT
      have HS2 := Lib.hid hs2
      clear hb3 hs2
      go_wp2_with fail
      refine (tJoin_any n0 n1 _ (HK.out.below HB3.out HK.out.lt) (by have := HS1.out; omega) (by have := HS2.out; omega)).mono ?_
      rintro e w4 ⟨rfl, hb4⟩
      have HB4 := Lib.hid (HB3.out.trans (hb4.mono HB3.out.size))
      clear hb4
      go_wp2
      go_ret
      exact ⟨by rw [HT.out]; rfl, HB4.out⟩
set_option maxRecDepth 100000 in
theorem tRoot_is (L : List It) (A : Option Addr) (cap : Nat) (x : ByteArray) (n : Int) (w : World) (hk : HasK w) (hl : L.length ≤ 1000000) (hc : L.length ≤ cap) (hm : Itms w A L) (h : rootAns L = (x, n)) :
    Calls Tryd.prog 11 #[.slice A L.length cap] w fun e w' => e = .returned (.tuple #[.string x, errOf n]) ∧ Below w.heap.size w w' := by
  have HK := Lib.hid hk
  have HM := Lib.hid hm
  have HCAP := Lib.hid hc
  clear hk hm hc
  unfold rootAns at h
  by_cases hk : rightItems L = true
  · rw [if_pos hk] at h
    cases h
    have HAP := Lib.hid (right_apart hk)
    have HCM := Lib.hid (right_cm hk)
    have HS := Lib.hid (right_sorted hk)
    have HR := Lib.hid hk
    clear hk
    go_enter Tryd.func11, Tryd.ntmps11
    go_wp2_with fail
    refine (tRight_any L A cap _ hl HM.out).mono ?_
    rintro e w1 ⟨rfl, hb1⟩
    rw [HR.out]
    have HB1 := Lib.hid hb1
    have HM1 := Lib.hid (HM.out.below hb1)
    clear hb1
    go_wp2_with fail
    refine (tNode_any 128 0 L A cap _ rfl HAP.out HS.out hl HCAP.out HCM.out (HK.out.below HB1.out HK.out.lt) HM1.out).mono ?_
    rintro e w2 ⟨rfl, hb2⟩
    have HB2 := Lib.hid (HB1.out.trans (hb2.mono HB1.out.size))
    clear hb2
    go_wp2
    refine bodyPost_ret (results_tmp2 rfl _ _ _) rfl ?_
    exact ⟨rfl, HB2.out⟩
  · rw [if_neg hk] at h
    cases h
    have HR := Lib.hid (show rightItems L = false by simpa using hk)
    clear hk
    go_enter Tryd.func11, Tryd.ntmps11
    go_wp2_with fail
    refine (tRight_any L A cap _ hl HM.out).mono ?_
    rintro e w1 ⟨rfl, hb1⟩
    rw [HR.out]
    have HB1 := Lib.hid hb1
    clear hb1
    go_wp2
    refine bodyPost_ret (results_tmp2 rfl _ _ _) rfl ?_
    exact ⟨rfl, HB1.out⟩
end Go.Proofs.YtpoibacokdjplaaDoor
