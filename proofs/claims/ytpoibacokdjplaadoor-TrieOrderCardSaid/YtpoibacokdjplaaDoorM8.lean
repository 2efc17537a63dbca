/- Parts of the proof, one behind the other: ItemHas, Order1, Clone, Pick, PTrie. -/
import Derived.Test.YtpoibacokdjplaaDoorM7
import Derived.Test.YtpoibacokdjplaaDoorM6
import Derived.Test.YtpoibacokdjplaaDoorM5
import Derived.Test.YtpoibacokdjplaaDoorM4
/- slices.Contains of items: what is among them is found. -/
namespace Go.Proofs.YtpoibacokdjplaaDoor
open Go.RowKit

set_option maxHeartbeats 1000000 in
theorem run_eql_items (a b : It) (w : World) :
    (binOp .eql 28 (.agg #[.string a.1, .string a.2]) (.agg #[.string b.1, .string b.2])).run Tryd.prog w = .ok (.bool (decide (a = b))) w := by
  rw [run_eql_struct, run_equalIn_agg _ 9999 _ _ _ itemFields stoodI]
  by_cases h2 : a.1 = b.1
  · by_cases h3 : a.2 = b.2
    · have e : decide (a = b) = true := by simp [Prod.ext_iff, h2, h3]
      rw [e, h2, h3]
      go_simp
    · have e : decide (a = b) = false := by simp [Prod.ext_iff, h3]
      have e3 := textI_ne h3
      rw [e, h2]
      go_simp
  · have e : decide (a = b) = false := by simp [Prod.ext_iff, h2]
    have e3 := textI_ne h2
    rw [e]
    go_simp
set_option maxRecDepth 100000 in
theorem indexItem_in (L : List It) (A : Option Addr) (cap : Nat) (x : It) (w : World) (hl : L.length ≤ 1000000) (hm : Itms w A L) (hx : x ∈ L) :
    Calls Tryd.prog 24 #[.slice A L.length cap, .agg #[.string x.1, .string x.2]] w fun e w' => Below w.heap.size w w' ∧ ∃ n : Int, e = .returned (.int .i64 n) ∧ 0 ≤ n := by
  have HB0 := Lib.hid (alloc_below w (.cells #[.string x.1, .string x.2] 28))
  have HM := Lib.hid (hm.below HB0.out)
  have HX := Lib.hid hx
  have HC := Lib.hid (show (w.alloc (.cells #[.string x.1, .string x.2] 28)).cell? ⟨w.heap.size, 0, none⟩ = some (.string x.1) ∧ (w.alloc (.cells #[.string x.1, .string x.2] 28)).cell? ⟨w.heap.size, 1, none⟩ = some (.string x.2) from
    ⟨cell_of_row _ w.heap.size 0 _ 28 (0, 0) (heap_alloc_new _ _), cell_of_row _ w.heap.size 1 _ 28 (0, 0) (heap_alloc_new _ _)⟩)
  clear hm hx
  go_enter Tryd.func24, Tryd.ntmps24
  go_wp2
  generalize w.alloc (.cells #[.string x.1, .string x.2] 28) = w0 at HB0 HM HC
  go_loopw [8] (fun i wr => ∃ k q : Nat, k ≤ L.length ∧ i = .int .i64 (k : Int) ∧ wr = w0.drewN q ∧ ¬ x ∈ L.take k) (fun i _ => L.length - (intOf i).toNat)
  case atStart => exact ⟨0, 0, by omega, rfl, rfl, by simp⟩
  case round =>
    obtain ⟨k, q, hk, rfl, rfl, hn⟩ := hrel
    have HN := Lib.hid hn
    clear hn
    by_cases hlt : k < L.length
    · obtain ⟨a, rfl, _, c0, c1⟩ := HM.out.at_ hlt
      have c2 : w0.cell? ⟨(a.add (k * 2)).block, (a.add (k * 2)).off + 1, none⟩ = some (.string (itAt L k).2) := c1
      obtain ⟨f0, f1⟩ := HC.out
      have HY := Lib.hid (show L[k]? = some (itAt L k) by rw [List.getElem?_eq_getElem hlt, itAt_get (List.getElem?_eq_getElem hlt)])
      generalize itAt L k = y at c0 c2 HY
      clear c1
      by_cases hxy : x = y
      · have hne : ∀ u : World, (binOp .eql 28 (.agg #[.string x.1, .string x.2]) (.agg #[.string y.1, .string y.2])).run Tryd.prog u = .ok (.bool true) u := fun u => by rw [run_eql_items, decide_eq_true hxy]
        clear hxy
        go_wp2
        go_quiet (fail)
        go_wp2
        go_ret
        exact ⟨below_drew (below_drew HB0.out _) _, k, rfl, by omega⟩
      · have hne : ∀ u : World, (binOp .eql 28 (.agg #[.string x.1, .string x.2]) (.agg #[.string y.1, .string y.2])).run Tryd.prog u = .ok (.bool false) u := fun u => by rw [run_eql_items, decide_eq_false hxy]
        have HXY := Lib.hid hxy
        clear hxy
        go_wp2
        go_quiet (fail)
        go_wp2
        go_roundw
        case rel =>
          refine ⟨k + 1, _, by omega, by go_num, rfl, ?_⟩
          rw [List.take_add_one, HY.out, List.mem_append]
          rintro (h | h)
          · exact HN.out h
          · exact HXY.out (List.mem_singleton.1 h)
        case measure => simp [intOf]; omega
    · exfalso
      refine HN.out ?_
      rw [List.take_of_length_le (by omega)]
      exact HX.out
set_option maxRecDepth 100000 in
theorem containsItem_in (L : List It) (A : Option Addr) (cap : Nat) (x : It) (w : World) (hl : L.length ≤ 1000000) (hm : Itms w A L) (hx : x ∈ L) :
    Calls Tryd.prog 15 #[.slice A L.length cap, .agg #[.string x.1, .string x.2]] w fun e w' => e = .returned (.bool true) ∧ Below w.heap.size w w' := by
  have HB0 := Lib.hid (alloc_below w (.cells #[.string x.1, .string x.2] 28))
  have HM := Lib.hid (hm.below HB0.out)
  have HX := Lib.hid hx
  clear hm hx
  go_enter Tryd.func15, Tryd.ntmps15
  go_wp2_with fail
  refine (indexItem_in L A cap x _ hl HM.out HX.out).mono ?_
  rintro e w1 ⟨hb, n, rfl, hn⟩
  have HB := Lib.hid (HB0.out.trans (hb.mono HB0.out.size))
  clear hb
  go_wp2
  go_ret
  exact ⟨rfl, HB.out⟩
end Go.Proofs.YtpoibacokdjplaaDoor
/- TrieOrder's question, whether one is set again later. -/
namespace Go.Proofs.YtpoibacokdjplaaDoor
open Go.RowKit

def againI (y x : It) : Bool := decide (x.1 = y.1) && decide (x.2.size = 16)
theorem eq_bytes {a b : ByteArray} : (a.toList == b.toList) = decide (a = b) := by
  by_cases h : a = b
  · subst h; simp
  · rw [textI_ne h, decide_eq_false h]
set_option maxRecDepth 100000 in
theorem order1_any (L : List It) (A : Option Addr) (cap k pb ib : Nat) (x : It) (w : World) (hk : k < L.length) (_hl : L.length ≤ 1000000) (hm : Itms w A L)
    (hp : w.cell? ⟨pb, 0, none⟩ = some (.slice A L.length cap)) (hi : w.cell? ⟨ib, 0, none⟩ = some (.int .i64 (k : Int))) :
    Calls Tryd.prog 14 #[.agg #[.string x.1, .string x.2], .pointer (some ⟨pb, 0, none⟩), .pointer (some ⟨ib, 0, none⟩)] w fun e w' => e = .returned (.bool (againI (itAt L k) x)) ∧ Below w.heap.size w w' := by
  have HB0 := Lib.hid (alloc_below w (.cells #[.string x.1, .string x.2] 28))
  have HM := Lib.hid (hm.below HB0.out)
  have hp0 := (HB0.out.cell (block_lt_of_cell hp)).trans hp
  have hi0 := (HB0.out.cell (block_lt_of_cell hi)).trans hi
  have hc0 : (w.alloc (.cells #[.string x.1, .string x.2] 28)).cell? ⟨w.heap.size, 0, none⟩ = some (.string x.1) := cell_of_row _ w.heap.size 0 _ 28 (0, 0) (heap_alloc_new _ _)
  have hc1 : (w.alloc (.cells #[.string x.1, .string x.2] 28)).cell? ⟨w.heap.size, 1, none⟩ = some (.string x.2) := cell_of_row _ w.heap.size 1 _ 28 (0, 0) (heap_alloc_new _ _)
  clear hm hp hi
  go_enter Tryd.func14, Tryd.ntmps14
  have HP := Lib.hid hp0
  have HI := Lib.hid hi0
  have HC0 := Lib.hid hc0
  have HC1 := Lib.hid hc1
  clear hp0 hi0 hc0 hc1
  go_wp2_with fail
  generalize w.alloc (.cells #[.string x.1, .string x.2] 28) = w0 at HB0 HM HP HI HC0 HC1
  have hp0 := HP.out
  have hi0 := HI.out
  have hc0 := HC0.out
  have hc1 := HC1.out
  clear HP HI HC0 HC1
  obtain ⟨a, rfl, _, c0, c1⟩ := HM.out.at_ hk
  generalize hy : itAt L k = y at c0 c1
  have HY := Lib.hid hy
  clear hy
  clear c1
  by_cases h1 : x.1 = y.1
  · have e1 : (x.1.toList == y.1.toList) = true := by rw [eq_bytes, decide_eq_true h1]
    have HE := Lib.hid h1
    clear h1
    by_cases h2 : x.2.size = 16
    · have HS := Lib.hid h2
      have e2 : (Value.int .i64 (x.2.size : Int)) = .int .i64 16 := by rw [h2]; rfl
      clear h2
      go_quiet (fail)
      go_wp2
      go_ret
      refine ⟨?_, below_drew HB0.out nq⟩
      unfold againI
      rw [HY.out, decide_eq_true HE.out, decide_eq_true HS.out]
      rfl
    · have HS := Lib.hid h2
      have e2 : ¬ (x.2.size : Int) = 16 := by omega
      have e3 : ((x.2.size : Int) == 16) = false := by rw [beq_eq_false_iff_ne]; exact e2
      clear h2
      go_quiet (fail)
      go_wp2
      go_ret
      refine ⟨?_, below_drew HB0.out nq⟩
      unfold againI
      rw [HY.out, decide_eq_true HE.out, decide_eq_false HS.out]
      rfl
  · have e1 : (x.1.toList == y.1.toList) = false := by rw [eq_bytes, decide_eq_false h1]
    have HE := Lib.hid h1
    clear h1
    go_quiet (fail)
    go_wp2
    go_ret
    refine ⟨?_, below_drew HB0.out nq⟩
    unfold againI
    rw [HY.out, decide_eq_false HE.out]
    rfl
set_option maxRecDepth 100000 in
theorem orderIx_any (L M : List It) (A B : Option Addr) (cap c k pb ib : Nat) (w : World) (hk : k < L.length) (hl : L.length ≤ 1000000) (hlm : M.length ≤ 1000000) (hm : Itms w A L) (hn : Itms w B M)
    (hp : w.cell? ⟨pb, 0, none⟩ = some (.slice A L.length cap)) (hi : w.cell? ⟨ib, 0, none⟩ = some (.int .i64 (k : Int))) :
    Calls Tryd.prog 23 #[.slice B M.length c, .func (.func 14) #[] #[.pointer (some ⟨pb, 0, none⟩), .pointer (some ⟨ib, 0, none⟩)]] w fun e w' => Below w.heap.size w w' ∧ ∃ n : Int, e = .returned (.int .i64 n) ∧ ((0 ≤ n ∧ M.any (againI (itAt L k)) = true) ∨ (n = -1 ∧ M.any (againI (itAt L k)) = false)) := by
  have HM := Lib.hid hm
  have HN := Lib.hid hn
  have HP := Lib.hid hp
  have HI := Lib.hid hi
  clear hm hn hp hi
  go_enter Tryd.func23, Tryd.ntmps23
  go_wp2
  go_loopw [8] (fun i wr => ∃ j : Nat, j ≤ M.length ∧ i = .int .i64 (j : Int) ∧ Below w.heap.size w wr ∧ (M.take j).any (againI (itAt L k)) = false) (fun i _ => M.length - (intOf i).toNat)
  case atStart => exact ⟨0, by omega, rfl, Below.refl _ _, rfl⟩
  case round =>
    obtain ⟨j, hj, rfl, hb, hall⟩ := hrel
    have HB := Lib.hid hb
    have HALL := Lib.hid hall
    clear hb hall
    by_cases hlt : j < M.length
    · have hmk := Itms.below HN.out HB.out
      obtain ⟨a, rfl, hal, c0, c1⟩ := hmk.at_ hlt
      have d2 : wr.cell? ⟨(a.add (j * 2)).block, (a.add (j * 2)).off + 1, none⟩ = some (.string (itAt M j).2) := c1
      have HX := Lib.hid (show M[j]? = some (itAt M j) by rw [List.getElem?_eq_getElem hlt, itAt_get (List.getElem?_eq_getElem hlt)])
      clear hmk
      generalize itAt M j = x at c0 c1 d2 HX
      go_wp2_with fail
      refine (order1_any L A cap k pb ib x _ hk hl (HM.out.below HB.out) ((HB.out.cell (block_lt_of_cell HP.out)).trans HP.out) ((HB.out.cell (block_lt_of_cell HI.out)).trans HI.out)).mono ?_
      rintro e w1 ⟨rfl, hb1⟩
      have HB1 := Lib.hid (HB.out.trans (hb1.mono HB.out.size))
      clear hb1 c0 c1 d2
      generalize hq : againI (itAt L k) x = q
      have HQ := Lib.hid hq
      clear hq
      cases q with
      | true =>
        go_wp2
        go_ret
        exact ⟨HB1.out, j, rfl, .inl ⟨by omega, List.any_eq_true.2 ⟨x, List.mem_of_getElem? HX.out, HQ.out⟩⟩⟩
      | false =>
        go_wp2
        go_roundw
        case rel =>
          refine ⟨j + 1, by omega, by go_num, HB1.out, ?_⟩
          rw [List.take_add_one, HX.out, List.any_append, HALL.out]
          simp [HQ.out]
        case measure => simp [intOf]; omega
    · go_wp2
      go_ret
      have he : M.take j = M := List.take_of_length_le (by omega)
      exact ⟨HB.out, -1, rfl, .inr ⟨rfl, by have := HALL.out; rw [he] at this; exact this⟩⟩
theorem orderHas_any (L M : List It) (A B : Option Addr) (cap c k pb ib : Nat) (w : World) (hk : k < L.length) (hl : L.length ≤ 1000000) (hlm : M.length ≤ 1000000) (hm : Itms w A L) (hn : Itms w B M)
    (hp : w.cell? ⟨pb, 0, none⟩ = some (.slice A L.length cap)) (hi : w.cell? ⟨ib, 0, none⟩ = some (.int .i64 (k : Int))) :
    Calls Tryd.prog 13 #[.slice B M.length c, .func (.func 14) #[] #[.pointer (some ⟨pb, 0, none⟩), .pointer (some ⟨ib, 0, none⟩)]] w fun e w' => e = .returned (.bool (M.any (againI (itAt L k)))) ∧ Below w.heap.size w w' := by
  have HM := Lib.hid hm
  have HN := Lib.hid hn
  have HP := Lib.hid hp
  have HI := Lib.hid hi
  clear hm hn hp hi
  go_enter Tryd.func13, Tryd.ntmps13
  go_wp2_with fail
  refine (orderIx_any L M A B cap c k pb ib _ hk hl hlm HM.out HN.out HP.out HI.out).mono ?_
  rintro e w1 ⟨hb, n, rfl, hn⟩
  have HB := Lib.hid hb
  clear hb
  rcases hn with ⟨hn, hq⟩ | ⟨rfl, hq⟩
  · have HQ := Lib.hid hq
    clear hq
    go_wp2
    go_ret
    rw [HQ.out]
    exact ⟨rfl, HB.out⟩
  · have HQ := Lib.hid hq
    clear hq
    go_wp2
    go_ret
    rw [HQ.out]
    exact ⟨rfl, HB.out⟩
end Go.Proofs.YtpoibacokdjplaaDoor
/- slices.Clone of items. -/
namespace Go.Proofs.YtpoibacokdjplaaDoor
open Go.RowKit

theorem cloneItems_any (L : List It) (A : Option Addr) (cap : Nat) (w : World) (hl : L.length ≤ 1000000) (hm : Itms w A L) :
    Calls Tryd.prog 9 #[.slice A L.length cap] w fun e w' => ∃ A' c', e = .returned (.slice A' L.length c') ∧ Below w.heap.size w w' ∧ Row w' w.heap.size 2 (.slice A' L.length c') L.length (itCells L) := by
  have HM := Lib.hid hm
  clear hm
  cases A with
  | none =>
    obtain rfl : L = [] := by
      match L, HM with
      | [], _ => rfl
      | x :: r, HM =>
        obtain ⟨a, h, _⟩ := HM.out.at_ (show 0 < (x :: r).length by simp)
        cases h
    have hnil : ∀ u : World, (binOp .eql 22 (.slice none 0 cap) (.slice none 0 0)).run Tryd.prog u = .ok (.bool true) u := fun u => by kernel_rfl
    go_enter Tryd.func9, Tryd.ntmps9
    go_wp2
    go_ret
    exact ⟨none, 0, rfl, Below.refl _ _, Row.nil _ _ _⟩
  | some x =>
    have hnil : ∀ u : World, (binOp .eql 22 (.slice (some x) L.length cap) (.slice none 0 0)).run Tryd.prog u = .ok (.bool false) u := fun u => by kernel_rfl
    go_enter Tryd.func9, Tryd.ntmps9
    obtain ⟨i0, hi0, hz0, hz1, hz2⟩ := info_parts infoItem
    have hb0 : Below w.heap.size w (w.alloc (.cells #[] 28)) := alloc_below w _
    go_wp2_with (at_builtin; refine wpList_append_copyr rfl (.tmp 5) (.tmp 6) 22 rfl 28 Tryd.underlying22 i0 _ hi0 hz0 hz1 hz2 rfl L (some x) cap w.heap.size (by simp) w.heap.size (Nat.le_refl _) rfl rfl (HM.out.below hb0) hl ?_; intro A2 cap2 w7 hb7 hi7)
    go_wp2
    go_ret
    exact ⟨A2, cap2, rfl, hb0.trans (hb7.out.mono hb0.size), hi7.out⟩
theorem clonePart_any (L : List It) (n : Nat) (A : Option Addr) (cap : Nat) (w : World) (hn : L.length = n) (hl : n ≤ 1000000) (hm : Itms w A L) :
    Calls Tryd.prog 9 #[.slice A n cap] w fun e w' => ∃ A' c', e = .returned (.slice A' n c') ∧ Below w.heap.size w w' ∧ Row w' w.heap.size 2 (.slice A' n c') n (itCells L) := by
  subst hn
  exact cloneItems_any L A cap w hl hm
end Go.Proofs.YtpoibacokdjplaaDoor
/- The keeps' pick. -/
namespace Go.Proofs.YtpoibacokdjplaaDoor
open Go.RowKit

theorem pick_any (a : Int) (n : Nat) (w : World) (h1 : 1 ≤ n) (h2 : n ≤ 1000000) :
    Calls Tryd.prog 8 #[.int .i64 a, .int .i64 n] w fun e w' => w' = w ∧ ∃ r : Nat, r < n ∧ e = .returned (.int .i64 (r : Int)) := by
  obtain ⟨r, hr, hrn⟩ : ∃ r : Nat, (IntKind.u64.wrap a).tmod n = (r : Int) ∧ r < n := by
    have hu : 0 ≤ IntKind.u64.wrap a := by
      show 0 ≤ a % 18446744073709551616
      omega
    have h3 := Int.tmod_nonneg (n : Int) hu
    have h4 := Int.tmod_lt_of_pos (IntKind.u64.wrap a) (show (0 : Int) < n by omega)
    exact ⟨((IntKind.u64.wrap a).tmod n).toNat, by omega, by omega⟩
  have HR := Lib.hid hr
  clear hr
  go_enter Tryd.func8, Tryd.ntmps8
  go_wp2
  go_ret
  rw [HR.out]
  exact ⟨rfl, r, hrn, by rw [show wrap64 (r : Int) = r by unfold wrap64; omega]; rfl⟩
end Go.Proofs.YtpoibacokdjplaaDoor
/- The program's trie: isMark, bit, Right, Empty, Leaf, Join. -/
namespace Go.Proofs.YtpoibacokdjplaaDoor
open Go.RowKit

theorem tMark_any (s : ByteArray) (w : World) : Calls Tryd.prog 21 #[.string s] w fun e w' => e = .returned (.bool (decide (s.size = 16))) ∧ w' = w := by
  by_cases h : s.size = 16
  · go_enter Tryd.func21, Tryd.ntmps21
    go_wp2
    go_ret
    exact ⟨by simp [h], rfl⟩
  · go_enter Tryd.func21, Tryd.ntmps21
    go_wp2
    go_ret
    refine ⟨?_, rfl⟩
    simp [h]; omega
theorem tBit_any (ix : ByteArray) (d : Nat) (w : World) (h16 : ix.size = 16) (hd : d < 128) :
    Calls Tryd.prog 52 #[.string ix, .int .i64 (d : Int)] w fun e w' => e = .returned (.int .i64 ((bitOf ix.data.toList d : Nat) : Int)) ∧ w' = w := by
  have HB := Lib.hid (show bitAns ix (d : Int) = (((bitOf ix.data.toList d : Nat) : Int), 0) by
    unfold bitAns
    rw [if_pos h16, if_pos (by omega), Int.toNat_natCast])
  clear h16 hd
  go_enter Tryd.func52, Tryd.ntmps52
  go_wp2_with fail
  refine (ixBit_is ix d _ 0 _ HB.out).mono ?_
  rintro e w1 ⟨rfl, rfl⟩
  go_wp2
  go_ret
  exact ⟨rfl, rfl⟩
theorem tEmpty_any (d : Int) (w : World) (hk : HasK w) : Calls Tryd.prog 38 #[.int .i64 d] w fun e w' => e = .returned (.string (emptyM d)) ∧ Below w.heap.size w w' := by
  have HK := Lib.hid hk
  clear hk
  go_enter Tryd.func38, Tryd.ntmps38
  go_wp2_with fail
  refine (num_any d _).mono ?_
  rintro e w1 ⟨rfl, hb1⟩
  have HB1 := Lib.hid hb1
  clear hb1
  go_wp2_with fail
  refine (mark_any 101 [txt (num8 d)] (some ⟨w1.heap.size, 0, none⟩) 1 _ ((HK.out.below HB1.out HK.out.lt).below (alloc_below w1 _) (Nat.lt_of_lt_of_le HK.out.lt HB1.out.size)) (by simp [total, num_size]) (by simp) (strs_new w1 [txt (num8 d)] 9)).mono ?_
  rintro e w2 ⟨rfl, hb2⟩
  have HB2 := Lib.hid (HB1.out.trans ((alloc_below w1 (.cells #[.string (txt (num8 d))] 9)).mono HB1.out.size |>.trans (hb2.mono (Nat.le_trans HB1.out.size (by simp)))))
  clear hb2
  go_wp2
  go_ret
  exact ⟨rfl, HB2.out⟩
theorem tJoin_any (x y : ByteArray) (w : World) (hk : HasK w) (hx : x.size ≤ 1000000) (hy : y.size ≤ 1000000) :
    Calls Tryd.prog 41 #[.string x, .string y] w fun e w' => e = .returned (.string (joinM x y)) ∧ Below w.heap.size w w' := by
  have HK := Lib.hid hk
  clear hk
  go_enter Tryd.func41, Tryd.ntmps41
  go_wp2_with fail
  refine (mark_any 110 [x, y] (some ⟨w.heap.size, 0, none⟩) 2 _ (HK.out.below (alloc_below w _) HK.out.lt) (by simp [total]; omega) (by simp) (strs_new w [x, y] 9)).mono ?_
  rintro e w2 ⟨rfl, hb2⟩
  have HB2 := Lib.hid ((alloc_below w (.cells #[.string x, .string y] 9)).trans (hb2.mono (by simp)))
  clear hb2
  go_wp2
  go_ret
  exact ⟨rfl, HB2.out⟩
set_option maxRecDepth 100000 in
theorem tLeaf_any (x : It) (d : Int) (w : World) (hk : HasK w) (hx : x.1.size ≤ 1000000) (hy : x.2.size ≤ 1000000) :
    Calls Tryd.prog 39 #[.agg #[.string x.1, .string x.2], .int .i64 d] w fun e w' => e = .returned (.string (leafM x d)) ∧ Below w.heap.size w w' := by
  have HK := Lib.hid hk
  have HX := Lib.hid hx
  have HY := Lib.hid hy
  clear hk hx hy
  go_enter Tryd.func39, Tryd.ntmps39
  go_wp2
  have hb1 : Below w.heap.size w (w.alloc (.cells #[.string x.1, .string x.2] 28)) := alloc_below _ _
  have hN1 : w.heap.size < (w.alloc (.cells #[.string x.1, .string x.2] 28)).heap.size := by simp
  have e0 : (w.alloc (.cells #[.string x.1, .string x.2] 28)).cell? ⟨w.heap.size, 0, none⟩ = some (.string x.1) := cell_of_row _ w.heap.size 0 _ 28 (0, 0) (heap_alloc_new _ _)
  have e1 : (w.alloc (.cells #[.string x.1, .string x.2] 28)).cell? ⟨w.heap.size, 1, none⟩ = some (.string x.2) := cell_of_row _ w.heap.size 1 _ 28 (0, 0) (heap_alloc_new _ _)
  have HB1 := Lib.hid hb1
  have E0 := Lib.hid e0
  have E1 := Lib.hid e1
  clear hb1 e0 e1
  generalize hw1 : w.alloc (.cells #[.string x.1, .string x.2] 28) = w1 at HB1 E0 E1 hN1
  clear hw1
  have hs0 : w1.cell? ⟨w.heap.size, 0, none⟩ = some (.string x.1) ∧ w1.cell? ⟨w.heap.size, 1, none⟩ = some (.string x.2) ∧ Below w1.heap.size w1 w1.drew := ⟨E0.out, E1.out, (Below.refl _ _).drew⟩
  have KEEP : ∀ u v : World, (u.cell? ⟨w.heap.size, 0, none⟩ = some (.string x.1) ∧ u.cell? ⟨w.heap.size, 1, none⟩ = some (.string x.2) ∧ Below w1.heap.size w1 u) → Below u.heap.size u v → (v.cell? ⟨w.heap.size, 0, none⟩ = some (.string x.1) ∧ v.cell? ⟨w.heap.size, 1, none⟩ = some (.string x.2) ∧ Below w1.heap.size w1 v) :=
    fun u v ⟨h0, h1, hb⟩ hv => ⟨(hv.cell (by have := hb.size; show w.heap.size < _; omega)).trans h0, (hv.cell (by have := hb.size; show w.heap.size < _; omega)).trans h1, hb.trans (hv.mono hb.size)⟩
  have HKEEP := Lib.hid KEEP
  have HS0 := Lib.hid hs0
  have HHOLD := Lib.hid (show ∀ u : World, (u.cell? ⟨w.heap.size, 0, none⟩ = some (.string x.1) ∧ u.cell? ⟨w.heap.size, 1, none⟩ = some (.string x.2) ∧ Below w1.heap.size w1 u) → HasK u from fun u hu => (HK.out.below HB1.out HK.out.lt).below hu.2.2 (Nat.lt_of_lt_of_le HK.out.lt HB1.out.size))
  have HTOT := Lib.hid (show total [txt (num8 d), x.1, x.2] ≤ 1073741800 by have := HX.out; have := HY.out; simp [total, num_size]; omega)
  clear KEEP hs0
  go_region_held3 (fun w' => w'.cell? ⟨w.heap.size, 0, none⟩ = some (.string x.1) ∧ w'.cell? ⟨w.heap.size, 1, none⟩ = some (.string x.2) ∧ Below w1.heap.size w1 w') (first | exact HS0.out | (refine HKEEP.out _ _ ?_ (by assumption); first | exact HS0.out | assumption | exact ⟨by assumption, by assumption, by assumption⟩) | (refine HKEEP.out _ _ ?_ (alloc_below _ _); first | exact HS0.out | assumption | exact ⟨by assumption, by assumption, by assumption⟩))
    (first | (go_at_call 19; refine (num_any d _).mono ?_; rintro e w2 ⟨rfl, hb2⟩) | (go_at_call 18; refine (mark_any 108 [txt (num8 d), x.1, x.2] (some ⟨_, 0, none⟩) 3 _ (HHOLD.out _ (by assumption)) HTOT.out (by simp) (strs_new _ [txt (num8 d), x.1, x.2] 9)).mono ?_; rintro e w2 ⟨rfl, hb2⟩))
  rename_i _ _ w2 _ hheld
  have HB2 := Lib.hid (HB1.out.trans (hheld.2.2.mono HB1.out.size))
  clear hheld
  go_wp2
  go_ret
  exact ⟨rfl, HB2.out⟩
theorem ge_cases {x y : It} {j : Nat} (m1 : x.1.size = 16) (m2 : x.2.size = 16) :
    (Op.bytesLess y.1.toList x.1.toList = true ∧ (decide (x.1.size = 16) && decide (x.2.size = 16) && (decide (j + 1 = 0) || decide (y.1.data.toList < x.1.data.toList))) = true) ∨
    (Op.bytesLess y.1.toList x.1.toList = false ∧ (decide (x.1.size = 16) && decide (x.2.size = 16) && (decide (j + 1 = 0) || decide (y.1.data.toList < x.1.data.toList))) = false) := by
  rw [decide_eq_true m1, decide_eq_true m2, decide_eq_false (show ¬ j + 1 = 0 by omega), bytesLess_eq, ByteArray.toList_eq, ByteArray.toList_eq]
  by_cases h2 : y.1.data.toList < x.1.data.toList
  · exact .inl ⟨by simp [h2], by rw [decide_eq_true h2]; rfl⟩
  · exact .inr ⟨by simp [h2], by rw [decide_eq_false h2]; rfl⟩
set_option maxRecDepth 100000 in
theorem tRight_any (L : List It) (A : Option Addr) (cap : Nat) (w : World) (hl : L.length ≤ 1000000) (hm : Itms w A L) :
    Calls Tryd.prog 7 #[.slice A L.length cap] w fun e w' => e = .returned (.bool (rightItems L)) ∧ Below w.heap.size w w' := by
  have HM := Lib.hid hm
  clear hm
  by_cases h60 : 60 < L.length
  · have HF := Lib.hid (show rightItems L = false by unfold rightItems; rw [decide_eq_false (show ¬ L.length ≤ 60 by omega), Bool.and_false])
    go_enter Tryd.func7, Tryd.ntmps7
    go_wp2
    go_ret
    exact ⟨by rw [HF.out]; rfl, Below.refl _ _⟩
  · have h60' : ¬ (60 : Int) < (L.length : Int) := by omega
    have HLE := Lib.hid (show L.length ≤ 60 by omega)
    clear h60
    go_enter Tryd.func7, Tryd.ntmps7
    go_wp2
    go_loopw [10] (fun i wr => ∃ k : Nat, k ≤ L.length ∧ i = .int .i64 (k : Int) ∧ goodItems L k = true ∧ Below w.heap.size w wr) (fun i _ => L.length - (intOf i).toNat)
    case atStart => exact ⟨0, by omega, rfl, rfl, Below.refl _ _⟩
    case round =>
      obtain ⟨k, hk, rfl, hg, hb⟩ := hrel
      have HG := Lib.hid hg
      have HB := Lib.hid hb
      clear hg hb
      by_cases hlt : k < L.length
      · obtain ⟨a, rfl, hal, c0, c1⟩ := HM.out.at_ hlt
        have hal' : a.block < w.heap.size := hal
        have d0 : wr.cell? (a.add (k * 2)) = some (.string (itAt L k).1) := (HB.out.cell (by rw [block_add]; exact hal)).trans c0
        have d1 : wr.cell? ((a.add (k * 2)).add 1) = some (.string (itAt L k).2) := (HB.out.cell (by rw [block_add, block_add]; exact hal)).trans c1
        have d2 : wr.cell? ⟨(a.add (k * 2)).block, (a.add (k * 2)).off + 1, none⟩ = some (.string (itAt L k).2) := d1
        clear c0 c1 hal d1
        generalize hxk : itAt L k = x at d0 d2
        have HXK := Lib.hid hxk
        clear hxk
        go_wp2_with fail
        have hb1 : Below w.heap.size w (wr.alloc (.cells #[.string x.1, .string x.2] 28)) := HB.out.alloc HB.out.size _
        have hN1 : wr.heap.size < (wr.alloc (.cells #[.string x.1, .string x.2] 28)).heap.size := by simp
        have e0 : (wr.alloc (.cells #[.string x.1, .string x.2] 28)).cell? ⟨wr.heap.size, 0, none⟩ = some (.string x.1) := cell_of_row _ wr.heap.size 0 _ 28 (0, 0) (heap_alloc_new _ _)
        have e1 : (wr.alloc (.cells #[.string x.1, .string x.2] 28)).cell? ⟨wr.heap.size, 1, none⟩ = some (.string x.2) := cell_of_row _ wr.heap.size 1 _ 28 (0, 0) (heap_alloc_new _ _)
        have HB1 := Lib.hid hb1
        clear hb1 d0 d2
        generalize hw1 : wr.alloc (.cells #[.string x.1, .string x.2] 28) = w1 at HB1 e0 e1 hN1
        clear hw1
        refine (tMark_any x.1 _).mono ?_
        rintro e w1 ⟨rfl, rfl⟩
        by_cases m1 : x.1.size = 16
        · rw [decide_eq_true m1]
          go_wp2_with fail
          refine (tMark_any x.2 _).mono ?_
          rintro e w1 ⟨rfl, rfl⟩
          by_cases m2 : x.2.size = 16
          · rw [decide_eq_true m2]
            cases k with
            | zero =>
              have HG1 := Lib.hid (show goodItems L (0 + 1) = true by rw [goodItems_next, HG.out, Bool.true_and]; unfold goodItem; rw [HXK.out]; simp [m1, m2])
              clear m1 m2
              go_wp2
              go_quiet (fail)
              go_wp2
              go_roundw
              case rel => exact ⟨0 + 1, by omega, by go_num, HG1.out, below_drew HB1.out _⟩
              case measure => simp [intOf]; omega
            | succ j =>
              obtain ⟨a', ha', _, f0, _⟩ := HM.out.at_ (show j < L.length by omega)
              cases ha'
              have g0 : w1.cell? (a.add (j * 2)) = some (.string (itAt L j).1) := (HB1.out.cell (by rw [block_add]; exact hal')).trans f0
              generalize hyk : itAt L j = y at g0
              have HYK := Lib.hid hyk
              clear hyk f0
              have hlq : (((j + 1 : Nat) : Int)) = (j : Int) + 1 := by omega
              have s1 : IntKind.i64.wrap (((j + 1 : Nat) : Int) - 1) = (j : Int) := by rw [hlq, show (j : Int) + 1 - 1 = (j : Int) by omega]; exact IntWalk.i64_in _ (by omega)
              have s2 : (0 : Int) < ((j + 1 : Nat) : Int) := by omega
              have s3 : (j : Int) < (L.length : Int) := by omega
              have hcase : (Op.bytesLess y.1.toList x.1.toList = true ∧ goodItem L (j + 1) = true) ∨ (Op.bytesLess y.1.toList x.1.toList = false ∧ goodItem L (j + 1) = false) := by
                unfold goodItem
                rw [HXK.out, show j + 1 - 1 = j from rfl, HYK.out]
                exact ge_cases m1 m2
              clear m1 m2 hlq
              rcases hcase with ⟨b1, hgi⟩ | ⟨b1, hgi⟩
              · have HG1 := Lib.hid (show goodItems L (j + 1 + 1) = true by rw [goodItems_next, HG.out, Bool.true_and, hgi])
                clear hgi
                go_wp2
                go_quiet (fail)
                go_wp2
                go_roundw
                case rel => exact ⟨j + 1 + 1, by omega, by go_num, HG1.out, below_drew HB1.out _⟩
                case measure => simp [intOf]; omega
              · have HF := Lib.hid (show rightItems L = false by unfold rightItems; rw [goodItems_false hgi hlt]; rfl)
                clear hgi
                go_wp2
                go_quiet (fail)
                go_wp2
                go_ret
                exact ⟨by rw [HF.out]; rfl, below_drew HB1.out _⟩
          · have HF := Lib.hid (show rightItems L = false by unfold rightItems; rw [goodItems_false (k := k) (by unfold goodItem; rw [HXK.out, decide_eq_false m2]; simp) hlt]; rfl)
            rw [decide_eq_false m2]
            clear m1 m2
            go_wp2
            go_ret
            exact ⟨by rw [HF.out]; rfl, HB1.out⟩
        · have HF := Lib.hid (show rightItems L = false by unfold rightItems; rw [goodItems_false (k := k) (by unfold goodItem; rw [HXK.out, decide_eq_false m1]; simp) hlt]; rfl)
          rw [decide_eq_false m1]
          clear m1
          go_wp2
          go_ret
          exact ⟨by rw [HF.out]; rfl, HB1.out⟩
      · have hkn : k = L.length := by omega
        have HF := Lib.hid (show rightItems L = true by
          unfold rightItems
          rw [← hkn, HG.out, Bool.true_and, decide_eq_true_eq, hkn]; exact HLE.out)
        clear hkn
        go_wp2
        go_ret
        exact ⟨by rw [HF.out]; rfl, HB.out⟩
end Go.Proofs.YtpoibacokdjplaaDoor
