/- Parts of the proof, one behind the other: Root, KTab, New, OnceLaw, ItemEq, ItemHas, QMarks, QWalk. -/
import Derived.Test.YtmfijppfpajpbaaDoorM7
import Derived.Test.YtmfijppfpajpbaaDoorM6
import Derived.Test.YtmfijppfpajpbaaDoorM9
import Derived.Laws.StructEq
/- The document's numbers of rounds: root. -/
namespace Go.Proofs.YtmfijppfpajpbaaDoor
open Go.RowKit

def searchL (k p : Nat) : Nat → Nat → Nat → Nat
  | 0, low, _ => low
  | f + 1, low, high => if low + 1 < high then (if aboveL ((low + high) / 2) k p then searchL k p f low ((low + high) / 2) else searchL k p f ((low + high) / 2) high) else low
def rootL (p k : Nat) : Nat := searchL k p 40 0 1099511627776 % 4294967296
theorem searchL_done (k p f low high : Nat) (h : ¬ low + 1 < high) : searchL k p f low high = low := by
  cases f with
  | zero => rfl
  | succ f => show (if low + 1 < high then _ else low) = low; rw [if_neg h]
theorem searchL_step (k p f low high x : Nat) (h : low + 1 < high) (hx : (low + high) / 2 = x) : searchL k p (f + 1) low high = if aboveL x k p then searchL k p f low x else searchL k p f x high := by
  show (if low + 1 < high then _ else low) = _; rw [if_pos h, hx]

set_option maxRecDepth 100000 in
theorem root_any (p k : Nat) (w : World) (hk : k ≤ 3) :
    Calls Tryd.prog 16 #[.int .u64 (p : Int), .int .i64 (k : Int)] w fun e w' => e = .returned (.int .u32 ((rootL p k : Nat) : Int)) ∧ Below w.heap.size w w' := by
  go_enter Tryd.func16, Tryd.ntmps16
  go_wp2
  go_loopw [5, 6, 7] (fun lo hi x wr => ∃ low high f : Nat, lo = .int .u64 (low : Int) ∧ hi = .int .u64 (high : Int) ∧ high ≤ 1099511627776 ∧ low ≤ 1099511627776 ∧ low ≤ high ∧ high - low ≤ 2 ^ f ∧ searchL k p f low high = searchL k p 40 0 1099511627776 ∧ Below w.heap.size w wr)
    (fun lo hi _ _ => (intOf hi).toNat - (intOf lo).toNat)
  case atStart =>
    exact ⟨0, 1099511627776, 40, rfl, rfl, by omega, by omega, by omega, by decide, rfl, Below.refl _ _⟩
  case round =>
    obtain ⟨low, high, f, rfl, rfl, hh, hl, hlh, hf, hs, hb⟩ := hrel
    have HS := Lib.hid hs
    have HB := Lib.hid hb
    have HF := Lib.hid hf
    clear hs hb hf
    by_cases hlt : low + 1 < high
    · obtain ⟨x, hx⟩ : ∃ x, (low + high) / 2 = x := ⟨_, rfl⟩
      have hxi : ((low : Int) + (high : Int)) / 2 = (x : Int) := by omega
      have hx1 : low < x := by omega
      have hx2 : x < high := by omega
      have hx3 : x ≤ 1099511627776 := by omega
      have HX := Lib.hid hx
      obtain ⟨f', rfl⟩ : ∃ f', f = f' + 1 := by
        cases f with
        | zero => have := HF.out; simp at this; omega
        | succ f => exact ⟨f, rfl⟩
      have hp : high - low ≤ 2 * 2 ^ f' := by have := HF.out; rw [Nat.pow_succ] at this; omega
      have hs := HS.out
      rw [searchL_step k p f' low high x hlt hx] at hs
      have h1 : x - low ≤ 2 ^ f' := by omega
      have h2 : high - x ≤ 2 ^ f' := by omega
      have H1 := Lib.hid h1
      have H2 := Lib.hid h2
      have HS2 := Lib.hid hs
      clear hs hp hx h1 h2
      cases hab : aboveL x k p with
      | true =>
        go_wp2_with (go_at_call 29; refine (above_any x k p _ hx3 hk).mono ?_; rintro e w1 ⟨rfl, hb1⟩; have HB1 := Lib.hid hb1; clear hb1; rw [hab])
        go_wp2
        go_roundw
        case rel =>
          refine ⟨low, x, f', rfl, rfl, by omega, by omega, by omega, H1.out, ?_, HB.out.trans (HB1.out.mono HB.out.size)⟩
          have h := HS2.out; rw [hab, if_pos rfl] at h; exact h
        case measure => simp [intOf]; omega
      | false =>
        go_wp2_with (go_at_call 29; refine (above_any x k p _ hx3 hk).mono ?_; rintro e w1 ⟨rfl, hb1⟩; have HB1 := Lib.hid hb1; clear hb1; rw [hab])
        go_wp2
        go_roundw
        case rel =>
          refine ⟨x, high, f', rfl, rfl, by omega, by omega, by omega, H2.out, ?_, HB.out.trans (HB1.out.mono HB.out.size)⟩
          have h := HS2.out; rw [hab, if_neg (by decide)] at h; exact h
        case measure => simp [intOf]; omega
    · go_wp2
      go_ret
      refine ⟨?_, HB.out⟩
      have h := HS.out
      rw [searchL_done k p f low high hlt] at h
      unfold rootL; rw [← h]; rfl
end Go.Proofs.YtmfijppfpajpbaaDoor
/- The numbers of rounds, reckoned from roots of primes, are the tables'. -/
namespace Go.Proofs.YtmfijppfpajpbaaDoor
open Go.RowKit

theorem k_all : (List.range 64).all (fun i => rootL ((pl 310).getD i 0) 3 == kTab.getD i 0) = true := by decide +kernel
theorem h_all : (List.range 8).all (fun i => rootL ((pl 310).getD i 0) 2 == (iv i).toNat) = true := by decide +kernel
theorem k_root (i : Nat) (h : i < 64) : rootL ((pl 310).getD i 0) 3 = kTab.getD i 0 := by
  have := List.all_eq_true.1 k_all i (List.mem_range.2 h); simpa using this
theorem h_root (i : Nat) (h : i < 8) : rootL ((pl 310).getD i 0) 2 = (iv i).toNat := by
  have := List.all_eq_true.1 h_all i (List.mem_range.2 h); simpa using this

theorem k_val (i : Nat) (h : i < 64) : ((rootL ((pl 310).getD i 0) 3 : Nat) : Int) = W32 (kOf i) := by
  have h1 := k_root i h
  have h2 : rootL ((pl 310).getD i 0) 3 < 4294967296 := Nat.mod_lt _ (by decide)
  rw [h1] at h2 ⊢
  unfold W32 kOf
  rw [BitVec.toNat_ofNat, Nat.mod_eq_of_lt (by omega)]
theorem h_val (i : Nat) (h : i < 8) : ((rootL ((pl 310).getD i 0) 2 : Nat) : Int) = W32 (iv i) := by
  have h1 := h_root i h
  rw [h1]; rfl

end Go.Proofs.YtmfijppfpajpbaaDoor
/- The document's numbers of rounds: New. -/
namespace Go.Proofs.YtmfijppfpajpbaaDoor
open Go.RowKit

def partR (i j : Nat) : Value := if j < 8 then (if j < i then .int .u32 (W32 (iv j)) else .int .u32 0) else if j - 8 < i then .int .u32 (W32 (kOf (j - 8))) else .int .u32 0
theorem zeroR (w : World) : (zeroValue 48).run Tryd.prog w = .ok (.agg (arr 72 fun _ => .int .u32 0)) w := by kernel_rfl
structure NewRel (N : Nat) (w wr : World) (v : Value) (i : Nat) : Prop where
  below : Below N w wr
  own : Holds wr N 72 (partR i) 48
  row : Row wr (N + 1) 1 v 64 (i64s (pl 310))

set_option maxRecDepth 100000 in
theorem new_any (w : World) :
    Calls Tryd.prog 6 #[] w fun e w' => ∃ b, e = .returned (.pointer (some ⟨b, 0, none⟩)) ∧ w.heap.size ≤ b ∧ Below w.heap.size w w' ∧ Holds w' b 72 refCells 48 := by
  go_enter Tryd.func6, Tryd.ntmps6
  have hzR := zeroR
  go_wp2_with (go_at_call 15; refine (primes_any _).mono ?_; rintro e w1 ⟨v1, rfl, hb1, hr1⟩; obtain ⟨q, cap, rfl⟩ := hr1.any; have HB1 := Lib.hid hb1; have HR1 := Lib.hid hr1; clear hb1 hr1)
  clear hzR
  go_loopw [8] (fun i wr => ∃ n : Nat, n ≤ 64 ∧ i = .int .i64 (n : Int) ∧ NewRel w.heap.size w wr (.slice q 64 cap) n) (fun i _ => 64 - (intOf i).toNat)
  case atStart =>
    refine ⟨0, by omega, rfl, ?_, ?_, ?_⟩
    · exact ((Below.refl _ _).alloc (Nat.le_refl _) _).trans (HB1.out.mono (by simp))
    · refine ((Holds.new w 72 (fun _ => .int .u32 0) 48).below HB1.out (by simp)).congr fun j hj => ?_
      unfold partR; split <;> rw [if_neg (by omega)]
    · have h := HR1.out; simpa using h
  case round =>
    obtain ⟨n, hn, rfl, hr⟩ := hrel
    have HR := Lib.hid hr
    clear hr
    by_cases hlt : n < 64
    · obtain ⟨g, cap', hv, hg1, hg2, _, hcell, _⟩ := HR.out.row.shape (by omega)
      injection hv with e1 e2 e3
      subst e1
      have hc := hcell n _ (i64s_get (pl 310) n (by rw [pl_310]; exact hlt))
      have hp := pl_pos 310 n (by rw [pl_310]; exact hlt)
      have hkv := k_val n hlt
      have hlow := h_val n
      clear hcell e3
      generalize (pl 310).getD n 0 = p at hc hp hkv hlow
      have HK := Lib.hid hkv
      have HL := Lib.hid hlow
      have hN : w.heap.size < wr.heap.size := HR.out.own.lt
      clear hkv hlow
      by_cases h8 : n < 8
      · go_wp2
        refine wp_region_head_tail (fun w' => ∃ z : Later wr.heap.size wr, w' = z.at') 8 (by kernel_rfl) (by kernel_rfl) ⟨⟨wr.drew, (Below.refl _ _).drew⟩, rfl⟩ ?_
        simp only [List.take_succ_cons, List.take_zero, List.drop_succ_cons, List.drop_zero]
        repeat (first | go_big_quiet_step ((go_at_call 16; refine later_of (root_any p 3 _ (by decide)))) | quiet_step ((go_at_call 16; refine later_of (root_any p 3 _ (by decide)))))
        refine wpQuiet_nil ?_
        rintro w4 ⟨⟨w4, hb4⟩, rfl⟩
        have hown4 := HR.out.own.below hb4 hN
        have hcell4 := hown4.cell (8 + n) (by omega)
        have hfree4 := hown4.free (8 + n)
        rw [show partR n (8 + n) = .int .u32 0 by unfold partR; rw [if_neg (by omega), if_neg (by omega)]] at hcell4
        have HOWN4 := Lib.hid hown4
        have HB4 := Lib.hid hb4
        clear hown4 hb4
        go_wp2
        have hN5 : w.heap.size < (w4.setCell ⟨w.heap.size, 8 + n, none⟩ (.int .u32 ((rootL p 3 : Nat) : Int))).heap.size := by have := HB4.out.size; simp [World.setCell]; omega
        have hown5 := HOWN4.out.set (8 + n) (.int .u32 ((rootL p 3 : Nat) : Int))
        have hb5 : Below w.heap.size w (w4.setCell ⟨w.heap.size, 8 + n, none⟩ (.int .u32 ((rootL p 3 : Nat) : Int))) := (HR.out.below.trans (HB4.out.mono (Nat.le_of_lt hN))).setCell (Nat.le_refl _) _
        have hrow5 : Row (w4.setCell ⟨w.heap.size, 8 + n, none⟩ (.int .u32 ((rootL p 3 : Nat) : Int))) (w.heap.size + 1) 1 (.slice (some ⟨g, 0, none⟩) 64 cap) 64 (i64s (pl 310)) := (HR.out.row.belowAll HB4.out).setOther (HR.out.row.fresh (Nat.lt_succ_self _)) _
        have HOWN5 := Lib.hid hown5
        have HB5 := Lib.hid hb5
        have HROW5 := Lib.hid hrow5
        clear hown5 hb5 hrow5 hcell4 hfree4
        generalize hw5 : w4.setCell ⟨w.heap.size, 8 + n, none⟩ (.int .u32 ((rootL p 3 : Nat) : Int)) = w5 at HOWN5 HB5 HROW5 hN5
        clear hw5
        refine wp_region_head_tail (fun w' => ∃ z : Later w5.heap.size w5, w' = z.at') 8 (by kernel_rfl) (by kernel_rfl) ⟨⟨w5.drew, (Below.refl _ _).drew⟩, rfl⟩ ?_
        simp only [List.take_succ_cons, List.take_zero, List.drop_succ_cons, List.drop_zero]
        repeat (first | go_big_quiet_step ((go_at_call 16; refine later_of (root_any p 2 _ (by decide)))) | quiet_step ((go_at_call 16; refine later_of (root_any p 2 _ (by decide)))))
        refine wpQuiet_nil ?_
        rintro w6 ⟨⟨w6, hb6⟩, rfl⟩
        have hown6 := HOWN5.out.below hb6 hN5
        have hcell6 := hown6.cell n (by omega)
        have hfree6 := hown6.free n
        rw [show upd (partR n) (8 + n) (.int .u32 ((rootL p 3 : Nat) : Int)) n = .int .u32 0 by unfold upd partR; rw [if_neg (by omega), if_pos (by omega), if_neg (by omega)]] at hcell6
        have HOWN6 := Lib.hid hown6
        have HB6 := Lib.hid hb6
        clear hown6 hb6
        go_wp2
        go_roundw
        case rel =>
          refine ⟨n + 1, by omega, by go_num, ?_, ?_, ?_⟩
          · exact (HB5.out.trans (HB6.out.mono (Nat.le_of_lt hN5))).setCell (Nat.le_refl _) _
          · refine (HOWN6.out.set n _).congr fun j hj => ?_
            rw [HK.out, HL.out h8]
            unfold upd partR
            by_cases hj8 : j < 8
            · rw [if_pos hj8, if_pos hj8]
              by_cases hjn : j = n
              · subst hjn; rw [if_pos rfl, if_pos (by omega)]
              · rw [if_neg hjn, if_neg (by omega)]
                by_cases hjl : j < n
                · rw [if_pos hjl, if_pos (by omega)]
                · rw [if_neg hjl, if_neg (by omega)]
            · rw [if_neg (by omega), if_neg hj8, if_neg hj8]
              by_cases hjn : j = 8 + n
              · subst hjn; rw [if_pos rfl, if_pos (by omega), show 8 + n - 8 = n by omega]
              · rw [if_neg hjn]
                by_cases hjl : j - 8 < n
                · rw [if_pos hjl, if_pos (by omega)]
                · rw [if_neg hjl, if_neg (by omega)]
          · exact (HROW5.out.belowAll HB6.out).setOther (HROW5.out.fresh (Nat.lt_succ_self _)) _
        case measure => simp [intOf]; omega
      · go_wp2
        refine wp_region_head_tail (fun w' => ∃ z : Later wr.heap.size wr, w' = z.at') 8 (by kernel_rfl) (by kernel_rfl) ⟨⟨wr.drew, (Below.refl _ _).drew⟩, rfl⟩ ?_
        simp only [List.take_succ_cons, List.take_zero, List.drop_succ_cons, List.drop_zero]
        repeat (first | go_big_quiet_step ((go_at_call 16; refine later_of (root_any p 3 _ (by decide)))) | quiet_step ((go_at_call 16; refine later_of (root_any p 3 _ (by decide)))))
        refine wpQuiet_nil ?_
        rintro w4 ⟨⟨w4, hb4⟩, rfl⟩
        have hown4 := HR.out.own.below hb4 hN
        have hcell4 := hown4.cell (8 + n) (by omega)
        have hfree4 := hown4.free (8 + n)
        rw [show partR n (8 + n) = .int .u32 0 by unfold partR; rw [if_neg (by omega), if_neg (by omega)]] at hcell4
        have HOWN4 := Lib.hid hown4
        have HB4 := Lib.hid hb4
        clear hown4 hb4
        go_wp2
        go_roundw
        case rel =>
          refine ⟨n + 1, by omega, by go_num, ?_, ?_, ?_⟩
          · exact (HR.out.below.trans (HB4.out.mono (Nat.le_of_lt hN))).setCell (Nat.le_refl _) _
          · refine (HOWN4.out.set (8 + n) _).congr fun j hj => ?_
            rw [HK.out]
            unfold upd partR
            by_cases hj8 : j < 8
            · rw [if_neg (by omega), if_pos hj8, if_pos hj8, if_pos (by omega), if_pos (by omega)]
            · rw [if_neg hj8, if_neg hj8]
              by_cases hjn : j = 8 + n
              · subst hjn; rw [if_pos rfl, if_pos (by omega), show 8 + n - 8 = n by omega]
              · rw [if_neg hjn]
                by_cases hjl : j - 8 < n
                · rw [if_pos hjl, if_pos (by omega)]
                · rw [if_neg hjl, if_neg (by omega)]
          · exact (HR.out.row.belowAll HB4.out).setOther (HR.out.row.fresh (Nat.lt_succ_self _)) _
        case measure => simp [intOf]; omega
    · have h64 : n = 64 := by omega
      have H64 := Lib.hid h64
      clear h64
      go_wp2
      go_ret
      refine ⟨w.heap.size, rfl, Nat.le_refl _, HR.out.below, HR.out.own.congr fun j hj => ?_⟩
      have := H64.out
      unfold partR refCells
      by_cases hj8 : j < 8
      · rw [if_pos hj8, if_pos hj8, if_pos (by omega)]
      · rw [if_neg hj8, if_neg hj8, if_pos (by omega)]
end Go.Proofs.YtmfijppfpajpbaaDoor
/- OnceSigns, the walk, over whatever contracts the program's once keeps. -/
namespace Go.Proofs.YtmfijppfpajpbaaDoor
open Go.RowKit

/-- What the program's once answers. -/
structure OnceFace : Prop where
  pub : ∀ (seed : ByteArray) (key : Int) (x : ByteArray) (n : Int) (w : World), HasK w → seed.size ≤ 1000000 → publicAns seed key = (x, n) →
    Calls Tryd.prog 8 #[.string seed, .int .i64 key] w fun e w' => e = .returned (.tuple #[.string x, errOf n]) ∧ Below w.heap.size w w'
  sign : ∀ (seed : ByteArray) (key : Int) (m : ByteArray) (T : List ByteArray) (n : Int) (w : World), HasK w → seed.size ≤ 1000000 → m.size ≤ 1000000 → signAns seed key m = (T, n) →
    Calls Tryd.prog 11 #[.string seed, .int .i64 key, .string m] w fun e w' => ∃ A cap, e = .returned (.tuple #[.slice A T.length cap, errOf n]) ∧ Below w.heap.size w w' ∧ Strs w' A T
  from_ : ∀ (m : ByteArray) (S : List ByteArray) (A : Option Addr) (cap : Nat) (x : ByteArray) (n : Int) (w : World), HasK w → m.size ≤ 1000000 → S.length ≤ 1000000 → Strs w A S → fromAns m S = (x, n) →
    Calls Tryd.prog 14 #[.string m, .slice A S.length cap] w fun e w' => e = .returned (.tuple #[.string x, errOf n]) ∧ Below w.heap.size w w'

def twoSl (a b : Value) : Nat → Value := fun i => if i = 0 then a else b
theorem sign_len {seed : ByteArray} {key : Int} {m : ByteArray} {T : List ByteArray} {n : Int} (h : signAns seed key m = (T, n)) : T.length ≤ 1000000 := by
  unfold signAns at h
  split at h
  · obtain ⟨rfl, _⟩ := Prod.mk.inj h
    rw [show (signChains seed key m 35).length = 35 from chains_len _ _]; omega
  · obtain ⟨rfl, _⟩ := Prod.mk.inj h; simp

set_option maxHeartbeats 1000000 in
set_option maxRecDepth 100000 in
theorem onceSigns_any (F : OnceFace) (seed : ByteArray) (key : Int) (m : ByteArray) (S : List ByteArray) (A : Option Addr) (cap : Nat) (w : World) (hk : HasK w) (hm : Strs w A S) (hg : w.cell? ⟨1, 0, none⟩ = some (.iface 109 (.agg #[hand 31]))) :
    Calls Tryd.prog 3 #[.string seed, .int .i64 key, .string m, .slice A S.length cap] w fun e w' => e = .returned (.bool true) ∧ Below w.heap.size w w' := by
  have HLT := Lib.hid (show (1 : Nat) < w.heap.size from block_lt_of_cell hg)
  have HK := Lib.hid hk
  have HM := Lib.hid hm
  have HG := Lib.hid hg
  have HF := Lib.hid F
  clear hk hm hg F
  go_enter Tryd.func3, Tryd.ntmps3
  go_wp2_with fail
  refine (long_e seed _).mono ?_
  rintro e w1 ⟨b, rfl, rfl, h1⟩
  cases b
  case true =>
    go_wp2
    go_ret
    exact ⟨rfl, Below.refl _ _⟩
  replace h1 := h1 rfl
  go_wp2_with fail
  refine (long_e m _).mono ?_
  rintro e w1 ⟨b, rfl, rfl, h2⟩
  cases b
  case true =>
    go_wp2
    go_ret
    exact ⟨rfl, Below.refl _ _⟩
  replace h2 := h2 rfl
  go_wp2_with fail
  refine (longs_any S A cap _ HM.out).mono ?_
  rintro e w1 ⟨b, rfl, rfl, h3⟩
  cases b
  case true =>
    go_wp2
    go_ret
    exact ⟨rfl, Below.refl _ _⟩
  replace h3 := (h3 rfl).1
  have HSE := Lib.hid (show seed.size ≤ 1000000 by omega)
  have HMS := Lib.hid (show m.size ≤ 1000000 by omega)
  have HSL := Lib.hid (show S.length ≤ 1000000 by omega)
  clear h1 h2 h3
  obtain ⟨x, n, hx⟩ : ∃ x n, publicAns seed key = (x, n) := ⟨_, _, rfl⟩
  have HX := Lib.hid hx
  obtain ⟨T, k, ht⟩ : ∃ T k, signAns seed key m = (T, k) := ⟨_, _, rfl⟩
  have HT := Lib.hid ht
  have HTL := Lib.hid (sign_len ht)
  clear hx ht
  go_wp2_with fail
  refine (new_any _).mono ?_
  rintro e w2 ⟨r, rfl, hrb, hb2, hh2⟩
  have HB2 := Lib.hid hb2
  have HR2 := Lib.hid hh2
  clear hb2 hh2 hrb
  go_wp2_with fail
  refine (refOncePublic_is r seed key x n _ HR2.out HX.out).mono ?_
  rintro e w3 ⟨rfl, hb3⟩
  have HB3 := Lib.hid (HB2.out.trans (hb3.mono HB2.out.size))
  have HR3 := Lib.hid (HR2.out.below hb3 HR2.out.lt)
  clear hb3
  go_wp2_with fail
  refine (HF.out.pub seed key x n _ (HK.out.below HB3.out HK.out.lt) HSE.out HX.out).mono ?_
  rintro e w4 ⟨rfl, hb4⟩
  have HB4 := Lib.hid (HB3.out.trans (hb4.mono HB3.out.size))
  have HR4 := Lib.hid (HR3.out.below hb4 HR3.out.lt)
  clear hb4
  go_wp2_with fail
  refine (bare_same n _ ((HB4.out.cell HLT.out).trans HG.out)).mono ?_
  rintro e w5 ⟨rfl, hb5⟩
  have HB5 := Lib.hid (HB4.out.trans (hb5.mono HB4.out.size))
  have HR5 := Lib.hid (HR4.out.below hb5 HR4.out.lt)
  clear hb5
  go_wp2_with fail
  refine (refOnceSign_is r seed key m T k _ HR5.out HT.out).mono ?_
  rintro e w6 ⟨v, rfl, hb6, hrow⟩
  obtain ⟨-, TA, tc, rfl, hti⟩ := hrow.strs
  have HB6 := Lib.hid (HB5.out.trans (hb6.mono HB5.out.size))
  have HR6 := Lib.hid (HR5.out.below hb6 HR5.out.lt)
  have HTI := Lib.hid hti
  clear hb6 hrow hti
  go_wp2_with fail
  refine (HF.out.sign seed key m T k _ (HK.out.below HB6.out HK.out.lt) HSE.out HMS.out HT.out).mono ?_
  rintro e w7 ⟨UA, uc, rfl, hb7, hui⟩
  have HB7 := Lib.hid (HB6.out.trans (hb7.mono HB6.out.size))
  have HR7 := Lib.hid (HR6.out.below hb7 HR6.out.lt)
  have HTI7 := Lib.hid (HTI.out.below hb7)
  have HUI7 := Lib.hid hui
  clear hb7 hui
  go_wp2_with fail
  refine (bare_same k _ ((HB7.out.cell HLT.out).trans HG.out)).mono ?_
  rintro e w8 ⟨rfl, hb8⟩
  have HB8 := Lib.hid (HB7.out.trans (hb8.mono HB7.out.size))
  have HR8 := Lib.hid (HR7.out.below hb8 HR7.out.lt)
  have HTI8 := Lib.hid (HTI7.out.below hb8)
  have HUI8 := Lib.hid (HUI7.out.below hb8)
  clear hb8
  go_wp2_with fail
  refine (sameTexts_same T UA TA uc tc _ HTL.out HUI8.out HTI8.out).mono ?_
  rintro e w9 ⟨rfl, q, rfl⟩
  have hb9 := below_drew (Below.refl w8.heap.size w8) q
  have HB9 := Lib.hid (below_drew HB8.out q)
  have HR9 := Lib.hid (HR8.out.below hb9 HR8.out.lt)
  have HTI9 := Lib.hid (HTI8.out.below hb9)
  clear hb9
  generalize w8.drewN q = w9 at HB9 HR9 HTI9
  have HB10 := Lib.hid (HB9.out.trans ((alloc_below w9 (.cells #[.slice A S.length cap, .slice TA T.length tc] 22)).mono HB9.out.size))
  have HR10 := Lib.hid (HR9.out.alloc (.cells #[.slice A S.length cap, .slice TA T.length tc] 22))
  have HTI10 := Lib.hid (HTI9.out.below (alloc_below w9 (.cells #[.slice A S.length cap, .slice TA T.length tc] 22)))
  have HTW := Lib.hid (show Holds (w9.alloc (.cells #[.slice A S.length cap, .slice TA T.length tc] 22)) w9.heap.size 2 (twoSl (.slice A S.length cap) (.slice TA T.length tc)) 22 from Holds.new w9 2 (twoSl (.slice A S.length cap) (.slice TA T.length tc)) 22)
  go_wp2
  generalize w9.alloc (.cells #[.slice A S.length cap, .slice TA T.length tc] 22) = w10 at HB10 HR10 HTI10 HTW
  generalize w9.heap.size = tb at HTW
  go_loopw [80] (fun i wr => ∃ j : Nat, j ≤ 2 ∧ i = .int .i64 (j : Int) ∧ Hid (Below w1.heap.size w1 wr ∧ Holds wr r 72 refCells 48 ∧ Strs wr TA T ∧ Holds wr tb 2 (twoSl (.slice A S.length cap) (.slice TA T.length tc)) 22)) (fun i _ => 2 - (intOf i).toNat)
  case atStart => exact ⟨0, by omega, rfl, Lib.hid ⟨HB10.out, HR10.out, HTI10.out, HTW.out⟩⟩
  case round =>
    obtain ⟨j, hj, rfl, HU⟩ := hrel
    by_cases hlt : j < 2
    · obtain ⟨QA, Q, qc, t0, hq, hql⟩ : ∃ QA, ∃ Q : List ByteArray, ∃ qc, wr.cell? ⟨tb, j, none⟩ = some (.slice QA Q.length qc) ∧ Strs wr QA Q ∧ Q.length ≤ 1000000 := by
        rcases (show j = 0 ∨ j = 1 by omega) with rfl | rfl
        · exact ⟨A, S, cap, HU.out.2.2.2.cell 0 (by omega), HM.out.below HU.out.1, HSL.out⟩
        · exact ⟨TA, T, tc, HU.out.2.2.2.cell 1 (by omega), HU.out.2.2.1, HTL.out⟩
      obtain ⟨y, l, hy⟩ : ∃ y l, fromAns m Q = (y, l) := ⟨_, _, rfl⟩
      have HY := Lib.hid hy
      have HQ := Lib.hid hq
      clear hy hq
      go_wp2_with fail
      clear t0
      refine (refOnceFrom_is r m Q QA qc y l _ hql HU.out.2.1 HQ.out HY.out).mono ?_
      rintro e w11 ⟨rfl, hb11⟩
      have HV := Lib.hid (show Below w1.heap.size w1 w11 ∧ Holds w11 r 72 refCells 48 ∧ Strs w11 TA T ∧ Holds w11 tb 2 (twoSl (.slice A S.length cap) (.slice TA T.length tc)) 22 from
        ⟨HU.out.1.trans (hb11.mono HU.out.1.size), HU.out.2.1.below hb11 HU.out.2.1.lt, HU.out.2.2.1.below hb11, HU.out.2.2.2.below hb11 HU.out.2.2.2.lt⟩)
      have HQ11 := Lib.hid (HQ.out.below hb11)
      clear hb11
      go_wp2_with fail
      refine (HF.out.from_ m Q QA qc y l _ (HK.out.below HV.out.1 HK.out.lt) HMS.out hql HQ11.out HY.out).mono ?_
      rintro e w12 ⟨rfl, hb12⟩
      have HV12 := Lib.hid (show Below w1.heap.size w1 w12 ∧ Holds w12 r 72 refCells 48 ∧ Strs w12 TA T ∧ Holds w12 tb 2 (twoSl (.slice A S.length cap) (.slice TA T.length tc)) 22 from
        ⟨HV.out.1.trans (hb12.mono HV.out.1.size), HV.out.2.1.below hb12 HV.out.2.1.lt, HV.out.2.2.1.below hb12, HV.out.2.2.2.below hb12 HV.out.2.2.2.lt⟩)
      clear hb12
      go_wp2_with fail
      refine (bare_same l _ ((HV12.out.1.cell HLT.out).trans HG.out)).mono ?_
      rintro e w13 ⟨rfl, hb13⟩
      have HV13 := Lib.hid (show Below w1.heap.size w1 w13 ∧ Holds w13 r 72 refCells 48 ∧ Strs w13 TA T ∧ Holds w13 tb 2 (twoSl (.slice A S.length cap) (.slice TA T.length tc)) 22 from
        ⟨HV12.out.1.trans (hb13.mono HV12.out.1.size), HV12.out.2.1.below hb13 HV12.out.2.1.lt, HV12.out.2.2.1.below hb13, HV12.out.2.2.2.below hb13 HV12.out.2.2.2.lt⟩)
      clear hb13
      go_wp2
      go_roundw
      case rel => exact ⟨j + 1, by omega, by go_num, HV13⟩
      case measure => simp [intOf]; omega
    · go_wp2
      go_ret
      exact ⟨rfl, HU.out.1⟩
end Go.Proofs.YtmfijppfpajpbaaDoor
/- Items compared: one with one, and slices.Equal of the same items. -/
namespace Go.Proofs.YtmfijppfpajpbaaDoor
open Go.RowKit

theorem textI_ne {a b : ByteArray} (h : ¬ a = b) : (a.toList == b.toList) = false := by
  rw [beq_eq_false_iff_ne]
  intro e
  rw [ByteArray.toList_eq, ByteArray.toList_eq] at e
  exact h (text_of e)
end Go.Proofs.YtmfijppfpajpbaaDoor
/- The program's once: whether all texts are marks, by slices.ContainsFunc. -/
namespace Go.Proofs.YtmfijppfpajpbaaDoor
open Go.RowKit

theorem qNoMark_any (s : ByteArray) (w : World) : Calls Tryd.prog 32 #[.string s] w fun e w' => e = .returned (.bool (!decide (s.size = 16))) ∧ w' = w := by
  by_cases h : s.size = 16
  · rw [decide_eq_true h]
    have hi : ((s.size : Int) == 16) = true := by rw [beq_iff_eq]; omega
    have hj : ((s.size : Int) != 16) = false := by simp [bne, hi]
    go_enter Tryd.func32, Tryd.ntmps32
    go_wp2
    go_ret
    exact ⟨rfl, rfl⟩
  · rw [decide_eq_false h]
    have hi : ((s.size : Int) == 16) = false := by rw [beq_eq_false_iff_ne]; omega
    have hj : ((s.size : Int) != 16) = true := by simp [bne, hi]
    go_enter Tryd.func32, Tryd.ntmps32
    go_wp2
    go_ret
    exact ⟨rfl, rfl⟩
set_option maxRecDepth 100000 in
theorem qMarksIx_any (P : List ByteArray) (A : Option Addr) (cap : Nat) (w : World) (hl : P.length ≤ 1000000) (hm : Strs w A P) :
    Calls Tryd.prog 41 #[.slice A P.length cap, .func (.func 32) #[] #[]] w fun e w' => w' = w ∧ ∃ n : Int, e = .returned (.int .i64 n) ∧ ((0 ≤ n ∧ marksOk P = false) ∨ (n = -1 ∧ marksOk P = true)) := by
  have HM := Lib.hid hm
  clear hm
  go_enter Tryd.func41, Tryd.ntmps41
  go_wp2
  go_loopw [8] (fun t wr => ∃ j : Nat, j ≤ P.length ∧ t = .int .i64 (j : Int) ∧ wr = w ∧ marksUpto P j = true) (fun t _ => P.length - (intOf t).toNat)
  case atStart => exact ⟨0, by omega, rfl, rfl, rfl⟩
  case round =>
    obtain ⟨j, hj, rfl, rfl, hall⟩ := hrel
    have HALL := Lib.hid hall
    clear hall
    by_cases hlt : j < P.length
    · obtain ⟨p, hp⟩ : ∃ p, P[j]? = some p := ⟨_, List.getElem?_eq_getElem hlt⟩
      obtain ⟨a, rfl, hal, c0⟩ := HM.out j p hp
      have HP := Lib.hid hp
      clear hp
      go_wp2_with fail
      refine (qNoMark_any p _).mono ?_
      rintro e w1 ⟨rfl, rfl⟩
      by_cases he : p.size = 16
      · rw [decide_eq_true he]
        have HE := Lib.hid he
        clear he
        go_wp2
        go_roundw
        case rel =>
          refine ⟨j + 1, by omega, by go_num, ?_, ?_⟩
          · first | rfl | trivial
          · have := HALL.out
            unfold marksUpto marksOk at this ⊢
            rw [List.take_add_one, HP.out, List.all_append, this]
            simp [HE.out]
        case measure => simp [intOf]; omega
      · rw [decide_eq_false he]
        have HE := Lib.hid he
        clear he
        go_wp2
        go_ret
        exact ⟨rfl, j, rfl, .inl ⟨by omega, marksOk_false HP.out HE.out⟩⟩
    · go_wp2
      go_ret
      exact ⟨rfl, -1, rfl, .inr ⟨rfl, by have h := HALL.out; unfold marksUpto at h; rwa [List.take_of_length_le (by omega)] at h⟩⟩
theorem qMarks_any (P : List ByteArray) (A : Option Addr) (cap : Nat) (w : World) (hl : P.length ≤ 1000000) (hm : Strs w A P) :
    Calls Tryd.prog 31 #[.slice A P.length cap, .func (.func 32) #[] #[]] w fun e w' => e = .returned (.bool (!marksOk P)) ∧ w' = w := by
  go_enter Tryd.func31, Tryd.ntmps31
  go_wp2_with fail
  refine (qMarksIx_any P A cap _ hl hm).mono ?_
  rintro e w1 ⟨rfl, n, rfl, ⟨h0, hf⟩ | ⟨rfl, hf⟩⟩
  · have HF := Lib.hid hf
    clear hf
    go_wp2
    go_ret
    exact ⟨by rw [HF.out]; rfl, rfl⟩
  · have HF := Lib.hid hf
    clear hf
    go_wp2
    go_ret
    exact ⟨by rw [HF.out]; rfl, rfl⟩
theorem qAre_any (P : List ByteArray) (A : Option Addr) (cap : Nat) (w : World) (hl : P.length ≤ 1000000) (hm : Strs w A P) :
    Calls Tryd.prog 21 #[.slice A P.length cap] w fun e w' => e = .returned (.bool (marksOk P)) ∧ w' = w := by
  obtain ⟨M, hM⟩ : ∃ M, marksOk P = M := ⟨_, rfl⟩
  have HM := Lib.hid hM
  rw [hM]
  clear hM
  go_enter Tryd.func21, Tryd.ntmps21
  go_wp2_with fail
  refine (qMarks_any P A cap _ hl hm).mono ?_
  rintro e w1 ⟨rfl, rfl⟩
  rw [HM.out]
  go_wp2
  go_ret
  exact ⟨rfl, rfl⟩
end Go.Proofs.YtmfijppfpajpbaaDoor
/- The program's once: where a chain begins, and the way along it. -/
namespace Go.Proofs.YtmfijppfpajpbaaDoor
open Go.RowKit

set_option maxRecDepth 100000 in
theorem qFirst_any (seed : ByteArray) (key : Int) (c : Nat) (w : World) (hk : HasK w) (hs : seed.size = 16) :
    Calls Tryd.prog 23 #[.string seed, .int .i64 key, .int .i64 (c : Int)] w fun e w' => e = .returned (.string (seedOf seed key c)) ∧ Below w.heap.size w w' := by
  have HK := Lib.hid hk
  have HS := Lib.hid hs
  clear hk hs
  go_enter Tryd.func23, Tryd.ntmps23
  go_wp2_with fail
  refine (num_any key _).mono ?_
  rintro e w1 ⟨rfl, hb1⟩
  have HB1 := Lib.hid hb1
  clear hb1
  go_wp2_with fail
  refine (num_any (c : Int) _).mono ?_
  rintro e w2 ⟨rfl, hb2⟩
  have HB2 := Lib.hid (HB1.out.trans (hb2.mono HB1.out.size))
  clear hb2
  go_wp2_with fail
  refine (mark_any 115 [seed, txt (num8 key), txt (num8 (c : Int))] (some ⟨w2.heap.size, 0, none⟩) 3 _ (HK.out.below (HB2.out.trans ((alloc_below w2 _).mono HB2.out.size)) HK.out.lt) (by have := HS.out; simp [total, num_size]; omega) (by simp) (strs_new w2 [seed, txt (num8 key), txt (num8 (c : Int))] 9)).mono ?_
  rintro e w3 ⟨rfl, hb3⟩
  have HB3 := Lib.hid ((HB2.out.trans ((alloc_below w2 (.cells #[.string seed, .string (txt (num8 key)), .string (txt (num8 (c : Int)))] 9)).mono HB2.out.size)).trans (hb3.mono (Nat.le_trans HB2.out.size (by simp))))
  clear hb3
  go_wp2
  go_ret
  exact ⟨rfl, HB3.out⟩

set_option maxRecDepth 100000 in
theorem qWalk_any (s : ByteArray) (c : Int) (k tt : Nat) (w : World) (hr : HasK w) (hs : s.size = 16) (hk : k ≤ tt) (ht : tt ≤ 15) :
    Calls Tryd.prog 22 #[.string s, .int .i64 c, .int .i64 (k : Int), .int .i64 (tt : Int)] w fun e w' => e = .returned (.string (alongFrom c (tt - k) k s)) ∧ Below w.heap.size w w' := by
  have HR := Lib.hid hr
  obtain ⟨T, hT⟩ : ∃ T, alongFrom c (tt - k) k s = T := ⟨_, rfl⟩
  rw [hT]
  have HT := Lib.hid hT
  have HS := Lib.hid hs
  clear hr hT hs
  go_enter Tryd.func22, Tryd.ntmps22
  go_wp2
  go_loopw [0, 9] (fun sv i wr => ∃ (j : Nat) (u : ByteArray), j ≤ tt ∧ i = .int .i64 (j : Int) ∧ sv = .string u ∧ Hid (u.size = 16 ∧ alongFrom c (tt - j) j u = T ∧ Below w.heap.size w wr)) (fun _ i _ => tt - (intOf i).toNat)
  case atStart => exact ⟨k, s, hk, rfl, rfl, Lib.hid ⟨HS.out, HT.out, Below.refl _ _⟩⟩
  case round =>
    obtain ⟨j, u, hj, rfl, rfl, HU⟩ := hrel
    by_cases hlt : j < tt
    · go_wp2_with fail
      refine (num_any c _).mono ?_
      rintro e w1 ⟨rfl, hb1⟩
      have HB1 := Lib.hid (HU.out.2.2.trans (hb1.mono HU.out.2.2.size))
      clear hb1
      go_wp2_with fail
      refine (num_any (j : Int) _).mono ?_
      rintro e w2 ⟨rfl, hb2⟩
      have HB2 := Lib.hid (HB1.out.trans (hb2.mono HB1.out.size))
      clear hb2
      go_wp2_with fail
      refine (mark_any 119 [u, txt (num8 c), txt (num8 (j : Int))] (some ⟨w2.heap.size, 0, none⟩) 3 _ (HR.out.below (HB2.out.trans ((alloc_below w2 _).mono HB2.out.size)) HR.out.lt) (by have := HU.out.1; simp [total, num_size]; omega) (by simp) (strs_new w2 [u, txt (num8 c), txt (num8 (j : Int))] 9)).mono ?_
      rintro e w3 ⟨rfl, hb3⟩
      have HB3 := Lib.hid ((HB2.out.trans ((alloc_below w2 (.cells #[.string u, .string (txt (num8 c)), .string (txt (num8 (j : Int)))] 9)).mono HB2.out.size)).trans (hb3.mono (Nat.le_trans HB2.out.size (by simp))))
      have HNX := Lib.hid (show alongFrom c (tt - (j + 1)) (j + 1) (markOf 119 [u, txt (num8 c), txt (num8 (j : Int))]) = T by
        have := HU.out.2.1
        rwa [show tt - j = (tt - (j + 1)) + 1 by omega, alongFrom] at this)
      clear hb3
      go_wp2
      go_roundw
      case rel => exact ⟨j + 1, _, by omega, by go_num, rfl, Lib.hid ⟨markOf_len _ _, HNX.out, HB3.out⟩⟩
      case measure => simp [intOf]; omega
    · obtain rfl : j = tt := by omega
      go_wp2
      go_ret
      have := HU.out.2.1
      rw [Nat.sub_self, alongFrom] at this
      have HB := HU.out.2.2
      subst this
      exact ⟨rfl, HB⟩
end Go.Proofs.YtmfijppfpajpbaaDoor
