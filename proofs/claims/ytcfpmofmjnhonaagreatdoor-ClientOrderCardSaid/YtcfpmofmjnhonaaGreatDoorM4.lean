/- Parts of the proof, one behind the other: Pad, End, Sum, Items. -/
import Derived.Test.YtcfpmofmjnhonaaGreatDoorM3
import Derived.Test.YtcfpmofmjnhonaaGreatDoorM2
/- What the padding does to a running sum. No program is walked here. -/
namespace Go.Proofs.YtcfpmofmjnhonaaGreatDoor
open Go.RowKit

/-- A state's words as bytes, the greatest of each first. -/
def sumText (st : Nat → BitVec 32) : List UInt8 := (List.range 32).map fun i => UInt8.ofNat ((st (i / 4)).toNat / 2 ^ (24 - 8 * (i % 4)))
theorem sumText_length (st : Nat → BitVec 32) : (sumText st).length = 32 := by simp [sumText]
theorem sumText_get (st : Nat → BitVec 32) (i : Nat) (h : i < 32) : (sumText st).getD i 0 = UInt8.ofNat ((st (i / 4)).toNat / 2 ^ (24 - 8 * (i % 4))) := by simp [sumText, List.getD_eq_getElem?_getD, h]
/-- The state ahead of all text. -/
def ivTab : List Nat := [1779033703, 3144134277, 1013904242, 2773480762, 1359893119, 2600822924, 528734635, 1541459225]
def iv (i : Nat) : BitVec 32 := BitVec.ofNat 32 (ivTab.getD i 0)
def rs0 : RS := { st := iv, blk := fun _ => 0, size := 0 }
/-- The padding: a bit of 1, noughts, how many bits there were. -/
def padding (n : Nat) : List UInt8 := 0x80 :: (List.replicate ((119 - n % 64) % 64) 0 ++ be8 (8 * n % 18446744073709551616))
def sumOf (l : List UInt8) : List UInt8 := sumText (feed rs0 (l ++ padding l.length)).st


theorem wordOf_congr {f g : Nat → Nat} (h : ∀ i, i < 64 → f i = g i) (k : Nat) (hk : k < 16) (j : Nat) (hj : j ≤ 4) : wordOf f k j = wordOf g k j := by
  induction j with
  | zero => rfl
  | succ j ih => unfold wordOf; rw [ih (by omega), h (4 * k + j) (by omega)]
theorem wfill_congr {f g : Nat → Nat} (h : ∀ i, i < 64 → f i = g i) : wfill f 16 0 = wfill g 16 0 := by
  funext i; unfold wfill
  by_cases hi : i < 16
  · rw [if_pos hi, if_pos hi, wordOf_congr h i hi 4 (by omega)]
  · rw [if_neg hi, if_neg hi]; rfl
theorem wext_congr {f g : Nat → Nat} (h : ∀ i, i < 64 → f i = g i) (n : Nat) : wext f n = wext g n := by
  induction n with
  | zero => exact wfill_congr h
  | succ n ih => unfold wext; rw [ih]
theorem mixed_congr {f g : Nat → Nat} (h : ∀ i, i < 64 → f i = g i) (st : Nat → BitVec 32) : mixed st f = mixed st g := by
  funext i; unfold mixed; rw [wext_congr h]

def zeros (n : Nat) : List UInt8 := List.replicate n 0
theorem zeros_length (n : Nat) : (zeros n).length = n := by simp [zeros]
theorem zeros_get (n i : Nat) : ((zeros n).getD i 0).toNat = 0 := by
  unfold zeros; rw [List.getD_eq_getElem?_getD]
  by_cases h : i < n
  · simp [h]
  · rw [List.getElem?_eq_none (by simp; omega)]; rfl
theorem lay_nil (blk : Nat → Nat) (p : Nat) : lay blk p [] = blk := by funext i; unfold lay; rw [if_neg (by simp)]

/-- The state behind the padding, as the program goes about it: from place p of the block on noughts; where there is no room for the size, a block of its own. -/
def padded (st : Nat → BitVec 32) (blk : Nat → Nat) (p n : Nat) : Nat → BitVec 32 :=
  if 56 < p then mixed (mixed st (lay blk p (zeros (64 - p)))) (lay (lay (lay blk p (zeros (64 - p))) 0 (zeros 64)) 56 (be8 n))
  else mixed st (lay (lay blk p (zeros (64 - p))) 56 (be8 n))

theorem feed_zeros (r : RS) (h : r.size % 64 ≤ 56) (n : Nat) : (feed (feed r (zeros (56 - r.size % 64))) (be8 n)).st = mixed r.st (lay (lay r.blk (r.size % 64) (zeros (64 - r.size % 64))) 56 (be8 n)) := by
  have e1 : feed r (zeros (56 - r.size % 64)) = { st := r.st, blk := lay r.blk (r.size % 64) (zeros (56 - r.size % 64)), size := r.size + (56 - r.size % 64) } := by
    by_cases h0 : r.size % 64 = 56
    · rw [h0]; show feed r [] = _; rw [feed_nil]; show r = { st := r.st, blk := lay r.blk 56 [], size := r.size + 0 }; rw [lay_nil]; rfl
    · rw [feed_piece _ r (by intro e; have := congrArg List.length e; rw [zeros_length] at this; simp at this; omega) (by rw [zeros_length]; omega)]
      rw [zeros_length, if_neg (by omega)]
  rw [e1]
  have e2 := feed_piece (be8 n) { st := r.st, blk := lay r.blk (r.size % 64) (zeros (56 - r.size % 64)), size := r.size + (56 - r.size % 64) } (by intro e; have := congrArg List.length e; rw [be8_length] at this; simp at this) (by rw [be8_length]; show (r.size + (56 - r.size % 64)) % 64 + 8 ≤ 64; omega)
  rw [e2]
  simp only [be8_length]
  rw [if_pos (by omega), show (r.size + (56 - r.size % 64)) % 64 = 56 from by omega]
  apply mixed_congr
  intro i hi
  unfold lay
  rw [be8_length, zeros_length, zeros_length]
  by_cases h5 : 56 ≤ i
  · have a1 : 56 ≤ i ∧ i < 56 + 8 := by omega
    rw [if_pos a1, if_pos a1]
  · have a1 : ¬ (56 ≤ i ∧ i < 56 + 8) := by omega
    rw [if_neg a1, if_neg a1]
    by_cases h6 : r.size % 64 ≤ i
    · have a2 : r.size % 64 ≤ i ∧ i < r.size % 64 + (56 - r.size % 64) := by omega
      have a3 : r.size % 64 ≤ i ∧ i < r.size % 64 + (64 - r.size % 64) := by omega
      rw [if_pos a2, if_pos a3, zeros_get, zeros_get]
    · have a2 : ¬ (r.size % 64 ≤ i ∧ i < r.size % 64 + (56 - r.size % 64)) := by omega
      have a3 : ¬ (r.size % 64 ≤ i ∧ i < r.size % 64 + (64 - r.size % 64)) := by omega
      rw [if_neg a2, if_neg a3]
theorem feed_padding (r : RS) : (feed r (padding r.size)).st = padded (feed r [0x80]).st (feed r [0x80]).blk ((r.size + 1) % 64) (8 * r.size % 18446744073709551616) := by
  obtain ⟨q, hq⟩ : ∃ q, feed r [0x80] = q := ⟨_, rfl⟩
  have hs : q.size = r.size + 1 := by rw [← hq, feed_size]; rfl
  have e : padding r.size = [0x80] ++ (zeros ((119 - r.size % 64) % 64) ++ be8 (8 * r.size % 18446744073709551616)) := rfl
  rw [e, feed_append, feed_append, hq, ← hs]
  unfold padded
  by_cases hp : 56 < q.size % 64
  · rw [if_pos hp]
    have ez : zeros ((119 - r.size % 64) % 64) = zeros (64 - q.size % 64) ++ zeros 56 := by
      unfold zeros; rw [List.replicate_append_replicate]; congr 1; omega
    rw [ez, feed_append]
    have e1 := feed_piece (zeros (64 - q.size % 64)) q (by intro e; have := congrArg List.length e; rw [zeros_length] at this; simp at this; omega) (by rw [zeros_length]; omega)
    rw [zeros_length, if_pos (by omega)] at e1
    rw [e1]
    have h := feed_zeros { st := mixed q.st (lay q.blk (q.size % 64) (zeros (64 - q.size % 64))), blk := lay q.blk (q.size % 64) (zeros (64 - q.size % 64)), size := q.size + (64 - q.size % 64) } (by show (q.size + (64 - q.size % 64)) % 64 ≤ 56; omega) (8 * r.size % 18446744073709551616)
    simp only [show (q.size + (64 - q.size % 64)) % 64 = 0 from by omega] at h
    exact h
  · rw [if_neg hp]
    have ez : (119 - r.size % 64) % 64 = 56 - q.size % 64 := by omega
    rw [ez]
    exact feed_zeros q (by omega) _
theorem over_zero (st : Nat → BitVec 32) (blk : Nat → Nat) (size p n : Nat) (hl : p + n ≤ 64) (i : Nat) : over (rc st blk size) (8 + p) (List.replicate n (.int .u8 0)) i = rc st (lay blk p (zeros n)) size i := by
  rw [← over_rc st blk size p (zeros n) (by rw [zeros_length]; exact hl) i]
  congr 1
  unfold bcells zeros
  simp
end Go.Proofs.YtcfpmofmjnhonaaGreatDoor
/- begin, text, end: a sum from its beginning to its end; Sum. -/
namespace Go.Proofs.YtcfpmofmjnhonaaGreatDoor
open Go.RowKit

def tfill (st : Nat → BitVec 32) (k : Nat) : Nat → Value := fun i => if i < k then .int .u8 ((UInt8.ofNat ((st (i / 4)).toNat / 2 ^ (24 - 8 * (i % 4)))).toNat : Int) else .int .u8 0

theorem text_any (B : Nat) (r : RS) (w : World) (hr : Holds w B 73 r.cells 200) :
    Calls Tryz.prog 154 #[.pointer (some ⟨B, 0, none⟩)] w fun e w' => e = .returned (.string (txt (sumText r.st))) ∧ Below w.heap.size w w' := by
  have HR := Lib.hid hr
  clear hr
  go_enter Tryz.func154, Tryz.ntmps154
  go_wp2
  go_loopw [5] (fun i wr => ∃ k : Nat, k ≤ 32 ∧ i = .int .i64 k ∧ Below w.heap.size w wr ∧ Holds wr w.heap.size 32 (tfill r.st k) 313) (fun i _ => 32 - (intOf i).toNat)
  case atStart => exact ⟨0, by omega, rfl, (Below.refl _ _).alloc (Nat.le_refl _) _, (Holds.new w 32 (fun _ => .int .u8 0) 313).congr fun i hi => by unfold tfill; rw [if_neg (by omega)]⟩
  case round =>
    obtain ⟨k, hk, rfl, hb, hh⟩ := hrel
    have HB := Lib.hid hb
    have HH := Lib.hid hh
    clear hb hh
    by_cases hlt : k < 32
    · have c := HH.out.cell k (by omega)
      have f := HH.out.free k
      have cs : wr.cell? ⟨B, k / 4, none⟩ = some (.int .u32 (W32 (r.st (k / 4)))) := by
        rw [HB.out.cell HR.out.lt, HR.out.cell (k / 4) (by omega)]; exact congrArg some (rc_st _ _ _ _ (by omega))
      go_wp2
      go_roundw
      case rel =>
        have ev : W32 (r.st (k / 4)) / 2 ^ (24 - 8 * (k % 4)) % (256 : Int) = ((UInt8.ofNat ((r.st (k / 4)).toNat / 2 ^ (24 - 8 * (k % 4)))).toNat : Int) := by
          rw [UInt8.toNat_ofNat']; unfold W32; simp
        refine ⟨k + 1, by omega, by go_num, HB.out.setCell (Nat.le_refl _) _, (HH.out.set k _).congr fun i hi => ?_⟩
        rw [ev]
        unfold upd tfill
        by_cases h : i = k
        · subst h; rw [if_pos rfl, if_pos (by omega)]
        · rw [if_neg h]
          by_cases h2 : i < k
          · rw [if_pos h2, if_pos (by omega)]
          · rw [if_neg h2, if_neg (by omega)]
      case measure => simp [intOf]; omega
    · obtain rfl : k = 32 := by omega
      have hcv := run_conv_text (P := Tryz.prog) HH.out 182 9 5 Tryz.underlying182 Tryz.underlying5 Tryz.underlying9 (sumText r.st) 0 32 32 (sumText_length _) (by omega) (fun i hi => by
        rw [sumText_get _ i hi]; unfold tfill; rw [if_pos (by omega), Nat.zero_add])
      go_wp2
      go_ret
      exact ⟨rfl, HB.out⟩

theorem zeroRun (w : World) : (zeroValue 200).run Tryz.prog w = .ok (.agg (arr 73 (rc (fun _ => 0) (fun _ => 0) 0))) w := by kernel_rfl
theorem infoRun : (Tryz.prog.info? 200).map (·.size) = some 73 := by kernel_rfl
theorem built8 : Tryz.prog.built 118 [(0, .int .u32 1779033703), (1, .int .u32 3144134277), (2, .int .u32 1013904242), (3, .int .u32 2773480762), (4, .int .u32 1359893119), (5, .int .u32 2600822924), (6, .int .u32 528734635), (7, .int .u32 1541459225)] = some (arr 8 fun i => .int .u32 (W32 (iv i))) := by kernel_rfl
theorem builtRun : Tryz.prog.built 200 [(0, .agg (arr 8 fun i => .int .u32 (W32 (iv i))))] = some (arr 73 rs0.cells) := by kernel_rfl
theorem rc_one (st : Nat → BitVec 32) (blk : Nat → Nat) (size : Nat) (i : Nat) : (rc st blk size i).oneCell' = true := by
  unfold rc; split
  · rfl
  · split <;> rfl
set_option maxRecDepth 100000 in
theorem begin_any (w : World) :
    Calls Tryz.prog 102 #[] w fun e w' => e = .returned (.agg (arr 73 rs0.cells)) ∧ Below w.heap.size w w' := by
  have hz := zeroRun
  have hi : (Tryz.prog.info? 200).map (·.size) = some (arr 73 rs0.cells).size := by rw [arr_size]; exact infoRun
  have hs : (arr 73 (rc (fun _ => 0) (fun _ => 0) 0)).size = (arr 73 rs0.cells).size := by rw [arr_size, arr_size]
  have h1 := arr_one 73 rs0.cells (rc_one _ _ _)
  have HI := Lib.hid hi
  have HS := Lib.hid hs
  have H1 := Lib.hid h1
  clear hi hs h1
  go_enter Tryz.func102, Tryz.ntmps102
  go_wp2_with (first | (refine wpList_build_as rfl 118 _ rfl _ built8 ?_) | (refine wpList_build_as rfl 200 _ rfl _ builtRun ?_) | (refine wpList_store_new rfl 200 (.tmp 0) (.tmp 2) rfl (arr 73 rs0.cells) rfl rfl 200 _ HI.out HS.out H1.out ?_))
  all_goals
    have hrun : ∀ tmps : Array Value, tmps.getD 0 undef = .pointer (some ⟨w.heap.size, 0, none⟩) → (results Tryz.f102 tmps).run Tryz.prog (w.alloc (.cells (arr 73 rs0.cells) 200)) = .ok (.agg (arr 73 rs0.cells)) (w.alloc (.cells (arr 73 rs0.cells) 200)) := fun tmps ht =>
      results_cell_row (by rfl) tmps _ w.heap.size 200 (arr 73 rs0.cells) (0, 0) _ ht (heap_alloc_new _ _) Tryz.underlying200 rfl HI.out
    exact bodyPost_ret (hrun _ rfl) rfl ⟨rfl, (Below.refl _ _).alloc (Nat.le_refl _) _⟩

set_option maxRecDepth 100000 in
theorem end_any (B : Nat) (r : RS) (w : World) (hB : B ≠ 1) (hk : HasK w) (hz : r.size ≤ 1073741824)
    (hr : Holds w B 73 r.cells 200) :
    Calls Tryz.prog 105 #[.pointer (some ⟨B, 0, none⟩)] w fun e w' => e = .returned (.string (txt (sumText (feed r (padding r.size)).st))) ∧ But B w w' ∧ HasK w' := by
  have HR := Lib.hid hr
  have HK := Lib.hid hk
  have c72 : w.cell? ⟨B, 72, none⟩ = some (.int .u64 (r.size : Int)) := by
    rw [hr.cell 72 (by omega)]; exact congrArg some (rc_size _ _ _)
  clear hr hk
  go_enter Tryz.func105, Tryz.ntmps105
  go_wp2_with fail
  rw [show (8 * (r.size : Int)) = ((8 * r.size : Nat) : Int) from by omega]
  refine (eight_any (8 * r.size) _).mono ?_
  rintro e w1 ⟨rfl, hb1⟩
  have h1 : Holds w1 B 73 r.cells 200 := HR.out.below hb1 HR.out.lt
  have k1 : HasK w1 := HK.out.below hb1 HK.out.lt
  have HB1 := Lib.hid hb1
  have H1 := Lib.hid h1
  have K1 := Lib.hid k1
  clear hb1 h1 k1 c72
  go_wp2_with fail
  refine (add_any B r (txt [0x80]) _ hB K1.out (by rw [txt_size]; show r.size + 1 ≤ 2147483648; omega) H1.out).mono ?_
  rintro e w2 ⟨rfl, ha2⟩
  rw [txt_list] at ha2
  obtain ⟨q, hq⟩ : ∃ q, feed r [0x80] = q := ⟨_, rfl⟩
  have hqs : q.size = r.size + 1 := by rw [← hq, feed_size]; rfl
  rw [hq] at ha2
  have hql : q.size ≤ 1073741825 := by omega
  have HQ := Lib.hid hq
  have HQS := Lib.hid hqs
  have HA2 := Lib.hid ha2
  clear hq hqs ha2
  have c72 : w2.cell? ⟨B, 72, none⟩ = some (.int .u64 (q.size : Int)) := by
    rw [HA2.out.run.cell 72 (by omega)]; exact congrArg some (rc_size _ _ _)
  have hz8 : ∀ w, (zeroValue 5).run Tryz.prog w = .ok (.int .u8 0) w := fun _ => by kernel_rfl
  have HZ8 := Lib.hid hz8
  clear hz8
  have hs56 : ∀ wx, (Instr.sliceAt 198 (.pointer (some ⟨B, 8, none⟩)) (some (.int .i64 56)) none none).run Tryz.prog wx = .ok (.slice (some ⟨B, 64, none⟩) 8 8) wx := fun wx => sliceAt_l (P := Tryz.prog) 198 5 64 Tryz.underlying198 size8 B 8 56 (by omega) .i64 56 rfl wx
  by_cases h56 : 56 < q.size % 64
  · have hsl := fun wx => sliceAt_l (P := Tryz.prog) 198 5 64 Tryz.underlying198 size8 B 8 (q.size % 64) (by omega) .u64 ((q.size : Int) % 64) (by omega) wx
    have hs0 : ∀ wx, (Instr.sliceAt 198 (.pointer (some ⟨B, 8, none⟩)) (some (.int .u64 0)) none none).run Tryz.prog wx = .ok (.slice (some ⟨B, 8, none⟩) 64 64) wx := fun wx => sliceAt_l (P := Tryz.prog) 198 5 64 Tryz.underlying198 size8 B 8 0 (by omega) .u64 0 rfl wx
    have HO := Lib.hid (fun i (_ : i < 73) => over_zero q.st q.blk q.size (q.size % 64) (64 - q.size % 64) (by omega) i)
    go_wp2_with (refine wpList_clear_row rfl (.tmp 24) 182 rfl 5 Tryz.underlying182 (.int .u8 0) HZ8.out rfl rfl B 73 q.cells 200 HA2.out.run (8 + q.size % 64) (64 - q.size % 64) (64 - q.size % 64) rfl (by omega) _ HO.out ?_; intro w3 hb3 hh3)
    refine (mix_any B q.st _ q.size _ (HA2.out.k.but hb3.out (fun e => hB e.symm)) hh3.out).mono ?_
    rintro e w4 ⟨rfl, hb4, hh4⟩
    have HB4 := Lib.hid hb4
    have HS := Lib.hid hh4
    clear hb4 hh4 hsl
    have HO2 := Lib.hid (fun i (_ : i < 73) => over_zero (mixed q.st (lay q.blk (q.size % 64) (zeros (64 - q.size % 64)))) (lay q.blk (q.size % 64) (zeros (64 - q.size % 64))) q.size 0 64 (by omega) i)
    have HM8 := Lib.hid (show min (txt (be8 (8 * r.size))).size 8 = 8 by rw [txt_size, be8_length]; rfl)
    have HO3 := Lib.hid (fun i (_ : i < 73) => (show over (rc (mixed q.st (lay q.blk (q.size % 64) (zeros (64 - q.size % 64)))) (lay (lay q.blk (q.size % 64) (zeros (64 - q.size % 64))) 0 (zeros 64)) q.size) 64 (bcells ((txt (be8 (8 * r.size))).data.toList.take 8)) i = rc (mixed q.st (lay q.blk (q.size % 64) (zeros (64 - q.size % 64)))) (lay (lay (lay q.blk (q.size % 64) (zeros (64 - q.size % 64))) 0 (zeros 64)) 56 (be8 (8 * r.size))) q.size i by
      rw [txt_list, List.take_of_length_le (by rw [be8_length]; omega)]
      exact over_rc (mixed q.st (lay q.blk (q.size % 64) (zeros (64 - q.size % 64)))) (lay (lay q.blk (q.size % 64) (zeros (64 - q.size % 64))) 0 (zeros 64)) q.size 56 (be8 (8 * r.size)) (by rw [be8_length]; omega) i))
    go_wp2_with (first | (refine wpList_clear_row rfl (.tmp 31) 182 rfl 5 Tryz.underlying182 (.int .u8 0) HZ8.out rfl rfl B 73 _ 200 HS.out 8 64 64 rfl (by omega) _ HO2.out ?_; intro w5 hb5 hh5) | (with_reducible refine wpList_copy_text rfl (.tmp 35) (.tmp 36) 182 9 rfl 5 Tryz.underlying182 info8 B 73 _ 200 hh5.out 64 8 8 (txt (be8 (8 * r.size))) rfl rfl 8 HM8.out (by omega) _ HO3.out ?_; intro w6 hb6 hh6))
    refine (mix_any B (mixed q.st (lay q.blk (q.size % 64) (zeros (64 - q.size % 64)))) _ q.size _ (((HA2.out.k.but hb3.out (fun e => hB e.symm)).but HB4.out (fun e => hB e.symm)).but ((hb5.out).trans hb6.out) (fun e => hB e.symm)) hh6.out).mono ?_
    rintro e w7 ⟨rfl, hb7, hh7⟩
    have HB7 := Lib.hid hb7
    have HH7 := Lib.hid hh7
    clear hb7 hh7
    go_wp2_with fail
    refine (text_any B { st := _, blk := _, size := _ } _ HH7.out).mono ?_
    rintro e w8 ⟨rfl, hb8⟩
    have HB8 := Lib.hid hb8
    clear hb8
    go_wp2
    go_ret
    have hbut : But B w w7 := (((((((But.refl B w).below HB1.out).trans HA2.out.but).trans hb3.out).trans HB4.out)).trans (hb5.out.trans hb6.out)).trans HB7.out
    refine ⟨?_, hbut.below HB8.out, (HK.out.but hbut (fun e => hB e.symm)).below HB8.out (HK.out.but hbut (fun e => hB e.symm)).lt⟩
    rw [feed_padding, HQ.out, show 8 * r.size % 18446744073709551616 = 8 * r.size from by omega, ← HQS.out]
    unfold padded
    rw [if_pos h56]
    rfl
  · have hsl := fun wx => sliceAt_l (P := Tryz.prog) 198 5 64 Tryz.underlying198 size8 B 8 (q.size % 64) (by omega) .u64 ((q.size : Int) % 64) (by omega) wx
    have HS := Lib.hid HA2.out.run
    have HO2 := Lib.hid (fun i (_ : i < 73) => over_zero q.st q.blk q.size (q.size % 64) (64 - q.size % 64) (by omega) i)
    have HM8 := Lib.hid (show min (txt (be8 (8 * r.size))).size 8 = 8 by rw [txt_size, be8_length]; rfl)
    have HO3 := Lib.hid (fun i (_ : i < 73) => (show over (rc q.st (lay q.blk (q.size % 64) (zeros (64 - q.size % 64))) q.size) 64 (bcells ((txt (be8 (8 * r.size))).data.toList.take 8)) i = rc q.st (lay (lay q.blk (q.size % 64) (zeros (64 - q.size % 64))) 56 (be8 (8 * r.size))) q.size i by
      rw [txt_list, List.take_of_length_le (by rw [be8_length]; omega)]
      exact over_rc q.st (lay q.blk (q.size % 64) (zeros (64 - q.size % 64))) q.size 56 (be8 (8 * r.size)) (by rw [be8_length]; omega) i))
    go_wp2_with (first | (refine wpList_clear_row rfl (.tmp 31) 182 rfl 5 Tryz.underlying182 (.int .u8 0) HZ8.out rfl rfl B 73 _ 200 HS.out (8 + q.size % 64) (64 - q.size % 64) (64 - q.size % 64) rfl (by omega) _ HO2.out ?_; intro w5 hb5 hh5) | (with_reducible refine wpList_copy_text rfl (.tmp 35) (.tmp 36) 182 9 rfl 5 Tryz.underlying182 info8 B 73 _ 200 hh5.out 64 8 8 (txt (be8 (8 * r.size))) rfl rfl 8 HM8.out (by omega) _ HO3.out ?_; intro w6 hb6 hh6))
    refine (mix_any B q.st _ q.size _ (HA2.out.k.but ((hb5.out).trans hb6.out) (fun e => hB e.symm)) hh6.out).mono ?_
    rintro e w7 ⟨rfl, hb7, hh7⟩
    have HB7 := Lib.hid hb7
    have HH7 := Lib.hid hh7
    clear hb7 hh7
    go_wp2_with fail
    refine (text_any B { st := _, blk := _, size := _ } _ HH7.out).mono ?_
    rintro e w8 ⟨rfl, hb8⟩
    have HB8 := Lib.hid hb8
    clear hb8
    go_wp2
    go_ret
    have hbut : But B w w7 := ((((But.refl B w).below HB1.out).trans HA2.out.but).trans (hb5.out.trans hb6.out)).trans HB7.out
    refine ⟨?_, hbut.below HB8.out, (HK.out.but hbut (fun e => hB e.symm)).below HB8.out (HK.out.but hbut (fun e => hB e.symm)).lt⟩
    rw [feed_padding, HQ.out, show 8 * r.size % 18446744073709551616 = 8 * r.size from by omega, ← HQS.out]
    unfold padded
    rw [if_neg h56]
    rfl
end Go.Proofs.YtcfpmofmjnhonaaGreatDoor
/- Mark. -/
namespace Go.Proofs.YtcfpmofmjnhonaaGreatDoor
open Go.RowKit

/-- What a mark is the sum of. -/
def markText (kind : UInt8) (parts : List ByteArray) : List UInt8 := kind :: (parts.flatMap fun p => num8 p.size ++ p.data.toList)
def markOf (kind : UInt8) (parts : List ByteArray) : ByteArray := txt ((sumOf (markText kind parts)).take 16)
def total (parts : List ByteArray) : Nat := (parts.map fun p => p.size + 8).sum
theorem markText_snoc (kind : UInt8) (l : List ByteArray) (p : ByteArray) : markText kind (l ++ [p]) = markText kind l ++ (num8 p.size ++ p.data.toList) := by simp [markText]
theorem num8_length (n : Int) : (num8 n).length = 8 := be8_length _
theorem markText_length (kind : UInt8) (l : List ByteArray) : (markText kind l).length = 1 + total l := by
  unfold markText total
  induction l with
  | nil => rfl
  | cons p l ih =>
    simp only [List.flatMap_cons, List.length_cons, List.length_append, List.map_cons, List.sum_cons, num8_length, size_len] at ih ⊢
    omega
theorem total_take (l : List ByteArray) : ∀ k, total (l.take k) ≤ total l := by
  induction l with
  | nil => intro k; simp
  | cons p l ih => intro k; cases k with
    | zero => simp [total]
    | succ k => have := ih k; simp only [total, List.take_succ_cons, List.map_cons, List.sum_cons] at this ⊢; omega
theorem total_le (l : List ByteArray) (p : ByteArray) (h : p ∈ l) : p.size ≤ total l := by
  induction l with
  | nil => cases h
  | cons q l ih =>
    simp only [total, List.map_cons, List.sum_cons] at ih ⊢
    rcases List.mem_cons.1 h with rfl | h
    · omega
    · have := ih h; omega

set_option maxRecDepth 100000 in
theorem mark_any (kind : UInt8) (parts : List ByteArray) (pa : Option Addr) (cap : Nat) (w : World) (hk : HasK w) (hs : total parts ≤ 1073741800) (hn : parts.length ≤ 1000000)
    (hc : ∀ (i : Nat) p, parts[i]? = some p → ∃ a, pa = some a ∧ a.block < w.heap.size ∧ w.cell? (a.add i) = some (.string p)) :
    Calls Tryz.prog 55 #[.int .u8 (kind.toNat : Int), .slice pa parts.length cap] w fun e w' => e = .returned (.string (markOf kind parts)) ∧ Below w.heap.size w w' := by
  have HK := Lib.hid hk
  have HC := Lib.hid hc
  clear hk hc
  have hz := zeroRun
  have hi : (Tryz.prog.info? 200).map (·.size) = some (arr 73 rs0.cells).size := by rw [arr_size]; exact infoRun
  have hs1 : (arr 73 (rc (fun _ => 0) (fun _ => 0) 0)).size = (arr 73 rs0.cells).size := by rw [arr_size, arr_size]
  have h1 := arr_one 73 rs0.cells (rc_one _ _ _)
  obtain ⟨z, ez⟩ : ∃ z, arr 73 rs0.cells = z := ⟨_, rfl⟩
  have EZ := Lib.hid ez
  rw [ez] at hi hs1 h1
  have HI := Lib.hid hi
  have HS := Lib.hid hs1
  have H1 := Lib.hid h1
  clear hi hs1 h1 ez
  go_enter Tryz.func55, Tryz.ntmps55
  go_wp2_with fail
  refine (begin_any _).mono ?_
  rintro e w1 ⟨rfl, hb1⟩
  rw [EZ.out]
  have HB1 := Lib.hid hb1
  clear hb1
  have hcv : (convert 182 9 (.slice (some ⟨w1.heap.size + 1, 0, none⟩) 1 1)).run Tryz.prog ((w1.alloc (.cells z 200)).alloc (.cells #[.int .u8 (kind.toNat : Int)] 5)) = .ok (.string (txt [kind])) ((w1.alloc (.cells z 200)).alloc (.cells #[.int .u8 (kind.toNat : Int)] 5)) := by
    have hh := Holds.new (w1.alloc (.cells z 200)) 1 (fun _ => .int .u8 (kind.toNat : Int)) 5
    rw [World.size_alloc] at hh
    have hf : ∀ i, i < 1 → (fun _ : Nat => Value.int .u8 (kind.toNat : Int)) (0 + i) = .int .u8 ((([kind] : List UInt8).getD i 0).toNat : Int) := fun i hi => by
      obtain rfl : i = 0 := by omega
      rfl
    exact run_conv_text hh 182 9 5 Tryz.underlying182 Tryz.underlying5 Tryz.underlying9 [kind] 0 1 1 rfl (by omega) hf
  go_wp2_with (refine wpList_store_new rfl 200 (.tmp 5) (.tmp 8) rfl z rfl rfl 200 _ HI.out HS.out H1.out ?_)
  clear hcv
  have hh : Holds ((w1.alloc (.cells z 200)).alloc (.cells #[.int .u8 (kind.toNat : Int)] 5)) w1.heap.size 73 rs0.cells 200 := by rw [← EZ.out]; exact (Holds.new w1 73 _ _).alloc _
  have hB : w1.heap.size ≠ 1 := by have := HK.out.lt; have := HB1.out.size; omega
  have hbw : Below w.heap.size w ((w1.alloc (.cells z 200)).alloc (.cells #[.int .u8 (kind.toNat : Int)] 5)) := (HB1.out.alloc HB1.out.size _).alloc (by have := HB1.out.size; simp; omega) _
  have HBW := Lib.hid hbw
  have HHH := Lib.hid hh
  clear hh hbw
  refine (add_any w1.heap.size rs0 (txt [kind]) _ hB (HK.out.below HBW.out HK.out.lt) (by rw [txt_size]; show 0 + 1 ≤ 2147483648; omega) HHH.out).mono ?_
  rintro e w2 ⟨rfl, ha2⟩
  have hb2 : Below w.heap.size w w2 := HBW.out.trans (ha2.but.toBelow HB1.out.size HBW.out.size)
  have HB2 := Lib.hid hb2
  have HA2 := Lib.hid (show HasK w2 ∧ Holds w2 w1.heap.size 73 (feed rs0 (markText kind (parts.take 0))).cells 200 from ⟨ha2.k, ha2.run⟩)
  clear ha2 hb2
  go_wp2
  go_loopw [15] (fun i wr => ∃ k : Nat, k ≤ parts.length ∧ i = .int .i64 k ∧ Below w.heap.size w wr ∧ HasK wr ∧ Holds wr w1.heap.size 73 (feed rs0 (markText kind (parts.take k))).cells 200) (fun i _ => parts.length - (intOf i).toNat)
  case atStart => exact ⟨0, by omega, rfl, HB2.out, HA2.out.1, HA2.out.2⟩
  case round =>
    obtain ⟨k, hkl, rfl, hb, hkk, hh⟩ := hrel
    have HB := Lib.hid hb
    have HKK := Lib.hid hkk
    have HH := Lib.hid hh
    clear hb hkk hh
    by_cases hlt : k < parts.length
    · obtain ⟨p, hp⟩ : ∃ p, parts[k]? = some p := ⟨_, List.getElem?_eq_getElem hlt⟩
      obtain ⟨ad, rfl, hal, hcell⟩ := HC.out k p hp
      have hcr : wr.cell? (ad.add k) = some (.string p) := by
        rw [HB.out.cell (by rw [show (ad.add k).block = ad.block from by unfold Addr.add; split <;> rfl]; exact hal)]; exact hcell
      have hpl : p.size ≤ 1073741800 := Nat.le_trans (total_le parts p (List.mem_of_getElem? hp)) hs
      have HP := Lib.hid hp
      clear hcell hp
      have hsz1 : (feed rs0 (markText kind (parts.take k))).size + 8 + p.size ≤ 1073741809 := by
        rw [feed_size, markText_length]
        have e1 : total (parts.take (k + 1)) = total (parts.take k) + (p.size + 8) := by
          rw [List.take_add_one, HP.out]; simp [total]
        have e2 := total_take parts (k + 1)
        show 0 + (1 + total (parts.take k)) + 8 + p.size ≤ _
        omega
      have HSZ := Lib.hid hsz1
      clear hsz1
      go_wp2_with fail
      refine (num_any _ _).mono ?_
      rintro e w3 ⟨rfl, hb3⟩
      have HB3 := Lib.hid hb3
      clear hb3
      go_wp2_with fail
      refine (add_any w1.heap.size (feed rs0 (markText kind (parts.take k))) (txt (num8 p.size)) _ hB (HKK.out.below HB3.out HKK.out.lt) (by rw [txt_size, num8_length]; have := HSZ.out; omega) (HH.out.below HB3.out HH.out.lt)).mono ?_
      rintro e w4 ⟨rfl, ha4⟩
      have HA4 := Lib.hid ha4
      clear ha4
      go_wp2_with fail
      refine (add_any w1.heap.size _ p _ hB HA4.out.k (by rw [feed_size, txt_list, num8_length]; have := HSZ.out; omega) HA4.out.run).mono ?_
      rintro e w5 ⟨rfl, ha5⟩
      have HA5 := Lib.hid ha5
      clear ha5
      go_wp2
      go_roundw
      case rel =>
        refine ⟨k + 1, by omega, by go_num, ?_, HA5.out.k, ?_⟩
        · have b3 := HB.out.trans (HB3.out.mono HB.out.size)
          have b4 := b3.trans (HA4.out.but.toBelow HB1.out.size b3.size)
          exact b4.trans (HA5.out.but.toBelow HB1.out.size b4.size)
        · have e : parts.take (k + 1) = parts.take k ++ [p] := by rw [List.take_add_one, HP.out]; rfl
          rw [e, markText_snoc, feed_append, feed_append]
          exact HA5.out.run
      case measure => simp [intOf]; omega
    · obtain rfl : k = parts.length := by omega
      have hsz1 : (feed rs0 (markText kind (parts.take parts.length))).size ≤ 1073741809 := by
        rw [feed_size, markText_length]
        have e2 := total_take parts parts.length
        show 0 + (1 + total (parts.take parts.length)) ≤ _
        omega
      have HSZ := Lib.hid hsz1
      clear hsz1
      go_wp2_with fail
      refine (end_any w1.heap.size _ _ hB HKK.out (by have := HSZ.out; omega) HH.out).mono ?_
      rintro e w3 ⟨rfl, hb3, _⟩
      have HB3 := Lib.hid hb3
      clear hb3
      have hlen : (txt (sumText (feed (feed rs0 (markText kind (parts.take parts.length))) (padding (feed rs0 (markText kind (parts.take parts.length))).size)).st)).size = 32 := by rw [txt_size, sumText_length]
      generalize hy : txt (sumText (feed (feed rs0 (markText kind (parts.take parts.length))) (padding (feed rs0 (markText kind (parts.take parts.length))).size)).st) = y at hlen
      have h16 : 16 ≤ y.size := by omega
      have HY := Lib.hid hy
      clear hy hlen
      go_wp2
      go_ret
      refine ⟨?_, HB.out.trans (HB3.out.toBelow HB1.out.size HB.out.size)⟩
      have ey : y = txt (sumOf (markText kind parts)) := by
        rw [← HY.out, ← feed_append, feed_size]
        unfold sumOf
        rw [show rs0.size + (markText kind (parts.take parts.length)).length = (markText kind (parts.take parts.length)).length from Nat.zero_add _, List.take_length]
      have ex : y.extract 0 16 = markOf kind parts := by
        unfold markOf
        rw [← txt_of (y.extract 0 16), ByteArray.data_extract, Array.toList_extract, ey, txt_list]
        simp [List.extract_eq_take_drop]
      rw [← ex]
      rfl
end Go.Proofs.YtcfpmofmjnhonaaGreatDoor
/- Items, by their bits: plain lists. -/
namespace Go.Proofs.YtcfpmofmjnhonaaGreatDoor

abbrev It := ByteArray × ByteArray
def bitI (x : It) (k : Nat) : Nat := bitOf x.1.data.toList k
def itAt (L : List It) (i : Nat) : It := L.getD i (⟨#[]⟩, ⟨#[]⟩)
def goodItem (L : List It) (i : Nat) : Bool := decide ((itAt L i).1.size = 16) && decide ((itAt L i).2.size = 16) && (decide (i = 0) || decide ((itAt L (i - 1)).1.data.toList < (itAt L i).1.data.toList))
def goodItems (L : List It) (k : Nat) : Bool := (List.range k).all (goodItem L)
def rightItems (L : List It) : Bool := goodItems L L.length && decide (L.length ≤ 60)
theorem goodItems_next (L : List It) (k : Nat) : goodItems L (k + 1) = (goodItems L k && goodItem L k) := by unfold goodItems; simp [List.range_succ]
theorem goodItems_false {L : List It} {k n : Nat} (h : goodItem L k = false) (hk : k < n) : goodItems L n = false := by
  unfold goodItems
  rw [List.all_eq_false]
  exact ⟨k, List.mem_range.2 hk, by simp [h]⟩

/-- The halves of items at a depth. -/
def half (L : List It) (d k : Nat) : List It := L.filter fun x => bitI x d == k
def emptyM (d : Int) : ByteArray := markOf 101 [txt (num8 d)]
def leafM (x : It) (d : Int) : ByteArray := markOf 108 [txt (num8 d), x.1, x.2]
def joinM (a b : ByteArray) : ByteArray := markOf 110 [a, b]
def nodeOf : Nat → List It → Nat → ByteArray
  | 0, [], d => emptyM d
  | 0, x :: _, d => leafM x d
  | f + 1, L, d => if L.length = 0 then emptyM d else if L.length = 1 then leafM (itAt L 0) d else joinM (nodeOf f (half L d 0) (d + 1)) (nodeOf f (half L d 1) (d + 1))

/-- Different marks that are alike ahead of bit d. -/
def Apart (L : List It) (d : Nat) : Prop := (∀ x ∈ L, x.1.size = 16) ∧ L.Pairwise (fun x y => x.1 ≠ y.1) ∧ ∀ x ∈ L, ∀ y ∈ L, ∀ k, k < d → bitI x k = bitI y k
theorem text_of {a b : ByteArray} (h : a.data.toList = b.data.toList) : a = b := by
  rw [← txt_of a, ← txt_of b, h]
theorem same_of_bits {a b : ByteArray} (ha : a.size = 16) (hb : b.size = 16) (h : ∀ k, k < 128 → bitOf a.data.toList k = bitOf b.data.toList k) : a = b := by
  apply text_of
  exact (commonOf_all _ _ (by rw [size_len]; exact ha) (by rw [size_len]; exact hb)).1 (by have := commonOf_ge _ _ 128 (Nat.le_refl _) h; have := commonOf_le a.data.toList b.data.toList; omega)
theorem Apart.lt {L : List It} {d : Nat} (h : Apart L d) (h2 : 2 ≤ L.length) : d < 128 := by
  obtain ⟨h16, hp, ha⟩ := h
  rcases Nat.lt_or_ge d 128 with hd | hd
  · exact hd
  · match L, h2 with
    | x :: y :: r, _ =>
      have hne : x.1 ≠ y.1 := (List.pairwise_cons.1 hp).1 y (by simp)
      exact absurd (same_of_bits (h16 x (by simp)) (h16 y (by simp)) (fun k hk => ha x (by simp) y (by simp) k (by omega))) hne
theorem Apart.half {L : List It} {d : Nat} (h : Apart L d) (k : Nat) : Apart (half L d k) (d + 1) := by
  obtain ⟨h16, hp, ha⟩ := h
  refine ⟨fun x hx => h16 x (List.mem_filter.1 hx).1, hp.filter _, fun x hx y hy j hj => ?_⟩
  obtain ⟨hx1, hx2⟩ := List.mem_filter.1 hx
  obtain ⟨hy1, hy2⟩ := List.mem_filter.1 hy
  by_cases e : j = d
  · subst e
    rw [eq_of_beq hx2, eq_of_beq hy2]
  · exact ha x hx1 y hy1 j (by omega)
theorem half_le (L : List It) (d k : Nat) : (half L d k).length ≤ L.length := List.length_filter_le _ _

theorem itAt_get {L : List It} {i : Nat} {x : It} (h : L[i]? = some x) : itAt L i = x := by unfold itAt; rw [List.getD_eq_getElem?_getD, h]; rfl
theorem goodItem_of {L : List It} {i n : Nat} (h : goodItems L n = true) (hi : i < n) : goodItem L i = true := by
  unfold goodItems at h
  rw [List.all_eq_true] at h
  exact h i (List.mem_range.2 hi)
theorem right_sizes {L : List It} (h : rightItems L = true) : ∀ x ∈ L, x.1.size = 16 ∧ x.2.size = 16 := by
  intro x hx
  obtain ⟨i, hi, rfl⟩ := List.getElem_of_mem hx
  unfold rightItems at h
  rw [Bool.and_eq_true] at h
  have := goodItem_of h.1 hi
  unfold goodItem at this
  rw [itAt_get (List.getElem?_eq_getElem hi)] at this
  simp at this
  exact this.1
theorem right_length {L : List It} (h : rightItems L = true) : L.length ≤ 60 := by
  unfold rightItems at h; simp at h; exact h.2
theorem lt_trans_list {a b c : List UInt8} (h1 : a < b) (h2 : b < c) : a < c := List.lt_trans h1 h2
theorem lt_irrefl_list (a : List UInt8) : ¬ a < a := List.lt_irrefl a
theorem right_next {L : List It} (h : rightItems L = true) (i : Nat) (hi : i + 1 < L.length) : (itAt L i).1.data.toList < (itAt L (i + 1)).1.data.toList := by
  unfold rightItems at h
  rw [Bool.and_eq_true] at h
  have := goodItem_of h.1 hi
  unfold goodItem at this
  simp at this
  exact this.2
theorem right_rise {L : List It} (h : rightItems L = true) : ∀ (j i : Nat), i < j → j < L.length → (itAt L i).1.data.toList < (itAt L j).1.data.toList := by
  intro j
  induction j with
  | zero => intro i hi; omega
  | succ j ih =>
    intro i hi hj
    have h1 := right_next h j hj
    by_cases e : i = j
    · subst e; exact h1
    · exact lt_trans_list (ih i (by omega) (by omega)) h1
theorem itAt_of {L : List It} {i : Nat} (hi : i < L.length) : itAt L i = L[i] := itAt_get (List.getElem?_eq_getElem hi)
/-- What is right rises. -/
theorem right_sorted {L : List It} (h : rightItems L = true) : L.Pairwise (fun x y => x.1.data.toList < y.1.data.toList) := by
  rw [List.pairwise_iff_getElem]
  intro i j hi hj hij
  have := right_rise h j i hij hj
  rwa [itAt_of hi, itAt_of hj] at this
theorem right_apart {L : List It} (h : rightItems L = true) : Apart L 0 := by
  refine ⟨fun x hx => (right_sizes h x hx).1, (right_sorted h).imp ?_, fun _ _ _ _ k hk => by omega⟩
  intro x y hxy e
  rw [e] at hxy
  exact lt_irrefl_list _ hxy
end Go.Proofs.YtcfpmofmjnhonaaGreatDoor
