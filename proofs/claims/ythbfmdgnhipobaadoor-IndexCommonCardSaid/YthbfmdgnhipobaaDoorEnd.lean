/- begin, text, end: a sum from its beginning to its end; Sum. -/
import Derived.Test.YthbfmdgnhipobaaDoorAdd
import Derived.Test.YthbfmdgnhipobaaDoorPad
import Derived.Test.YthbfmdgnhipobaaDoorEight
namespace Go.Proofs.YthbfmdgnhipobaaDoor
open Go.RowKit

def tfill (st : Nat → BitVec 32) (k : Nat) : Nat → Value := fun i => if i < k then .int .u8 ((UInt8.ofNat ((st (i / 4)).toNat / 2 ^ (24 - 8 * (i % 4)))).toNat : Int) else .int .u8 0

theorem text_any (B : Nat) (r : RS) (w : World) (hr : Holds w B 73 r.cells 64) :
    Calls Tryd.prog 41 #[.pointer (some ⟨B, 0, none⟩)] w fun e w' => e = .returned (.string (txt (sumText r.st))) ∧ Below w.heap.size w w' := by
  have HR := Lib.hid hr
  clear hr
  go_enter Tryd.func41, Tryd.ntmps41
  go_wp2
  go_loopw [5] (fun i wr => ∃ k : Nat, k ≤ 32 ∧ i = .int .i64 k ∧ Below w.heap.size w wr ∧ Holds wr w.heap.size 32 (tfill r.st k) 86) (fun i _ => 32 - (intOf i).toNat)
  case atStart => exact ⟨0, by omega, rfl, (Below.refl _ _).alloc (Nat.le_refl _) _, (Holds.new w 32 (fun _ => .int .u8 0) 86).congr fun i hi => by unfold tfill; rw [if_neg (by omega)]⟩
  case round =>
    obtain ⟨k, hk, rfl, hb, hh⟩ := hrel
    have HB := Lib.hid hb
    have HH := Lib.hid hh
    clear hb hh
    by_cases hlt : k < 32
    · have c := HH.out.cell k (by omega)
      have f := HH.out.free k
      have cs : wr.cell? ⟨B, k / 4, none⟩ = some (.int .u32 (W32 (r.st (k / 4)))) := by
        rw [HB.out.cell HR.out.lt, HR.out.cell (k / 4) (by omega)]; exact congrArg some (rc_st _ _ _ _ (by omega))
      go_wp2
      go_roundw
      case rel =>
        have ev : W32 (r.st (k / 4)) / 2 ^ (24 - 8 * (k % 4)) % (256 : Int) = ((UInt8.ofNat ((r.st (k / 4)).toNat / 2 ^ (24 - 8 * (k % 4)))).toNat : Int) := by
          rw [UInt8.toNat_ofNat']; unfold W32; simp
        refine ⟨k + 1, by omega, by go_num, HB.out.setCell (Nat.le_refl _) _, (HH.out.set k _).congr fun i hi => ?_⟩
        rw [ev]
        unfold upd tfill
        by_cases h : i = k
        · subst h; rw [if_pos rfl, if_pos (by omega)]
        · rw [if_neg h]
          by_cases h2 : i < k
          · rw [if_pos h2, if_pos (by omega)]
          · rw [if_neg h2, if_neg (by omega)]
      case measure => simp [intOf]; omega
    · obtain rfl : k = 32 := by omega
      have hcv := run_conv_text (P := Tryd.prog) HH.out 59 9 5 Tryd.underlying59 Tryd.underlying5 Tryd.underlying9 (sumText r.st) 0 32 32 (sumText_length _) (by omega) (fun i hi => by
        rw [sumText_get _ i hi]; unfold tfill; rw [if_pos (by omega), Nat.zero_add])
      go_wp2
      go_ret
      exact ⟨rfl, HB.out⟩

theorem zeroRun (w : World) : (zeroValue 64).run Tryd.prog w = .ok (.agg (arr 73 (rc (fun _ => 0) (fun _ => 0) 0))) w := by kernel_rfl
theorem infoRun : (Tryd.prog.info? 64).map (·.size) = some 73 := by kernel_rfl
theorem built8 : Tryd.prog.built 43 [(0, .int .u32 1779033703), (1, .int .u32 3144134277), (2, .int .u32 1013904242), (3, .int .u32 2773480762), (4, .int .u32 1359893119), (5, .int .u32 2600822924), (6, .int .u32 528734635), (7, .int .u32 1541459225)] = some (arr 8 fun i => .int .u32 (W32 (iv i))) := by kernel_rfl
theorem builtRun : Tryd.prog.built 64 [(0, .agg (arr 8 fun i => .int .u32 (W32 (iv i))))] = some (arr 73 rs0.cells) := by kernel_rfl
theorem rc_one (st : Nat → BitVec 32) (blk : Nat → Nat) (size : Nat) (i : Nat) : (rc st blk size i).oneCell' = true := by
  unfold rc; split
  · rfl
  · split <;> rfl
set_option maxRecDepth 100000 in
theorem begin_any (w : World) :
    Calls Tryd.prog 32 #[] w fun e w' => e = .returned (.agg (arr 73 rs0.cells)) ∧ Below w.heap.size w w' := by
  have hz := zeroRun
  have hi : (Tryd.prog.info? 64).map (·.size) = some (arr 73 rs0.cells).size := by rw [arr_size]; exact infoRun
  have hs : (arr 73 (rc (fun _ => 0) (fun _ => 0) 0)).size = (arr 73 rs0.cells).size := by rw [arr_size, arr_size]
  have h1 := arr_one 73 rs0.cells (rc_one _ _ _)
  have HI := Lib.hid hi
  have HS := Lib.hid hs
  have H1 := Lib.hid h1
  clear hi hs h1
  go_enter Tryd.func32, Tryd.ntmps32
  go_wp2_with (first | (refine wpList_build_as rfl 43 _ rfl _ built8 ?_) | (refine wpList_build_as rfl 64 _ rfl _ builtRun ?_) | (refine wpList_store_new rfl 64 (.tmp 0) (.tmp 2) rfl (arr 73 rs0.cells) rfl rfl 64 _ HI.out HS.out H1.out ?_))
  all_goals
    have hrun : ∀ tmps : Array Value, tmps.getD 0 undef = .pointer (some ⟨w.heap.size, 0, none⟩) → (results Tryd.f32 tmps).run Tryd.prog (w.alloc (.cells (arr 73 rs0.cells) 64)) = .ok (.agg (arr 73 rs0.cells)) (w.alloc (.cells (arr 73 rs0.cells) 64)) := fun tmps ht =>
      results_cell_row (by rfl) tmps _ w.heap.size 64 (arr 73 rs0.cells) (0, 0) _ ht (heap_alloc_new _ _) Tryd.underlying64 rfl HI.out
    exact bodyPost_ret (hrun _ rfl) rfl ⟨rfl, (Below.refl _ _).alloc (Nat.le_refl _) _⟩

set_option maxRecDepth 100000 in
theorem end_any (B : Nat) (r : RS) (w : World) (hB : B ≠ 0) (hk : HasK w) (hz : r.size ≤ 1073741824)
    (hr : Holds w B 73 r.cells 64) :
    Calls Tryd.prog 35 #[.pointer (some ⟨B, 0, none⟩)] w fun e w' => e = .returned (.string (txt (sumText (feed r (padding r.size)).st))) ∧ But B w w' ∧ HasK w' := by
  have HR := Lib.hid hr
  have HK := Lib.hid hk
  have c72 : w.cell? ⟨B, 72, none⟩ = some (.int .u64 (r.size : Int)) := by
    rw [hr.cell 72 (by omega)]; exact congrArg some (rc_size _ _ _)
  clear hr hk
  go_enter Tryd.func35, Tryd.ntmps35
  go_wp2_with fail
  rw [show (8 * (r.size : Int)) = ((8 * r.size : Nat) : Int) from by omega]
  refine (eight_any (8 * r.size) _).mono ?_
  rintro e w1 ⟨rfl, hb1⟩
  have h1 : Holds w1 B 73 r.cells 64 := HR.out.below hb1 HR.out.lt
  have k1 : HasK w1 := HK.out.below hb1 HK.out.lt
  have HB1 := Lib.hid hb1
  have H1 := Lib.hid h1
  have K1 := Lib.hid k1
  clear hb1 h1 k1 c72
  go_wp2_with fail
  refine (add_any B r (txt [0x80]) _ hB K1.out (by rw [txt_size]; show r.size + 1 ≤ 2147483648; omega) H1.out).mono ?_
  rintro e w2 ⟨rfl, ha2⟩
  rw [txt_list] at ha2
  obtain ⟨q, hq⟩ : ∃ q, feed r [0x80] = q := ⟨_, rfl⟩
  have hqs : q.size = r.size + 1 := by rw [← hq, feed_size]; rfl
  rw [hq] at ha2
  have hql : q.size ≤ 1073741825 := by omega
  have HQ := Lib.hid hq
  have HQS := Lib.hid hqs
  have HA2 := Lib.hid ha2
  clear hq hqs ha2
  have c72 : w2.cell? ⟨B, 72, none⟩ = some (.int .u64 (q.size : Int)) := by
    rw [HA2.out.run.cell 72 (by omega)]; exact congrArg some (rc_size _ _ _)
  have hz8 : ∀ w, (zeroValue 5).run Tryd.prog w = .ok (.int .u8 0) w := fun _ => by kernel_rfl
  have HZ8 := Lib.hid hz8
  clear hz8
  have hs56 : ∀ wx, (Instr.sliceAt 62 (.pointer (some ⟨B, 8, none⟩)) (some (.int .i64 56)) none none).run Tryd.prog wx = .ok (.slice (some ⟨B, 64, none⟩) 8 8) wx := fun wx => sliceAt_l (P := Tryd.prog) 62 5 64 Tryd.underlying62 size8 B 8 56 (by omega) .i64 56 rfl wx
  by_cases h56 : 56 < q.size % 64
  · have hsl := fun wx => sliceAt_l (P := Tryd.prog) 62 5 64 Tryd.underlying62 size8 B 8 (q.size % 64) (by omega) .u64 ((q.size : Int) % 64) (by omega) wx
    have hs0 : ∀ wx, (Instr.sliceAt 62 (.pointer (some ⟨B, 8, none⟩)) (some (.int .u64 0)) none none).run Tryd.prog wx = .ok (.slice (some ⟨B, 8, none⟩) 64 64) wx := fun wx => sliceAt_l (P := Tryd.prog) 62 5 64 Tryd.underlying62 size8 B 8 0 (by omega) .u64 0 rfl wx
    have HO := Lib.hid (fun i (_ : i < 73) => over_zero q.st q.blk q.size (q.size % 64) (64 - q.size % 64) (by omega) i)
    go_wp2_with (refine wpList_clear_row rfl (.tmp 24) 59 rfl 5 Tryd.underlying59 (.int .u8 0) HZ8.out rfl rfl B 73 q.cells 64 HA2.out.run (8 + q.size % 64) (64 - q.size % 64) (64 - q.size % 64) rfl (by omega) _ HO.out ?_; intro w3 hb3 hh3)
    refine (mix_any B q.st _ q.size _ (HA2.out.k.but hb3.out (fun e => hB e.symm)) hh3.out).mono ?_
    rintro e w4 ⟨rfl, hb4, hh4⟩
    have HB4 := Lib.hid hb4
    have HS := Lib.hid hh4
    clear hb4 hh4 hsl
    have HO2 := Lib.hid (fun i (_ : i < 73) => over_zero (mixed q.st (lay q.blk (q.size % 64) (zeros (64 - q.size % 64)))) (lay q.blk (q.size % 64) (zeros (64 - q.size % 64))) q.size 0 64 (by omega) i)
    have HM8 := Lib.hid (show min (txt (be8 (8 * r.size))).size 8 = 8 by rw [txt_size, be8_length]; rfl)
    have HO3 := Lib.hid (fun i (_ : i < 73) => (show over (rc (mixed q.st (lay q.blk (q.size % 64) (zeros (64 - q.size % 64)))) (lay (lay q.blk (q.size % 64) (zeros (64 - q.size % 64))) 0 (zeros 64)) q.size) 64 (bcells ((txt (be8 (8 * r.size))).data.toList.take 8)) i = rc (mixed q.st (lay q.blk (q.size % 64) (zeros (64 - q.size % 64)))) (lay (lay (lay q.blk (q.size % 64) (zeros (64 - q.size % 64))) 0 (zeros 64)) 56 (be8 (8 * r.size))) q.size i by
      rw [txt_list, List.take_of_length_le (by rw [be8_length]; omega)]
      exact over_rc (mixed q.st (lay q.blk (q.size % 64) (zeros (64 - q.size % 64)))) (lay (lay q.blk (q.size % 64) (zeros (64 - q.size % 64))) 0 (zeros 64)) q.size 56 (be8 (8 * r.size)) (by rw [be8_length]; omega) i))
    go_wp2_with (first | (refine wpList_clear_row rfl (.tmp 31) 59 rfl 5 Tryd.underlying59 (.int .u8 0) HZ8.out rfl rfl B 73 _ 64 HS.out 8 64 64 rfl (by omega) _ HO2.out ?_; intro w5 hb5 hh5) | (with_reducible refine wpList_copy_text rfl (.tmp 35) (.tmp 36) 59 9 rfl 5 Tryd.underlying59 info8 B 73 _ 64 hh5.out 64 8 8 (txt (be8 (8 * r.size))) rfl rfl 8 HM8.out (by omega) _ HO3.out ?_; intro w6 hb6 hh6))
    refine (mix_any B (mixed q.st (lay q.blk (q.size % 64) (zeros (64 - q.size % 64)))) _ q.size _ (((HA2.out.k.but hb3.out (fun e => hB e.symm)).but HB4.out (fun e => hB e.symm)).but ((hb5.out).trans hb6.out) (fun e => hB e.symm)) hh6.out).mono ?_
    rintro e w7 ⟨rfl, hb7, hh7⟩
    have HB7 := Lib.hid hb7
    have HH7 := Lib.hid hh7
    clear hb7 hh7
    go_wp2_with fail
    refine (text_any B { st := _, blk := _, size := _ } _ HH7.out).mono ?_
    rintro e w8 ⟨rfl, hb8⟩
    have HB8 := Lib.hid hb8
    clear hb8
    go_wp2
    go_ret
    have hbut : But B w w7 := (((((((But.refl B w).below HB1.out).trans HA2.out.but).trans hb3.out).trans HB4.out)).trans (hb5.out.trans hb6.out)).trans HB7.out
    refine ⟨?_, hbut.below HB8.out, (HK.out.but hbut (fun e => hB e.symm)).below HB8.out (HK.out.but hbut (fun e => hB e.symm)).lt⟩
    rw [feed_padding, HQ.out, show 8 * r.size % 18446744073709551616 = 8 * r.size from by omega, ← HQS.out]
    unfold padded
    rw [if_pos h56]
    rfl
  · have hsl := fun wx => sliceAt_l (P := Tryd.prog) 62 5 64 Tryd.underlying62 size8 B 8 (q.size % 64) (by omega) .u64 ((q.size : Int) % 64) (by omega) wx
    have HS := Lib.hid HA2.out.run
    have HO2 := Lib.hid (fun i (_ : i < 73) => over_zero q.st q.blk q.size (q.size % 64) (64 - q.size % 64) (by omega) i)
    have HM8 := Lib.hid (show min (txt (be8 (8 * r.size))).size 8 = 8 by rw [txt_size, be8_length]; rfl)
    have HO3 := Lib.hid (fun i (_ : i < 73) => (show over (rc q.st (lay q.blk (q.size % 64) (zeros (64 - q.size % 64))) q.size) 64 (bcells ((txt (be8 (8 * r.size))).data.toList.take 8)) i = rc q.st (lay (lay q.blk (q.size % 64) (zeros (64 - q.size % 64))) 56 (be8 (8 * r.size))) q.size i by
      rw [txt_list, List.take_of_length_le (by rw [be8_length]; omega)]
      exact over_rc q.st (lay q.blk (q.size % 64) (zeros (64 - q.size % 64))) q.size 56 (be8 (8 * r.size)) (by rw [be8_length]; omega) i))
    go_wp2_with (first | (refine wpList_clear_row rfl (.tmp 31) 59 rfl 5 Tryd.underlying59 (.int .u8 0) HZ8.out rfl rfl B 73 _ 64 HS.out (8 + q.size % 64) (64 - q.size % 64) (64 - q.size % 64) rfl (by omega) _ HO2.out ?_; intro w5 hb5 hh5) | (with_reducible refine wpList_copy_text rfl (.tmp 35) (.tmp 36) 59 9 rfl 5 Tryd.underlying59 info8 B 73 _ 64 hh5.out 64 8 8 (txt (be8 (8 * r.size))) rfl rfl 8 HM8.out (by omega) _ HO3.out ?_; intro w6 hb6 hh6))
    refine (mix_any B q.st _ q.size _ (HA2.out.k.but ((hb5.out).trans hb6.out) (fun e => hB e.symm)) hh6.out).mono ?_
    rintro e w7 ⟨rfl, hb7, hh7⟩
    have HB7 := Lib.hid hb7
    have HH7 := Lib.hid hh7
    clear hb7 hh7
    go_wp2_with fail
    refine (text_any B { st := _, blk := _, size := _ } _ HH7.out).mono ?_
    rintro e w8 ⟨rfl, hb8⟩
    have HB8 := Lib.hid hb8
    clear hb8
    go_wp2
    go_ret
    have hbut : But B w w7 := ((((But.refl B w).below HB1.out).trans HA2.out.but).trans (hb5.out.trans hb6.out)).trans HB7.out
    refine ⟨?_, hbut.below HB8.out, (HK.out.but hbut (fun e => hB e.symm)).below HB8.out (HK.out.but hbut (fun e => hB e.symm)).lt⟩
    rw [feed_padding, HQ.out, show 8 * r.size % 18446744073709551616 = 8 * r.size from by omega, ← HQS.out]
    unfold padded
    rw [if_neg h56]
    rfl
end Go.Proofs.YthbfmdgnhipobaaDoor
