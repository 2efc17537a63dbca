/- Parts of the proof, one behind the other: End, Sum, Items, Mem, RNum, RSum, Later, Leafs, Heads, Along. -/
import Derived.WalkKit
import Derived.Lib.Hide
import Derived.WalkLawsBesides
import Derived.Deep.QuietTactic
import Derived.Deep.WholeRow
import Derived.Laws.CopyRow
import Derived.Deep.RegionLaw
import Derived.Laws.BytesString
import Derived.Laws.BitsAllLaws
import Derived.Test.YtgjmbokfenpefaaGreatDoorProg
import Derived.Outline
import Derived.BigQuiet
import Derived.Laws.CopyOwn
import Derived.RegionTactic
import Derived.ArgAppend
import Derived.Laws.AppendOwnNone
import Derived.Laws.IdiomStrings
import Derived.StillTail
import Derived.Deep.Quiet
import Derived.Deep.RegionHeld3
import Derived.Deep.DeepCutAuto
import Derived.Laws.ResultCell
import Derived.Test.YtgjmbokfenpefaaGreatDoorM1
import Derived.Test.YtgjmbokfenpefaaGreatDoorM2
import Derived.Test.YtgjmbokfenpefaaGreatDoorM3
/- begin, text, end: a sum from its beginning to its end; Sum. -/
namespace Go.Proofs.YtgjmbokfenpefaaGreatDoor
open Go.RowKit

def tfill (st : Nat → BitVec 32) (k : Nat) : Nat → Value := fun i => if i < k then .int .u8 ((UInt8.ofNat ((st (i / 4)).toNat / 2 ^ (24 - 8 * (i % 4)))).toNat : Int) else .int .u8 0

theorem text_any (B : Nat) (r : RS) (w : World) (hr : Holds w B 73 r.cells 263) :
    Calls Tryz.prog 201 #[.pointer (some ⟨B, 0, none⟩)] w fun e w' => e = .returned (.string (txt (sumText r.st))) ∧ Below w.heap.size w w' := by
  have HR := Lib.hid hr
  clear hr
  go_enter Tryz.func201, Tryz.ntmps201
  go_wp2
  go_loopw [5] (fun i wr => ∃ k : Nat, k ≤ 32 ∧ i = .int .i64 k ∧ Below w.heap.size w wr ∧ Holds wr w.heap.size 32 (tfill r.st k) 358) (fun i _ => 32 - (intOf i).toNat)
  case atStart => exact ⟨0, by omega, rfl, (Below.refl _ _).alloc (Nat.le_refl _) _, (Holds.new w 32 (fun _ => .int .u8 0) 358).congr fun i hi => by unfold tfill; rw [if_neg (by omega)]⟩
  case round =>
    obtain ⟨k, hk, rfl, hb, hh⟩ := hrel
    have HB := Lib.hid hb
    have HH := Lib.hid hh
    clear hb hh
    by_cases hlt : k < 32
    · have c := HH.out.cell k (by omega)
      have f := HH.out.free k
      have cs : wr.cell? ⟨B, k / 4, none⟩ = some (.int .u32 (W32 (r.st (k / 4)))) := by
        rw [HB.out.cell HR.out.lt, HR.out.cell (k / 4) (by omega)]; exact congrArg some (rc_st _ _ _ _ (by omega))
      go_wp2
      go_roundw
      case rel =>
        have ev : W32 (r.st (k / 4)) / 2 ^ (24 - 8 * (k % 4)) % (256 : Int) = ((UInt8.ofNat ((r.st (k / 4)).toNat / 2 ^ (24 - 8 * (k % 4)))).toNat : Int) := by
          rw [UInt8.toNat_ofNat']; unfold W32; simp
        refine ⟨k + 1, by omega, by go_num, HB.out.setCell (Nat.le_refl _) _, (HH.out.set k _).congr fun i hi => ?_⟩
        rw [ev]
        unfold upd tfill
        by_cases h : i = k
        · subst h; rw [if_pos rfl, if_pos (by omega)]
        · rw [if_neg h]
          by_cases h2 : i < k
          · rw [if_pos h2, if_pos (by omega)]
          · rw [if_neg h2, if_neg (by omega)]
      case measure => simp [intOf]; omega
    · obtain rfl : k = 32 := by omega
      have hcv := run_conv_text (P := Tryz.prog) HH.out 118 9 5 Tryz.underlying118 Tryz.underlying5 Tryz.underlying9 (sumText r.st) 0 32 32 (sumText_length _) (by omega) (fun i hi => by
        rw [sumText_get _ i hi]; unfold tfill; rw [if_pos (by omega), Nat.zero_add])
      go_wp2
      go_ret
      exact ⟨rfl, HB.out⟩

theorem zeroRun (w : World) : (zeroValue 263).run Tryz.prog w = .ok (.agg (arr 73 (rc (fun _ => 0) (fun _ => 0) 0))) w := by kernel_rfl
theorem infoRun : (Tryz.prog.info? 263).map (·.size) = some 73 := by kernel_rfl
theorem built8 : Tryz.prog.built 94 [(0, .int .u32 1779033703), (1, .int .u32 3144134277), (2, .int .u32 1013904242), (3, .int .u32 2773480762), (4, .int .u32 1359893119), (5, .int .u32 2600822924), (6, .int .u32 528734635), (7, .int .u32 1541459225)] = some (arr 8 fun i => .int .u32 (W32 (iv i))) := by kernel_rfl
theorem builtRun : Tryz.prog.built 263 [(0, .agg (arr 8 fun i => .int .u32 (W32 (iv i))))] = some (arr 73 rs0.cells) := by kernel_rfl
theorem rc_one (st : Nat → BitVec 32) (blk : Nat → Nat) (size : Nat) (i : Nat) : (rc st blk size i).oneCell' = true := by
  unfold rc; split
  · rfl
  · split <;> rfl
set_option maxRecDepth 100000 in
theorem begin_any (w : World) :
    Calls Tryz.prog 143 #[] w fun e w' => e = .returned (.agg (arr 73 rs0.cells)) ∧ Below w.heap.size w w' := by
  have hz := zeroRun
  have hi : (Tryz.prog.info? 263).map (·.size) = some (arr 73 rs0.cells).size := by rw [arr_size]; exact infoRun
  have hs : (arr 73 (rc (fun _ => 0) (fun _ => 0) 0)).size = (arr 73 rs0.cells).size := by rw [arr_size, arr_size]
  have h1 := arr_one 73 rs0.cells (rc_one _ _ _)
  have HI := Lib.hid hi
  have HS := Lib.hid hs
  have H1 := Lib.hid h1
  clear hi hs h1
  go_enter Tryz.func143, Tryz.ntmps143
  go_wp2_with (first | (refine wpList_build_as rfl 94 _ rfl _ built8 ?_) | (refine wpList_build_as rfl 263 _ rfl _ builtRun ?_) | (refine wpList_store_new rfl 263 (.tmp 0) (.tmp 2) rfl (arr 73 rs0.cells) rfl rfl 263 _ HI.out HS.out H1.out ?_))
  all_goals
    have hrun : ∀ tmps : Array Value, tmps.getD 0 undef = .pointer (some ⟨w.heap.size, 0, none⟩) → (results Tryz.f143 tmps).run Tryz.prog (w.alloc (.cells (arr 73 rs0.cells) 263)) = .ok (.agg (arr 73 rs0.cells)) (w.alloc (.cells (arr 73 rs0.cells) 263)) := fun tmps ht =>
      results_cell_row (by rfl) tmps _ w.heap.size 263 (arr 73 rs0.cells) (0, 0) _ ht (heap_alloc_new _ _) Tryz.underlying263 rfl HI.out
    exact bodyPost_ret (hrun _ rfl) rfl ⟨rfl, (Below.refl _ _).alloc (Nat.le_refl _) _⟩

set_option maxRecDepth 100000 in
theorem end_any (B : Nat) (r : RS) (w : World) (hB : B ≠ 1) (hk : HasK w) (hz : r.size ≤ 1073741824)
    (hr : Holds w B 73 r.cells 263) :
    Calls Tryz.prog 146 #[.pointer (some ⟨B, 0, none⟩)] w fun e w' => e = .returned (.string (txt (sumText (feed r (padding r.size)).st))) ∧ But B w w' ∧ HasK w' := by
  have HR := Lib.hid hr
  have HK := Lib.hid hk
  have c72 : w.cell? ⟨B, 72, none⟩ = some (.int .u64 (r.size : Int)) := by
    rw [hr.cell 72 (by omega)]; exact congrArg some (rc_size _ _ _)
  clear hr hk
  go_enter Tryz.func146, Tryz.ntmps146
  go_wp2_with fail
  rw [show (8 * (r.size : Int)) = ((8 * r.size : Nat) : Int) from by omega]
  refine (eight_any (8 * r.size) _).mono ?_
  rintro e w1 ⟨rfl, hb1⟩
  have h1 : Holds w1 B 73 r.cells 263 := HR.out.below hb1 HR.out.lt
  have k1 : HasK w1 := HK.out.below hb1 HK.out.lt
  have HB1 := Lib.hid hb1
  have H1 := Lib.hid h1
  have K1 := Lib.hid k1
  clear hb1 h1 k1 c72
  go_wp2_with fail
  refine (add_any B r (txt [0x80]) _ hB K1.out (by rw [txt_size]; show r.size + 1 ≤ 2147483648; omega) H1.out).mono ?_
  rintro e w2 ⟨rfl, ha2⟩
  rw [txt_list] at ha2
  obtain ⟨q, hq⟩ : ∃ q, feed r [0x80] = q := ⟨_, rfl⟩
  have hqs : q.size = r.size + 1 := by rw [← hq, feed_size]; rfl
  rw [hq] at ha2
  have hql : q.size ≤ 1073741825 := by omega
  have HQ := Lib.hid hq
  have HQS := Lib.hid hqs
  have HA2 := Lib.hid ha2
  clear hq hqs ha2
  have c72 : w2.cell? ⟨B, 72, none⟩ = some (.int .u64 (q.size : Int)) := by
    rw [HA2.out.run.cell 72 (by omega)]; exact congrArg some (rc_size _ _ _)
  have hz8 : ∀ w, (zeroValue 5).run Tryz.prog w = .ok (.int .u8 0) w := fun _ => by kernel_rfl
  have HZ8 := Lib.hid hz8
  clear hz8
  have hs56 : ∀ wx, (Instr.sliceAt 261 (.pointer (some ⟨B, 8, none⟩)) (some (.int .i64 56)) none none).run Tryz.prog wx = .ok (.slice (some ⟨B, 64, none⟩) 8 8) wx := fun wx => sliceAt_l (P := Tryz.prog) 261 5 64 Tryz.underlying261 size8 B 8 56 (by omega) .i64 56 rfl wx
  by_cases h56 : 56 < q.size % 64
  · have hsl := fun wx => sliceAt_l (P := Tryz.prog) 261 5 64 Tryz.underlying261 size8 B 8 (q.size % 64) (by omega) .u64 ((q.size : Int) % 64) (by omega) wx
    have hs0 : ∀ wx, (Instr.sliceAt 261 (.pointer (some ⟨B, 8, none⟩)) (some (.int .u64 0)) none none).run Tryz.prog wx = .ok (.slice (some ⟨B, 8, none⟩) 64 64) wx := fun wx => sliceAt_l (P := Tryz.prog) 261 5 64 Tryz.underlying261 size8 B 8 0 (by omega) .u64 0 rfl wx
    have HO := Lib.hid (fun i (_ : i < 73) => over_zero q.st q.blk q.size (q.size % 64) (64 - q.size % 64) (by omega) i)
    go_wp2_with (refine wpList_clear_row rfl (.tmp 24) 118 rfl 5 Tryz.underlying118 (.int .u8 0) HZ8.out rfl rfl B 73 q.cells 263 HA2.out.run (8 + q.size % 64) (64 - q.size % 64) (64 - q.size % 64) rfl (by omega) _ HO.out ?_; intro w3 hb3 hh3)
    refine (mix_any B q.st _ q.size _ (HA2.out.k.but hb3.out (fun e => hB e.symm)) hh3.out).mono ?_
    rintro e w4 ⟨rfl, hb4, hh4⟩
    have HB4 := Lib.hid hb4
    have HS := Lib.hid hh4
    clear hb4 hh4 hsl
    have HO2 := Lib.hid (fun i (_ : i < 73) => over_zero (mixed q.st (lay q.blk (q.size % 64) (zeros (64 - q.size % 64)))) (lay q.blk (q.size % 64) (zeros (64 - q.size % 64))) q.size 0 64 (by omega) i)
    have HM8 := Lib.hid (show min (txt (be8 (8 * r.size))).size 8 = 8 by rw [txt_size, be8_length]; rfl)
    have HO3 := Lib.hid (fun i (_ : i < 73) => (show over (rc (mixed q.st (lay q.blk (q.size % 64) (zeros (64 - q.size % 64)))) (lay (lay q.blk (q.size % 64) (zeros (64 - q.size % 64))) 0 (zeros 64)) q.size) 64 (bcells ((txt (be8 (8 * r.size))).data.toList.take 8)) i = rc (mixed q.st (lay q.blk (q.size % 64) (zeros (64 - q.size % 64)))) (lay (lay (lay q.blk (q.size % 64) (zeros (64 - q.size % 64))) 0 (zeros 64)) 56 (be8 (8 * r.size))) q.size i by
      rw [txt_list, List.take_of_length_le (by rw [be8_length]; omega)]
      exact over_rc (mixed q.st (lay q.blk (q.size % 64) (zeros (64 - q.size % 64)))) (lay (lay q.blk (q.size % 64) (zeros (64 - q.size % 64))) 0 (zeros 64)) q.size 56 (be8 (8 * r.size)) (by rw [be8_length]; omega) i))
    go_wp2_with (first | (refine wpList_clear_row rfl (.tmp 31) 118 rfl 5 Tryz.underlying118 (.int .u8 0) HZ8.out rfl rfl B 73 _ 263 HS.out 8 64 64 rfl (by omega) _ HO2.out ?_; intro w5 hb5 hh5) | (with_reducible refine wpList_copy_text rfl (.tmp 35) (.tmp 36) 118 9 rfl 5 Tryz.underlying118 info8 B 73 _ 263 hh5.out 64 8 8 (txt (be8 (8 * r.size))) rfl rfl 8 HM8.out (by omega) _ HO3.out ?_; intro w6 hb6 hh6))
    refine (mix_any B (mixed q.st (lay q.blk (q.size % 64) (zeros (64 - q.size % 64)))) _ q.size _ (((HA2.out.k.but hb3.out (fun e => hB e.symm)).but HB4.out (fun e => hB e.symm)).but ((hb5.out).trans hb6.out) (fun e => hB e.symm)) hh6.out).mono ?_
    rintro e w7 ⟨rfl, hb7, hh7⟩
    have HB7 := Lib.hid hb7
    have HH7 := Lib.hid hh7
    clear hb7 hh7
    go_wp2_with fail
    refine (text_any B { st := _, blk := _, size := _ } _ HH7.out).mono ?_
    rintro e w8 ⟨rfl, hb8⟩
    have HB8 := Lib.hid hb8
    clear hb8
    go_wp2
    go_ret
    have hbut : But B w w7 := (((((((But.refl B w).below HB1.out).trans HA2.out.but).trans hb3.out).trans HB4.out)).trans (hb5.out.trans hb6.out)).trans HB7.out
    refine ⟨?_, hbut.below HB8.out, (HK.out.but hbut (fun e => hB e.symm)).below HB8.out (HK.out.but hbut (fun e => hB e.symm)).lt⟩
    rw [feed_padding, HQ.out, show 8 * r.size % 18446744073709551616 = 8 * r.size from by omega, ← HQS.out]
    unfold padded
    rw [if_pos h56]
    rfl
  · have hsl := fun wx => sliceAt_l (P := Tryz.prog) 261 5 64 Tryz.underlying261 size8 B 8 (q.size % 64) (by omega) .u64 ((q.size : Int) % 64) (by omega) wx
    have HS := Lib.hid HA2.out.run
    have HO2 := Lib.hid (fun i (_ : i < 73) => over_zero q.st q.blk q.size (q.size % 64) (64 - q.size % 64) (by omega) i)
    have HM8 := Lib.hid (show min (txt (be8 (8 * r.size))).size 8 = 8 by rw [txt_size, be8_length]; rfl)
    have HO3 := Lib.hid (fun i (_ : i < 73) => (show over (rc q.st (lay q.blk (q.size % 64) (zeros (64 - q.size % 64))) q.size) 64 (bcells ((txt (be8 (8 * r.size))).data.toList.take 8)) i = rc q.st (lay (lay q.blk (q.size % 64) (zeros (64 - q.size % 64))) 56 (be8 (8 * r.size))) q.size i by
      rw [txt_list, List.take_of_length_le (by rw [be8_length]; omega)]
      exact over_rc q.st (lay q.blk (q.size % 64) (zeros (64 - q.size % 64))) q.size 56 (be8 (8 * r.size)) (by rw [be8_length]; omega) i))
    go_wp2_with (first | (refine wpList_clear_row rfl (.tmp 31) 118 rfl 5 Tryz.underlying118 (.int .u8 0) HZ8.out rfl rfl B 73 _ 263 HS.out (8 + q.size % 64) (64 - q.size % 64) (64 - q.size % 64) rfl (by omega) _ HO2.out ?_; intro w5 hb5 hh5) | (with_reducible refine wpList_copy_text rfl (.tmp 35) (.tmp 36) 118 9 rfl 5 Tryz.underlying118 info8 B 73 _ 263 hh5.out 64 8 8 (txt (be8 (8 * r.size))) rfl rfl 8 HM8.out (by omega) _ HO3.out ?_; intro w6 hb6 hh6))
    refine (mix_any B q.st _ q.size _ (HA2.out.k.but ((hb5.out).trans hb6.out) (fun e => hB e.symm)) hh6.out).mono ?_
    rintro e w7 ⟨rfl, hb7, hh7⟩
    have HB7 := Lib.hid hb7
    have HH7 := Lib.hid hh7
    clear hb7 hh7
    go_wp2_with fail
    refine (text_any B { st := _, blk := _, size := _ } _ HH7.out).mono ?_
    rintro e w8 ⟨rfl, hb8⟩
    have HB8 := Lib.hid hb8
    clear hb8
    go_wp2
    go_ret
    have hbut : But B w w7 := ((((But.refl B w).below HB1.out).trans HA2.out.but).trans (hb5.out.trans hb6.out)).trans HB7.out
    refine ⟨?_, hbut.below HB8.out, (HK.out.but hbut (fun e => hB e.symm)).below HB8.out (HK.out.but hbut (fun e => hB e.symm)).lt⟩
    rw [feed_padding, HQ.out, show 8 * r.size % 18446744073709551616 = 8 * r.size from by omega, ← HQS.out]
    unfold padded
    rw [if_neg h56]
    rfl
end Go.Proofs.YtgjmbokfenpefaaGreatDoor
/- Mark. -/
namespace Go.Proofs.YtgjmbokfenpefaaGreatDoor
open Go.RowKit

/-- What a mark is the sum of. -/
def markText (kind : UInt8) (parts : List ByteArray) : List UInt8 := kind :: (parts.flatMap fun p => num8 p.size ++ p.data.toList)
def markOf (kind : UInt8) (parts : List ByteArray) : ByteArray := txt ((sumOf (markText kind parts)).take 16)
def total (parts : List ByteArray) : Nat := (parts.map fun p => p.size + 8).sum
theorem markText_snoc (kind : UInt8) (l : List ByteArray) (p : ByteArray) : markText kind (l ++ [p]) = markText kind l ++ (num8 p.size ++ p.data.toList) := by simp [markText]
theorem num8_length (n : Int) : (num8 n).length = 8 := be8_length _
theorem markText_length (kind : UInt8) (l : List ByteArray) : (markText kind l).length = 1 + total l := by
  unfold markText total
  induction l with
  | nil => rfl
  | cons p l ih =>
    simp only [List.flatMap_cons, List.length_cons, List.length_append, List.map_cons, List.sum_cons, num8_length, size_len] at ih ⊢
    omega
theorem total_take (l : List ByteArray) : ∀ k, total (l.take k) ≤ total l := by
  induction l with
  | nil => intro k; simp
  | cons p l ih => intro k; cases k with
    | zero => simp [total]
    | succ k => have := ih k; simp only [total, List.take_succ_cons, List.map_cons, List.sum_cons] at this ⊢; omega
theorem total_le (l : List ByteArray) (p : ByteArray) (h : p ∈ l) : p.size ≤ total l := by
  induction l with
  | nil => cases h
  | cons q l ih =>
    simp only [total, List.map_cons, List.sum_cons] at ih ⊢
    rcases List.mem_cons.1 h with rfl | h
    · omega
    · have := ih h; omega

set_option maxRecDepth 100000 in
theorem mark_any (kind : UInt8) (parts : List ByteArray) (pa : Option Addr) (cap : Nat) (w : World) (hk : HasK w) (hs : total parts ≤ 1073741800) (hn : parts.length ≤ 1000000)
    (hc : ∀ (i : Nat) p, parts[i]? = some p → ∃ a, pa = some a ∧ a.block < w.heap.size ∧ w.cell? (a.add i) = some (.string p)) :
    Calls Tryz.prog 87 #[.int .u8 (kind.toNat : Int), .slice pa parts.length cap] w fun e w' => e = .returned (.string (markOf kind parts)) ∧ Below w.heap.size w w' := by
  have HK := Lib.hid hk
  have HC := Lib.hid hc
  clear hk hc
  have hz := zeroRun
  have hi : (Tryz.prog.info? 263).map (·.size) = some (arr 73 rs0.cells).size := by rw [arr_size]; exact infoRun
  have hs1 : (arr 73 (rc (fun _ => 0) (fun _ => 0) 0)).size = (arr 73 rs0.cells).size := by rw [arr_size, arr_size]
  have h1 := arr_one 73 rs0.cells (rc_one _ _ _)
  obtain ⟨z, ez⟩ : ∃ z, arr 73 rs0.cells = z := ⟨_, rfl⟩
  have EZ := Lib.hid ez
  rw [ez] at hi hs1 h1
  have HI := Lib.hid hi
  have HS := Lib.hid hs1
  have H1 := Lib.hid h1
  clear hi hs1 h1 ez
  go_enter Tryz.func87, Tryz.ntmps87
  go_wp2_with fail
  refine (begin_any _).mono ?_
  rintro e w1 ⟨rfl, hb1⟩
  rw [EZ.out]
  have HB1 := Lib.hid hb1
  clear hb1
  have hcv : (convert 118 9 (.slice (some ⟨w1.heap.size + 1, 0, none⟩) 1 1)).run Tryz.prog ((w1.alloc (.cells z 263)).alloc (.cells #[.int .u8 (kind.toNat : Int)] 5)) = .ok (.string (txt [kind])) ((w1.alloc (.cells z 263)).alloc (.cells #[.int .u8 (kind.toNat : Int)] 5)) := by
    have hh := Holds.new (w1.alloc (.cells z 263)) 1 (fun _ => .int .u8 (kind.toNat : Int)) 5
    rw [World.size_alloc] at hh
    have hf : ∀ i, i < 1 → (fun _ : Nat => Value.int .u8 (kind.toNat : Int)) (0 + i) = .int .u8 ((([kind] : List UInt8).getD i 0).toNat : Int) := fun i hi => by
      obtain rfl : i = 0 := by omega
      rfl
    exact run_conv_text hh 118 9 5 Tryz.underlying118 Tryz.underlying5 Tryz.underlying9 [kind] 0 1 1 rfl (by omega) hf
  go_wp2_with (refine wpList_store_new rfl 263 (.tmp 5) (.tmp 8) rfl z rfl rfl 263 _ HI.out HS.out H1.out ?_)
  clear hcv
  have hh : Holds ((w1.alloc (.cells z 263)).alloc (.cells #[.int .u8 (kind.toNat : Int)] 5)) w1.heap.size 73 rs0.cells 263 := by rw [← EZ.out]; exact (Holds.new w1 73 _ _).alloc _
  have hB : w1.heap.size ≠ 1 := by have := HK.out.lt; have := HB1.out.size; omega
  have hbw : Below w.heap.size w ((w1.alloc (.cells z 263)).alloc (.cells #[.int .u8 (kind.toNat : Int)] 5)) := (HB1.out.alloc HB1.out.size _).alloc (by have := HB1.out.size; simp; omega) _
  have HBW := Lib.hid hbw
  have HHH := Lib.hid hh
  clear hh hbw
  refine (add_any w1.heap.size rs0 (txt [kind]) _ hB (HK.out.below HBW.out HK.out.lt) (by rw [txt_size]; show 0 + 1 ≤ 2147483648; omega) HHH.out).mono ?_
  rintro e w2 ⟨rfl, ha2⟩
  have hb2 : Below w.heap.size w w2 := HBW.out.trans (ha2.but.toBelow HB1.out.size HBW.out.size)
  have HB2 := Lib.hid hb2
  have HA2 := Lib.hid (show HasK w2 ∧ Holds w2 w1.heap.size 73 (feed rs0 (markText kind (parts.take 0))).cells 263 from ⟨ha2.k, ha2.run⟩)
  clear ha2 hb2
  go_wp2
  go_loopw [15] (fun i wr => ∃ k : Nat, k ≤ parts.length ∧ i = .int .i64 k ∧ Below w.heap.size w wr ∧ HasK wr ∧ Holds wr w1.heap.size 73 (feed rs0 (markText kind (parts.take k))).cells 263) (fun i _ => parts.length - (intOf i).toNat)
  case atStart => exact ⟨0, by omega, rfl, HB2.out, HA2.out.1, HA2.out.2⟩
  case round =>
    obtain ⟨k, hkl, rfl, hb, hkk, hh⟩ := hrel
    have HB := Lib.hid hb
    have HKK := Lib.hid hkk
    have HH := Lib.hid hh
    clear hb hkk hh
    by_cases hlt : k < parts.length
    · obtain ⟨p, hp⟩ : ∃ p, parts[k]? = some p := ⟨_, List.getElem?_eq_getElem hlt⟩
      obtain ⟨ad, rfl, hal, hcell⟩ := HC.out k p hp
      have hcr : wr.cell? (ad.add k) = some (.string p) := by
        rw [HB.out.cell (by rw [show (ad.add k).block = ad.block from by unfold Addr.add; split <;> rfl]; exact hal)]; exact hcell
      have hpl : p.size ≤ 1073741800 := Nat.le_trans (total_le parts p (List.mem_of_getElem? hp)) hs
      have HP := Lib.hid hp
      clear hcell hp
      have hsz1 : (feed rs0 (markText kind (parts.take k))).size + 8 + p.size ≤ 1073741809 := by
        rw [feed_size, markText_length]
        have e1 : total (parts.take (k + 1)) = total (parts.take k) + (p.size + 8) := by
          rw [List.take_add_one, HP.out]; simp [total]
        have e2 := total_take parts (k + 1)
        show 0 + (1 + total (parts.take k)) + 8 + p.size ≤ _
        omega
      have HSZ := Lib.hid hsz1
      clear hsz1
      go_wp2_with fail
      refine (num_any _ _).mono ?_
      rintro e w3 ⟨rfl, hb3⟩
      have HB3 := Lib.hid hb3
      clear hb3
      go_wp2_with fail
      refine (add_any w1.heap.size (feed rs0 (markText kind (parts.take k))) (txt (num8 p.size)) _ hB (HKK.out.below HB3.out HKK.out.lt) (by rw [txt_size, num8_length]; have := HSZ.out; omega) (HH.out.below HB3.out HH.out.lt)).mono ?_
      rintro e w4 ⟨rfl, ha4⟩
      have HA4 := Lib.hid ha4
      clear ha4
      go_wp2_with fail
      refine (add_any w1.heap.size _ p _ hB HA4.out.k (by rw [feed_size, txt_list, num8_length]; have := HSZ.out; omega) HA4.out.run).mono ?_
      rintro e w5 ⟨rfl, ha5⟩
      have HA5 := Lib.hid ha5
      clear ha5
      go_wp2
      go_roundw
      case rel =>
        refine ⟨k + 1, by omega, by go_num, ?_, HA5.out.k, ?_⟩
        · have b3 := HB.out.trans (HB3.out.mono HB.out.size)
          have b4 := b3.trans (HA4.out.but.toBelow HB1.out.size b3.size)
          exact b4.trans (HA5.out.but.toBelow HB1.out.size b4.size)
        · have e : parts.take (k + 1) = parts.take k ++ [p] := by rw [List.take_add_one, HP.out]; rfl
          rw [e, markText_snoc, feed_append, feed_append]
          exact HA5.out.run
      case measure => simp [intOf]; omega
    · obtain rfl : k = parts.length := by omega
      have hsz1 : (feed rs0 (markText kind (parts.take parts.length))).size ≤ 1073741809 := by
        rw [feed_size, markText_length]
        have e2 := total_take parts parts.length
        show 0 + (1 + total (parts.take parts.length)) ≤ _
        omega
      have HSZ := Lib.hid hsz1
      clear hsz1
      go_wp2_with fail
      refine (end_any w1.heap.size _ _ hB HKK.out (by have := HSZ.out; omega) HH.out).mono ?_
      rintro e w3 ⟨rfl, hb3, _⟩
      have HB3 := Lib.hid hb3
      clear hb3
      have hlen : (txt (sumText (feed (feed rs0 (markText kind (parts.take parts.length))) (padding (feed rs0 (markText kind (parts.take parts.length))).size)).st)).size = 32 := by rw [txt_size, sumText_length]
      generalize hy : txt (sumText (feed (feed rs0 (markText kind (parts.take parts.length))) (padding (feed rs0 (markText kind (parts.take parts.length))).size)).st) = y at hlen
      have h16 : 16 ≤ y.size := by omega
      have HY := Lib.hid hy
      clear hy hlen
      go_wp2
      go_ret
      refine ⟨?_, HB.out.trans (HB3.out.toBelow HB1.out.size HB.out.size)⟩
      have ey : y = txt (sumOf (markText kind parts)) := by
        rw [← HY.out, ← feed_append, feed_size]
        unfold sumOf
        rw [show rs0.size + (markText kind (parts.take parts.length)).length = (markText kind (parts.take parts.length)).length from Nat.zero_add _, List.take_length]
      have ex : y.extract 0 16 = markOf kind parts := by
        unfold markOf
        rw [← txt_of (y.extract 0 16), ByteArray.data_extract, Array.toList_extract, ey, txt_list]
        simp [List.extract_eq_take_drop]
      rw [← ex]
      rfl
end Go.Proofs.YtgjmbokfenpefaaGreatDoor
/- Items, by their bits: plain lists. -/
namespace Go.Proofs.YtgjmbokfenpefaaGreatDoor

abbrev It := ByteArray × ByteArray
def bitI (x : It) (k : Nat) : Nat := bitOf x.1.data.toList k
def itAt (L : List It) (i : Nat) : It := L.getD i (⟨#[]⟩, ⟨#[]⟩)
def goodItem (L : List It) (i : Nat) : Bool := decide ((itAt L i).1.size = 16) && decide ((itAt L i).2.size = 16) && (decide (i = 0) || decide ((itAt L (i - 1)).1.data.toList < (itAt L i).1.data.toList))
def goodItems (L : List It) (k : Nat) : Bool := (List.range k).all (goodItem L)
def rightItems (L : List It) : Bool := goodItems L L.length && decide (L.length ≤ 60)
theorem goodItems_next (L : List It) (k : Nat) : goodItems L (k + 1) = (goodItems L k && goodItem L k) := by unfold goodItems; simp [List.range_succ]
theorem goodItems_false {L : List It} {k n : Nat} (h : goodItem L k = false) (hk : k < n) : goodItems L n = false := by
  unfold goodItems
  rw [List.all_eq_false]
  exact ⟨k, List.mem_range.2 hk, by simp [h]⟩

/-- The halves of items at a depth. -/
def half (L : List It) (d k : Nat) : List It := L.filter fun x => bitI x d == k
def emptyM (d : Int) : ByteArray := markOf 101 [txt (num8 d)]
def leafM (x : It) (d : Int) : ByteArray := markOf 108 [txt (num8 d), x.1, x.2]
def joinM (a b : ByteArray) : ByteArray := markOf 110 [a, b]
def nodeOf : Nat → List It → Nat → ByteArray
  | 0, [], d => emptyM d
  | 0, x :: _, d => leafM x d
  | f + 1, L, d => if L.length = 0 then emptyM d else if L.length = 1 then leafM (itAt L 0) d else joinM (nodeOf f (half L d 0) (d + 1)) (nodeOf f (half L d 1) (d + 1))

/-- Different marks that are alike ahead of bit d. -/
def Apart (L : List It) (d : Nat) : Prop := (∀ x ∈ L, x.1.size = 16) ∧ L.Pairwise (fun x y => x.1 ≠ y.1) ∧ ∀ x ∈ L, ∀ y ∈ L, ∀ k, k < d → bitI x k = bitI y k
theorem text_of {a b : ByteArray} (h : a.data.toList = b.data.toList) : a = b := by
  rw [← txt_of a, ← txt_of b, h]
theorem same_of_bits {a b : ByteArray} (ha : a.size = 16) (hb : b.size = 16) (h : ∀ k, k < 128 → bitOf a.data.toList k = bitOf b.data.toList k) : a = b := by
  apply text_of
  exact (commonOf_all _ _ (by rw [size_len]; exact ha) (by rw [size_len]; exact hb)).1 (by have := commonOf_ge _ _ 128 (Nat.le_refl _) h; have := commonOf_le a.data.toList b.data.toList; omega)
theorem Apart.lt {L : List It} {d : Nat} (h : Apart L d) (h2 : 2 ≤ L.length) : d < 128 := by
  obtain ⟨h16, hp, ha⟩ := h
  rcases Nat.lt_or_ge d 128 with hd | hd
  · exact hd
  · match L, h2 with
    | x :: y :: r, _ =>
      have hne : x.1 ≠ y.1 := (List.pairwise_cons.1 hp).1 y (by simp)
      exact absurd (same_of_bits (h16 x (by simp)) (h16 y (by simp)) (fun k hk => ha x (by simp) y (by simp) k (by omega))) hne
theorem Apart.half {L : List It} {d : Nat} (h : Apart L d) (k : Nat) : Apart (half L d k) (d + 1) := by
  obtain ⟨h16, hp, ha⟩ := h
  refine ⟨fun x hx => h16 x (List.mem_filter.1 hx).1, hp.filter _, fun x hx y hy j hj => ?_⟩
  obtain ⟨hx1, hx2⟩ := List.mem_filter.1 hx
  obtain ⟨hy1, hy2⟩ := List.mem_filter.1 hy
  by_cases e : j = d
  · subst e
    rw [eq_of_beq hx2, eq_of_beq hy2]
  · exact ha x hx1 y hy1 j (by omega)
theorem half_le (L : List It) (d k : Nat) : (half L d k).length ≤ L.length := List.length_filter_le _ _

theorem itAt_get {L : List It} {i : Nat} {x : It} (h : L[i]? = some x) : itAt L i = x := by unfold itAt; rw [List.getD_eq_getElem?_getD, h]; rfl
theorem goodItem_of {L : List It} {i n : Nat} (h : goodItems L n = true) (hi : i < n) : goodItem L i = true := by
  unfold goodItems at h
  rw [List.all_eq_true] at h
  exact h i (List.mem_range.2 hi)
theorem right_sizes {L : List It} (h : rightItems L = true) : ∀ x ∈ L, x.1.size = 16 ∧ x.2.size = 16 := by
  intro x hx
  obtain ⟨i, hi, rfl⟩ := List.getElem_of_mem hx
  unfold rightItems at h
  rw [Bool.and_eq_true] at h
  have := goodItem_of h.1 hi
  unfold goodItem at this
  rw [itAt_get (List.getElem?_eq_getElem hi)] at this
  simp at this
  exact this.1
theorem lt_trans_list {a b c : List UInt8} (h1 : a < b) (h2 : b < c) : a < c := List.lt_trans h1 h2
theorem lt_irrefl_list (a : List UInt8) : ¬ a < a := List.lt_irrefl a
theorem right_next {L : List It} (h : rightItems L = true) (i : Nat) (hi : i + 1 < L.length) : (itAt L i).1.data.toList < (itAt L (i + 1)).1.data.toList := by
  unfold rightItems at h
  rw [Bool.and_eq_true] at h
  have := goodItem_of h.1 hi
  unfold goodItem at this
  simp at this
  exact this.2
theorem right_rise {L : List It} (h : rightItems L = true) : ∀ (j i : Nat), i < j → j < L.length → (itAt L i).1.data.toList < (itAt L j).1.data.toList := by
  intro j
  induction j with
  | zero => intro i hi; omega
  | succ j ih =>
    intro i hi hj
    have h1 := right_next h j hj
    by_cases e : i = j
    · subst e; exact h1
    · exact lt_trans_list (ih i (by omega) (by omega)) h1
theorem itAt_of {L : List It} {i : Nat} (hi : i < L.length) : itAt L i = L[i] := itAt_get (List.getElem?_eq_getElem hi)
/-- What is right rises. -/
theorem right_sorted {L : List It} (h : rightItems L = true) : L.Pairwise (fun x y => x.1.data.toList < y.1.data.toList) := by
  rw [List.pairwise_iff_getElem]
  intro i j hi hj hij
  have := right_rise h j i hij hj
  rwa [itAt_of hi, itAt_of hj] at this
theorem right_apart {L : List It} (h : rightItems L = true) : Apart L 0 := by
  refine ⟨fun x hx => (right_sizes h x hx).1, (right_sorted h).imp ?_, fun _ _ _ _ k hk => by omega⟩
  intro x y hxy e
  rw [e] at hxy
  exact lt_irrefl_list _ hxy
end Go.Proofs.YtgjmbokfenpefaaGreatDoor
/- Lists of texts and of items in memory. -/
namespace Go.Proofs.YtgjmbokfenpefaaGreatDoor
open Go.RowKit

theorem block_add (a : Addr) (n : Nat) : (a.add n).block = a.block := by unfold Addr.add; split <;> rfl
theorem add_add' (a : Addr) (i j : Nat) : (a.add i).add j = a.add (i + j) := by
  unfold Addr.add
  by_cases hi : i = 0 <;> by_cases hj : j = 0 <;> simp [hi, hj, Nat.add_assoc]
theorem add_zero' (a : Addr) : a.add 0 = a := by simp [Addr.add]
theorem add_none (g o n : Nat) : (⟨g, o, none⟩ : Addr).add n = ⟨g, o + n, none⟩ := by unfold Addr.add; split <;> simp_all
theorem alloc_below (w : World) (o : Obj) : Below w.heap.size w (w.alloc o) := (Below.refl _ _).alloc (Nat.le_refl _) o

/-- The texts L lie at A. -/
def Strs (w : World) (A : Option Addr) (L : List ByteArray) : Prop := ∀ (i : Nat) p, L[i]? = some p → ∃ a, A = some a ∧ a.block < w.heap.size ∧ w.cell? (a.add i) = some (.string p)
/-- The items L lie at A. -/
def Itms (w : World) (A : Option Addr) (L : List It) : Prop := ∀ (i : Nat) x, L[i]? = some x → ∃ a, A = some a ∧ a.block < w.heap.size ∧ w.cell? (a.add (i * 2)) = some (.string x.1) ∧ w.cell? ((a.add (i * 2)).add 1) = some (.string x.2)
theorem Strs.nil (w : World) (A : Option Addr) : Strs w A [] := fun i p h => by simp at h
theorem Itms.nil (w : World) (A : Option Addr) : Itms w A [] := fun i p h => by simp at h
theorem Strs.below {w w' : World} {A : Option Addr} {L : List ByteArray} (h : Strs w A L) (hb : Below w.heap.size w w') : Strs w' A L := fun i p hp => by
  obtain ⟨a, ha, hl, hc⟩ := h i p hp
  exact ⟨a, ha, Nat.lt_of_lt_of_le hl hb.size, (hb.cell (by rw [block_add]; exact hl)).trans hc⟩
theorem Itms.below {w w' : World} {A : Option Addr} {L : List It} (h : Itms w A L) (hb : Below w.heap.size w w') : Itms w' A L := fun i p hp => by
  obtain ⟨a, ha, hl, hc, hd⟩ := h i p hp
  exact ⟨a, ha, Nat.lt_of_lt_of_le hl hb.size, (hb.cell (by rw [block_add]; exact hl)).trans hc, (hb.cell (by rw [block_add, block_add]; exact hl)).trans hd⟩
theorem Strs.drew {w : World} {A : Option Addr} {L : List ByteArray} (h : Strs w A L) : Strs w.drew A L := fun i p hp => h i p hp
theorem Itms.drew {w : World} {A : Option Addr} {L : List It} (h : Itms w A L) : Itms w.drew A L := fun i p hp => h i p hp
theorem Itms.at_ {w : World} {A : Option Addr} {L : List It} (h : Itms w A L) {i : Nat} (hi : i < L.length) : ∃ a, A = some a ∧ a.block < w.heap.size ∧ w.cell? (a.add (i * 2)) = some (.string (itAt L i).1) ∧ w.cell? ((a.add (i * 2)).add 1) = some (.string (itAt L i).2) :=
  h i _ (by rw [List.getElem?_eq_getElem hi, itAt_of hi])
def itCells (L : List It) : List Value := L.flatMap fun x => [.string x.1, .string x.2]
theorem itCells_length (L : List It) : (itCells L).length = L.length * 2 := by
  unfold itCells; induction L with
  | nil => rfl
  | cons x r ih => simp only [List.flatMap_cons, List.length_append, List.length_cons, ih]; simp; omega
theorem itCells_append (L M : List It) : itCells (L ++ M) = itCells L ++ itCells M := by simp [itCells]
theorem itCells_get (L : List It) : ∀ (i : Nat) (x : It), L[i]? = some x → (itCells L)[i * 2]? = some (.string x.1) ∧ (itCells L)[i * 2 + 1]? = some (.string x.2) := by
  induction L with
  | nil => intro i x h; simp at h
  | cons y r ih =>
    intro i x h
    cases i with
    | zero => simp at h; subst h; exact ⟨rfl, rfl⟩
    | succ i =>
      have e : itCells (y :: r) = [.string y.1, .string y.2] ++ itCells r := rfl
      obtain ⟨h1, h2⟩ := ih i x (by simpa using h)
      rw [e]
      constructor
      · rw [show (i + 1) * 2 = 2 + i * 2 by omega, List.getElem?_append_right (by simp)]; simpa using h1
      · rw [show (i + 1) * 2 + 1 = 2 + (i * 2 + 1) by omega, List.getElem?_append_right (by simp)]; simpa using h2
def stCells (L : List ByteArray) : List Value := L.map .string
/-- A row of the call's own, read as items. -/
theorem Row.itms {w : World} {base : Nat} {v : Value} {L : List It} {n : Nat} (h : Row w base 2 v n (itCells L)) : n = L.length ∧ ∃ A cap, v = .slice A n cap ∧ Itms w A L := by
  have hn : n = L.length := by have := h.1; rw [itCells_length] at this; omega
  refine ⟨hn, ?_⟩
  obtain ⟨p, cap, rfl⟩ := h.any
  refine ⟨p, cap, rfl, fun i x hi => ?_⟩
  have hil : i < L.length := (List.getElem?_eq_some_iff.1 hi).1
  obtain ⟨g, cap', hv, _, hg, _, hc, _⟩ := h.shape (by omega)
  injection hv with hv _ _
  obtain ⟨e1, e2⟩ := itCells_get L i x hi
  refine ⟨⟨g, 0, none⟩, hv, hg, ?_, ?_⟩
  · rw [add_none, Nat.zero_add]; exact hc _ _ e1
  · rw [add_add', add_none, Nat.zero_add]; exact hc _ _ e2
theorem Row.strs {w : World} {base : Nat} {v : Value} {L : List ByteArray} {n : Nat} (h : Row w base 1 v n (stCells L)) : n = L.length ∧ ∃ A cap, v = .slice A n cap ∧ Strs w A L := by
  have hn : n = L.length := by have := h.1; unfold stCells at this; rw [List.length_map] at this; omega
  refine ⟨hn, ?_⟩
  obtain ⟨p, cap, rfl⟩ := h.any
  refine ⟨p, cap, rfl, fun i x hi => ?_⟩
  have hil : i < L.length := (List.getElem?_eq_some_iff.1 hi).1
  obtain ⟨g, cap', hv, _, hg, _, hc, _⟩ := h.shape (by omega)
  injection hv with hv _ _
  refine ⟨⟨g, 0, none⟩, hv, hg, ?_⟩
  rw [add_none, Nat.zero_add]; exact hc _ _ (by unfold stCells; rw [List.getElem?_map, hi]; rfl)
/-- A block of texts that was made just now. -/
theorem strs_new (w : World) (L : List ByteArray) (t : TypeId) : Strs (w.alloc (.cells (stCells L).toArray t)) (some ⟨w.heap.size, 0, none⟩) L := by
  intro i p hp
  refine ⟨_, rfl, by simp, ?_⟩
  rw [add_none, Nat.zero_add, cell_of_row _ w.heap.size i (stCells L).toArray t (0, 0) (heap_alloc_new _ _)]
  unfold stCells
  simp [hp]
end Go.Proofs.YtgjmbokfenpefaaGreatDoor
/- The document's Num. -/
namespace Go.Proofs.YtgjmbokfenpefaaGreatDoor
open Go.RowKit

/-- The last k bytes. -/
def low (m : Nat) : Nat → List UInt8
  | 0 => []
  | k + 1 => UInt8.ofNat (m / 256 ^ k) :: low m k
end Go.Proofs.YtgjmbokfenpefaaGreatDoor
/- The document's Sum. -/
namespace Go.Proofs.YtgjmbokfenpefaaGreatDoor
open Go.RowKit

def sliceLen : Value → Nat | .slice _ n _ => n | _ => 0
/-- Loop over the noughts: what holds. -/
structure PadRel (N : Nat) (w0 wr : World) (v : Value) (L : Nat) (l : List UInt8) : Prop where
  row : Row wr N 1 v L (bcells l)
  below : Below N w0 wr
structure BRel (N g : Nat) (w wr : World) (M : List UInt8) (h : Nat → BitVec 32) : Prop where
  below : Below N w wr
  gl : N < g
  cells : ∀ i u, (bcells M)[i]? = some u → wr.cell? ⟨g, i, none⟩ = some u
  st : Holds wr N 8 (fun i => .int .u32 (W32 (h i))) 94
theorem BRel.lt {N g : Nat} {w wr : World} {M : List UInt8} {h : Nat → BitVec 32} (hb : BRel N g w wr M h) (hM : 0 < M.length) : g < wr.heap.size := by
  have e : (bcells M)[0]? = some ((bcells M)[0]'(by rw [bcells_length]; exact hM)) := List.getElem?_eq_getElem _
  exact block_lt_of_cell (hb.cells 0 _ e)
theorem BRel.later {N g : Nat} {w wr w' : World} {M : List UInt8} {h : Nat → BitVec 32} (hb : BRel N g w wr M h) (hN : N < wr.heap.size) (hM : 0 < M.length) (hb2 : Below wr.heap.size wr w') : BRel N g w w' M h :=
  ⟨hb.below.trans (hb2.mono (Nat.le_of_lt hN)), hb.gl, fun i u hu => by rw [hb2.cell (hb.lt hM)]; exact hb.cells i u hu, hb.st.below hb2 hb.st.lt⟩
theorem BRel.store {N g : Nat} {w wr : World} {M : List UInt8} {h : Nat → BitVec 32} (hb : BRel N g w wr M h) (k : Nat) (x : BitVec 32) : BRel N g w (wr.setCell ⟨N, k, none⟩ (.int .u32 (W32 x))) M (upd h k x) :=
  ⟨hb.below.setCell (Nat.le_refl _) _, hb.gl, fun i u hu => by rw [World.cell?_setCell_other _ _ _ _ (by intro e; injection e with e1 e2; have := hb.gl; omega)]; exact hb.cells i u hu, (hb.st.set k _).congr fun i _ => by unfold upd; split <;> rfl⟩
theorem BRel.congr {N g : Nat} {w wr : World} {M : List UInt8} {h h' : Nat → BitVec 32} (hb : BRel N g w wr M h) (e : ∀ i, i < 8 → h i = h' i) : BRel N g w wr M h' :=
  ⟨hb.below, hb.gl, hb.cells, hb.st.congr fun i hi => by rw [e i hi]⟩
structure WRel2 (wo wi : World) (f : Nat → BitVec 32) : Prop where
  below : Below wo.heap.size wo wi
  own : Holds wi wo.heap.size 64 (fun i => .int .u32 (W32 (f i))) 95
theorem WRel2.store {wo wi : World} {f : Nat → BitVec 32} (h : WRel2 wo wi f) (k : Nat) (x : BitVec 32) : WRel2 wo (wi.setCell ⟨wo.heap.size, k, none⟩ (.int .u32 (W32 x))) (upd f k x) :=
  ⟨h.below.setCell (Nat.le_refl _) _, (h.own.set k _).congr fun i _ => by unfold upd; split <;> rfl⟩

end Go.Proofs.YtgjmbokfenpefaaGreatDoor
/- Worlds later than one: for regions that hold calls that make memory. No program is imported. -/
namespace Go.Proofs.YtgjmbokfenpefaaGreatDoor
open Go.RowKit

/-- What is later than a world, and the same below N. -/
structure Later (N : Nat) (w : World) where
  at' : World
  below : Below N w at'
theorem later_of {P : Program} {f : FuncId} {args : Array Value} {w : World} {v : Value} {z : Later w.heap.size w} (h : Calls P f args z.at' fun e w' => e = .returned v ∧ Below z.at'.heap.size z.at' w') :
    Calls P f args z.at' fun e w'' => e = .returned v ∧ ∃ z' : Later w.heap.size w, w'' = z'.at' :=
  h.mono fun _ w' ⟨he, hb⟩ => ⟨he, ⟨w', z.below.trans (hb.mono z.below.size)⟩, rfl⟩
instance (N : Nat) (w : World) : Nonempty (Later N w) := ⟨⟨w, Below.refl _ _⟩⟩

end Go.Proofs.YtgjmbokfenpefaaGreatDoor
/- The document's Empty, Leaf, Join. -/
namespace Go.Proofs.YtgjmbokfenpefaaGreatDoor
open Go.RowKit

theorem markOf_len (kind : UInt8) (parts : List ByteArray) : (markOf kind parts).size = 16 := by
  unfold markOf
  rw [txt_size, List.length_take]
  unfold sumOf
  rw [sumText_length]
  rfl
theorem num_size (d : Int) : (txt (num8 d)).size = 8 := by rw [txt_size, num8_length]
end Go.Proofs.YtgjmbokfenpefaaGreatDoor
/- Heads: plain facts, and lists of heads in memory. -/
namespace Go.Proofs.YtgjmbokfenpefaaGreatDoor
open Go.RowKit

structure Hd where
  epoch : Int
  root : ByteArray
  prev : ByteArray
def noHd : Hd := ⟨0, ⟨#[]⟩, ⟨#[]⟩⟩
def Hd.val (h : Hd) : Value := .agg #[.int .i64 h.epoch, .string h.root, .string h.prev]
def rightHead (h : Hd) : Bool := decide (0 < h.epoch) && decide (h.root.size = 16) && decide (h.prev.size = 16)
def headMark (h : Hd) : ByteArray := markOf 104 [txt (num8 h.epoch), h.root, h.prev]
def headMarkAns (h : Hd) : ByteArray × Int := if rightHead h = true then (headMark h, 0) else (⟨#[]⟩, 1)
def none16 : ByteArray := txt (List.replicate 16 0)
def firstHd (root : ByteArray) : Hd := ⟨1, root, none16⟩
def afterHd (h : Hd) (root : ByteArray) : Hd := ⟨wrap64 (h.epoch + 1), root, headMark h⟩
def nextHd (l : List Hd) (root : ByteArray) : Option Hd :=
  match l.getLast? with
  | none => some (firstHd root)
  | some h => if rightHead h = true then some (afterHd h root) else none
def nextAns (l : List Hd) (root : ByteArray) : Hd × Int :=
  match nextHd l root with
  | none => (noHd, 1)
  | some h => if rightHead h = true then (h, 0) else (noHd, 1)
instance : DecidableEq Hd := fun a b =>
  if h : a.epoch = b.epoch ∧ a.root = b.root ∧ a.prev = b.prev then isTrue (by cases a; cases b; simp_all) else isFalse (fun e => h (by rw [e]; exact ⟨rfl, rfl, rfl⟩))
def hdAt (L : List Hd) (i : Nat) : Hd := L.getD i noHd
theorem hdAt_get {L : List Hd} {i : Nat} {x : Hd} (h : L[i]? = some x) : hdAt L i = x := by unfold hdAt; rw [List.getD_eq_getElem?_getD, h]; rfl
theorem hdAt_of {L : List Hd} {i : Nat} (hi : i < L.length) : hdAt L i = L[i] := hdAt_get (List.getElem?_eq_getElem hi)
def partsFrom (a b : List Hd) : Nat → Nat → Nat
  | 0, _ => a.length
  | f + 1, i => if i < b.length ∧ hdAt b i = hdAt a i then partsFrom a b f (i + 1) else i
def partsAns (a b : List Hd) : Nat := partsFrom a b a.length 0

/-- The heads L lie at A. -/
def Hds (w : World) (A : Option Addr) (L : List Hd) : Prop := ∀ (i : Nat) x, L[i]? = some x → ∃ a, A = some a ∧ a.block < w.heap.size ∧ w.cell? (a.add (i * 3)) = some (.int .i64 x.epoch) ∧ w.cell? ((a.add (i * 3)).add 1) = some (.string x.root) ∧ w.cell? ((a.add (i * 3)).add 2) = some (.string x.prev)
theorem Hds.nil (w : World) (A : Option Addr) : Hds w A [] := fun i p h => by simp at h
theorem Hds.below {w w' : World} {A : Option Addr} {L : List Hd} (h : Hds w A L) (hb : Below w.heap.size w w') : Hds w' A L := fun i p hp => by
  obtain ⟨a, ha, hl, hc, hd, he⟩ := h i p hp
  exact ⟨a, ha, Nat.lt_of_lt_of_le hl hb.size, (hb.cell (by rw [block_add]; exact hl)).trans hc, (hb.cell (by rw [block_add, block_add]; exact hl)).trans hd, (hb.cell (by rw [block_add, block_add]; exact hl)).trans he⟩
theorem Hds.drew {w : World} {A : Option Addr} {L : List Hd} (h : Hds w A L) : Hds w.drew A L := fun i p hp => h i p hp
theorem Hds.take {w : World} {A : Option Addr} {L : List Hd} (h : Hds w A L) (n : Nat) : Hds w A (L.take n) := fun i x hi => by
  refine h i x ?_
  rw [List.getElem?_take] at hi
  split at hi
  · exact hi
  · cases hi
theorem Hds.at_ {w : World} {A : Option Addr} {L : List Hd} (h : Hds w A L) {i : Nat} (hi : i < L.length) : ∃ a, A = some a ∧ a.block < w.heap.size ∧ w.cell? (a.add (i * 3)) = some (.int .i64 (hdAt L i).epoch) ∧ w.cell? ((a.add (i * 3)).add 1) = some (.string (hdAt L i).root) ∧ w.cell? ((a.add (i * 3)).add 2) = some (.string (hdAt L i).prev) :=
  h i _ (by rw [List.getElem?_eq_getElem hi, hdAt_of hi])
theorem results_row2 {P : Program} {fn : Func} {p u : Tmp} {ty : TypeId} (h : fn.results = #[.cell p ty, .tmp u]) (tmps : Array Value) (w : World) (g : Nat) (t : TypeId) (cs : Array Value) (fr : Nat × Nat) (d : TypeDesc)
    (hp : tmps.getD p undef = .pointer (some ⟨g, 0, none⟩)) (hg : w.heap[g]? = some (.cells cs t fr))
    (hu : P.underlying ty = some d) (hd : (match d with | .struct _ | .array _ _ => true | _ => false) = true) (hi : (P.info? ty).map (·.size) = some cs.size) :
    (results fn tmps).run P w = .ok (.tuple #[.agg cs, tmps.getD u undef]) w := by
  rw [results_cell_tmp h, hp]
  simp [asAddr, run_loadVar_row w g t ty cs fr d hg hu hd hi, Result.andThen]
def hdF (h : Hd) : Nat → Value := fun i => if i = 0 then .int .i64 h.epoch else if i = 1 then .string h.root else .string h.prev
end Go.Proofs.YtgjmbokfenpefaaGreatDoor
/- The document's along: so many steps of a chain. -/
namespace Go.Proofs.YtgjmbokfenpefaaGreatDoor
open Go.RowKit

def alongFrom (c : Int) : Nat → Nat → ByteArray → ByteArray
  | 0, _, s => s
  | n + 1, k, s => alongFrom c n (k + 1) (markOf 119 [s, txt (num8 c), txt (num8 (k : Int))])
theorem along_size (c : Int) : ∀ (n k : Nat) (s : ByteArray), s.size = 16 → (alongFrom c n k s).size = 16
  | 0, _, _, h => h
  | n + 1, k, _, _ => along_size c n (k + 1) _ (markOf_len _ _)
end Go.Proofs.YtgjmbokfenpefaaGreatDoor
