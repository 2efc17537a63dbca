/- Mark. -/
import Derived.Test.YthbfmdgnhipobaaDoorEnd
namespace Go.Proofs.YthbfmdgnhipobaaDoor
open Go.RowKit

/-- What a mark is the sum of. -/
def markText (kind : UInt8) (parts : List ByteArray) : List UInt8 := kind :: (parts.flatMap fun p => num8 p.size ++ p.data.toList)
def markOf (kind : UInt8) (parts : List ByteArray) : ByteArray := txt ((sumOf (markText kind parts)).take 16)
def total (parts : List ByteArray) : Nat := (parts.map fun p => p.size + 8).sum
theorem markText_snoc (kind : UInt8) (l : List ByteArray) (p : ByteArray) : markText kind (l ++ [p]) = markText kind l ++ (num8 p.size ++ p.data.toList) := by simp [markText]
theorem num8_length (n : Int) : (num8 n).length = 8 := be8_length _
theorem markText_length (kind : UInt8) (l : List ByteArray) : (markText kind l).length = 1 + total l := by
  unfold markText total
  induction l with
  | nil => rfl
  | cons p l ih =>
    simp only [List.flatMap_cons, List.length_cons, List.length_append, List.map_cons, List.sum_cons, num8_length, size_len] at ih ⊢
    omega
theorem total_take (l : List ByteArray) : ∀ k, total (l.take k) ≤ total l := by
  induction l with
  | nil => intro k; simp
  | cons p l ih => intro k; cases k with
    | zero => simp [total]
    | succ k => have := ih k; simp only [total, List.take_succ_cons, List.map_cons, List.sum_cons] at this ⊢; omega
theorem total_le (l : List ByteArray) (p : ByteArray) (h : p ∈ l) : p.size ≤ total l := by
  induction l with
  | nil => cases h
  | cons q l ih =>
    simp only [total, List.map_cons, List.sum_cons] at ih ⊢
    rcases List.mem_cons.1 h with rfl | h
    · omega
    · have := ih h; omega

set_option maxRecDepth 100000 in
theorem mark_any (kind : UInt8) (parts : List ByteArray) (pa : Option Addr) (cap : Nat) (w : World) (hk : HasK w) (hs : total parts ≤ 1073741800) (hn : parts.length ≤ 1000000)
    (hc : ∀ (i : Nat) p, parts[i]? = some p → ∃ a, pa = some a ∧ a.block < w.heap.size ∧ w.cell? (a.add i) = some (.string p)) :
    Calls Tryd.prog 20 #[.int .u8 (kind.toNat : Int), .slice pa parts.length cap] w fun e w' => e = .returned (.string (markOf kind parts)) ∧ Below w.heap.size w w' := by
  have HK := Lib.hid hk
  have HC := Lib.hid hc
  clear hk hc
  have hz := zeroRun
  have hi : (Tryd.prog.info? 64).map (·.size) = some (arr 73 rs0.cells).size := by rw [arr_size]; exact infoRun
  have hs1 : (arr 73 (rc (fun _ => 0) (fun _ => 0) 0)).size = (arr 73 rs0.cells).size := by rw [arr_size, arr_size]
  have h1 := arr_one 73 rs0.cells (rc_one _ _ _)
  obtain ⟨z, ez⟩ : ∃ z, arr 73 rs0.cells = z := ⟨_, rfl⟩
  have EZ := Lib.hid ez
  rw [ez] at hi hs1 h1
  have HI := Lib.hid hi
  have HS := Lib.hid hs1
  have H1 := Lib.hid h1
  clear hi hs1 h1 ez
  go_enter Tryd.func20, Tryd.ntmps20
  go_wp2_with fail
  refine (begin_any _).mono ?_
  rintro e w1 ⟨rfl, hb1⟩
  rw [EZ.out]
  have HB1 := Lib.hid hb1
  clear hb1
  have hcv : (convert 59 9 (.slice (some ⟨w1.heap.size + 1, 0, none⟩) 1 1)).run Tryd.prog ((w1.alloc (.cells z 64)).alloc (.cells #[.int .u8 (kind.toNat : Int)] 5)) = .ok (.string (txt [kind])) ((w1.alloc (.cells z 64)).alloc (.cells #[.int .u8 (kind.toNat : Int)] 5)) := by
    have hh := Holds.new (w1.alloc (.cells z 64)) 1 (fun _ => .int .u8 (kind.toNat : Int)) 5
    rw [World.size_alloc] at hh
    have hf : ∀ i, i < 1 → (fun _ : Nat => Value.int .u8 (kind.toNat : Int)) (0 + i) = .int .u8 ((([kind] : List UInt8).getD i 0).toNat : Int) := fun i hi => by
      obtain rfl : i = 0 := by omega
      rfl
    exact run_conv_text hh 59 9 5 Tryd.underlying59 Tryd.underlying5 Tryd.underlying9 [kind] 0 1 1 rfl (by omega) hf
  go_wp2_with (refine wpList_store_new rfl 64 (.tmp 5) (.tmp 8) rfl z rfl rfl 64 _ HI.out HS.out H1.out ?_)
  clear hcv
  have hh : Holds ((w1.alloc (.cells z 64)).alloc (.cells #[.int .u8 (kind.toNat : Int)] 5)) w1.heap.size 73 rs0.cells 64 := by rw [← EZ.out]; exact (Holds.new w1 73 _ _).alloc _
  have hB : w1.heap.size ≠ 0 := by have := HK.out.lt; have := HB1.out.size; omega
  have hbw : Below w.heap.size w ((w1.alloc (.cells z 64)).alloc (.cells #[.int .u8 (kind.toNat : Int)] 5)) := (HB1.out.alloc HB1.out.size _).alloc (by have := HB1.out.size; simp; omega) _
  have HBW := Lib.hid hbw
  have HHH := Lib.hid hh
  clear hh hbw
  refine (add_any w1.heap.size rs0 (txt [kind]) _ hB (HK.out.below HBW.out HK.out.lt) (by rw [txt_size]; show 0 + 1 ≤ 2147483648; omega) HHH.out).mono ?_
  rintro e w2 ⟨rfl, ha2⟩
  have hb2 : Below w.heap.size w w2 := HBW.out.trans (ha2.but.toBelow HB1.out.size HBW.out.size)
  have HB2 := Lib.hid hb2
  have HA2 := Lib.hid (show HasK w2 ∧ Holds w2 w1.heap.size 73 (feed rs0 (markText kind (parts.take 0))).cells 64 from ⟨ha2.k, ha2.run⟩)
  clear ha2 hb2
  go_wp2
  go_loopw [15] (fun i wr => ∃ k : Nat, k ≤ parts.length ∧ i = .int .i64 k ∧ Below w.heap.size w wr ∧ HasK wr ∧ Holds wr w1.heap.size 73 (feed rs0 (markText kind (parts.take k))).cells 64) (fun i _ => parts.length - (intOf i).toNat)
  case atStart => exact ⟨0, by omega, rfl, HB2.out, HA2.out.1, HA2.out.2⟩
  case round =>
    obtain ⟨k, hkl, rfl, hb, hkk, hh⟩ := hrel
    have HB := Lib.hid hb
    have HKK := Lib.hid hkk
    have HH := Lib.hid hh
    clear hb hkk hh
    by_cases hlt : k < parts.length
    · obtain ⟨p, hp⟩ : ∃ p, parts[k]? = some p := ⟨_, List.getElem?_eq_getElem hlt⟩
      obtain ⟨ad, rfl, hal, hcell⟩ := HC.out k p hp
      have hcr : wr.cell? (ad.add k) = some (.string p) := by
        rw [HB.out.cell (by rw [show (ad.add k).block = ad.block from by unfold Addr.add; split <;> rfl]; exact hal)]; exact hcell
      have hpl : p.size ≤ 1073741800 := Nat.le_trans (total_le parts p (List.mem_of_getElem? hp)) hs
      have HP := Lib.hid hp
      clear hcell hp
      have hsz1 : (feed rs0 (markText kind (parts.take k))).size + 8 + p.size ≤ 1073741809 := by
        rw [feed_size, markText_length]
        have e1 : total (parts.take (k + 1)) = total (parts.take k) + (p.size + 8) := by
          rw [List.take_add_one, HP.out]; simp [total]
        have e2 := total_take parts (k + 1)
        show 0 + (1 + total (parts.take k)) + 8 + p.size ≤ _
        omega
      have HSZ := Lib.hid hsz1
      clear hsz1
      go_wp2_with fail
      refine (num_any _ _).mono ?_
      rintro e w3 ⟨rfl, hb3⟩
      have HB3 := Lib.hid hb3
      clear hb3
      go_wp2_with fail
      refine (add_any w1.heap.size (feed rs0 (markText kind (parts.take k))) (txt (num8 p.size)) _ hB (HKK.out.below HB3.out HKK.out.lt) (by rw [txt_size, num8_length]; have := HSZ.out; omega) (HH.out.below HB3.out HH.out.lt)).mono ?_
      rintro e w4 ⟨rfl, ha4⟩
      have HA4 := Lib.hid ha4
      clear ha4
      go_wp2_with fail
      refine (add_any w1.heap.size _ p _ hB HA4.out.k (by rw [feed_size, txt_list, num8_length]; have := HSZ.out; omega) HA4.out.run).mono ?_
      rintro e w5 ⟨rfl, ha5⟩
      have HA5 := Lib.hid ha5
      clear ha5
      go_wp2
      go_roundw
      case rel =>
        refine ⟨k + 1, by omega, by go_num, ?_, HA5.out.k, ?_⟩
        · have b3 := HB.out.trans (HB3.out.mono HB.out.size)
          have b4 := b3.trans (HA4.out.but.toBelow HB1.out.size b3.size)
          exact b4.trans (HA5.out.but.toBelow HB1.out.size b4.size)
        · have e : parts.take (k + 1) = parts.take k ++ [p] := by rw [List.take_add_one, HP.out]; rfl
          rw [e, markText_snoc, feed_append, feed_append]
          exact HA5.out.run
      case measure => simp [intOf]; omega
    · obtain rfl : k = parts.length := by omega
      have hsz1 : (feed rs0 (markText kind (parts.take parts.length))).size ≤ 1073741809 := by
        rw [feed_size, markText_length]
        have e2 := total_take parts parts.length
        show 0 + (1 + total (parts.take parts.length)) ≤ _
        omega
      have HSZ := Lib.hid hsz1
      clear hsz1
      go_wp2_with fail
      refine (end_any w1.heap.size _ _ hB HKK.out (by have := HSZ.out; omega) HH.out).mono ?_
      rintro e w3 ⟨rfl, hb3, _⟩
      have HB3 := Lib.hid hb3
      clear hb3
      have hlen : (txt (sumText (feed (feed rs0 (markText kind (parts.take parts.length))) (padding (feed rs0 (markText kind (parts.take parts.length))).size)).st)).size = 32 := by rw [txt_size, sumText_length]
      generalize hy : txt (sumText (feed (feed rs0 (markText kind (parts.take parts.length))) (padding (feed rs0 (markText kind (parts.take parts.length))).size)).st) = y at hlen
      have h16 : 16 ≤ y.size := by omega
      have HY := Lib.hid hy
      clear hy hlen
      go_wp2
      go_ret
      refine ⟨?_, HB.out.trans (HB3.out.toBelow HB1.out.size HB.out.size)⟩
      have ey : y = txt (sumOf (markText kind parts)) := by
        rw [← HY.out, ← feed_append, feed_size]
        unfold sumOf
        rw [show rs0.size + (markText kind (parts.take parts.length)).length = (markText kind (parts.take parts.length)).length from Nat.zero_add _, List.take_length]
      have ex : y.extract 0 16 = markOf kind parts := by
        unfold markOf
        rw [← txt_of (y.extract 0 16), ByteArray.data_extract, Array.toList_extract, ey, txt_list]
        simp [List.extract_eq_take_drop]
      rw [← ex]
      rfl
end Go.Proofs.YthbfmdgnhipobaaDoor
