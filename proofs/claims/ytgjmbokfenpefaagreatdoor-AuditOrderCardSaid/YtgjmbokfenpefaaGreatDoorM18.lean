/- Parts of the proof, one behind the other: VPlain, ItemEq, ItemHas, QWalk, QPub, QSign, SealT, There, Order. -/
import Derived.WalkKit
import Derived.Lib.Hide
import Derived.WalkLawsBesides
import Derived.Deep.QuietTactic
import Derived.Deep.WholeRow
import Derived.ArgAppend
import Derived.Laws.AppendOwnNone
import Derived.Laws.CopyRow
import Derived.Deep.RegionLaw
import Derived.Laws.BytesString
import Derived.Laws.IdiomStrings
import Derived.Test.YtgjmbokfenpefaaGreatDoorProg
import Derived.Laws.BitsAllLaws
import Derived.Outline
import Derived.BigQuiet
import Derived.Laws.CopyOwn
import Derived.RegionTactic
import Derived.StillTail
import Derived.Deep.Quiet
import Derived.Deep.RegionHeld3
import Derived.Deep.DeepCutAuto
import Derived.Laws.ResultCell
import Derived.IntWalk
import Derived.Sort.Walk0
import Derived.Tactics
import Derived.Orders
import Derived.LaidEql
import Derived.Stop.Asserts
import Derived.RowKitTokens
import Derived.OrdersHeld
import Derived.Laws.StructEq
import Derived.Sort.LotA
import Derived.Lib.SortBridge
import Derived.Test.YtgjmbokfenpefaaGreatDoorM1
import Derived.Test.YtgjmbokfenpefaaGreatDoorM2
import Derived.Test.YtgjmbokfenpefaaGreatDoorM3
import Derived.Test.YtgjmbokfenpefaaGreatDoorM4
import Derived.Test.YtgjmbokfenpefaaGreatDoorM5
import Derived.Test.YtgjmbokfenpefaaGreatDoorM6
import Derived.Test.YtgjmbokfenpefaaGreatDoorM7
import Derived.Test.YtgjmbokfenpefaaGreatDoorM9
import Derived.Test.YtgjmbokfenpefaaGreatDoorM10
import Derived.Test.YtgjmbokfenpefaaGreatDoorM12
import Derived.Test.YtgjmbokfenpefaaGreatDoorM17
/- A box's rows, one above the other, as plain lists; and how they lie in the document's one list. -/
namespace Go.Proofs.YtgjmbokfenpefaaGreatDoor
open Go.RowKit

theorem upRow_getD (P : List ByteArray) (j : Nat) (h : j < P.length / 2) : (upRow P).getD j ⟨#[]⟩ = twoM (P.getD (2 * j) ⟨#[]⟩) (P.getD (2 * j + 1) ⟨#[]⟩) := by
  unfold upRow
  rw [List.getD_eq_getElem?_getD, List.getElem?_map, List.getElem?_range h]; rfl
theorem upRow_size (P : List ByteArray) : ∀ p ∈ upRow P, p.size = 16 := by
  intro p hp
  unfold upRow at hp
  obtain ⟨c, _, rfl⟩ := List.mem_map.1 hp
  exact twoM_size _ _
theorem lvl_size (seed : ByteArray) : ∀ t, ∀ p ∈ lvl seed t, p.size = 16
  | 0 => rows0_size seed 8
  | _ + 1 => upRow_size _
theorem rowsUpto_pre (seed : ByteArray) (j i : Nat) (hi : i < 8 + j) : ∀ d, (rowsUpto seed (j + d)).getD i ⟨#[]⟩ = (rowsUpto seed j).getD i ⟨#[]⟩
  | 0 => rfl
  | d + 1 => by
    rw [← rowsUpto_pre seed j i hi d]
    show (rowsUpto seed (j + d + 1)).getD i ⟨#[]⟩ = _
    rw [rowsUpto, List.getD_eq_getElem?_getD, List.getElem?_append_left (by rw [rowsUpto_length]; omega), List.getD_eq_getElem?_getD]
theorem rowsOf_low (seed : ByteArray) (i : Nat) (hi : i < 8) : (rowsOf seed).getD i ⟨#[]⟩ = (lvl seed 0).getD i ⟨#[]⟩ := rowsUpto_pre seed 0 i (by omega) 7
theorem rowsOf_up (seed : ByteArray) (j : Nat) (hj : j < 7) : (rowsOf seed).getD (8 + j) ⟨#[]⟩ = twoM ((rowsOf seed).getD (2 * j) ⟨#[]⟩) ((rowsOf seed).getD (2 * j + 1) ⟨#[]⟩) := by
  have h1 := rowsUpto_pre seed (j + 1) (8 + j) (by omega) (7 - (j + 1))
  have h2 := rowsUpto_pre seed j (2 * j) (by omega) (7 - j)
  have h3 := rowsUpto_pre seed j (2 * j + 1) (by omega) (7 - j)
  rw [show j + 1 + (7 - (j + 1)) = 7 by omega] at h1
  rw [show j + (7 - j) = 7 by omega] at h2 h3
  show (rowsUpto seed 7).getD (8 + j) ⟨#[]⟩ = twoM ((rowsUpto seed 7).getD (2 * j) ⟨#[]⟩) ((rowsUpto seed 7).getD (2 * j + 1) ⟨#[]⟩)
  rw [h1, h2, h3, rowsUpto, List.getD_eq_getElem?_getD, List.getElem?_append_right (by rw [rowsUpto_length]; omega), rowsUpto_length, Nat.sub_self]
  rfl
theorem lvl_next (seed : ByteArray) (t b c : Nat) (hl : (lvl seed t).length = 2 * c) (h : ∀ j, j < 2 * c → (lvl seed t).getD j ⟨#[]⟩ = (rowsOf seed).getD (2 * b + j) ⟨#[]⟩) (hb : b + c ≤ 7) (j : Nat) (hj : j < c) :
    (lvl seed (t + 1)).getD j ⟨#[]⟩ = (rowsOf seed).getD (8 + b + j) ⟨#[]⟩ := by
  rw [lvl, upRow_getD _ _ (by rw [hl]; omega), h _ (by omega), h _ (by omega), Nat.add_assoc 8 b j, rowsOf_up seed (b + j) (by omega), Nat.mul_add, ← Nat.add_assoc]
theorem lvl0_get (seed : ByteArray) (j : Nat) (hj : j < 8) : (lvl seed 0).getD j ⟨#[]⟩ = (rowsOf seed).getD j ⟨#[]⟩ := (rowsOf_low seed j hj).symm
theorem lvl1_get (seed : ByteArray) (j : Nat) (hj : j < 4) : (lvl seed 1).getD j ⟨#[]⟩ = (rowsOf seed).getD (8 + j) ⟨#[]⟩ :=
  lvl_next seed 0 0 4 (lvl0_length seed) (fun j hj => by rw [lvl0_get seed j hj, Nat.mul_zero, Nat.zero_add]) (by omega) j hj
theorem lvl2_get (seed : ByteArray) (j : Nat) (hj : j < 2) : (lvl seed 2).getD j ⟨#[]⟩ = (rowsOf seed).getD (12 + j) ⟨#[]⟩ :=
  lvl_next seed 1 4 2 (lvl1_length seed) (fun j hj => lvl1_get seed j hj) (by omega) j hj
theorem lvl3_get (seed : ByteArray) : (lvl seed 3).getD 0 ⟨#[]⟩ = boxPub seed :=
  lvl_next seed 2 6 1 (lvl2_length seed) (fun j hj => lvl2_get seed j hj) (by omega) 0 (by omega)
theorem lvl_get (seed : ByteArray) (t j : Nat) (ht : t < 3) (hj : j < rowLen t) : (lvl seed t).getD j ⟨#[]⟩ = (rowsOf seed).getD (rowBase t + j) ⟨#[]⟩ := by
  rcases (by omega : t = 0 ∨ t = 1 ∨ t = 2) with rfl | rfl | rfl
  · rw [lvl0_get seed j hj]; congr 1; exact (Nat.zero_add j).symm
  · exact lvl1_get seed j hj
  · exact lvl2_get seed j hj
theorem getD_get {P : List ByteArray} {i : Nat} (h : i < P.length) : P[i]? = some (P.getD i ⟨#[]⟩) := by
  rw [List.getD_eq_getElem?_getD, List.getElem?_eq_getElem h]; rfl
/-- The other one of the two. -/
theorem sib_lt (k t : Nat) (hk : k ≤ 7) (ht : t < 3) : sib (k / 2 ^ t) < rowLen t := by
  rcases (by omega : k = 0 ∨ k = 1 ∨ k = 2 ∨ k = 3 ∨ k = 4 ∨ k = 5 ∨ k = 6 ∨ k = 7) with rfl | rfl | rfl | rfl | rfl | rfl | rfl | rfl <;>
    rcases (by omega : t = 0 ∨ t = 1 ∨ t = 2) with rfl | rfl | rfl <;> decide
theorem sib_xor (k t : Nat) (hk : k ≤ 7) (ht : t < 3) : bits BinOp.xor IntKind.i64 ((k : Int) / 2 ^ t) 1 = ((sib (k / 2 ^ t) : Nat) : Int) := by
  rcases (by omega : k = 0 ∨ k = 1 ∨ k = 2 ∨ k = 3 ∨ k = 4 ∨ k = 5 ∨ k = 6 ∨ k = 7) with rfl | rfl | rfl | rfl | rfl | rfl | rfl | rfl <;>
    rcases (by omega : t = 0 ∨ t = 1 ∨ t = 2) with rfl | rfl | rfl <;> decide +kernel
end Go.Proofs.YtgjmbokfenpefaaGreatDoor
/- Items compared: one with one, and slices.Equal of the same items. -/
namespace Go.Proofs.YtgjmbokfenpefaaGreatDoor
open Go.RowKit

theorem stoodI : Tryz.prog.stoodInHeld 59 = false := by kernel_rfl
theorem itemFields : Tryz.prog.underlying 59 = some (.struct (Tryz.prog.fieldsOf 59)) := by kernel_rfl
theorem textI_ne {a b : ByteArray} (h : ¬ a = b) : (a.toList == b.toList) = false := by
  rw [beq_eq_false_iff_ne]
  intro e
  rw [ByteArray.toList_eq, ByteArray.toList_eq] at e
  exact h (text_of e)
end Go.Proofs.YtgjmbokfenpefaaGreatDoor
/- slices.Contains of items: what is among them is found. -/
namespace Go.Proofs.YtgjmbokfenpefaaGreatDoor
open Go.RowKit

set_option maxHeartbeats 1000000 in
theorem run_eql_items (a b : It) (w : World) :
    (binOp .eql 59 (.agg #[.string a.1, .string a.2]) (.agg #[.string b.1, .string b.2])).run Tryz.prog w = .ok (.bool (decide (a = b))) w := by
  rw [run_eql_struct, run_equalIn_agg _ 9999 _ _ _ itemFields stoodI]
  by_cases h2 : a.1 = b.1
  · by_cases h3 : a.2 = b.2
    · have e : decide (a = b) = true := by simp [Prod.ext_iff, h2, h3]
      rw [e, h2, h3]
      go_simp
    · have e : decide (a = b) = false := by simp [Prod.ext_iff, h3]
      have e3 := textI_ne h3
      rw [e, h2]
      go_simp
  · have e : decide (a = b) = false := by simp [Prod.ext_iff, h2]
    have e3 := textI_ne h2
    rw [e]
    go_simp
end Go.Proofs.YtgjmbokfenpefaaGreatDoor
/- The program's once: where a chain begins, and the way along it. -/
namespace Go.Proofs.YtgjmbokfenpefaaGreatDoor
open Go.RowKit

set_option maxRecDepth 100000 in
theorem qFirst_any (seed : ByteArray) (key : Int) (c : Nat) (w : World) (hk : HasK w) (hs : seed.size = 16) :
    Calls Tryz.prog 237 #[.string seed, .int .i64 key, .int .i64 (c : Int)] w fun e w' => e = .returned (.string (seedOf seed key c)) ∧ Below w.heap.size w w' := by
  have HK := Lib.hid hk
  have HS := Lib.hid hs
  clear hk hs
  go_enter Tryz.func237, Tryz.ntmps237
  go_wp2_with fail
  refine (num_any key _).mono ?_
  rintro e w1 ⟨rfl, hb1⟩
  have HB1 := Lib.hid hb1
  clear hb1
  go_wp2_with fail
  refine (num_any (c : Int) _).mono ?_
  rintro e w2 ⟨rfl, hb2⟩
  have HB2 := Lib.hid (HB1.out.trans (hb2.mono HB1.out.size))
  clear hb2
  go_wp2_with fail
  refine (mark_any 115 [seed, txt (num8 key), txt (num8 (c : Int))] (some ⟨w2.heap.size, 0, none⟩) 3 _ (HK.out.below (HB2.out.trans ((alloc_below w2 _).mono HB2.out.size)) HK.out.lt) (by have := HS.out; simp [total, num_size]; omega) (by simp) (strs_new w2 [seed, txt (num8 key), txt (num8 (c : Int))] 9)).mono ?_
  rintro e w3 ⟨rfl, hb3⟩
  have HB3 := Lib.hid ((HB2.out.trans ((alloc_below w2 (.cells #[.string seed, .string (txt (num8 key)), .string (txt (num8 (c : Int)))] 9)).mono HB2.out.size)).trans (hb3.mono (Nat.le_trans HB2.out.size (by simp))))
  clear hb3
  go_wp2
  go_ret
  exact ⟨rfl, HB3.out⟩

end Go.Proofs.YtgjmbokfenpefaaGreatDoor
/- The program's once: Public. -/
namespace Go.Proofs.YtgjmbokfenpefaaGreatDoor
open Go.RowKit

set_option maxRecDepth 100000 in
theorem qPublic_is (seed : ByteArray) (key : Int) (x : ByteArray) (n : Int) (w : World) (hk : HasK w) (h : publicAns seed key = (x, n)) :
    Calls Tryz.prog 195 #[.string seed, .int .i64 key] w fun e w' => e = .returned (.tuple #[.string x, errOf n]) ∧ Below w.heap.size w w' := by
  have HK := Lib.hid hk
  clear hk
  have HB0 := Lib.hid (alloc_below w (.cells #[.string seed] 9))
  have HS0 := Lib.hid (strs_new w [seed] 9)
  unfold publicAns at h
  by_cases h16 : seed.size = 16
  · rw [if_pos h16] at h
    obtain ⟨hx, rfl⟩ := Prod.mk.inj h
    have HX := Lib.hid hx
    have H16 := Lib.hid h16
    have HM := Lib.hid (oneMark (decide_eq_true h16))
    clear h hx h16
    go_enter Tryz.func195, Tryz.ntmps195
    go_wp2_with fail
    refine (qAre_any [seed] _ 1 _ (by simp) HS0.out).mono ?_
    rintro e w1 ⟨rfl, rfl⟩
    rw [HM.out]
    go_wp2
    go_loopw [13] (fun i wr => ∃ k : Nat, k ≤ 35 ∧ i = .int .i64 (k : Int) ∧ Hid (Below w.heap.size w wr ∧ Holds wr (w.heap.size + 1) 35 (sfill (pubChains seed key 35) k) 346)) (fun i _ => 35 - (intOf i).toNat)
    case atStart =>
      refine ⟨0, by omega, rfl, Lib.hid ⟨HB0.out.trans ((alloc_below _ _).mono (by simp)), ?_⟩⟩
      have hz := Holds.new (w.alloc (.cells (stCells [seed]).toArray 9)) 35 (fun _ => .string ⟨#[]⟩) 346
      rw [World.size_alloc] at hz
      exact hz.congr fun i hi => by unfold sfill; rw [if_neg (by omega)]
    case round =>
      obtain ⟨k, hk, rfl, HU⟩ := hrel
      by_cases hlt : k < 35
      · have HN := Lib.hid HU.out.2.lt
        have HXK := Lib.hid (show (pubChains seed key 35)[k]? = some (alongFrom (k : Int) 15 0 (seedOf seed key k)) from map_range_at _ 35 k hlt)
        go_wp2_with fail
        refine (qFirst_any seed key k _ (HK.out.below HU.out.1 HK.out.lt) H16.out).mono ?_
        rintro e w2 ⟨rfl, hb2⟩
        have HB2 := Lib.hid (HU.out.1.trans (hb2.mono HU.out.1.size))
        have HH2 := Lib.hid (HU.out.2.below hb2 HN.out)
        have HL2 := Lib.hid (Nat.lt_of_lt_of_le HN.out hb2.size)
        clear hb2
        go_wp2_with fail
        refine (qWalk_any (seedOf seed key k) (k : Int) 0 15 _ (HK.out.below HB2.out HK.out.lt) (seedOf_size _ _ _) (by omega) (by omega)).mono ?_
        rintro e w3 ⟨rfl, hb3⟩
        have HB3 := Lib.hid (HB2.out.trans (hb3.mono HB2.out.size))
        have HH3 := Lib.hid (HH2.out.below hb3 HL2.out)
        clear hb3
        have c0 := HH3.out.cell k hlt
        have f0 := HH3.out.free k
        rw [show sfill (pubChains seed key 35) k k = .string ⟨#[]⟩ by unfold sfill; rw [if_neg (by omega)]] at c0
        go_wp2
        go_roundw
        case rel =>
          refine ⟨k + 1, by omega, by go_num, Lib.hid ⟨HB3.out.setCell (by show w.heap.size ≤ w.heap.size + 1; omega) _, ?_⟩⟩
          rw [← sfill_succ _ k _ HXK.out]
          exact HH3.out.set k _
        case measure => simp [intOf]; omega
      · obtain rfl : k = 35 := by omega
        have HLEN := Lib.hid (show (pubChains seed key 35).length = 35 from chains_len _ _)
        have HST := Lib.hid (strs_of_holds HU.out.2 HLEN.out)
        have HTOT := Lib.hid (show total (pubChains seed key 35) ≤ 1073741800 by have := total_leM _ 16 (pub_size seed key 35); rw [HLEN.out] at this; omega)
        have HKW := Lib.hid (HK.out.below HU.out.1 HK.out.lt)
        have HMA := Lib.hid (mark_any 112 (pubChains seed key 35) (some ⟨w.heap.size + 1, 0, none⟩) 35 wr HKW.out HTOT.out (by rw [HLEN.out]; omega) HST.out)
        rw [HLEN.out] at HMA
        clear hlt hk
        go_wp2_with fail
        refine HMA.out.mono ?_
        rintro e w7 ⟨rfl, hb7⟩
        have HB7 := Lib.hid (HU.out.1.trans (hb7.mono HU.out.1.size))
        clear hb7 HMA
        go_wp2
        refine bodyPost_ret (results_tmp2 rfl _ _ _) rfl ?_
        exact ⟨by rw [← HX.out]; rfl, HB7.out⟩
  · rw [if_neg h16] at h
    obtain ⟨rfl, rfl⟩ := Prod.mk.inj h
    have HM := Lib.hid (oneMark (decide_eq_false h16))
    clear h h16
    go_enter Tryz.func195, Tryz.ntmps195
    go_wp2_with fail
    refine (qAre_any [seed] _ 1 _ (by simp) HS0.out).mono ?_
    rintro e w1 ⟨rfl, rfl⟩
    rw [HM.out]
    go_wp2
    refine bodyPost_ret (results_tmp2 rfl _ _ _) rfl ?_
    exact ⟨rfl, HB0.out⟩
end Go.Proofs.YtgjmbokfenpefaaGreatDoor
/- The program's once: Sign. -/
namespace Go.Proofs.YtgjmbokfenpefaaGreatDoor
open Go.RowKit

theorem twoMarks {s m : ByteArray} {b : Bool} (h : (decide (s.size = 16) && decide (m.size = 16)) = b) : marksOk [s, m] = b := by
  rw [← h]; unfold marksOk; simp

theorem make35 (w : World) : (Instr.makeSlice 53 (.int .i64 35) (.int .i64 35)).run Tryz.prog w = .ok (.slice (some ⟨w.heap.size, 0, none⟩) 35 35) (w.alloc (.cells (arr 35 fun _ => .string ⟨#[]⟩) 9)) := by kernel_rfl
set_option maxRecDepth 100000 in
theorem qSign_at (seed : ByteArray) (key : Int) (m : ByteArray) (T : List ByteArray) (n : Int) (w : World) (hk : HasK w) (h : signAns seed key m = (T, n)) :
    Calls Tryz.prog 206 #[.string seed, .int .i64 key, .string m] w fun e w' => ∃ A cap, e = .returned (.tuple #[.slice A T.length cap, errOf n]) ∧ Below w.heap.size w w' ∧ Strs w' A T ∧ ∀ a, A = some a → 0 < T.length → w.heap.size ≤ a.block := by
  have HK := Lib.hid hk
  clear hk
  have HB0 := Lib.hid (alloc_below w (.cells #[.string seed, .string m] 9))
  have HS0 := Lib.hid (strs_new w [seed, m] 9)
  unfold signAns at h
  by_cases h16 : seed.size = 16 ∧ m.size = 16
  · rw [if_pos h16] at h
    obtain ⟨hx, rfl⟩ := Prod.mk.inj h
    have HX := Lib.hid hx
    have H16 := Lib.hid h16.1
    have HM16 := Lib.hid h16.2
    have HM := Lib.hid (twoMarks (s := seed) (m := m) (b := true) (by rw [decide_eq_true h16.1, decide_eq_true h16.2]; rfl))
    clear h hx h16
    go_enter Tryz.func206, Tryz.ntmps206
    go_wp2_with fail
    refine (qAre_any [seed, m] _ 2 _ (by simp) HS0.out).mono ?_
    rintro e w1 ⟨rfl, rfl⟩
    rw [HM.out]
    have hmk := make35
    go_wp2_with fail
    refine (qDigits_any m _ HM16.out).mono ?_
    rintro e w2 ⟨rfl, hb2⟩
    clear hmk
    have HB1 := Lib.hid (HB0.out.trans ((alloc_below _ (.cells (arr 35 fun _ => .string ⟨#[]⟩) 9)).mono HB0.out.size))
    have HN1 := Lib.hid (Holds.new (w.alloc (.cells (stCells [seed, m]).toArray 9)) 35 (fun _ => .string ⟨#[]⟩) 9)
    rw [World.size_alloc] at HN1
    have HH2 := Lib.hid (HN1.out.below hb2 HN1.out.lt)
    have HB2 := Lib.hid (HB1.out.trans (hb2.mono HB1.out.size))
    clear hb2
    have HZ := Lib.hid (show ∀ k, k < 35 → (arr 35 fun i => Value.int .i64 (((digitsOf m.data.toList).getD i 0 : Nat) : Int))[k]? = some (Value.int .i64 (((digitsOf m.data.toList).getD k 0 : Nat) : Int)) from fun k hk => arr_get 35 _ k hk)
    generalize (arr 35 fun i => Value.int .i64 (((digitsOf m.data.toList).getD i 0 : Nat) : Int)) = Z at HZ ⊢
    go_wp2
    go_loopw [20] (fun i wr => ∃ k : Nat, k ≤ 35 ∧ i = .int .i64 (k : Int) ∧ Hid (Below w.heap.size w wr ∧ Holds wr (w.heap.size + 1) 35 (sfill (signChains seed key m 35) k) 9)) (fun i _ => 35 - (intOf i).toNat)
    case atStart =>
      refine ⟨0, by omega, rfl, Lib.hid ⟨HB2.out, HH2.out.congr fun i hi => by unfold sfill; rw [if_neg (by omega)]⟩⟩
    case round =>
      obtain ⟨k, hk, rfl, HU⟩ := hrel
      by_cases hlt : k < 35
      · have HN := Lib.hid HU.out.2.lt
        obtain ⟨D, hD⟩ : ∃ D, (digitsOf m.data.toList).getD k 0 = D := ⟨_, rfl⟩
        have HXK := Lib.hid (show (signChains seed key m 35)[k]? = some (alongFrom (k : Int) D 0 (seedOf seed key k)) by rw [← hD]; exact map_range_at _ 35 k hlt)
        have HDL := Lib.hid (digit_le HM16.out k)
        have hz := HZ.out k hlt
        rw [hD] at HDL hz
        have hix := fun wx => run_index_arr (P := Tryz.prog) wx 347 3 35 Z _ k Tryz.underlying347 sizeInt aggInt hlt hz
        clear hD hz
        go_wp2_with fail
        refine (qFirst_any seed key k _ (HK.out.below HU.out.1 HK.out.lt) H16.out).mono ?_
        rintro e w3 ⟨rfl, hb3⟩
        have HB3 := Lib.hid (HU.out.1.trans (hb3.mono HU.out.1.size))
        have HH3 := Lib.hid (HU.out.2.below hb3 HN.out)
        have HL3 := Lib.hid (Nat.lt_of_lt_of_le HN.out hb3.size)
        clear hb3 hix
        go_wp2_with fail
        refine (qWalk_any (seedOf seed key k) (k : Int) 0 D _ (HK.out.below HB3.out HK.out.lt) (seedOf_size _ _ _) (by omega) HDL.out).mono ?_
        rintro e w4 ⟨rfl, hb4⟩
        have HB4 := Lib.hid (HB3.out.trans (hb4.mono HB3.out.size))
        have HH4 := Lib.hid (HH3.out.below hb4 HL3.out)
        clear hb4
        have c0 := HH4.out.cell k hlt
        have f0 := HH4.out.free k
        rw [show sfill (signChains seed key m 35) k k = .string ⟨#[]⟩ by unfold sfill; rw [if_neg (by omega)]] at c0
        go_wp2
        go_roundw
        case rel =>
          refine ⟨k + 1, by omega, by go_num, Lib.hid ⟨HB4.out.setCell (by show w.heap.size ≤ w.heap.size + 1; omega) _, ?_⟩⟩
          rw [← sfill_succ _ k _ HXK.out]
          exact HH4.out.set k _
        case measure => simp [intOf]; omega
      · obtain rfl : k = 35 := by omega
        have HLEN := Lib.hid (show (signChains seed key m 35).length = 35 from chains_len _ _)
        have HST := Lib.hid (strs_of_holds HU.out.2 HLEN.out)
        clear hlt hk
        go_wp2
        refine bodyPost_ret (results_tmp2 rfl _ _ _) rfl ?_
        refine ⟨some ⟨w.heap.size + 1, 0, none⟩, 35, ?_, HU.out.1, ?_, fun a ha _ => by cases ha; show w.heap.size ≤ w.heap.size + 1; omega⟩
        · rw [← HX.out, HLEN.out]; rfl
        · rw [← HX.out]; exact HST.out
  · rw [if_neg h16] at h
    obtain ⟨rfl, rfl⟩ := Prod.mk.inj h
    have HM := Lib.hid (twoMarks (s := seed) (m := m) (b := false) (by
      rw [Bool.and_eq_false_iff, decide_eq_false_iff_not, decide_eq_false_iff_not]
      rcases Classical.em (seed.size = 16) with e | e
      · exact .inr fun f => h16 ⟨e, f⟩
      · exact .inl e))
    clear h h16
    go_enter Tryz.func206, Tryz.ntmps206
    go_wp2_with fail
    refine (qAre_any [seed, m] _ 2 _ (by simp) HS0.out).mono ?_
    rintro e w1 ⟨rfl, rfl⟩
    rw [HM.out]
    go_wp2
    refine bodyPost_ret (results_tmp2 rfl _ _ _) rfl ?_
    exact ⟨_, _, rfl, HB0.out, Strs.nil _ _, fun _ _ h => absurd h (Nat.lt_irrefl 0)⟩
end Go.Proofs.YtgjmbokfenpefaaGreatDoor
/- What a box tells of a mark is its seal: it leads to what the box is known by. -/
namespace Go.Proofs.YtgjmbokfenpefaaGreatDoor
open Go.RowKit

theorem along_add (c : Int) : ∀ (n m k : Nat) (s : ByteArray), alongFrom c m (k + n) (alongFrom c n k s) = alongFrom c (n + m) k s
  | 0, m, k, s => by simp [alongFrom]
  | n + 1, m, k, s => by
    rw [show n + 1 + m = (n + m) + 1 by omega, alongFrom, alongFrom, show k + (n + 1) = (k + 1) + n by omega]
    exact along_add c n m (k + 1) _
theorem from_sign {seed : ByteArray} {key : Int} {m : ByteArray} (hm : m.size = 16) : fromAns m (signChains seed key m 35) = (publicOf seed key, 0) := by
  have hl : (signChains seed key m 35).length = 35 := by unfold signChains; simp
  have hs : ∀ p ∈ signChains seed key m 35, p.size = 16 := by
    intro p hp
    unfold signChains at hp
    obtain ⟨c, _, rfl⟩ := List.mem_map.1 hp
    exact along_size _ _ _ _ (seedOf_size _ _ _)
  have hok : marksOk (signChains seed key m 35) = true := by
    unfold marksOk
    rw [List.all_eq_true]
    intro p hp
    exact decide_eq_true (hs p hp)
  unfold fromAns
  rw [if_pos ⟨hm, hl, hok⟩]
  unfold publicOf
  congr 2
  unfold fromChains pubChains
  refine List.map_congr_left fun c hc => ?_
  have hc35 : c < 35 := List.mem_range.1 hc
  have hd := digit_le hm c
  have hg : (signChains seed key m 35).getD c ⟨#[]⟩ = alongFrom (c : Int) ((digitsOf m.data.toList).getD c 0) 0 (seedOf seed key c) := by
    unfold signChains
    rw [List.getD_eq_getElem?_getD, List.getElem?_map, List.getElem?_range hc35]
    rfl
  rw [hg]
  have := along_add (c : Int) ((digitsOf m.data.toList).getD c 0) (15 - (digitsOf m.data.toList).getD c 0) 0 (seedOf seed key c)
  rw [Nat.zero_add] at this
  rw [this]
  congr 1
  omega
theorem rows_all (seed : ByteArray) : ∃ a0 a1 a2 a3 a4 a5 a6 a7 : ByteArray, (∀ k : Nat, k < 8 → markOf 116 [txt (num8 (k : Int)), publicOf seed (k : Int)] = [a0, a1, a2, a3, a4, a5, a6, a7].getD k ⟨#[]⟩) ∧
    rowsOf seed = [a0, a1, a2, a3, a4, a5, a6, a7, markOf 117 [a0, a1], markOf 117 [a2, a3], markOf 117 [a4, a5], markOf 117 [a6, a7], markOf 117 [markOf 117 [a0, a1], markOf 117 [a2, a3]], markOf 117 [markOf 117 [a4, a5], markOf 117 [a6, a7]], markOf 117 [markOf 117 [markOf 117 [a0, a1], markOf 117 [a2, a3]], markOf 117 [markOf 117 [a4, a5], markOf 117 [a6, a7]]]] := by
  have h0 : rows0 seed 8 = [markOf 116 [txt (num8 ((0 : Nat) : Int)), publicOf seed ((0 : Nat) : Int)], markOf 116 [txt (num8 ((1 : Nat) : Int)), publicOf seed ((1 : Nat) : Int)], markOf 116 [txt (num8 ((2 : Nat) : Int)), publicOf seed ((2 : Nat) : Int)], markOf 116 [txt (num8 ((3 : Nat) : Int)), publicOf seed ((3 : Nat) : Int)], markOf 116 [txt (num8 ((4 : Nat) : Int)), publicOf seed ((4 : Nat) : Int)], markOf 116 [txt (num8 ((5 : Nat) : Int)), publicOf seed ((5 : Nat) : Int)], markOf 116 [txt (num8 ((6 : Nat) : Int)), publicOf seed ((6 : Nat) : Int)], markOf 116 [txt (num8 ((7 : Nat) : Int)), publicOf seed ((7 : Nat) : Int)]] := by
    unfold rows0
    have hl : ∀ f : Nat → ByteArray, (List.range 8).map f = [f 0, f 1, f 2, f 3, f 4, f 5, f 6, f 7] := fun f => rfl
    rw [hl]
  have h1 : ∀ k : Nat, k < 8 → markOf 116 [txt (num8 (k : Int)), publicOf seed (k : Int)] = (rows0 seed 8).getD k ⟨#[]⟩ := fun k hk => by
    unfold rows0
    rw [List.getD_eq_getElem?_getD, List.getElem?_map, List.getElem?_range hk]
    rfl
  rw [h0] at h1
  unfold rowsOf
  simp only [rowsUpto, h0]
  generalize markOf 116 [txt (num8 ((0 : Nat) : Int)), publicOf seed ((0 : Nat) : Int)] = a0 at h1
  generalize markOf 116 [txt (num8 ((1 : Nat) : Int)), publicOf seed ((1 : Nat) : Int)] = a1 at h1
  generalize markOf 116 [txt (num8 ((2 : Nat) : Int)), publicOf seed ((2 : Nat) : Int)] = a2 at h1
  generalize markOf 116 [txt (num8 ((3 : Nat) : Int)), publicOf seed ((3 : Nat) : Int)] = a3 at h1
  generalize markOf 116 [txt (num8 ((4 : Nat) : Int)), publicOf seed ((4 : Nat) : Int)] = a4 at h1
  generalize markOf 116 [txt (num8 ((5 : Nat) : Int)), publicOf seed ((5 : Nat) : Int)] = a5 at h1
  generalize markOf 116 [txt (num8 ((6 : Nat) : Int)), publicOf seed ((6 : Nat) : Int)] = a6 at h1
  generalize markOf 116 [txt (num8 ((7 : Nat) : Int)), publicOf seed ((7 : Nat) : Int)] = a7 at h1
  refine ⟨a0, a1, a2, a3, a4, a5, a6, a7, h1, ?_⟩
  generalize markOf 117 = f
  rfl
theorem rows_top (seed : ByteArray) (k : Nat) (hk : k < 8) : upFrom (sealPath seed k 3) (markOf 116 [txt (num8 (k : Int)), publicOf seed (k : Int)]) k = boxPub seed := by
  obtain ⟨a0, a1, a2, a3, a4, a5, a6, a7, h1, h2⟩ := rows_all seed
  rw [h1 k hk]
  unfold sealPath boxPub
  rw [h2]
  have hu : ∀ (x y z t : ByteArray) (k : Nat), upFrom [x, y, z] t k = (fun f : List ByteArray → ByteArray => (fun t1 => (fun t2 => if k / 2 / 2 % 2 = 1 then f [z, t2] else f [t2, z]) (if k / 2 % 2 = 1 then f [y, t1] else f [t1, y])) (if k % 2 = 1 then f [x, t] else f [t, x])) (markOf 117) := fun x y z t k => rfl
  rw [show (List.range 3) = [0, 1, 2] from rfl]
  simp only [List.map_cons, List.map_nil]
  rw [hu]
  generalize markOf 117 = f
  rcases (show k = 0 ∨ k = 1 ∨ k = 2 ∨ k = 3 ∨ k = 4 ∨ k = 5 ∨ k = 6 ∨ k = 7 by omega) with rfl | rfl | rfl | rfl | rfl | rfl | rfl | rfl <;> rfl
theorem seal_ok {seed : ByteArray} {key : Int} {m : ByteArray} (h0 : 0 ≤ key) (h7 : key ≤ 7) (hm : m.size = 16) : sealOk (boxPub seed) m key (signChains seed key m 35) (sealPath seed key.toNat 3) = true := by
  obtain ⟨k, rfl⟩ : ∃ k : Nat, key = (k : Int) := ⟨key.toNat, by omega⟩
  unfold sealOk
  rw [from_sign hm, Int.toNat_natCast]
  have hp : marksOk (sealPath seed k 3) = true := by
    unfold marksOk
    rw [List.all_eq_true]
    intro p hp
    unfold sealPath at hp
    obtain ⟨i, hi, rfl⟩ := List.mem_map.1 hp
    refine decide_eq_true (rowsOf_size _ _ ?_)
    have hi3 : i < 3 := List.mem_range.1 hi
    rcases (show i = 0 ∨ i = 1 ∨ i = 2 by omega) with rfl | rfl | rfl <;> simp [rowBase, sib] <;> split <;> omega
  have hl : (sealPath seed k 3).length = 3 := by unfold sealPath; simp
  rw [hp, hl, rows_top seed k (by omega)]
  simp
  omega
theorem sealAns_ok {seed : ByteArray} {key : Int} {m : ByteArray} (hs : seed.size = 16) (h0 : 0 ≤ key) (h7 : key ≤ 7) (hm : m.size = 16) :
    (sealAns seed key m).1 = key ∧ (sealAns seed key m).2.2.2 = 0 ∧ sealOk (boxPub seed) m (sealAns seed key m).1 (sealAns seed key m).2.1 (sealAns seed key m).2.2.1 = true := by
  have e : signAns seed key m = (signChains seed key m 35, 0) := by unfold signAns; rw [if_pos ⟨hs, hm⟩]
  unfold sealAns
  rw [if_pos ⟨h0, h7⟩, e]
  exact ⟨rfl, rfl, seal_ok h0 h7 hm⟩
end Go.Proofs.YtgjmbokfenpefaaGreatDoor
/- What is proved of items: plain facts (for ProofThere). -/
namespace Go.Proofs.YtgjmbokfenpefaaGreatDoor

/-- A proof's step, where two or more are left. -/
theorem proveFrom_step (f : Nat) (L : List It) (ix : ByteArray) (d : Nat) (h : 2 ≤ L.length) : proveFrom (f + 1) L ix d =
    (nodeOf f (half L d (1 - bitX ix d)) (d + 1) :: (proveFrom f (half L d (bitX ix d)) ix (d + 1)).1, (proveFrom f (half L d (bitX ix d)) ix (d + 1)).2) := by
  rw [proveFrom, if_neg (by omega)]
theorem few_node (f : Nat) (L : List It) (d : Nat) (h : L.length < 2) (h16 : ∀ x ∈ L, x.1.size = 16) (Q : List ByteArray) (hq : Q.length = d) : startOf Q (itAt L 0) = nodeOf f L d := by
  unfold startOf
  match L, h with
  | [], _ =>
    rw [nodeOf_nil f [] d rfl, hq]
    rfl
  | [x], _ =>
    have hx := h16 x (by simp)
    rw [nodeOf_one f [x] d rfl, hq]
    show (if x.1.size = 0 then _ else leafM x d) = leafM x d
    rw [if_neg (by omega)]
/-- It leads to the items' node. -/
theorem prove_leads (ix : ByteArray) : ∀ (f : Nat) (L : List It) (d : Nat) (Q : List ByteArray), d + f = 128 → Apart L d → Q.length = d →
    leadFrom ix (Q ++ (proveFrom f L ix d).1) (d + (proveFrom f L ix d).1.length) (startOf (Q ++ (proveFrom f L ix d).1) (proveFrom f L ix d).2) = leadFrom ix (Q ++ (proveFrom f L ix d).1) d (nodeOf f L d) := by
  intro f
  induction f with
  | zero =>
    intro L d Q hd hap hq
    have h2 : L.length < 2 := by
      rcases Nat.lt_or_ge L.length 2 with h | h
      · exact h
      · have := hap.lt h
        omega
    rw [proveFrom_few 0 L ix d h2]
    simp only [List.append_nil, List.length_nil, Nat.add_zero]
    rw [few_node 0 L d h2 hap.1 Q hq]
  | succ f ih =>
    intro L d Q hd hap hq
    by_cases h2 : L.length < 2
    · rw [proveFrom_few (f + 1) L ix d h2]
      simp only [List.append_nil, List.length_nil, Nat.add_zero]
      rw [few_node (f + 1) L d h2 hap.1 Q hq]
    · rw [proveFrom_step f L ix d (by omega)]
      have hi := ih (half L d (bitX ix d)) (d + 1) (Q ++ [nodeOf f (half L d (1 - bitX ix d)) (d + 1)]) (by omega) (hap.half _) (by simp [hq])
      rw [List.append_assoc, List.singleton_append] at hi
      generalize (proveFrom f (half L d (bitX ix d)) ix (d + 1)).1 = P at hi ⊢
      generalize (proveFrom f (half L d (bitX ix d)) ix (d + 1)).2 = x at hi ⊢
      have hl : d + (nodeOf f (half L d (1 - bitX ix d)) (d + 1) :: P).length = d + 1 + P.length := by rw [List.length_cons]; omega
      rw [hl, hi, leadFrom]
      have hg : (Q ++ nodeOf f (half L d (1 - bitX ix d)) (d + 1) :: P).getD d ⟨#[]⟩ = nodeOf f (half L d (1 - bitX ix d)) (d + 1) := by
        rw [List.getD_eq_getElem?_getD, List.getElem?_append_right (by omega), hq, Nat.sub_self]
        rfl
      rw [hg, nodeOf_two f L d (by omega)]
      have hb := bitOf_lt ix.data.toList d
      rcases (show bitX ix d = 0 ∨ bitX ix d = 1 by unfold bitX; omega) with h | h
      · rw [if_pos h, h]
      · rw [if_neg (show ¬ bitOf ix.data.toList d = 0 from fun h0 => by unfold bitX at h; omega), h]
theorem few_proves {L : List It} {ix : ByteArray} {d : Nat} (hd : d ≤ 128) (h : L.length < 2) (hb : Beside L ix d) : Proves L ix d [] (itAt L 0) := by
  refine ⟨rfl, by simpa using hd, ?_, ?_, fun h => absurd rfl h⟩
  · match L, h with
    | [], _ => exact .inl rfl
    | [x], _ => exact .inr ⟨by simp [itAt], fun k hk => hb x (by simp) k (by simpa using hk)⟩
  · match L, h with
    | [], _ => exact fun y hy => by cases hy
    | [x], _ => exact fun y hy _ => by rw [List.mem_singleton.1 hy]; rfl
theorem prove_holds (ix : ByteArray) : ∀ (f : Nat) (L : List It) (d : Nat), d + f = 128 → Apart L d → Beside L ix d → Proves L ix d (proveFrom f L ix d).1 (proveFrom f L ix d).2 := by
  intro f
  induction f with
  | zero =>
    intro L d hd hap hb
    have h2 : L.length < 2 := by
      rcases Nat.lt_or_ge L.length 2 with h | h
      · exact h
      · have := hap.lt h
        omega
    rw [proveFrom_few 0 L ix d h2]
    exact few_proves (by omega) h2 hb
  | succ f ih =>
    intro L d hd hap hb
    by_cases h2 : L.length < 2
    · rw [proveFrom_few (f + 1) L ix d h2]
      exact few_proves (by omega) h2 hb
    · rw [proveFrom_step f L ix d (by omega)]
      have hi := ih (half L d (bitX ix d)) (d + 1) (by omega) (hap.half _) hb.half
      generalize (proveFrom f (half L d (bitX ix d)) ix (d + 1)).1 = P at hi ⊢
      generalize (proveFrom f (half L d (bitX ix d)) ix (d + 1)).2 = x at hi ⊢
      have hl : ∀ n : ByteArray, d + (n :: P).length = d + 1 + P.length := fun n => by rw [List.length_cons]; omega
      refine ⟨?_, by rw [hl]; exact hi.few, ?_, ?_, ?_⟩
      · have := hi.marks
        unfold marksOk at this ⊢
        rw [List.all_cons, this, decide_eq_true (nodeOf_size _ _ _)]
        rfl
      · rcases hi.leaf with h | ⟨h, h'⟩
        · exact .inl h
        · exact .inr ⟨(List.mem_filter.1 h).1, fun k hk => h' k (by rw [hl] at hk; exact hk)⟩
      · intro y hy he
        refine hi.there y (List.mem_filter.2 ⟨hy, ?_⟩) he
        show (bitI y d == bitX ix d) = true
        unfold bitI bitX
        rw [he]
        exact beq_self_eq_true _
      · intro _
        by_cases hp : P = []
        · subst hp
          obtain ⟨y, hy, hne⟩ : ∃ y ∈ L, y.1 ≠ ix := by
            match L, h2, hap with
            | [], h2, _ => exact absurd (by simp) h2
            | [a], h2, _ => exact absurd (by simp) h2
            | a :: b :: r, _, hap =>
              have hab : a.1 ≠ b.1 := (List.pairwise_cons.1 hap.2.1).1 b (by simp)
              by_cases e : a.1 = ix
              · exact ⟨b, by simp, fun hb => hab (e.trans hb.symm)⟩
              · exact ⟨a, by simp, e⟩
          exact ⟨y, hy, hne, fun k hk => hb y hy k (by simp at hk; omega)⟩
        · obtain ⟨y, hy, hne, hk⟩ := hi.far hp
          exact ⟨y, (List.mem_filter.1 hy).1, hne, fun k h => hk k (by rw [hl] at h; exact h)⟩
/-- What is asked of right items is proved: the proof is right, leads to their root, and tells what lies there. -/
theorem asked {L : List It} {ix : ByteArray} {P : List ByteArray} {x : It} (hr : rightItems L = true) (h16 : ix.size = 16) (h : proveAns L ix = (P, x, 0)) :
    rightProof ix P x = true ∧ proofRootAns ix P x = (rootOf L, 0) ∧ Proves L ix 0 P x := by
  unfold proveAns at h
  rw [if_pos ⟨hr, h16⟩] at h
  have hap := right_apart hr
  have hp := prove_holds ix 128 L 0 (by omega) hap (fun x _ k hk => by omega)
  have hle := prove_leads ix 128 L 0 [] (by omega) hap rfl
  simp only [List.nil_append, Nat.zero_add] at hle
  rw [show (proveFrom 128 L ix 0).1 = P from congrArg Prod.fst h, show (proveFrom 128 L ix 0).2 = x from congrArg (fun p => p.2.1) h] at hp hle
  have hrp : rightProof ix P x = true := by
    unfold rightProof
    rw [decide_eq_true h16, decide_eq_true (by have := hp.few; omega), hp.marks]
    rcases hp.leaf with rfl | ⟨hx, hk⟩
    · rfl
    · have hs := right_sizes hr x hx
      rw [if_neg (by omega)]
      unfold leafOk
      rw [decide_eq_true hs.1, decide_eq_true hs.2, decide_eq_true]
      · rfl
      · refine commonOf_ge _ _ _ (by have := hp.few; omega) fun k h => (hk k (by omega)).symm
  refine ⟨hrp, ?_, hp⟩
  unfold proofRootAns
  rw [if_pos hrp, hle]
  rfl
/-- And so it is verified. -/
theorem verified {L : List It} {ix : ByteArray} {P : List ByteArray} {x : It} (hr : rightItems L = true) (h16 : ix.size = 16) (h : proveAns L ix = (P, x, 0)) :
    (∃ y ∈ L, y.1 = ix ∧ verifyAns (rootOf L) ix P x = (y.2, true, 0)) ∨ ((∀ y ∈ L, y.1 ≠ ix) ∧ verifyAns (rootOf L) ix P x = (⟨#[]⟩, false, 0)) := by
  obtain ⟨_, h2, h3⟩ := asked hr h16 h
  unfold verifyAns
  rw [h2]
  simp only [ne_eq, not_true_eq_false, if_false]
  by_cases e : ∃ y ∈ L, y.1 = ix
  · obtain ⟨y, hy, he⟩ := e
    left
    refine ⟨y, hy, he, ?_⟩
    rw [h3.there y hy he, if_pos he]
  · right
    refine ⟨fun y hy he => e ⟨y, hy, he⟩, ?_⟩
    rcases h3.leaf with rfl | ⟨hx, _⟩
    · rw [if_neg (show ¬ noIt.1 = ix from fun he => by rw [← he] at h16; exact absurd h16 (by decide))]
    · rw [if_neg (fun he => e ⟨x, hx, he⟩)]
end Go.Proofs.YtgjmbokfenpefaaGreatDoor
/- Items set one behind the other: plain lists (for TrieOrder). -/
namespace Go.Proofs.YtgjmbokfenpefaaGreatDoor

theorem right_one (x : It) : rightItems [x] = goodI x := by
  unfold rightItems goodItems goodItem goodI itAt
  simp
end Go.Proofs.YtgjmbokfenpefaaGreatDoor
