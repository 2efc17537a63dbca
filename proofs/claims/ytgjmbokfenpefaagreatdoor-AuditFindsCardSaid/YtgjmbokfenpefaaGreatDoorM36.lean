/- Parts of the proof, one behind the other: Digits, Right, Halves, Node, TellErr, Of, RProof. -/
import Derived.WalkKit
import Derived.Lib.Hide
import Derived.WalkLawsBesides
import Derived.Deep.QuietTactic
import Derived.Deep.WholeRow
import Derived.ArgAppend
import Derived.Laws.AppendOwnNone
import Derived.Laws.CopyRow
import Derived.Deep.RegionLaw
import Derived.Laws.BytesString
import Derived.Laws.IdiomStrings
import Derived.Test.YtgjmbokfenpefaaGreatDoorProg
import Derived.Laws.BitsAllLaws
import Derived.Outline
import Derived.BigQuiet
import Derived.Laws.CopyOwn
import Derived.RegionTactic
import Derived.StillTail
import Derived.Deep.Quiet
import Derived.IntWalk
import Derived.Sort.Walk0
import Derived.Tactics
import Derived.Orders
import Derived.Deep.RegionHeld3
import Derived.Deep.DeepCutAuto
import Derived.LaidEql
import Derived.Stop.Asserts
import Derived.RowKitTokens
import Derived.Laws.ResultCell
import Derived.Test.YtgjmbokfenpefaaGreatDoorM1
import Derived.Test.YtgjmbokfenpefaaGreatDoorM2
import Derived.Test.YtgjmbokfenpefaaGreatDoorM3
import Derived.Test.YtgjmbokfenpefaaGreatDoorM4
import Derived.Test.YtgjmbokfenpefaaGreatDoorM5
import Derived.Test.YtgjmbokfenpefaaGreatDoorM16
import Derived.Test.YtgjmbokfenpefaaGreatDoorM33
import Derived.Test.YtgjmbokfenpefaaGreatDoorM34
import Derived.Test.YtgjmbokfenpefaaGreatDoorM35
/- The document's digits. -/
namespace Go.Proofs.YtgjmbokfenpefaaGreatDoor
open Go.RowKit

theorem digsOf_take (l : List UInt8) (k : Nat) (c : UInt8) (h : l[k]? = some c) : digsOf (l.take (k + 1)) = digsOf (l.take k) ++ [c.toNat / 16, c.toNat % 16] := by
  unfold digsOf
  rw [List.take_add_one, h]
  simp
theorem lackOf_take (l : List UInt8) (k : Nat) (c : UInt8) (h : l[k]? = some c) : lackOf (l.take (k + 1)) = lackOf (l.take k) + (30 - c.toNat / 16 - c.toNat % 16) := by
  unfold lackOf
  rw [List.take_add_one, h]
  simp
theorem digitsOf_length {l : List UInt8} (h : l.length = 16) : (digitsOf l).length = 35 := by
  unfold digitsOf; rw [List.length_append, digsOf_length]; simp; omega
theorem i64s_append (l m : List Nat) : i64s (l ++ m) = i64s l ++ i64s m := by unfold i64s; simp

set_option maxRecDepth 100000 in
theorem refDigits_any (s : ByteArray) (w : World) (h16 : s.size = 16) :
    Calls Tryz.prog 175 #[.string s] w fun e w' => ∃ v, e = .returned v ∧ Below w.heap.size w w' ∧ Row w' w.heap.size 1 v 35 (i64s (digitsOf s.data.toList)) := by
  have H16 := Lib.hid h16
  have hs1 : s.size ≤ 16 := by omega
  have hs2 : 16 ≤ s.size := by omega
  clear h16
  have HLEN := Lib.hid (show s.data.toList.length = s.size from size_len s)
  go_enter Tryz.func175, Tryz.ntmps175
  go_wp2
  go_loopw [3, 4, 10] (fun v lk i wr => ∃ (k q : Nat), k ≤ 16 ∧ i = .int .i64 (k : Int) ∧ lk = .int .i64 (q : Int) ∧ q ≤ 30 * k ∧ Hid (q = lackOf (s.data.toList.take k) ∧ Below w.heap.size w wr ∧ Row wr w.heap.size 1 v (2 * k) (i64s (digsOf (s.data.toList.take k))))) (fun _ _ i _ => 16 - (intOf i).toNat)
  case atStart => exact ⟨0, 0, by omega, rfl, rfl, by omega, Lib.hid ⟨rfl, Below.refl _ _, Row.nil _ _ _⟩⟩
  case round =>
    obtain ⟨k, q, hk, rfl, rfl, hq, HU⟩ := hrel
    by_cases hlt : k < 16
    · obtain ⟨c, hc⟩ : ∃ c, s.data.toList[k]? = some c := ⟨_, List.getElem?_eq_getElem (by have := HLEN.out; omega)⟩
      have hsk : k < s.size := by omega
      obtain ⟨B, hB⟩ : ∃ B : Nat, c.toNat = B := ⟨_, rfl⟩
      have hB2 : B < 256 := by rw [← hB]; exact c.toNat_lt
      have hbk : s[k].toNat = B := by
        rw [← hB]; congr 1
        rw [List.getElem?_eq_getElem (by have := HLEN.out; omega)] at hc
        exact Option.some.inj hc
      have hw : wrap64 ((s[k].toNat : Nat) : Int) = (B : Int) := by rw [hbk]; simp [wrap64]; omega
      have HC := Lib.hid hc
      have HB := Lib.hid hB
      clear hc hB hbk
      go_wp2
      go_quiet (fail)
      have HW1 := Lib.hid (show Below w.heap.size w (wr.drewN nq) ∧ Row (wr.drewN nq) w.heap.size 1 u3 (2 * k) (i64s (digsOf (s.data.toList.take k))) from ⟨below_drewP HU.out.2.1 nq, HU.out.2.2.drewN nq⟩)
      generalize wr.drewN nq = w1 at HW1 ⊢
      obtain ⟨a1, ha1⟩ : ∃ a1 : Nat, B / 16 = a1 := ⟨_, rfl⟩
      obtain ⟨a2, ha2⟩ : ∃ a2 : Nat, B % 16 = a2 := ⟨_, rfl⟩
      have E1 : (B : Int) / 16 = (a1 : Int) := by omega
      have E2 : (B : Int) % 16 = (a2 : Int) := by omega
      rw [E1, E2]
      have b1 : a1 ≤ 15 := by omega
      have b2 : a2 ≤ 15 := by omega
      have HA1 := Lib.hid ha1
      have HA2 := Lib.hid ha2
      clear E1 E2 ha1 ha2 hw
      go_wp2_with (at_builtin; refine wpList_append_new rfl (.tmp 23) (.tmp 26) 98 rfl 3 Tryz.underlying98 (.int .i64 0) 8 infoI64 rfl (by decide) w.heap.size _ (2 * k) _ rfl HW1.out.2 HW1.out.1.size (by omega) [.int .i64 (a1 : Int), .int .i64 (a2 : Int)] 2 rfl (by decide) rfl (by simp; exact ⟨rfl, rfl⟩) 3 ?_; intro v3 w3 hr3 hg3 hm3)
      go_roundw
      case rel =>
        have hw := HW1.out.1
        refine ⟨k + 1, q + (30 - a1 - a2), by omega, by go_num, by congr 1; omega, by omega, Lib.hid ⟨?_, ?_, ?_⟩⟩
        · rw [lackOf_take _ k c HC.out, ← HU.out.1, HB.out, HA1.out, HA2.out]
        · exact HW1.out.1.grown hg3.out HW1.out.1.size (fun j hj => (HW1.out.2.lt j hj).1)
        · rw [digsOf_take _ k c HC.out, i64s_append, HB.out, HA1.out, HA2.out]
          exact hr3.out
      case measure => simp [intOf]; omega
    · obtain rfl : k = 16 := by omega
      have HTK := Lib.hid (show s.data.toList.take 16 = s.data.toList from List.take_of_length_le (by have := HLEN.out; omega))
      have hq2 : q ≤ 480 := by omega
      clear hlt hq hk
      go_wp2_with (at_builtin; refine wpList_append_new rfl (.tmp 35) (.tmp 43) 98 rfl 3 Tryz.underlying98 (.int .i64 0) 8 infoI64 rfl (by decide) w.heap.size _ (2 * 16) _ rfl HU.out.2.2 HU.out.2.1.size (by omega) [.int .i64 ((q : Int) / 256), .int .i64 ((q : Int) / 16 % 16), .int .i64 ((q : Int) % 16)] 3 rfl (by decide) rfl (by simp; exact ⟨rfl, rfl, rfl⟩) 3 ?_; intro v3 w3 hr3 hg3 hm3)
      go_ret
      refine ⟨_, rfl, HU.out.2.1.grown hg3.out HU.out.2.1.size (fun j hj => (HU.out.2.2.lt j hj).1), ?_⟩
      have h1 := hr3.out
      rw [HTK.out] at h1
      have hq1 := HU.out.1
      rw [HTK.out] at hq1
      unfold digitsOf
      rw [i64s_append, ← hq1]
      exact h1
end Go.Proofs.YtgjmbokfenpefaaGreatDoor
/- The document's RightItems. -/
namespace Go.Proofs.YtgjmbokfenpefaaGreatDoor
open Go.RowKit

theorem isMark_t (s : ByteArray) (w : World) (h : s.size = 16) : Calls Tryz.prog 32 #[.string s] w fun e w' => e = .returned (.bool true) ∧ w' = w :=
  (isMark_any s w).mono fun _ _ ⟨he, hw⟩ => ⟨by rw [he, decide_eq_true h], hw⟩
theorem isMark_f (s : ByteArray) (w : World) (h : ¬ s.size = 16) : Calls Tryz.prog 32 #[.string s] w fun e w' => e = .returned (.bool false) ∧ w' = w :=
  (isMark_any s w).mono fun _ _ ⟨he, hw⟩ => ⟨by rw [he, decide_eq_false h], hw⟩
theorem le_cases {x y : It} {j : Nat} (m1 : x.1.size = 16) (m2 : x.2.size = 16) :
    (Op.bytesLess x.1.toList y.1.toList = false ∧ (x.1.toList == y.1.toList) = false ∧ (decide (x.1.size = 16) && decide (x.2.size = 16) && (decide (j + 1 = 0) || decide (y.1.data.toList < x.1.data.toList))) = true) ∨
    (Op.bytesLess x.1.toList y.1.toList = false ∧ (x.1.toList == y.1.toList) = true ∧ (decide (x.1.size = 16) && decide (x.2.size = 16) && (decide (j + 1 = 0) || decide (y.1.data.toList < x.1.data.toList))) = false) ∨
    (Op.bytesLess x.1.toList y.1.toList = true ∧ (decide (x.1.size = 16) && decide (x.2.size = 16) && (decide (j + 1 = 0) || decide (y.1.data.toList < x.1.data.toList))) = false) := by
  rw [decide_eq_true m1, decide_eq_true m2, decide_eq_false (show ¬ j + 1 = 0 by omega), bytesLess_eq, ByteArray.toList_eq, ByteArray.toList_eq]
  by_cases h1 : x.1.data.toList < y.1.data.toList
  · refine .inr (.inr ⟨by simp [h1], ?_⟩)
    rw [decide_eq_false (fun h => List.lt_irrefl _ (List.lt_trans h1 h))]; rfl
  · by_cases h2 : y.1.data.toList < x.1.data.toList
    · refine .inl ⟨by simp [h1], ?_, by rw [decide_eq_true h2]; rfl⟩
      rw [beq_eq_false_iff_ne]
      intro e
      rw [e] at h2
      exact List.lt_irrefl _ h2
    · refine .inr (.inl ⟨by simp [h1], ?_, by rw [decide_eq_false h2]; rfl⟩)
      rw [beq_iff_eq]
      exact List.le_antisymm (List.not_lt.1 h2) (List.not_lt.1 h1)
set_option maxRecDepth 100000 in
theorem refRight_any (L : List It) (A : Option Addr) (cap : Nat) (w : World) (hm : Itms w A L) (hl : L.length ≤ 1000000) :
    Calls Tryz.prog 106 #[.slice A L.length cap] w fun e w' => e = .returned (.bool (rightItems L)) ∧ Below w.heap.size w w' := by
  have HM := Lib.hid hm
  clear hm
  go_enter Tryz.func106, Tryz.ntmps106
  go_wp2
  go_loopw [7] (fun i wr => ∃ k : Nat, k ≤ L.length ∧ i = .int .i64 (k : Int) ∧ goodItems L k = true ∧ Below w.heap.size w wr) (fun i _ => L.length - (intOf i).toNat)
  case atStart => exact ⟨0, by omega, rfl, rfl, Below.refl _ _⟩
  case round =>
    obtain ⟨k, hk, rfl, hg, hb⟩ := hrel
    have HG := Lib.hid hg
    have HB := Lib.hid hb
    clear hg hb
    by_cases hlt : k < L.length
    · obtain ⟨a, rfl, hal, c0, c1⟩ := HM.out.at_ hlt
      have hal' : a.block < w.heap.size := hal
      have d0 : wr.cell? (a.add (k * 2)) = some (.string (itAt L k).1) := (HB.out.cell (by rw [block_add]; exact hal)).trans c0
      have d1 : wr.cell? ((a.add (k * 2)).add 1) = some (.string (itAt L k).2) := (HB.out.cell (by rw [block_add, block_add]; exact hal)).trans c1
      have d2 : wr.cell? ⟨(a.add (k * 2)).block, (a.add (k * 2)).off + 1, none⟩ = some (.string (itAt L k).2) := d1
      clear c0 c1 hal d1
      generalize hxk : itAt L k = x at d0 d2
      have HXK := Lib.hid hxk
      clear hxk
      go_wp2
      have hb1 : Below w.heap.size w (wr.alloc (.cells #[.string x.1, .string x.2] 59)) := HB.out.alloc HB.out.size _
      have hN1 : wr.heap.size < (wr.alloc (.cells #[.string x.1, .string x.2] 59)).heap.size := by simp
      have e0 : (wr.alloc (.cells #[.string x.1, .string x.2] 59)).cell? ⟨wr.heap.size, 0, none⟩ = some (.string x.1) := cell_of_row _ wr.heap.size 0 _ 59 (0, 0) (heap_alloc_new _ _)
      have e1 : (wr.alloc (.cells #[.string x.1, .string x.2] 59)).cell? ⟨wr.heap.size, 1, none⟩ = some (.string x.2) := cell_of_row _ wr.heap.size 1 _ 59 (0, 0) (heap_alloc_new _ _)
      have HB1 := Lib.hid hb1
      clear hb1 d0 d2
      generalize hw1 : wr.alloc (.cells #[.string x.1, .string x.2] 59) = w1 at HB1 e0 e1 hN1
      clear hw1
      by_cases m1 : x.1.size = 16
      · by_cases m2 : x.2.size = 16
        · cases k with
          | zero =>
            have HG1 := Lib.hid (show goodItems L (0 + 1) = true by rw [goodItems_next, HG.out, Bool.true_and]; unfold goodItem; rw [HXK.out]; simp [m1, m2])
            have M1 := Lib.hid m1
            have M2 := Lib.hid m2
            clear m1 m2
            go_quiet ((first | (go_at_call 32; exact Calls.quiet_of_same (isMark_t _ _ M1.out)) | (go_at_call 32; exact Calls.quiet_of_same (isMark_t _ _ M2.out))))
            go_wp2
            go_roundw
            case rel => exact ⟨0 + 1, by omega, by go_num, HG1.out, below_drew HB1.out _⟩
            case measure => simp [intOf]; omega
          | succ j =>
            obtain ⟨a', ha', _, f0, _⟩ := HM.out.at_ (show j < L.length by omega)
            cases ha'
            have g0 : w1.cell? (a.add (j * 2)) = some (.string (itAt L j).1) := (HB1.out.cell (by rw [block_add]; exact hal')).trans f0
            generalize hyk : itAt L j = y at g0
            have HYK := Lib.hid hyk
            clear hyk f0
            have hlq : (((j + 1 : Nat) : Int)) = (j : Int) + 1 := by omega
            have s1 : IntKind.i64.wrap (((j + 1 : Nat) : Int) - 1) = (j : Int) := by rw [hlq, show (j : Int) + 1 - 1 = (j : Int) by omega]; exact IntWalk.i64_in _ (by omega)
            have s2 : (0 : Int) < ((j + 1 : Nat) : Int) := by omega
            have s3 : (j : Int) < (L.length : Int) := by omega
            have hcase : (Op.bytesLess x.1.toList y.1.toList = false ∧ (x.1.toList == y.1.toList) = false ∧ goodItem L (j + 1) = true) ∨ (Op.bytesLess x.1.toList y.1.toList = false ∧ (x.1.toList == y.1.toList) = true ∧ goodItem L (j + 1) = false) ∨ (Op.bytesLess x.1.toList y.1.toList = true ∧ goodItem L (j + 1) = false) := by
              unfold goodItem
              rw [HXK.out, show j + 1 - 1 = j from rfl, HYK.out]
              exact le_cases m1 m2
            have M1 := Lib.hid m1
            have M2 := Lib.hid m2
            clear m1 m2 hlq
            rcases hcase with ⟨b1, b2, hgi⟩ | ⟨b1, b2, hgi⟩ | ⟨b1, hgi⟩
            · have HG1 := Lib.hid (show goodItems L (j + 1 + 1) = true by rw [goodItems_next, HG.out, Bool.true_and, hgi])
              clear hgi
              go_quiet ((first | (go_at_call 32; exact Calls.quiet_of_same (isMark_t _ _ M1.out)) | (go_at_call 32; exact Calls.quiet_of_same (isMark_t _ _ M2.out))))
              go_wp2
              go_roundw
              case rel => exact ⟨j + 1 + 1, by omega, by go_num, HG1.out, below_drew HB1.out _⟩
              case measure => simp [intOf]; omega
            all_goals
              have HF := Lib.hid (show rightItems L = false by unfold rightItems; rw [goodItems_false hgi hlt]; rfl)
              clear hgi
              go_quiet ((first | (go_at_call 32; exact Calls.quiet_of_same (isMark_t _ _ M1.out)) | (go_at_call 32; exact Calls.quiet_of_same (isMark_t _ _ M2.out))))
              go_wp2
              go_ret
              exact ⟨by rw [HF.out]; rfl, below_drew HB1.out _⟩
        · have HF := Lib.hid (show rightItems L = false by unfold rightItems; rw [goodItems_false (k := k) (by unfold goodItem; rw [HXK.out, decide_eq_false m2]; simp) hlt]; rfl)
          have M1 := Lib.hid m1
          have M2 := Lib.hid m2
          clear m1 m2
          go_quiet ((first | (go_at_call 32; exact Calls.quiet_of_same (isMark_t _ _ M1.out)) | (go_at_call 32; exact Calls.quiet_of_same (isMark_f _ _ M2.out))))
          go_wp2
          go_ret
          exact ⟨by rw [HF.out]; rfl, below_drew HB1.out _⟩
      · have HF := Lib.hid (show rightItems L = false by unfold rightItems; rw [goodItems_false (k := k) (by unfold goodItem; rw [HXK.out, decide_eq_false m1]; simp) hlt]; rfl)
        have M1 := Lib.hid m1
        clear m1
        go_quiet ((go_at_call 32; exact Calls.quiet_of_same (isMark_f _ _ M1.out)))
        go_wp2
        go_ret
        exact ⟨by rw [HF.out]; rfl, below_drew HB1.out _⟩
    · have hkn : k = L.length := by omega
      have HF := Lib.hid (show rightItems L = decide ((L.length : Int) ≤ 60) by
        unfold rightItems
        rw [← hkn, HG.out, Bool.true_and, Bool.eq_iff_iff]; simp; omega)
      clear hkn
      go_wp2
      go_ret
      refine ⟨?_, HB.out⟩
      rw [HF.out]
      rfl
end Go.Proofs.YtgjmbokfenpefaaGreatDoor
/- The document's Halves. -/
namespace Go.Proofs.YtgjmbokfenpefaaGreatDoor
open Go.RowKit

/-- A block that the row does not lie in, behind an append behind a new block. -/
theorem grown_holds {w w3 : World} {X : Obj} {v : Value} {b n : Nat} {f : Nat → Value} {t : TypeId} (h : Holds w b n f t) (hg : ((w.alloc X).drew).grownBy w3 v.ownBlock) (hv : v.ownBlock ≠ some b) : Holds w3 b n f t := by
  have h1 := (h.alloc X).drew
  have := h1.lt
  unfold Holds at h1 ⊢
  rw [hg.block b this (fun e => hv e.symm)]; exact h1
theorem half_take (L : List It) (d k j : Nat) (x : It) (h : L[k]? = some x) : half (L.take (k + 1)) d j = half (L.take k) d j ++ (if bitI x d = j then [x] else []) := by
  rw [List.take_add_one, h]
  unfold half
  rw [List.filter_append]
  congr 1
  by_cases e : bitI x d = j <;> simp [e]
theorem row_past {w w3 : World} {X : Obj} {v u : Value} {base size n : Nat} {xs : List Value} (h : Row w base size u n xs) (hg : ((w.alloc X).drew).grownBy w3 v.ownBlock) (ha : ∀ b, v.ownBlock = some b → u.ownBlock ≠ some b) : Row w3 base size u n xs := by
  have h1 : Row ((w.alloc X).drew) base size u n xs := (h.alloc X).drew
  refine h1.kept (fun k hk => hg.block k (h1.lt k hk).2 (fun e => ha k e.symm hk)) hg.size
theorem moved_apart {w : World} {X : Obj} {v v' u : Value} {base size n : Nat} {xs : List Value} (h : Row w base size u n xs) (hm : Moved ((w.alloc X).drew) v v') (ha : ∀ b, v.ownBlock = some b → u.ownBlock ≠ some b) : ∀ b, v'.ownBlock = some b → u.ownBlock ≠ some b := by
  intro b hb hu
  rcases hm with e | hm
  · exact ha b (e.symm.trans hb) hu
  · have h1 := hm b hb
    have h2 := (h.lt b hu).2
    have : w.heap.size < ((w.alloc X).drew).heap.size := by show w.heap.size < (w.alloc X).heap.size; simp
    omega
theorem half_step {w w2 w3 : World} {X : Obj} {L : List It} {d k : Nat} {v0 v1 v' : Value} {x : It} (HB1 : Below w.heap.size w w2) (HO1 : Holds w2 w.heap.size 2 (fun i => if i = 0 then v0 else v1) 339)
    (hr0 : Row w2 (w.heap.size + 1) 2 v0 (half (L.take k) d 0).length (itCells (half (L.take k) d 0))) (hr1 : Row w2 (w.heap.size + 1) 2 v1 (half (L.take k) d 1).length (itCells (half (L.take k) d 1))) (ha : ∀ b, v0.ownBlock = some b → v1.ownBlock ≠ some b)
    (hLk : L[k]? = some x) (hN : w.heap.size < w2.heap.size) :
    (bitI x d = 0 → Row w3 (w.heap.size + 1) 2 v' (half (L.take k) d 0 ++ [x]).length (itCells (half (L.take k) d 0 ++ [x])) → ((w2.alloc X).drew).grownBy w3 v0.ownBlock → Moved ((w2.alloc X).drew) v0 v' → HalfRel w.heap.size w (w3.setCell ⟨w.heap.size, 0, none⟩ v') L d (k + 1) v' v1) ∧
    (bitI x d = 1 → Row w3 (w.heap.size + 1) 2 v' (half (L.take k) d 1 ++ [x]).length (itCells (half (L.take k) d 1 ++ [x])) → ((w2.alloc X).drew).grownBy w3 v1.ownBlock → Moved ((w2.alloc X).drew) v1 v' → HalfRel w.heap.size w (w3.setCell ⟨w.heap.size, 1, none⟩ v') L d (k + 1) v0 v') := by
  have hb2 : Below w.heap.size w ((w2.alloc X).drew) := (HB1.alloc (Nat.le_of_lt hN) X).drew
  have hz : w.heap.size ≤ ((w2.alloc X).drew).heap.size := by show w.heap.size ≤ (w2.alloc X).heap.size; simp; omega
  constructor
  · intro hbit hrow hg hm
    have e0 : half (L.take (k + 1)) d 0 = half (L.take k) d 0 ++ [x] := by rw [half_take L d k 0 x hLk, if_pos hbit]
    have e1 : half (L.take (k + 1)) d 1 = half (L.take k) d 1 := by rw [half_take L d k 1 x hLk, if_neg (by omega), List.append_nil]
    refine ⟨(hb2.grown hg hz (fun b hb => by have := (hr0.lt b hb).1; omega)).setCell (p := ⟨w.heap.size, 0, none⟩) (Nat.le_refl _) _, ?_, ?_, ?_, moved_apart hr1 hm ha⟩
    · refine ((grown_holds HO1 hg (hr0.fresh (Nat.lt_succ_self _))).set 0 v').congr fun i hi => ?_
      unfold upd; by_cases h : i = 0 <;> simp [h]
    · rw [e0]; exact hrow.setOther (hrow.fresh (Nat.lt_succ_self _)) _
    · rw [e1]; exact (row_past hr1 hg ha).setOther (hr1.fresh (Nat.lt_succ_self _)) _
  · intro hbit hrow hg hm
    have e0 : half (L.take (k + 1)) d 0 = half (L.take k) d 0 := by rw [half_take L d k 0 x hLk, if_neg (by omega), List.append_nil]
    have e1 : half (L.take (k + 1)) d 1 = half (L.take k) d 1 ++ [x] := by rw [half_take L d k 1 x hLk, if_pos hbit]
    have ha' : ∀ b, v1.ownBlock = some b → v0.ownBlock ≠ some b := fun b h1 h0 => ha b h0 h1
    refine ⟨(hb2.grown hg hz (fun b hb => by have := (hr1.lt b hb).1; omega)).setCell (p := ⟨w.heap.size, 1, none⟩) (Nat.le_refl _) _, ?_, ?_, ?_, fun b h0 h1 => moved_apart hr0 hm ha' b h1 h0⟩
    · refine ((grown_holds HO1 hg (hr1.fresh (Nat.lt_succ_self _))).set 1 v').congr fun i hi => ?_
      unfold upd; by_cases h : i = 0
      · subst h; simp
      · have : i = 1 := by omega
        subst this; simp
    · rw [e0]; exact (row_past hr0 hg ha').setOther (hr0.fresh (Nat.lt_succ_self _)) _
    · rw [e1]; exact hrow.setOther (hrow.fresh (Nat.lt_succ_self _)) _
set_option maxRecDepth 100000 in
theorem refHalves_any (L : List It) (A : Option Addr) (cap d : Nat) (w : World) (hm : Itms w A L) (hl : L.length ≤ 1000000) (h16 : ∀ x ∈ L, x.1.size = 16) (hd : d < 128) :
    Calls Tryz.prog 167 #[.slice A L.length cap, .int .i64 (d : Int)] w fun e w' => ∃ v0 v1, e = .returned (.tuple #[v0, v1]) ∧ Below w.heap.size w w' ∧
      Row w' w.heap.size 2 v0 (half L d 0).length (itCells (half L d 0)) ∧ Row w' w.heap.size 2 v1 (half L d 1).length (itCells (half L d 1)) := by
  have HM := Lib.hid hm
  have H16 := Lib.hid h16
  clear hm h16
  go_enter Tryz.func167, Tryz.ntmps167
  go_wp2
  go_loopw [12] (fun i wr => ∃ (k : Nat) (v0 v1 : Value), k ≤ L.length ∧ i = .int .i64 (k : Int) ∧ HalfRel w.heap.size w wr L d k v0 v1) (fun i _ => L.length - (intOf i).toNat)
  case atStart =>
    refine ⟨0, .slice none 0 0, .slice none 0 0, by omega, rfl, alloc_below _ _, ?_, Row.nil _ _ _, Row.nil _ _ _, fun b hb => by cases hb⟩
    refine (Holds.new w 2 (fun _ => .slice none 0 0) 339).congr fun i _ => ?_
    split <;> rfl
  case round =>
    obtain ⟨k, v0, v1, hk, rfl, hr⟩ := hrel
    have HR := Lib.hid hr
    clear hr
    by_cases hlt : k < L.length
    · obtain ⟨a, rfl, hal, c0, c1⟩ := HM.out.at_ hlt
      have d0 : wr.cell? (a.add (k * 2)) = some (.string (itAt L k).1) := (HR.out.below.cell (by rw [block_add]; exact hal)).trans c0
      have d2 : wr.cell? ⟨(a.add (k * 2)).block, (a.add (k * 2)).off + 1, none⟩ = some (.string (itAt L k).2) := (HR.out.below.cell (by show (a.add (k * 2)).block < _; rw [block_add]; exact hal)).trans c1
      have hLk : L[k]? = some (itAt L k) := by rw [itAt_of hlt, List.getElem?_eq_getElem hlt]
      have h16 : (itAt L k).1.size = 16 := H16.out _ (List.mem_of_getElem? hLk)
      clear c0 c1 hal
      generalize itAt L k = x at d0 d2 hLk h16
      have HLK := Lib.hid hLk
      have H16x := Lib.hid h16
      clear hLk h16
      have hN : w.heap.size < wr.heap.size := HR.out.own.lt
      go_wp2_with fail
      have hb1 : Below w.heap.size w (wr.alloc (.cells #[.string x.1, .string x.2] 59)) := HR.out.below.alloc (Nat.le_of_lt hN) _
      have hN1 : wr.heap.size < (wr.alloc (.cells #[.string x.1, .string x.2] 59)).heap.size := by simp
      have hx1 := heap_alloc_new wr (.cells #[.string x.1, .string x.2] 59)
      have ho1 := HR.out.own.alloc (.cells #[.string x.1, .string x.2] 59)
      have hr0 := HR.out.row0.alloc (.cells #[.string x.1, .string x.2] 59)
      have hr1 := HR.out.row1.alloc (.cells #[.string x.1, .string x.2] 59)
      have HB1 := Lib.hid hb1
      have HX1 := Lib.hid hx1
      have HO1 := Lib.hid ho1
      have HR0 := Lib.hid hr0
      have HR1 := Lib.hid hr1
      clear hb1 hx1 ho1 hr0 hr1 d0 d2
      generalize hw1 : wr.alloc (.cells #[.string x.1, .string x.2] 59) = w1 at HB1 HX1 HO1 HR0 HR1 hN1
      clear hw1
      refine (at_any x.1 d _ H16x.out hd).mono ?_
      rintro e w2 ⟨rfl, rfl⟩
      have hb2 : bitOf x.1.data.toList d = 0 ∨ bitOf x.1.data.toList d = 1 := by have := bitOf_lt x.1.data.toList d; omega
      rcases hb2 with hbit | hbit
      · rw [hbit]
        have HBIT := Lib.hid hbit
        clear hbit
        have q0 : w2.cell? ⟨w.heap.size, 0, none⟩ = some v0 := HO1.out.cell 0 (by omega)
        have q1 : w2.cell? ⟨w.heap.size, 1, none⟩ = some v1 := HO1.out.cell 1 (by omega)
        have x0 : w2.cell? ⟨wr.heap.size, 0, none⟩ = some (.string x.1) := cell_of_row _ wr.heap.size 0 _ 59 (0, 0) HX1.out
        have x1 : w2.cell? ⟨wr.heap.size, 1, none⟩ = some (.string x.2) := cell_of_row _ wr.heap.size 1 _ 59 (0, 0) HX1.out
        have r0 : (w2.alloc (.cells #[.string x.1, .string x.2] 59)).cell? ⟨w.heap.size, 0, none⟩ = some v0 := (HO1.out.alloc _).cell 0 (by omega)
        go_wp2_with fail
        go_region_law (first | (refine step_of_list rfl ?_; refine wpList_append_item rfl (.tmp 23) (.tmp 25) 155 rfl 59 Tryz.underlying155 _ 32 infoItem rfl (by decide) (w.heap.size + 1) v0 (half (L.take k) d 0) rfl (HR0.out.alloc _).drew (by simp; omega) (by have := half_le (L.take k) d 0; have := List.length_take_le k L; omega) x w2.heap.size rfl 59 (heap_alloc_new _ _) ?_; intro v' w3 hrow3 hgrow3 hmove3; obtain ⟨p', cap', rfl⟩ := hrow3.out.any; have s0 := grown_holds HO1.out hgrow3.out (HR0.out.fresh (Nat.lt_succ_self _)); have t0 := s0.cell 0 (by omega); have t1 := s0.free 0; have S0 := Lib.hid s0; clear s0; refine then1 ?_))
        all_goals
          go_wp2
          go_roundw
          case rel =>
            have h := (half_step (v' := .slice p' (half (L.take k) d 0 ++ [x]).length cap') HB1.out HO1.out HR0.out HR1.out HR.out.apart HLK.out (Nat.lt_trans hN hN1)).1 HBIT.out hrow3.out hgrow3.out hmove3.out
            rw [show (half (L.take k) d 0 ++ [x]).length = (half (L.take k) d 0).length + 1 by simp] at h
            exact ⟨k + 1, _, _, by omega, by go_num, h⟩
          case measure => simp [intOf]; omega
      · rw [hbit]
        have HBIT := Lib.hid hbit
        clear hbit
        have q0 : w2.cell? ⟨w.heap.size, 0, none⟩ = some v0 := HO1.out.cell 0 (by omega)
        have q1 : w2.cell? ⟨w.heap.size, 1, none⟩ = some v1 := HO1.out.cell 1 (by omega)
        have x0 : w2.cell? ⟨wr.heap.size, 0, none⟩ = some (.string x.1) := cell_of_row _ wr.heap.size 0 _ 59 (0, 0) HX1.out
        have x1 : w2.cell? ⟨wr.heap.size, 1, none⟩ = some (.string x.2) := cell_of_row _ wr.heap.size 1 _ 59 (0, 0) HX1.out
        have r0 : (w2.alloc (.cells #[.string x.1, .string x.2] 59)).cell? ⟨w.heap.size, 1, none⟩ = some v1 := (HO1.out.alloc _).cell 1 (by omega)
        go_wp2_with fail
        go_region_law (first | (refine step_of_list rfl ?_; refine wpList_append_item rfl (.tmp 23) (.tmp 25) 155 rfl 59 Tryz.underlying155 _ 32 infoItem rfl (by decide) (w.heap.size + 1) v1 (half (L.take k) d 1) rfl (HR1.out.alloc _).drew (by simp; omega) (by have := half_le (L.take k) d 1; have := List.length_take_le k L; omega) x w2.heap.size rfl 59 (heap_alloc_new _ _) ?_; intro v' w3 hrow3 hgrow3 hmove3; obtain ⟨p', cap', rfl⟩ := hrow3.out.any; have s0 := grown_holds HO1.out hgrow3.out (HR1.out.fresh (Nat.lt_succ_self _)); have t0 := s0.cell 1 (by omega); have t1 := s0.free 1; have S0 := Lib.hid s0; clear s0; refine then1 ?_))
        all_goals
          go_wp2
          go_roundw
          case rel =>
            have h := (half_step (v' := .slice p' (half (L.take k) d 1 ++ [x]).length cap') HB1.out HO1.out HR0.out HR1.out HR.out.apart HLK.out (Nat.lt_trans hN hN1)).2 HBIT.out hrow3.out hgrow3.out hmove3.out
            rw [show (half (L.take k) d 1 ++ [x]).length = (half (L.take k) d 1).length + 1 by simp] at h
            exact ⟨k + 1, _, _, by omega, by go_num, h⟩
          case measure => simp [intOf]; omega
    · have hkn : k = L.length := by omega
      have E0 := Lib.hid (show half (L.take k) d 0 = half L d 0 by rw [hkn, List.take_length])
      have E1 := Lib.hid (show half (L.take k) d 1 = half L d 1 by rw [hkn, List.take_length])
      clear hkn
      have q0 : wr.cell? ⟨w.heap.size, 0, none⟩ = some v0 := HR.out.own.cell 0 (by omega)
      have q1 : wr.cell? ⟨w.heap.size, 1, none⟩ = some v1 := HR.out.own.cell 1 (by omega)
      go_wp2
      go_quiet (fail)
      go_wp2
      refine bodyPost_ret (results_tmp2 rfl _ _ _) rfl ?_
      refine ⟨_, _, rfl, below_drew HR.out.below _, ?_, ?_⟩
      · rw [← E0.out]; exact (HR.out.row0.mono (Nat.le_succ _)).drewN _
      · rw [← E1.out]; exact (HR.out.row1.mono (Nat.le_succ _)).drewN _
end Go.Proofs.YtgjmbokfenpefaaGreatDoor
/- The document's NODE and Root. -/
namespace Go.Proofs.YtgjmbokfenpefaaGreatDoor
open Go.RowKit

set_option maxRecDepth 100000 in
theorem refNode_few (b f d : Nat) (L : List It) (A : Option Addr) (cap : Nat) (w : World) (h2 : L.length < 2) (hap : Apart L d) (hcm : ∀ x ∈ L, x.2.size ≤ 1000000) (hr : Holds w b 72 refCells 97) (hm : Itms w A L) :
    Calls Tryz.prog 107 #[.pointer (some ⟨b, 0, none⟩), .slice A L.length cap, .int .i64 (d : Int)] w fun e w' => e = .returned (.string (nodeOf f L d)) ∧ Below w.heap.size w w' := by
  have HR := Lib.hid hr
  have HM := Lib.hid hm
  have HAP := Lib.hid hap
  have HCM := Lib.hid hcm
  clear hr hm hap hcm
  rcases (show L.length = 0 ∨ L.length = 1 by omega) with h | h
  · have HT := Lib.hid (nodeOf_nil f L d h)
    have h0 : ((L.length : Int) == 0) = true := by rw [beq_iff_eq]; omega
    clear h h2
    go_enter Tryz.func107, Tryz.ntmps107
    go_wp2_with fail
    refine (refEmpty_any b d _ HR.out).mono ?_
    rintro e w1 ⟨rfl, hb1⟩
    have HB1 := Lib.hid hb1
    clear hb1 h0
    go_wp2
    go_ret
    exact ⟨by rw [HT.out]; rfl, HB1.out⟩
  · have HT := Lib.hid (nodeOf_one f L d h)
    have h0 : ((L.length : Int) == 0) = false := by rw [beq_eq_false_iff_ne]; omega
    have h1 : ((L.length : Int) == 1) = true := by rw [beq_iff_eq]; omega
    have hlt : (0 : Int) < (L.length : Int) := by omega
    obtain ⟨a, rfl, hal, c0, c1⟩ := HM.out.at_ (show 0 < L.length by omega)
    have hx : itAt L 0 ∈ L := by rw [itAt_of (show 0 < L.length by omega)]; exact List.getElem_mem _
    have hx1 := HAP.out.1 _ hx
    have hx2 := HCM.out _ hx
    rw [Nat.zero_mul, add_zero'] at c0 c1
    have d2 : w.cell? ⟨a.block, a.off + 1, none⟩ = some (.string (itAt L 0).2) := c1
    generalize itAt L 0 = x at c0 d2 hx1 hx2 HT
    have HX1 := Lib.hid hx1
    have HX2 := Lib.hid hx2
    clear c1 hx1 hx2 hx h h2
    go_enter Tryz.func107, Tryz.ntmps107
    go_wp2_with fail
    refine (refLeaf_any b x d _ HR.out (by have := HX1.out; omega) HX2.out).mono ?_
    rintro e w1 ⟨rfl, hb1⟩
    have HB1 := Lib.hid hb1
    clear hb1 h0 h1
    go_wp2
    go_ret
    exact ⟨by rw [HT.out]; rfl, HB1.out⟩
set_option maxRecDepth 100000 in
theorem refNode_any (b : Nat) : ∀ (f d : Nat) (L : List It) (A : Option Addr) (cap : Nat) (w : World), d + f = 128 → Apart L d → L.length ≤ 1000000 → (∀ x ∈ L, x.2.size ≤ 1000000) → Holds w b 72 refCells 97 → Itms w A L →
    Calls Tryz.prog 107 #[.pointer (some ⟨b, 0, none⟩), .slice A L.length cap, .int .i64 (d : Int)] w fun e w' => e = .returned (.string (nodeOf f L d)) ∧ Below w.heap.size w w' := by
  intro f
  induction f with
  | zero =>
    intro d L A cap w hdf hap hl hcm hr hm
    refine refNode_few b 0 d L A cap w ?_ hap hcm hr hm
    rcases Nat.lt_or_ge L.length 2 with h | h
    · exact h
    · have := hap.lt h; omega
  | succ f ih =>
    intro d L A cap w hdf hap hl hcm hr hm
    rcases Nat.lt_or_ge L.length 2 with h | h
    · exact refNode_few b (f + 1) d L A cap w h hap hcm hr hm
    · have IH := Lib.hid ih
      have HR := Lib.hid hr
      have HM := Lib.hid hm
      have HAP := Lib.hid hap
      have HCM := Lib.hid hcm
      have HDF := Lib.hid hdf
      clear ih hr hm hap hcm hdf
      have hd : d < 128 := HAP.out.lt h
      have HT := Lib.hid (nodeOf_two f L d h)
      have ED := Lib.hid (show ((d : Int) + 1) = ((d + 1 : Nat) : Int) by omega)
      have h0 : ((L.length : Int) == 0) = false := by rw [beq_eq_false_iff_ne]; omega
      have h1 : ((L.length : Int) == 1) = false := by rw [beq_eq_false_iff_ne]; omega
      go_enter Tryz.func107, Tryz.ntmps107
      go_wp2_with fail
      refine (refHalves_any L A cap d _ HM.out hl HAP.out.1 hd).mono ?_
      rintro e w1 ⟨v0, v1, rfl, hb1, hr0, hr1⟩
      have HB1 := Lib.hid hb1
      obtain ⟨-, A0, c0, rfl, hi0⟩ := hr0.itms
      obtain ⟨-, A1, c1, rfl, hi1⟩ := hr1.itms
      have HI0 := Lib.hid hi0
      have HI1 := Lib.hid hi1
      clear hb1 hr0 hr1 hi0 hi1 h0 h1
      go_wp2_with fail
      rw [ED.out]
      refine (IH.out (d + 1) (half L d 0) A0 c0 _ (by have := HDF.out; omega) (HAP.out.half 0) (Nat.le_trans (half_le _ _ _) hl) (fun x hx => HCM.out x (List.mem_filter.1 hx).1) (HR.out.below HB1.out HR.out.lt) HI0.out).mono ?_
      rintro e w2 ⟨rfl, hb2⟩
      have HI1' := Lib.hid (HI1.out.below hb2)
      have HB2 := Lib.hid (HB1.out.trans (hb2.mono HB1.out.size))
      have hs1 := nodeOf_size f (half L d 0) (d + 1)
      generalize nodeOf f (half L d 0) (d + 1) = n0 at hs1 HT
      have HS1 := Lib.hid hs1
      clear hb2 hs1
      go_wp2_with fail
      rw [ED.out]
      refine (IH.out (d + 1) (half L d 1) A1 c1 _ (by have := HDF.out; omega) (HAP.out.half 1) (Nat.le_trans (half_le _ _ _) hl) (fun x hx => HCM.out x (List.mem_filter.1 hx).1) (HR.out.below HB2.out HR.out.lt) HI1'.out).mono ?_
      rintro e w3 ⟨rfl, hb3⟩
      have HB3 := Lib.hid (HB2.out.trans (hb3.mono HB2.out.size))
      have hs2 := nodeOf_size f (half L d 1) (d + 1)
      generalize nodeOf f (half L d 1) (d + 1) = n1 at hs2 HT
      have HS2 := Lib.hid hs2
      clear hb3 hs2
      go_wp2_with fail
      refine (refJoin_any b n0 n1 _ (HR.out.below HB3.out HR.out.lt) (by have := HS1.out; omega) (by have := HS2.out; omega)).mono ?_
      rintro e w4 ⟨rfl, hb4⟩
      have HB4 := Lib.hid (HB3.out.trans (hb4.mono HB3.out.size))
      clear hb4
      go_wp2
      go_ret
      exact ⟨by rw [HT.out]; rfl, HB4.out⟩

set_option maxRecDepth 100000 in
theorem refRoot_is (b : Nat) (L : List It) (A : Option Addr) (cap : Nat) (x : ByteArray) (n : Int) (w : World) (hl : L.length ≤ 1000000) (hr : Holds w b 72 refCells 97) (hm : Itms w A L) (h : rootAns L = (x, n)) :
    Calls Tryz.prog 67 #[.pointer (some ⟨b, 0, none⟩), .slice A L.length cap] w fun e w' => e = .returned (.tuple #[.string x, .int .i64 n]) ∧ Below w.heap.size w w' := by
  have HR := Lib.hid hr
  have HM := Lib.hid hm
  clear hr hm
  unfold rootAns at h
  by_cases hk : rightItems L = true
  · rw [if_pos hk] at h
    cases h
    have HAP := Lib.hid (right_apart hk)
    have HCM := Lib.hid (right_cm hk)
    have HK := Lib.hid hk
    clear hk
    go_enter Tryz.func67, Tryz.ntmps67
    go_wp2_with fail
    refine (refRight_any L A cap _ HM.out hl).mono ?_
    rintro e w1 ⟨rfl, hb1⟩
    rw [HK.out]
    have HB1 := Lib.hid hb1
    have HM1 := Lib.hid (HM.out.below hb1)
    clear hb1
    go_wp2_with fail
    refine (refNode_any b 128 0 L A cap _ rfl HAP.out hl HCM.out (HR.out.below HB1.out HR.out.lt) HM1.out).mono ?_
    rintro e w2 ⟨rfl, hb2⟩
    have HB2 := Lib.hid (HB1.out.trans (hb2.mono HB1.out.size))
    clear hb2
    go_wp2
    refine bodyPost_ret (results_tmp2 rfl _ _ _) rfl ?_
    exact ⟨rfl, HB2.out⟩
  · rw [if_neg hk] at h
    cases h
    have HK := Lib.hid (show rightItems L = false by simpa using hk)
    clear hk
    go_enter Tryz.func67, Tryz.ntmps67
    go_wp2_with fail
    refine (refRight_any L A cap _ HM.out hl).mono ?_
    rintro e w1 ⟨rfl, hb1⟩
    rw [HK.out]
    have HB1 := Lib.hid hb1
    clear hb1
    go_wp2
    refine bodyPost_ret (results_tmp2 rfl _ _ _) rfl ?_
    exact ⟨rfl, HB1.out⟩
end Go.Proofs.YtgjmbokfenpefaaGreatDoor
/- api.Tell, plain.Place: errors taken apart (nil, and a bare api.Errno). -/
namespace Go.Proofs.YtgjmbokfenpefaaGreatDoor
open Go.RowKit

set_option maxRecDepth 100000 in
theorem place_nil (w : World) : Calls Tryz.prog 37 #[.nilIface] w fun e w' => e = .returned (.tuple #[.int .i64 0, .int .i64 (-1)]) ∧ w' = w := by
  go_enter Tryz.func37, Tryz.ntmps37
  go_wp2_with fail
  refine (tell_nil _).mono ?_
  rintro e w1 ⟨rfl, rfl⟩
  go_wp2
  refine wp_loop_rounds 1 ?_
  rw [rounds_succ]
  go_wp2
  refine bodyPost_ret (results_tmp2 rfl _ _ _) rfl ?_
  exact ⟨rfl, rfl⟩
theorem notAt (n : Int) (w : World) : (Instr.typeAssert (.iface 28 (.int .i64 n)) 44 174 true).run Tryz.prog w = .ok (.tuple #[.pointer none, .bool false]) w := by kernel_rfl
theorem noUnwrap (v : Value) (w : World) : (Instr.typeAssert (.iface 28 v) 44 178 true).run Tryz.prog w = .ok (.tuple #[.nilIface, .bool false]) w :=
  run_typeAssert_lacksB Tryz.underlying178 (by kernel_rfl) (by kernel_rfl) v _ w
set_option maxRecDepth 100000 in
theorem place_errno (n : Int) (w : World) (hg : w.cell? ⟨0, 0, none⟩ = some (.iface 247 (.agg #[hand 44]))) :
    Calls Tryz.prog 37 #[.iface 28 (.int .i64 n)] w fun e w' => e = .returned (.tuple #[.int .i64 n, .int .i64 (-1)]) ∧ Below w.heap.size w w' := by
  go_enter Tryz.func37, Tryz.ntmps37
  go_wp2_with fail
  refine (tell_errno n _ hg).mono ?_
  rintro e w1 ⟨rfl, hb⟩
  have HB := Lib.hid hb
  clear hb
  have a1 := notAt n
  have a2 := noUnwrap
  go_wp2
  refine wp_loop_rounds 1 ?_
  rw [rounds_succ]
  go_wp2
  refine bodyPost_ret (results_tmp2 rfl _ _ _) rfl ?_
  exact ⟨rfl, HB.out⟩
set_option maxRecDepth 100000 in
theorem bare_nil (n : Int) (w : World) : Calls Tryz.prog 13 #[.nilIface, .int .i64 n] w fun e w' => e = .returned (.bool (decide (n = 0))) ∧ w' = w := by
  go_enter Tryz.func13, Tryz.ntmps13
  go_wp2_with fail
  refine (place_nil _).mono ?_
  rintro e w1 ⟨rfl, rfl⟩
  by_cases h : n = 0
  · subst h
    go_wp2
    go_ret
    exact ⟨rfl, rfl⟩
  · go_wp2
    go_ret
    refine ⟨?_, rfl⟩
    show Ending.returned (Value.bool _) = _
    congr 2
    simp; omega
set_option maxRecDepth 100000 in
theorem bare_errno (m n : Int) (w : World) (hg : w.cell? ⟨0, 0, none⟩ = some (.iface 247 (.agg #[hand 44]))) :
    Calls Tryz.prog 13 #[.iface 28 (.int .i64 m), .int .i64 n] w fun e w' => e = .returned (.bool (decide (m = n))) ∧ Below w.heap.size w w' := by
  go_enter Tryz.func13, Tryz.ntmps13
  go_wp2_with fail
  refine (place_errno m _ hg).mono ?_
  rintro e w1 ⟨rfl, hb⟩
  have HB := Lib.hid hb
  clear hb
  by_cases h : m = n
  · subst h
    go_wp2
    go_ret
    exact ⟨by simp, HB.out⟩
  · go_wp2
    go_ret
    refine ⟨?_, HB.out⟩
    simp [h]
end Go.Proofs.YtgjmbokfenpefaaGreatDoor
/- Of, Bit and Common, of the program and of the document, each by one answer: a value and the number of an error. -/
namespace Go.Proofs.YtgjmbokfenpefaaGreatDoor
open Go.RowKit

/-- An error is this number, without a place. -/
theorem bare_any (m n : Int) (w : World) (hg : w.cell? ⟨0, 0, none⟩ = some (.iface 247 (.agg #[hand 44]))) :
    Calls Tryz.prog 13 #[errOf m, .int .i64 n] w fun e w' => e = .returned (.bool (decide (m = n))) ∧ Below w.heap.size w w' := by
  by_cases h : m = 0
  · subst h
    refine (bare_nil n w).mono ?_
    rintro e w' ⟨rfl, rfl⟩
    refine ⟨?_, Below.refl _ _⟩
    congr 2
    simp only [decide_eq_decide]
    omega
  · unfold errOf
    rw [if_neg h]
    exact bare_errno m n w hg
theorem bare_same (n : Int) (w : World) (hg : w.cell? ⟨0, 0, none⟩ = some (.iface 247 (.agg #[hand 44]))) :
    Calls Tryz.prog 13 #[errOf n, .int .i64 n] w fun e w' => e = .returned (.bool true) ∧ Below w.heap.size w w' :=
  (bare_any n n w hg).mono fun e w' ⟨he, hb⟩ => ⟨by rw [he]; simp, hb⟩

set_option maxRecDepth 100000 in
theorem refOf_is (b : Nat) (name x : ByteArray) (n : Int) (w : World) (hr : Holds w b 72 refCells 97) (hs : name.size ≤ 1000000) (h : ofAns name = (x, n)) :
    Calls Tryz.prog 108 #[.pointer (some ⟨b, 0, none⟩), .string name] w fun e w' => e = .returned (.tuple #[.string x, .int .i64 n]) ∧ Below w.heap.size w w' := by
  unfold ofAns at h
  by_cases hn : nameOk name.data.toList = true
  · rw [if_pos hn] at h
    cases h
    have hsz := nameOk_size name hn
    have HN := Lib.hid hn
    have HR := Lib.hid hr
    clear hn hr
    go_enter Tryz.func108, Tryz.ntmps108
    go_wp2_with fail
    refine (refName_any name _ hs).mono ?_
    rintro e w1 ⟨rfl, rfl⟩
    rw [HN.out]
    go_wp2_with fail
    refine (refMark_any b 105 [name] (some ⟨w1.heap.size, 0, none⟩) 1 _ (HR.out.alloc _) (by simp [total]; omega) (by simp) (one_part name w1)).mono ?_
    rintro e w2 ⟨rfl, hb⟩
    have HB := Lib.hid hb
    clear hb
    go_wp2
    refine bodyPost_ret (results_tmp2 rfl _ _ _) rfl ?_
    exact ⟨rfl, ((Below.refl _ _).alloc (Nat.le_refl _) _).trans (HB.out.mono (by simp))⟩
  · rw [if_neg hn] at h
    cases h
    have hn' : nameOk name.data.toList = false := by simpa using hn
    have HN := Lib.hid hn'
    clear hn hn' hr
    go_enter Tryz.func108, Tryz.ntmps108
    go_wp2_with fail
    refine (refName_any name _ hs).mono ?_
    rintro e w1 ⟨rfl, rfl⟩
    rw [HN.out]
    go_wp2
    refine bodyPost_ret (results_tmp2 rfl _ _ _) rfl ?_
    exact ⟨rfl, Below.refl _ _⟩
end Go.Proofs.YtgjmbokfenpefaaGreatDoor
/- The document's RightProof, ProofRoot, Verify, Commit. -/
namespace Go.Proofs.YtgjmbokfenpefaaGreatDoor
open Go.RowKit

theorem marksUpto_next (L : List ByteArray) (k : Nat) (p : ByteArray) (h : L[k]? = some p) : marksUpto L (k + 1) = (marksUpto L k && decide (p.size = 16)) := by
  unfold marksUpto marksOk
  rw [List.take_add_one, h]; simp
set_option maxRecDepth 100000 in
theorem refMarks_any (L : List ByteArray) (A : Option Addr) (cap : Nat) (w : World) (hm : Strs w A L) (hl : L.length ≤ 1000000) :
    Calls Tryz.prog 118 #[.slice A L.length cap] w fun e w' => e = .returned (.bool (marksOk L)) ∧ w' = w := by
  have HM := Lib.hid hm
  clear hm
  go_enter Tryz.func118, Tryz.ntmps118
  go_wp2
  go_loopw [7] (fun i wr => ∃ k : Nat, k ≤ L.length ∧ i = .int .i64 (k : Int) ∧ wr = w ∧ marksUpto L k = true) (fun i _ => L.length - (intOf i).toNat)
  case atStart => exact ⟨0, by omega, rfl, rfl, rfl⟩
  case round =>
    obtain ⟨k, hk, rfl, rfl, hall⟩ := hrel
    have HALL := Lib.hid hall
    clear hall
    by_cases hlt : k < L.length
    · obtain ⟨p, hp⟩ : ∃ p, L[k]? = some p := ⟨_, List.getElem?_eq_getElem hlt⟩
      obtain ⟨a, rfl, _, c0⟩ := HM.out k p hp
      have HP := Lib.hid hp
      clear hp
      by_cases m : p.size = 16
      · have HN := Lib.hid (show marksUpto L (k + 1) = true by rw [marksUpto_next L k p HP.out, HALL.out, decide_eq_true m]; rfl)
        have M := Lib.hid m
        clear m
        go_wp2_with fail
        refine (isMark_t _ _ M.out).mono ?_
        rintro e w1 ⟨rfl, rfl⟩
        go_wp2
        go_roundw
        case rel =>
          refine ⟨k + 1, by omega, by go_num, ?_, HN.out⟩
          first | rfl | trivial
        case measure => simp [intOf]; omega
      · have HF := Lib.hid (marksOk_false HP.out m)
        have M := Lib.hid m
        clear m
        go_wp2_with fail
        refine (isMark_f _ _ M.out).mono ?_
        rintro e w1 ⟨rfl, rfl⟩
        go_wp2
        go_ret
        exact ⟨by rw [HF.out]; rfl, rfl⟩
    · have HF := Lib.hid (show marksOk L = true by have h := HALL.out; unfold marksUpto at h; rwa [List.take_of_length_le (by omega)] at h)
      go_wp2
      go_ret
      exact ⟨by rw [HF.out]; rfl, rfl⟩

end Go.Proofs.YtgjmbokfenpefaaGreatDoor
