/- Parts of the proof, one behind the other: Arr, Row2, Items, Mem, Prove, Index, Index2, Of, Lead, SetM, Dst, RDir, CopyOf, ActApp, PCl, RDirL, Iter. -/
import Derived.WalkKit
import Derived.Lib.Hide
import Derived.WalkLawsBesides
import Derived.Deep.QuietTactic
import Derived.Deep.WholeRow
import Derived.ArgAppend
import Derived.Laws.AppendOwnNone
import Derived.Laws.CopyRow
import Derived.Deep.RegionLaw
import Derived.Laws.BytesString
import Derived.Laws.IdiomStrings
import Derived.Test.YtgjmbokfenpefaaGreatDoorProg
import Derived.Laws.BitsAllLaws
import Derived.Outline
import Derived.BigQuiet
import Derived.Laws.CopyOwn
import Derived.RegionTactic
import Derived.StillTail
import Derived.Deep.Quiet
import Derived.Deep.RegionHeld3
import Derived.Deep.DeepCutAuto
import Derived.IntWalk
import Derived.Sort.Walk0
import Derived.Tactics
import Derived.Orders
import Derived.Laws.ResultCell
import Derived.LaidEql
import Derived.Stop.Asserts
import Derived.RowKitTokens
import Derived.Sort.LotA
import Derived.Lib.SortBridge
import Derived.StringKeys
import Derived.Maps.Own
import Derived.Maps.Views
import Derived.Maps.OwnSet
import Derived.Maps.OwnOps
import Derived.Maps.RangeWalk
import Derived.Sort.KeysCollected
import Derived.OrdersHeld
import Derived.Deep.AppendSrc
import Derived.Shelf.SlSortFuncK.WholeK
import Derived.Ground.GgsProg
import Derived.Shelf.GgSortFunc.Tiny
import Derived.Deep.CutRange
import Derived.Shelf.SlGeneric
import Derived.Shelf.SlIter.Nil
import Derived.Shelf.SortM.Plain
import Derived.Shelf.SortM.SortNone
import Derived.Ground.GgzProg
import Derived.Ground.SlgmProg
import Derived.Test.YtgjmbokfenpefaaGreatDoorM1
import Derived.Test.YtgjmbokfenpefaaGreatDoorM2
import Derived.Test.YtgjmbokfenpefaaGreatDoorM3
import Derived.Test.YtgjmbokfenpefaaGreatDoorM4
import Derived.Test.YtgjmbokfenpefaaGreatDoorM5
import Derived.Test.YtgjmbokfenpefaaGreatDoorM6
import Derived.Test.YtgjmbokfenpefaaGreatDoorM7
import Derived.Test.YtgjmbokfenpefaaGreatDoorM8
import Derived.Test.YtgjmbokfenpefaaGreatDoorM9
/- Blocks of cells whose content is a function of the place. No program is imported. -/
namespace Go.Proofs.YtgjmbokfenpefaaGreatDoor
open Go.RowKit

theorem But.holds {w w' : World} {c b n : Nat} {f : Nat → Value} {t : TypeId} (h : Holds w b n f t) (hb : But c w w') (hc : b ≠ c) : Holds w' b n f t := by
  have := h.lt
  unfold Holds at h ⊢; rw [hb.block b this hc]; exact h
end Go.Proofs.YtgjmbokfenpefaaGreatDoor
/- Rows out of texts; parts of blocks loaded whole. No program is imported. -/
namespace Go.Proofs.YtgjmbokfenpefaaGreatDoor
open Go.RowKit

theorem grownBy.holds {w w' : World} {row : Option Nat} {b n : Nat} {f : Nat → Value} {t : TypeId} (h : w.grownBy w' row) (hh : Holds w b n f t) (hr : row ≠ some b) : Holds w' b n f t := by
  have hl := hh.lt
  unfold Holds at hh ⊢
  rw [h.block b hl (fun e => hr e.symm)]; exact hh
end Go.Proofs.YtgjmbokfenpefaaGreatDoor
/- Items, by their bits: plain lists. -/
namespace Go.Proofs.YtgjmbokfenpefaaGreatDoor

theorem right_length {L : List It} (h : rightItems L = true) : L.length ≤ 60 := by
  unfold rightItems at h; simp at h; exact h.2
end Go.Proofs.YtgjmbokfenpefaaGreatDoor
/- Lists of texts and of items in memory. -/
namespace Go.Proofs.YtgjmbokfenpefaaGreatDoor
open Go.RowKit

/-- One item in a block that was made just now. -/
theorem one_item (x : It) (w : World) (t : TypeId) : Itms (w.alloc (.cells #[.string x.1, .string x.2] t)) (some ⟨w.heap.size, 0, none⟩) [x] := by
  intro i y hy
  match i, hy with
  | 0, hy =>
    simp at hy; subst hy
    refine ⟨_, rfl, by simp, ?_, ?_⟩
    · rw [Nat.zero_mul, add_zero', cell_of_row _ w.heap.size 0 _ t (0, 0) (heap_alloc_new _ _)]; rfl
    · rw [Nat.zero_mul, add_zero', add_none, cell_of_row _ w.heap.size _ _ t (0, 0) (heap_alloc_new _ _)]; rfl
end Go.Proofs.YtgjmbokfenpefaaGreatDoor
/- The document's Prove. -/
namespace Go.Proofs.YtgjmbokfenpefaaGreatDoor
open Go.RowKit

theorem proveFrom_few (f : Nat) (L : List It) (ix : ByteArray) (d : Nat) (h : L.length < 2) : proveFrom f L ix d = ([], itAt L 0) := by
  cases f with
  | zero => rfl
  | succ f => rw [proveFrom, if_pos h]
theorem results_row_tmp {P : Program} {fn : Func} {p u : Tmp} {ty : TypeId} (h : fn.results = #[.cell p ty, .tmp u]) (tmps : Array Value) (w : World) (g : Nat) (t : TypeId) (cs : Array Value) (fr : Nat × Nat) (d : TypeDesc)
    (hp : tmps.getD p undef = .pointer (some ⟨g, 0, none⟩)) (hg : w.heap[g]? = some (.cells cs t fr))
    (hu : P.underlying ty = some d) (hd : (match d with | .struct _ | .array _ _ => true | _ => false) = true) (hi : (P.info? ty).map (·.size) = some cs.size) :
    (results fn tmps).run P w = .ok (.tuple #[.agg cs, tmps.getD u undef]) w := by
  rw [results_cell_tmp h, hp]
  simp [asAddr, run_loadVar_row w g t ty cs fr d hg hu hd hi, Result.andThen]
theorem infoProof : (Tryz.prog.info? 61).map (·.size) = some 3 := by kernel_rfl

theorem undrew {w w' : World} (h : Below w.drew.heap.size w.drew w') : Below w.heap.size w w' := ⟨h.os, h.tape, h.output, h.size, h.block⟩
theorem fin_block {pb : Nat} {w wr w4 w5 w6 : World} {M : List It} {A : Option Addr} {P : List ByteArray} {v : Value} (h : ProveRel pb w wr M A P v) (hb : Below wr.heap.size wr w4) (hb5 : Below w4.heap.size w4 w5) (hg : w5.grownBy w6 v.ownBlock) :
    Holds w6 pb 3 (pCells v noIt) 61 := by
  have h4 := h.own.below hb h.own.lt
  have h5 : Holds w5 pb 3 (pCells v noIt) 61 := h4.below hb5 h4.lt
  have hl := h5.lt
  unfold Holds at h5 ⊢
  rw [hg.block pb hl (fun e => by have := (h.row.lt pb e.symm).1; omega)]
  exact h5
theorem fin_cell {pb : Nat} {w wr w4 w5 w6 : World} {M : List It} {A : Option Addr} {P : List ByteArray} {v : Value} (h : ProveRel pb w wr M A P v) (hb : Below wr.heap.size wr w4) (hb5 : Below w4.heap.size w4 w5) (hg : w5.grownBy w6 v.ownBlock) :
    w6.cell? ⟨pb, 0, none⟩ = some v := (fin_block h hb hb5 hg).cell 0 (by omega)
theorem fin_free {pb : Nat} {w wr w4 w5 w6 : World} {M : List It} {A : Option Addr} {P : List ByteArray} {v : Value} (h : ProveRel pb w wr M A P v) (hb : Below wr.heap.size wr w4) (hb5 : Below w4.heap.size w4 w5) (hg : w5.grownBy w6 v.ownBlock) :
    w6.frozen? ⟨pb, 0, none⟩ = false := (fin_block h hb hb5 hg).free 0
end Go.Proofs.YtgjmbokfenpefaaGreatDoor
/- The program's names and indexes: isLetter, isDigit, isMark, bit, Name, Bit. -/
namespace Go.Proofs.YtgjmbokfenpefaaGreatDoor
open Go.RowKit

theorem and_one (X : Nat) (h : X < 256) : bits BinOp.and IntKind.i64 (wrap64 (X : Int)) 1 = ((X % 2 : Nat) : Int) := by
  have hall : ∀ x : Fin 256, bits BinOp.and IntKind.i64 (wrap64 ((x.val : Nat) : Int)) 1 = ((x.val % 2 : Nat) : Int) := by decide +kernel
  exact hall ⟨X, h⟩
def letterB (c : Nat) : Bool := decide (97 ≤ c ∧ c ≤ 122)
def digitB (c : Nat) : Bool := decide (48 ≤ c ∧ c ≤ 57)
theorem isLetter_any (c : Nat) (w : World) : Calls Tryz.prog 147 #[.int .u8 (c : Int)] w fun e w' => e = .returned (.bool (letterB c)) ∧ w' = w := by
  by_cases c1 : 97 ≤ c
  · by_cases c2 : c ≤ 122
    · have ec1 : decide ((97 : Int) ≤ (c : Int)) = true := by simp; omega
      have ec2 : decide ((c : Int) ≤ 122) = true := by simp; omega
      have e : letterB c = true := by unfold letterB; simp; omega
      rw [e]; clear e
      go_enter Tryz.func147, Tryz.ntmps147
      go_wp2
      go_ret
      exact ⟨rfl, rfl⟩
    · have ec1 : decide ((97 : Int) ≤ (c : Int)) = true := by simp; omega
      have ec2 : decide ((c : Int) ≤ 122) = false := by simp; omega
      have e : letterB c = false := by unfold letterB; simp; omega
      rw [e]; clear e
      go_enter Tryz.func147, Tryz.ntmps147
      go_wp2
      go_ret
      exact ⟨rfl, rfl⟩
  · have ec1 : decide ((97 : Int) ≤ (c : Int)) = false := by simp; omega
    have e : letterB c = false := by unfold letterB; simp; omega
    rw [e]; clear e
    go_enter Tryz.func147, Tryz.ntmps147
    go_wp2
    go_ret
    exact ⟨rfl, rfl⟩
theorem isDigit_any (c : Nat) (w : World) : Calls Tryz.prog 148 #[.int .u8 (c : Int)] w fun e w' => e = .returned (.bool (digitB c)) ∧ w' = w := by
  by_cases c1 : 48 ≤ c
  · by_cases c2 : c ≤ 57
    · have ec1 : decide ((48 : Int) ≤ (c : Int)) = true := by simp; omega
      have ec2 : decide ((c : Int) ≤ 57) = true := by simp; omega
      have e : digitB c = true := by unfold digitB; simp; omega
      rw [e]; clear e
      go_enter Tryz.func148, Tryz.ntmps148
      go_wp2
      go_ret
      exact ⟨rfl, rfl⟩
    · have ec1 : decide ((48 : Int) ≤ (c : Int)) = true := by simp; omega
      have ec2 : decide ((c : Int) ≤ 57) = false := by simp; omega
      have e : digitB c = false := by unfold digitB; simp; omega
      rw [e]; clear e
      go_enter Tryz.func148, Tryz.ntmps148
      go_wp2
      go_ret
      exact ⟨rfl, rfl⟩
  · have ec1 : decide ((48 : Int) ≤ (c : Int)) = false := by simp; omega
    have e : digitB c = false := by unfold digitB; simp; omega
    rw [e]; clear e
    go_enter Tryz.func148, Tryz.ntmps148
    go_wp2
    go_ret
    exact ⟨rfl, rfl⟩
theorem ixIsMark_any (s : ByteArray) (w : World) : Calls Tryz.prog 242 #[.string s] w fun e w' => e = .returned (.bool (decide (s.size = 16))) ∧ w' = w := by
  by_cases h : s.size = 16
  · go_enter Tryz.func242, Tryz.ntmps242
    go_wp2
    go_ret
    exact ⟨by simp [h], rfl⟩
  · go_enter Tryz.func242, Tryz.ntmps242
    go_wp2
    go_ret
    refine ⟨?_, rfl⟩
    simp [h]; omega
set_option maxRecDepth 100000 in
theorem bit_any (ix : ByteArray) (k : Nat) (w : World) (h16 : ix.size = 16) (hk : k < 128) :
    Calls Tryz.prog 243 #[.string ix, .int .i64 (k : Int)] w fun e w' => e = .returned (.int .i64 ((bitOf ix.data.toList k : Nat) : Int)) ∧ w' = w := by
  have hlt : k / 8 < ix.size := by omega
  obtain ⟨B, hB⟩ : ∃ B : Nat, ix[k / 8].toNat = B := ⟨_, rfl⟩
  have hB2 : B < 256 := by rw [← hB]; exact ix[k / 8].toNat_lt
  obtain ⟨D, hD⟩ : ∃ D : Nat, 7 - k % 8 = D := ⟨_, rfl⟩
  have hDi : 7 - (k : Int) % 8 = (D : Int) := by omega
  have hD7 : D < 8 := by omega
  have hbit : bitOf ix.data.toList k = B / 2 ^ D % 2 := by
    unfold bitOf
    rw [hD, ← hB]
    congr 3
    rw [List.getD_eq_getElem?_getD, List.getElem?_eq_getElem (by rw [Array.length_toList]; exact hlt)]; rfl
  have HBIT := Lib.hid hbit
  clear hbit hD
  go_enter Tryz.func243, Tryz.ntmps243
  go_wp2
  go_ret
  refine ⟨?_, rfl⟩
  show Ending.returned (Value.int IntKind.i64 (bits BinOp.and IntKind.i64 (wrap64 ((B : Int) / 2 ^ D)) 1)) = _
  rw [HBIT.out, show ((B : Int) / 2 ^ D) = ((B / 2 ^ D : Nat) : Int) by rw [Int.natCast_ediv, Int.natCast_pow]; rfl, and_one _ (Nat.lt_of_le_of_lt (Nat.div_le_self _ _) hB2)]
end Go.Proofs.YtgjmbokfenpefaaGreatDoor
/- The program's Name, Bit and Common. -/
namespace Go.Proofs.YtgjmbokfenpefaaGreatDoor
open Go.RowKit

theorem goodAt_is (l : List UInt8) (i : Nat) : goodAt l i = (letterB (l.getD i 0).toNat || (decide (i ≠ 0) && digitB (l.getD i 0).toNat)) := rfl
set_option maxRecDepth 100000 in
theorem name_any (s : ByteArray) (w : World) : Calls Tryz.prog 88 #[.string s] w fun e w' => e = .returned (.bool (nameOk s.data.toList)) ∧ w' = w := by
  have HL := Lib.hid (show s.data.toList.length = s.size from rfl)
  by_cases h1 : s.size < 1
  · have HF := Lib.hid (show nameOk s.data.toList = false by unfold nameOk; rw [HL.out]; simp; omega)
    go_enter Tryz.func88, Tryz.ntmps88
    go_wp2
    go_ret
    exact ⟨by rw [HF.out]; rfl, rfl⟩
  · by_cases h2 : 12 < s.size
    · have HF := Lib.hid (show nameOk s.data.toList = false by unfold nameOk; rw [HL.out]; simp; omega)
      go_enter Tryz.func88, Tryz.ntmps88
      go_wp2
      go_ret
      exact ⟨by rw [HF.out]; rfl, rfl⟩
    · have h0 : 0 < s.size := by omega
      obtain ⟨c, hc⟩ : ∃ c : Nat, s[0].toNat = c := ⟨_, rfl⟩
      have hci : ((s[0].toNat : Nat) : Int) = (c : Int) := by rw [hc]
      have HC := Lib.hid (show (s.data.toList.getD 0 0).toNat = c by
        rw [← hc, List.getD_eq_getElem?_getD, List.getElem?_eq_getElem (by rw [Array.length_toList]; exact h0)]; rfl)
      clear hc
      by_cases hl : letterB c = true
      · have HLT := Lib.hid hl
        clear hl
        go_enter Tryz.func88, Tryz.ntmps88
        go_wp2_with fail
        refine (isLetter_any c _).mono ?_
        rintro e w1 ⟨rfl, rfl⟩
        rw [HLT.out]
        clear hci
        go_wp2
        go_loopw [20] (fun i wr => ∃ k : Nat, k ≤ s.size ∧ i = .int .i64 (k : Int) ∧ wr = w1 ∧ goodUpto s.data.toList k = true) (fun i _ => s.size - (intOf i).toNat)
        case atStart => exact ⟨0, by omega, rfl, rfl, rfl⟩
        case round =>
          obtain ⟨k, hk, rfl, rfl, hall⟩ := hrel
          have HA := Lib.hid hall
          clear hall
          by_cases hlt : k < s.size
          · obtain ⟨d, hd⟩ : ∃ d : Nat, s[k].toNat = d := ⟨_, rfl⟩
            have hdi : ((s[k].toNat : Nat) : Int) = (d : Int) := by rw [hd]
            have HD := Lib.hid (show (s.data.toList.getD k 0).toNat = d by
              rw [← hd, List.getD_eq_getElem?_getD, List.getElem?_eq_getElem (by rw [Array.length_toList]; exact hlt)]; rfl)
            clear hd
            by_cases hl : letterB d = true
            · have HG := Lib.hid (show goodUpto s.data.toList (k + 1) = true by rw [goodUpto_next, HA.out, Bool.true_and, goodAt_is, HD.out, hl]; rfl)
              have HLD := Lib.hid hl
              clear hl
              go_wp2_with fail
              refine (isLetter_any d _).mono ?_
              rintro e w2 ⟨rfl, rfl⟩
              rw [HLD.out]
              go_wp2
              go_roundw
              case rel =>
                refine ⟨k + 1, by omega, by go_num, ?_, HG.out⟩
                first | rfl | trivial
              case measure => simp [intOf]; omega
            · have hl' : letterB d = false := by simpa using hl
              have HLD := Lib.hid hl'
              by_cases hg : digitB d = true
              · have hk0 : k ≠ 0 := by
                  rintro rfl
                  rw [HC.out] at HD
                  rw [← HD.out, HLT.out] at hl'
                  cases hl'
                have HG := Lib.hid (show goodUpto s.data.toList (k + 1) = true by rw [goodUpto_next, HA.out, Bool.true_and, goodAt_is, HD.out, hl', hg]; simpa using hk0)
                have HGD := Lib.hid hg
                clear hl hl' hg hk0
                go_wp2_with fail
                refine (isLetter_any d _).mono ?_
                rintro e w2 ⟨rfl, rfl⟩
                rw [HLD.out]
                go_wp2_with fail
                refine (isDigit_any d _).mono ?_
                rintro e w3 ⟨rfl, rfl⟩
                rw [HGD.out]
                go_wp2
                go_roundw
                case rel =>
                  refine ⟨k + 1, by omega, by go_num, ?_, HG.out⟩
                  first | rfl | trivial
                case measure => simp [intOf]; omega
              · have hg' : digitB d = false := by simpa using hg
                have HF := Lib.hid (show nameOk s.data.toList = false by unfold nameOk; rw [goodUpto_false (k := k) (by rw [goodAt_is, HD.out, hl', hg']; simp) (by rw [HL.out]; exact hlt)]; rfl)
                have HGD := Lib.hid hg'
                clear hl hl' hg hg'
                go_wp2_with fail
                refine (isLetter_any d _).mono ?_
                rintro e w2 ⟨rfl, rfl⟩
                rw [HLD.out]
                go_wp2_with fail
                refine (isDigit_any d _).mono ?_
                rintro e w3 ⟨rfl, rfl⟩
                rw [HGD.out]
                go_wp2
                go_ret
                exact ⟨by rw [HF.out]; rfl, rfl⟩
          · have hkn : k = s.size := by omega
            have HF := Lib.hid (show nameOk s.data.toList = true by
              unfold nameOk
              rw [HL.out, ← hkn, HA.out, Bool.true_and]; simp; omega)
            clear hkn
            go_wp2
            go_ret
            exact ⟨by rw [HF.out]; rfl, rfl⟩
      · have hl' : letterB c = false := by simpa using hl
        have HF := Lib.hid (show nameOk s.data.toList = false by unfold nameOk; rw [goodUpto_false (k := 0) (by rw [goodAt_is, HC.out, hl']; simp) (by rw [HL.out]; exact h0)]; rfl)
        have HLT := Lib.hid hl'
        clear hl hl'
        go_enter Tryz.func88, Tryz.ntmps88
        go_wp2_with fail
        refine (isLetter_any c _).mono ?_
        rintro e w1 ⟨rfl, rfl⟩
        rw [HLT.out]
        go_wp2
        go_ret
        exact ⟨by rw [HF.out]; rfl, rfl⟩

set_option maxRecDepth 100000 in
theorem ixBit_any (ix : ByteArray) (k : Int) (w : World) :
    Calls Tryz.prog 211 #[.string ix, .int .i64 k] w fun e w' => e = .returned (.tuple (if ix.size = 16 then (if 0 ≤ k ∧ k ≤ 127 then #[.int .i64 ((bitOf ix.data.toList k.toNat : Nat) : Int), .nilIface] else #[.int .i64 0, .iface 28 (.int .i64 2)]) else #[.int .i64 0, .iface 28 (.int .i64 1)])) ∧ w' = w := by
  by_cases h16 : ix.size = 16
  · rw [if_pos h16]
    have E1 := Lib.hid (show decide (ix.size = 16) = true by simp [h16])
    by_cases hk : 0 ≤ k ∧ k ≤ 127
    · rw [if_pos hk]
      obtain ⟨m, rfl⟩ : ∃ m : Nat, k = (m : Int) := ⟨k.toNat, by omega⟩
      have hm : m < 128 := by omega
      rw [Int.toNat_natCast]
      clear hk
      go_enter Tryz.func211, Tryz.ntmps211
      go_wp2_with fail
      refine (ixIsMark_any _ _).mono ?_
      rintro e w1 ⟨rfl, rfl⟩
      rw [E1.out]
      go_wp2_with fail
      refine (bit_any ix m _ h16 hm).mono ?_
      rintro e w1 ⟨rfl, rfl⟩
      go_wp2
      refine bodyPost_ret (results_tmp2 rfl _ _ _) rfl ?_
      exact ⟨rfl, rfl⟩
    · rw [if_neg hk]
      by_cases hk0 : k < 0
      · clear hk
        go_enter Tryz.func211, Tryz.ntmps211
        go_wp2_with fail
        refine (ixIsMark_any _ _).mono ?_
        rintro e w1 ⟨rfl, rfl⟩
        rw [E1.out]
        go_wp2
        refine bodyPost_ret (results_tmp2 rfl _ _ _) rfl ?_
        exact ⟨rfl, rfl⟩
      · have hk1 : 0 ≤ k := by omega
        have hk2 : 128 ≤ k := by omega
        clear hk hk0
        go_enter Tryz.func211, Tryz.ntmps211
        go_wp2_with fail
        refine (ixIsMark_any _ _).mono ?_
        rintro e w1 ⟨rfl, rfl⟩
        rw [E1.out]
        go_wp2
        refine bodyPost_ret (results_tmp2 rfl _ _ _) rfl ?_
        exact ⟨rfl, rfl⟩
  · rw [if_neg h16]
    have E1 := Lib.hid (show decide (ix.size = 16) = false by simp [h16])
    clear h16
    go_enter Tryz.func211, Tryz.ntmps211
    go_wp2_with fail
    refine (ixIsMark_any _ _).mono ?_
    rintro e w1 ⟨rfl, rfl⟩
    rw [E1.out]
    go_wp2
    refine bodyPost_ret (results_tmp2 rfl _ _ _) rfl ?_
    exact ⟨rfl, rfl⟩
set_option maxHeartbeats 400000 in
set_option maxRecDepth 100000 in
theorem ixCommon_any (a b : ByteArray) (w : World) :
    Calls Tryz.prog 245 #[.string a, .string b] w fun e w' => e = .returned (.tuple (if a.size = 16 ∧ b.size = 16 then #[.int .i64 ((commonOf a.data.toList b.data.toList : Nat) : Int), .nilIface] else #[.int .i64 0, .iface 28 (.int .i64 1)])) ∧ w' = w := by
  by_cases ha : a.size = 16
  · by_cases hb : b.size = 16
    · rw [if_pos ⟨ha, hb⟩]
      obtain ⟨T, hT⟩ : ∃ T, commonOf a.data.toList b.data.toList = T := ⟨_, rfl⟩
      rw [hT]
      have HT := Lib.hid hT
      clear hT
      have E1 := Lib.hid (show decide (a.size = 16) = true by simp [ha])
      have E2 := Lib.hid (show decide (b.size = 16) = true by simp [hb])
      go_enter Tryz.func245, Tryz.ntmps245
      go_wp2_with fail
      refine (ixIsMark_any _ _).mono ?_
      rintro e w1 ⟨rfl, rfl⟩
      rw [E1.out]
      go_wp2_with fail
      refine (ixIsMark_any _ _).mono ?_
      rintro e w1 ⟨rfl, rfl⟩
      rw [E2.out]
      go_wp2
      go_loopw [16] (fun i wr => ∃ n m : Nat, m + n = 128 ∧ i = .int .i64 (n : Int) ∧ wr = w1 ∧ commonFrom a.data.toList b.data.toList m n = T) (fun i _ => 128 - (intOf i).toNat)
      case atStart => exact ⟨0, 128, rfl, rfl, rfl, HT.out⟩
      case round =>
        obtain ⟨n, m, hn0, rfl, rfl, hc⟩ := hrel
        have hn : n ≤ 128 := by omega
        have HN := Lib.hid hn0
        clear hn0
        have HCO := Lib.hid hc
        clear hc
        by_cases hlt : n < 128
        · obtain ⟨m', rfl⟩ : ∃ m', m = m' + 1 := ⟨m - 1, by have := HN.out; omega⟩
          have hstep : commonFrom a.data.toList b.data.toList (m' + 1) n = if bitOf a.data.toList n = bitOf b.data.toList n then commonFrom a.data.toList b.data.toList m' (n + 1) else n := rfl
          have HST := Lib.hid hstep
          clear hstep
          obtain ⟨p, hp⟩ : ∃ p, bitOf a.data.toList n = p := ⟨_, rfl⟩
          obtain ⟨q, hq⟩ : ∃ q, bitOf b.data.toList n = q := ⟨_, rfl⟩
          have HP := Lib.hid hp
          have HQ := Lib.hid hq
          clear hp hq
          by_cases hpq : p = q
          · subst hpq
            go_wp2_with fail
            refine (bit_any a n _ ha hlt).mono ?_
            rintro e w2 ⟨rfl, rfl⟩
            rw [HP.out]
            go_wp2_with fail
            refine (bit_any b n _ hb hlt).mono ?_
            rintro e w3 ⟨rfl, rfl⟩
            rw [HQ.out]
            go_wp2
            go_roundw
            case rel =>
              refine ⟨n + 1, m', by have := HN.out; omega, by rw [Int.natCast_add]; rfl, ?_, ?_⟩
              · first | rfl | trivial
              · have h1 := HST.out; have h2 := HCO.out
                rw [HP.out, HQ.out, if_pos rfl] at h1
                rw [← h1, h2]
            case measure => simp [intOf]; omega
          · have hpi : ((p : Int) == (q : Int)) = false := by simp; omega
            go_wp2_with fail
            refine (bit_any a n _ ha hlt).mono ?_
            rintro e w2 ⟨rfl, rfl⟩
            rw [HP.out]
            go_wp2_with fail
            refine (bit_any b n _ hb hlt).mono ?_
            rintro e w3 ⟨rfl, rfl⟩
            rw [HQ.out]
            go_wp2
            refine bodyPost_ret (results_tmp2 rfl _ _ _) rfl ?_
            refine ⟨?_, rfl⟩
            have h1 := HST.out; have h2 := HCO.out
            rw [HP.out, HQ.out, if_neg hpq] at h1
            rw [← h2, h1]
            rfl
        · have hn8 : n = 128 := by omega
          have hm0 : m = 0 := by have := HN.out; omega
          subst hm0
          have h3 := Lib.hid (show n = T from HCO.out)
          subst hn8
          go_wp2
          refine bodyPost_ret (results_tmp2 rfl _ _ _) rfl ?_
          refine ⟨?_, rfl⟩
          rw [← h3.out]
          rfl
    · rw [if_neg (fun h => hb h.2)]
      have E1 := Lib.hid (show decide (a.size = 16) = true by simp [ha])
      have E2 := Lib.hid (show decide (b.size = 16) = false by simp [hb])
      clear ha hb
      go_enter Tryz.func245, Tryz.ntmps245
      go_wp2_with fail
      refine (ixIsMark_any _ _).mono ?_
      rintro e w1 ⟨rfl, rfl⟩
      rw [E1.out]
      go_wp2_with fail
      refine (ixIsMark_any _ _).mono ?_
      rintro e w1 ⟨rfl, rfl⟩
      rw [E2.out]
      go_wp2
      refine bodyPost_ret (results_tmp2 rfl _ _ _) rfl ?_
      exact ⟨rfl, rfl⟩
  · rw [if_neg (fun h => ha h.1)]
    have E1 := Lib.hid (show decide (a.size = 16) = false by simp [ha])
    clear ha
    go_enter Tryz.func245, Tryz.ntmps245
    go_wp2_with fail
    refine (ixIsMark_any _ _).mono ?_
    rintro e w1 ⟨rfl, rfl⟩
    rw [E1.out]
    go_wp2
    refine bodyPost_ret (results_tmp2 rfl _ _ _) rfl ?_
    exact ⟨rfl, rfl⟩
end Go.Proofs.YtgjmbokfenpefaaGreatDoor
/- Of, Bit and Common, of the program and of the document, each by one answer: a value and the number of an error. -/
namespace Go.Proofs.YtgjmbokfenpefaaGreatDoor
open Go.RowKit

def bitAns (ix : ByteArray) (k : Int) : Int × Int := if ix.size = 16 then (if 0 ≤ k ∧ k ≤ 127 then (((bitOf ix.data.toList k.toNat : Nat) : Int), 0) else (0, 2)) else (0, 1)
def comAns (a b : ByteArray) : Int × Int := if a.size = 16 ∧ b.size = 16 then (((commonOf a.data.toList b.data.toList : Nat) : Int), 0) else (0, 1)

theorem ixBit_is (ix : ByteArray) (k x n : Int) (w : World) (h : bitAns ix k = (x, n)) :
    Calls Tryz.prog 211 #[.string ix, .int .i64 k] w fun e w' => e = .returned (.tuple #[.int .i64 x, errOf n]) ∧ w' = w := by
  refine (ixBit_any ix k w).mono ?_
  rintro e w' ⟨rfl, rfl⟩
  refine ⟨?_, rfl⟩
  unfold bitAns at h
  by_cases h16 : ix.size = 16
  · rw [if_pos h16] at h ⊢
    by_cases hk : 0 ≤ k ∧ k ≤ 127
    · rw [if_pos hk] at h ⊢; cases h; rfl
    · rw [if_neg hk] at h ⊢; cases h; rfl
  · rw [if_neg h16] at h ⊢; cases h; rfl
theorem ixCommon_is (a b : ByteArray) (x n : Int) (w : World) (h : comAns a b = (x, n)) :
    Calls Tryz.prog 245 #[.string a, .string b] w fun e w' => e = .returned (.tuple #[.int .i64 x, errOf n]) ∧ w' = w := by
  refine (ixCommon_any a b w).mono ?_
  rintro e w' ⟨rfl, rfl⟩
  refine ⟨?_, rfl⟩
  unfold comAns at h
  by_cases h16 : a.size = 16 ∧ b.size = 16
  · rw [if_pos h16] at h ⊢; cases h; rfl
  · rw [if_neg h16] at h ⊢; cases h; rfl
set_option maxRecDepth 100000 in
theorem of_is (name x : ByteArray) (n : Int) (w : World) (hk : HasK w) (h : ofAns name = (x, n)) :
    Calls Tryz.prog 95 #[.string name] w fun e w' => e = .returned (.tuple #[.string x, errOf n]) ∧ Below w.heap.size w w' := by
  unfold ofAns at h
  by_cases hn : nameOk name.data.toList = true
  · rw [if_pos hn] at h
    cases h
    have hsz := nameOk_size name hn
    have HN := Lib.hid hn
    have HK := Lib.hid hk
    clear hn hk
    go_enter Tryz.func95, Tryz.ntmps95
    go_wp2_with fail
    refine (name_any name _).mono ?_
    rintro e w1 ⟨rfl, rfl⟩
    rw [HN.out]
    go_wp2_with fail
    refine (mark_any 105 [name] (some ⟨w1.heap.size, 0, none⟩) 1 _ (HK.out.alloc _) (by simp [total]; omega) (by simp) (one_part name w1)).mono ?_
    rintro e w2 ⟨rfl, hb⟩
    have HB := Lib.hid hb
    clear hb
    go_wp2
    refine bodyPost_ret (results_tmp2 rfl _ _ _) rfl ?_
    exact ⟨rfl, ((Below.refl _ _).alloc (Nat.le_refl _) _).trans (HB.out.mono (by simp))⟩
  · rw [if_neg hn] at h
    cases h
    have hn' : nameOk name.data.toList = false := by simpa using hn
    have HN := Lib.hid hn'
    clear hn hn' hk
    go_enter Tryz.func95, Tryz.ntmps95
    go_wp2_with fail
    refine (name_any name _).mono ?_
    rintro e w1 ⟨rfl, rfl⟩
    rw [HN.out]
    go_wp2
    refine bodyPost_ret (results_tmp2 rfl _ _ _) rfl ?_
    exact ⟨rfl, Below.refl _ _⟩
end Go.Proofs.YtgjmbokfenpefaaGreatDoor
/- The document's ProofRoot, Verify and Commit. -/
namespace Go.Proofs.YtgjmbokfenpefaaGreatDoor
open Go.RowKit

theorem join_size (a b : ByteArray) : (joinM a b).size = 16 := markOf_len _ _
theorem start_size (P : List ByteArray) (x : It) : (startOf P x).size = 16 := by unfold startOf emptyM leafM; split <;> exact markOf_len _ _
theorem rightProof_facts {ix : ByteArray} {P : List ByteArray} {x : It} (h : rightProof ix P x = true) :
    ix.size = 16 ∧ P.length ≤ 128 ∧ marksOk P = true ∧ ((x.1.size = 0 ∧ x.2.size = 0) ∨ (x.1.size = 16 ∧ x.2.size = 16 ∧ P.length ≤ commonOf ix.data.toList x.1.data.toList)) := by
  unfold rightProof at h
  simp only [Bool.and_eq_true, decide_eq_true_eq] at h
  obtain ⟨⟨⟨h1, h2⟩, h3⟩, h4⟩ := h
  refine ⟨h1, h2, h3, ?_⟩
  by_cases e : x.1.size = 0 ∧ x.2.size = 0
  · exact .inl e
  · rw [if_neg e] at h4
    unfold leafOk at h4
    simp only [Bool.and_eq_true, decide_eq_true_eq] at h4
    exact .inr ⟨h4.1.1, h4.2, h4.1.2⟩

theorem results_tmp3' {fn : Func} {p q r : Tmp} (h : fn.results = #[.tmp p, .tmp q, .tmp r]) (tmps : Array Value) (P : Program) (w : World) :
    (results fn tmps).run P w = .ok (.tuple #[tmps.getD p undef, tmps.getD q undef, tmps.getD r undef]) w := by
  simp [results, h, go_sem]
theorem text_eq (a b : ByteArray) : a.toList = b.toList ↔ a = b := by
  rw [ByteArray.toList_eq, ByteArray.toList_eq]
  exact ⟨text_of, fun h => by rw [h]⟩
end Go.Proofs.YtgjmbokfenpefaaGreatDoor
/- One item more: plain lists. -/
namespace Go.Proofs.YtgjmbokfenpefaaGreatDoor

def insIt (x : It) : List It → List It
  | [] => [x]
  | y :: r => if ltI y x then y :: insIt x r else x :: y :: r
def setOf (L : List It) (x : It) : List It × Int :=
  if rightItems L = true ∧ rightItems [x] = true then (if (others L x).length = L.length ∧ 60 ≤ L.length then ([], 12) else (insIt x (others L x), 0)) else ([], 1)
theorem ltI_trans {x y z : It} (h1 : ltI x y) (h2 : ltI y z) : ltI x z := List.lt_trans h1 h2
theorem insIt_perm (x : It) : ∀ L : List It, (insIt x L).Perm (x :: L)
  | [] => List.Perm.refl _
  | y :: r => by
    unfold insIt
    split
    · exact ((insIt_perm x r).cons y).trans (List.Perm.swap x y r)
    · exact List.Perm.refl _
theorem insIt_sorted (x : It) : ∀ L : List It, L.Pairwise ltI → (∀ y ∈ L, y.1 ≠ x.1) → (insIt x L).Pairwise ltI
  | [], _, _ => by unfold insIt; simp
  | y :: r, hs, hn => by
    obtain ⟨h1, h2⟩ := List.pairwise_cons.1 hs
    unfold insIt
    split
    · rename_i h
      refine List.pairwise_cons.2 ⟨fun z hz => ?_, insIt_sorted x r h2 (fun z hz => hn z (by simp [hz]))⟩
      have hz' := (insIt_perm x r).mem_iff.1 hz
      rcases List.mem_cons.1 hz' with rfl | hz'
      · exact h
      · exact h1 z hz'
    · rename_i h
      have hxy : ltI x y := ltI_total h (hn y (by simp))
      refine List.pairwise_cons.2 ⟨fun z hz => ?_, hs⟩
      rcases List.mem_cons.1 hz with rfl | hz
      · exact hxy
      · exact ltI_trans hxy (h1 z hz)
theorem others_sorted {L : List It} (h : L.Pairwise ltI) (x : It) : (others L x).Pairwise ltI := h.filter _
theorem others_ne (L : List It) (x : It) : ∀ y ∈ others L x, y.1 ≠ x.1 := fun y hy => by
  have := (List.mem_filter.1 hy).2
  exact of_decide_eq_true this
/-- Whoever is put behind the others and sorted stands where it is put in. -/
theorem set_sorted {L M : List It} {x : It} (h : L.Pairwise ltI) (p : M.Perm (others L x ++ [x])) (hM : M.Pairwise ltI) : M = insIt x (others L x) :=
  sorted_one (p.trans ((List.perm_append_singleton x (others L x)).trans (insIt_perm x _).symm)) hM (insIt_sorted x _ (others_sorted h x) (others_ne L x))
end Go.Proofs.YtgjmbokfenpefaaGreatDoor
/- The document's directory: what it knows, and what it answers. -/
namespace Go.Proofs.YtgjmbokfenpefaaGreatDoor
open Go.RowKit

def dirPub (secret : ByteArray) : ByteArray := boxPub (dirSeed secret)
def foundAns (d : Dst) (name ix : ByteArray) : Answ :=
  ⟨lastSgn d, (proveAns (itemsOf d) ix).1, (proveAns (itemsOf d) ix).2.1, if (look d.vals name).isSome then openOf d name else ⟨#[]⟩, (look d.vals name).getD ⟨#[]⟩⟩
def lookupAns (d : Dst) (name : ByteArray) : Answ × Int :=
  if nameOk name.data.toList = true then (if d.eps.length = 0 then (noAnsw, 6) else (foundAns d name (ofAns name).1, 0)) else (noAnsw, 5)

end Go.Proofs.YtgjmbokfenpefaaGreatDoor
/- The document's directory in memory. -/
namespace Go.Proofs.YtgjmbokfenpefaaGreatDoor
open Go.RowKit

theorem sgCells_length (M : List SgM) : (sgCells M).length = M.length * 6 := by
  induction M with
  | nil => rfl
  | cons m M ih => unfold sgCells at ih ⊢; rw [List.flatMap_cons, List.length_append, ih]; simp [SgM.cells]; omega
end Go.Proofs.YtgjmbokfenpefaaGreatDoor
/- append([]T{}, l...): the items of a list, once more, in memory of the call's own. -/
namespace Go.Proofs.YtgjmbokfenpefaaGreatDoor
open Go.RowKit

theorem itCells_one' (L : List It) : ∀ u ∈ itCells L, u.oneCell' = true := by
  intro u hu
  unfold itCells at hu
  simp only [List.mem_flatMap] at hu
  obtain ⟨x, _, hx⟩ := hu
  simp at hx
  rcases hx with rfl | rfl <;> rfl
theorem wpList_append_copyr {P : Program} {ops : Array Oper} {rest : List Oper} {o : Oper} {a : Act} {w : World} {Q : Exit → Act → World → Prop} (hgd : o.guard = none) (d s : Operand) (T : TypeId)
    (ho : o.op = .call { callee := .builtin .append, args := #[d, s], argTypes := #[T, T] }) (e : TypeId) (ht : P.underlying T = some (.slice e)) (i : TypeInfo) (z : Value) (hi : P.info? e = some i) (hz : i.zero = some z) (hsz : i.size = 2) (hby : i.bytes = 32) (hzc : z.cells.size = 2)
    (L : List It) (A : Option Addr) (cap : Nat) (g : Nat) (hg : g < w.heap.size) (base : Nat) (hbg : base ≤ g) (hd : a.eval d = .slice (some ⟨g, 0, none⟩) 0 0) (hs : a.eval s = .slice A L.length cap) (hm : Itms w A L) (hl : L.length ≤ 1000000)
    (hK : ∀ A' cap' w', Hid (Below w.heap.size w w') → Hid (Row w' base 2 (.slice A' L.length cap') L.length (itCells L)) → wpList P ops Q rest (a.put o.dst (.slice A' L.length cap')) w') : wpList P ops Q (o :: rest) a w := by
  by_cases h0 : L.length = 0
  · obtain rfl := List.eq_nil_of_length_eq_zero h0
    have hsrc : ∃ news, Src P i.size T (.slice A 0 cap) 0 news w := by
      cases A with
      | none => exact ⟨[], Src.ofNil w ht cap⟩
      | some x => exact ⟨[], Src.ofSlice w ht x 0 cap [] (by simp) (fun j u h => by simp at h) (fun u h => by cases h)⟩
    obtain ⟨news, hsrc⟩ := hsrc
    have hnl : news = [] := List.eq_nil_of_length_eq_zero (by simpa using hsrc.newsLen)
    subst hnl
    have hk1 : ∃ e', P.underlying T = some (.slice e') := ⟨e, ht⟩
    have hrun : (Builtin.append_ #[T, T] o.type #[.slice (some ⟨g, 0, none⟩) 0 0, .slice A 0 cap]).run P w = .ok (.slice (some ⟨g, 0, none⟩) 0 0) w := by
      have hst : (storeCells ((Addr.mk g 0 none).add 0) []).run P w = .ok () w := by simp [storeCells]
      simp [Builtin.append_, run_underlying ht, sizeOf, typeInfo, hi, hsrc.len, hsrc.cells, hst]
    refine wpList_plain hgd fun K hK' => ?_
    unfold Oper.wp
    simp [execOp, ho, resolve, invoke, builtin, hd, hs, hrun, Result.andThen]
    exact hK' _ _ (hK _ _ _ (Lib.hid (Below.refl _ _)) (Lib.hid ⟨rfl, .inr ⟨g, 0, rfl, hbg, hg, Nat.le_refl 0, fun j u h => (by cases h), fun j h => by omega⟩⟩))
  · obtain ⟨x, rfl, hc⟩ := hm.cells (by omega)
    refine wpList_append_grows w hgd d s T ho e i z 2 32 ht hi hz hsz hby hzc (by omega) (some ⟨g, 0, none⟩) 0 0 [] hd (fun h => by cases h) (by simp) (fun _ _ j u h => by simp at h) x L.length cap (itCells L) hs (itCells_length L) hc (itCells_one' L) (by omega) (by unfold maxLen; omega) (by omega) ?_
    intro v' w' hown hg'
    have hrow : Row w' w.heap.size 2 v' L.length (itCells L) := by simpa using Row.of_owns hown
    obtain ⟨A', cap', rfl⟩ := hrow.any
    exact hK A' cap' w' (Lib.hid (grownBy.below hg' (Nat.le_refl _) (fun k h => by cases h))) (Lib.hid (hrow.mono (by omega)))
end Go.Proofs.YtgjmbokfenpefaaGreatDoor
/- append onto a row of acts (a number and two texts each): many, that lie somewhere; slices.Clone of acts. -/
namespace Go.Proofs.YtgjmbokfenpefaaGreatDoor
open Go.RowKit

theorem infoActK : (Tryz.prog.info? 86).map (fun i => (i.zero, i.size, i.bytes)) = some (some (.agg #[.int .i64 0, .string ⟨#[]⟩, .string ⟨#[]⟩]), 3, 40) := by kernel_rfl
theorem cloneActs_any (L : List Hd) (A : Option Addr) (cap : Nat) (w : World) (hl : L.length ≤ 1000000) (hm : Hds w A L) :
    Calls Tryz.prog 25 #[.slice A L.length cap] w fun e w' => ∃ v, e = .returned v ∧ Below w.heap.size w w' ∧ Row w' w.heap.size 3 v L.length (hdCells L) := by
  have HM := Lib.hid hm
  clear hm
  cases A with
  | none =>
    obtain rfl : L = [] := by
      match L, HM with
      | [], _ => rfl
      | x :: r, HM =>
        obtain ⟨a, h, _⟩ := HM.out.at_ (show 0 < (x :: r).length by simp)
        cases h
    have hnil : ∀ u : World, (binOp .eql 76 (.slice none 0 cap) (.slice none 0 0)).run Tryz.prog u = .ok (.bool true) u := fun u => by kernel_rfl
    go_enter Tryz.func25, Tryz.ntmps25
    go_wp2
    go_ret
    exact ⟨_, rfl, Below.refl _ _, Row.nil _ _ _⟩
  | some x =>
    have hnil : ∀ u : World, (binOp .eql 76 (.slice (some x) L.length cap) (.slice none 0 0)).run Tryz.prog u = .ok (.bool false) u := fun u => by kernel_rfl
    obtain ⟨i0, hi0, hz0, hz1, hz2⟩ := info_parts infoActK
    have hb0 : Below w.heap.size w (w.alloc (.cells #[] 86)) := alloc_below w _
    go_enter Tryz.func25, Tryz.ntmps25
    go_wp2_with (at_builtin; refine wpList_append_hds rfl (.tmp 5) (.tmp 6) 76 rfl 86 Tryz.underlying76 i0 _ hi0 hz0 hz1 hz2 rfl w.heap.size 0 [] _ rfl ⟨rfl, .inr ⟨w.heap.size, 0, rfl, Nat.le_refl _, by simp, Nat.le_refl 0, (fun j u h => by cases h), fun j h => by omega⟩⟩ (by simp) (by omega) L L.length rfl (some x) cap rfl (HM.out.below hb0) hl ?_; intro v' w7 hr7 hg7)
    go_wp2
    go_ret
    refine ⟨_, rfl, hb0.grown hg7.out hb0.size (fun k e => by cases e; exact Nat.le_refl _), ?_⟩
    have h := hr7.out
    rw [Nat.zero_add, List.nil_append] at h
    exact h
end Go.Proofs.YtgjmbokfenpefaaGreatDoor
/- The program's client in memory: New, Heads. -/
namespace Go.Proofs.YtgjmbokfenpefaaGreatDoor
open Go.RowKit

theorem pHeads_any (F : Nat → Prop) (p : Nat) (c : Cl) (w : World) (hc : PCl F w p c) (hl : c.heads.length ≤ 1000000) :
    Calls Tryz.prog 43 #[.pointer (some ⟨p, 0, none⟩)] w fun e w' => ∃ A cap, e = .returned (.slice A c.heads.length cap) ∧ Below w.heap.size w w' ∧ Hds w' A c.heads := by
  obtain ⟨v, hc⟩ := hc
  obtain ⟨-, A, cap, hv, hh⟩ := hc.row.hds
  have h1 : w.cell? ⟨p, 1, none⟩ = some v := hc.own.cell 1 (by omega)
  rw [hv] at h1
  have HH := Lib.hid hh
  have HL := Lib.hid hl
  clear hc hv hh hl
  go_enter Tryz.func43, Tryz.ntmps43
  go_wp2_with fail
  refine (cloneHeads_any c.heads A cap _ HL.out HH.out).mono ?_
  rintro e w1 ⟨v', rfl, hb1, hr1⟩
  obtain ⟨-, B, cb, rfl, hhb⟩ := hr1.hds
  have HB := Lib.hid hb1
  have HHB := Lib.hid hhb
  clear hb1 hr1 hhb h1
  go_wp2
  go_ret
  exact ⟨B, cb, rfl, HB.out, HHB.out⟩
end Go.Proofs.YtgjmbokfenpefaaGreatDoor
/- The document's Lookup. -/
namespace Go.Proofs.YtgjmbokfenpefaaGreatDoor
open Go.RowKit Go.Maps

theorem put11_strs {w : World} {A : Option Addr} {L : List ByteArray} (h : Strs w A L) {b : Nat} (hb : ∀ a, A = some a → 0 < L.length → b < a.block) (m : SgM) (C : Option Addr) (n cc : Nat) (x : It) (o v : ByteArray) : Strs (put11 w b m C n cc x o v) A L :=
  (((((((((((h.keep ⟨b, 0, none⟩ _ hb).keep ⟨b, 1, none⟩ _ hb).keep ⟨b, 2, none⟩ _ hb).keep ⟨b, 3, none⟩ _ hb).keep ⟨b, 4, none⟩ _ hb).keep ⟨b, 5, none⟩ _ hb).keep ⟨b, 6, none⟩ _ hb).keep ⟨b, 7, none⟩ _ hb).keep ⟨b, 8, none⟩ _ hb).keep ⟨b, 9, none⟩ _ hb).keep ⟨b, 10, none⟩ _ hb)
theorem Strs.keep' {w : World} {A : Option Addr} {L : List ByteArray} (h : Strs w A L) {ab : Nat} (hb : ∀ a, A = some a → 0 < L.length → a.block < ab) (i : Nat) (v : Value) : Strs (w.setCell ⟨ab, i, none⟩ v) A L := fun j p hp => by
  obtain ⟨a, ha, hl, hc⟩ := h j p hp
  have := hb a ha (by have := (List.getElem?_eq_some_iff.1 hp).1; omega)
  exact ⟨a, ha, by simpa [World.setCell] using hl, (World.cell?_of_block (w := w) (a := a.add j) (by rw [block_add]; exact Below.heap_setCell _ _ _ _ (show a.block ≠ ab by omega))).trans hc⟩
end Go.Proofs.YtgjmbokfenpefaaGreatDoor
/- slices.Sorted(maps.Keys(m)), laid by name, no walk. -/
namespace Go.Proofs
open Go.Shelf
def Tryz.keysHas_ren : Go.Shelf.Ren := ⟨fun | 7 => 149 | 10 => 202 | n => n, fun | 23 => 154 | 26 => 9 | 3 => 211 | 28 => 135 | 0 => 0 | 27 => 134 | 33 => 50 | 4 => 4 | n => n, fun | n => n⟩
theorem Tryz.keysHas : Go.Proofs.SlLaysZ.n7 Tryz.prog Tryz.keysHas_ren := {
  mixed := by kernel_rfl
  f7 := ⟨Tryz.f149.name, by decide, Tryz.func149.trans (congrArg some (by kernel_rfl))⟩
  f10 := ⟨Tryz.f202.name, by decide, Tryz.func202.trans (congrArg some (by kernel_rfl))⟩
  t0 := Tryz.underlying0
  a0 := Tryz.isAgg0
  z0 := Tryz.sizeOf0
  v0 := Tryz.zeroValue0
  t4 := Tryz.underlying4
  a4 := Tryz.isAgg4
  z4 := Tryz.sizeOf4
  v4 := Tryz.zeroValue4
  t23 := Tryz.underlying154
  a23 := Tryz.isAgg154
  z23 := Tryz.sizeOf154
  v23 := Tryz.zeroValue154
  t26 := Tryz.underlying9
  a26 := Tryz.isAgg9
  z26 := Tryz.sizeOf9
  v26 := Tryz.zeroValue9
  t27 := Tryz.underlying134
  a27 := Tryz.isAgg134
  z27 := Tryz.sizeOf134
  v27 := Tryz.zeroValue134
  t28 := Tryz.underlying135
  a28 := Tryz.isAgg135
  z28 := Tryz.sizeOf135
  v28 := Tryz.zeroValue135
  t33 := Tryz.underlying50
  a33 := Tryz.isAgg50
  z33 := Tryz.sizeOf50
  v33 := Tryz.zeroValue50 }
open Go.RowKit Go.Maps Go.Sort
theorem Tryz.keysHas_any (mb : Option Nat) (W : World) : Calls Tryz.prog 149 #[.map mb] W fun e w' => e = .returned (.func (.func 202) #[] #[.pointer (some ⟨W.heap.size, 0, none⟩)]) ∧ w' = W.alloc (.cells #[.map mb] 154) :=
  (callsIn_wide (n := 5)).1 (AnyZ.keys_in Tryz.keysHas Fence.wide 5 trivial rfl mb W)
set_option maxHeartbeats 1000000 in
theorem Tryz.sortedTxt_any {H : Type} (b nn : Nat) (D0 : DataW H) (R : Value → Option (DataW H × List MemPlace)) (w : World) (hown : w.ownsMap Tryz.prog 9 R b nn D0) (hmax : Maps.size D0 ≤ maxLen) (hbytes : Maps.size D0 * 16 ≤ 140737488355328) :
    Calls Tryz.prog 44 #[.func (.func 202) #[] #[.pointer (some ⟨w.heap.size, 0, none⟩)]] (w.alloc (.cells #[.map (some b)] 154)) fun e w' => ∃ (v : Value) (ss : List (List UInt8)), e = .returned v ∧ ss.Perm (strKeys D0) ∧
      w'.ownsRow (w.alloc (.cells #[.map (some b)] 154)).heap.size 9 1 v ss.length ((ss.mergeSort (fun x y => decide (x ≤ y))).map encStr) ∧ (v = .slice none 0 0 ↔ ss = []) ∧ Below (w.alloc (.cells #[.map (some b)] 154)).heap.size (w.alloc (.cells #[.map (some b)] 154)) w' := by
  have hbl := hown.lt
  have hseq : SeqGives Fence.wide 2 Tryz.prog 202 #[.pointer (some ⟨w.heap.size, 0, none⟩)] encStr (fun ss => ss.Perm (strKeys D0)) (Maps.size D0) (w.alloc (.cells #[.map (some b)] 154)) :=
    AnyZ.keys_gives (ρ := Tryz.keysHas_ren) { Tryz.keysHas with } Fence.wide _ trivial rfl (by omega) w.heap.size b nn D0 _ (by simp) (by simp) (by
      obtain ⟨es, clock, hb, Ft, hs, hD⟩ := hown
      exact ⟨es, clock, (Below.heap_alloc _ _ b hbl).trans hb, Ft, hs, hD⟩)
  exact (callsIn_wide (n := 5)).1 (AnyZ.sorted_in Tryz.sortedTxt Fence.wide 5 trivial trivial trivial trivial rfl (by omega) (Tryz.sortsTxt _) (enters_of Tryz.func77 (by kernel_rfl) rfl) 202 #[.pointer (some ⟨w.heap.size, 0, none⟩)] trivial (enters_of Tryz.func202 (by kernel_rfl) rfl) _ _ hmax hbytes _ hseq)
end Go.Proofs
