/- Parts of the proof, one behind the other: Prove, Index, Index2, As, TellErr. -/
import Derived.Test.YtcfpmofmjnhonaaGreatDoorM5
import Derived.Laws.ResultCell
import Derived.Test.YtcfpmofmjnhonaaGreatDoorM2
import Derived.Test.YtcfpmofmjnhonaaGreatDoorProg
import Derived.WalkKit
import Derived.LaidEql
import Derived.Stop.Asserts
import Derived.RowKitTokens
import Derived.Test.YtcfpmofmjnhonaaGreatDoorM1
/- The document's Prove. -/
namespace Go.Proofs.YtcfpmofmjnhonaaGreatDoor
open Go.RowKit

def proveFrom : Nat → List It → ByteArray → Nat → List ByteArray × It
  | 0, L, _, _ => ([], itAt L 0)
  | f + 1, L, ix, d => if L.length < 2 then ([], itAt L 0) else
      (nodeOf f (half L d (1 - bitOf ix.data.toList d)) (d + 1) :: (proveFrom f (half L d (bitOf ix.data.toList d)) ix (d + 1)).1, (proveFrom f (half L d (bitOf ix.data.toList d)) ix (d + 1)).2)
def noIt : It := (⟨#[]⟩, ⟨#[]⟩)
def proveAns (L : List It) (ix : ByteArray) : List ByteArray × It × Int := if rightItems L = true ∧ ix.size = 16 then ((proveFrom 128 L ix 0).1, (proveFrom 128 L ix 0).2, 0) else ([], noIt, 1)
theorem proveFrom_few (f : Nat) (L : List It) (ix : ByteArray) (d : Nat) (h : L.length < 2) : proveFrom f L ix d = ([], itAt L 0) := by
  cases f with
  | zero => rfl
  | succ f => rw [proveFrom, if_pos h]
theorem results_row_tmp {P : Program} {fn : Func} {p u : Tmp} {ty : TypeId} (h : fn.results = #[.cell p ty, .tmp u]) (tmps : Array Value) (w : World) (g : Nat) (t : TypeId) (cs : Array Value) (fr : Nat × Nat) (d : TypeDesc)
    (hp : tmps.getD p undef = .pointer (some ⟨g, 0, none⟩)) (hg : w.heap[g]? = some (.cells cs t fr))
    (hu : P.underlying ty = some d) (hd : (match d with | .struct _ | .array _ _ => true | _ => false) = true) (hi : (P.info? ty).map (·.size) = some cs.size) :
    (results fn tmps).run P w = .ok (.tuple #[.agg cs, tmps.getD u undef]) w := by
  rw [results_cell_tmp h, hp]
  simp [asAddr, run_loadVar_row w g t ty cs fr d hg hu hd hi, Result.andThen]
theorem infoProof : (Tryz.prog.info? 63).map (·.size) = some 3 := by kernel_rfl

def pCells (v : Value) (x : It) : Nat → Value := fun i => if i = 0 then v else if i = 1 then .string x.1 else .string x.2
structure ProveRel (pb : Nat) (w wr : World) (M : List It) (A : Option Addr) (P : List ByteArray) (v : Value) : Prop where
  below : Below w.heap.size w wr
  lt : w.heap.size < pb
  res : Holds wr w.heap.size 3 (pCells (.slice none 0 0) noIt) 63
  own : Holds wr pb 3 (pCells v noIt) 63
  itms : Itms wr A M
  row : Row wr (pb + 1) 1 v P.length (stCells P)
theorem infoStr : (Tryz.prog.info? 9).map (fun i => (i.zero, i.size, i.bytes)) = some (some (.string ⟨#[]⟩), 1, 16) := by kernel_rfl
/-- A round's end: the path has one mark more. -/
theorem ProveRel.next {pb : Nat} {w wr w3 w4 : World} {M M' : List It} {A A' : Option Addr} {P : List ByteArray} {v v' : Value} {y : ByteArray} {cap' : Nat} (h : ProveRel pb w wr M A P v) (hb : Below wr.heap.size wr w3) (hi : Row w3 wr.heap.size 2 (.slice A' M'.length cap') M'.length (itCells M'))
    (hrow : Row w4 (pb + 1) 1 v' (P.length + 1) (stCells P ++ [.string y])) (hg : w3.grownBy w4 v.ownBlock) : ProveRel pb w (w4.setCell ⟨pb, 0, none⟩ v') M' A' (P ++ [y]) v' := by
  have hrow3 : Row w3 (pb + 1) 1 v P.length (stCells P) := h.row.belowAll hb
  have hne : ∀ c, c < pb + 1 → v.ownBlock ≠ some c := fun c hc => hrow3.fresh hc
  have hown3 := h.own.below hb h.own.lt
  have hres3 := h.res.below hb h.res.lt
  have hpb : pb < w3.heap.size := hown3.lt
  have hlt := h.lt
  have hb3 : Below w.heap.size w w3 := h.below.trans (hb.mono h.below.size)
  have keep : ∀ c, c < w3.heap.size → c < pb + 1 → w4.heap[c]? = w3.heap[c]? := fun c hc hc2 => hg.block c hc (fun e => hne c hc2 e.symm)
  refine ⟨(hb3.grown hg (by omega) (fun k hk => by have := (hrow3.lt k hk).1; omega)).setCell (p := ⟨pb, 0, none⟩) (by show w.heap.size ≤ pb; omega) _, hlt, ?_, ?_, ?_, ?_⟩
  · refine Holds.other ?_ (a := ⟨pb, 0, none⟩) (by show w.heap.size ≠ pb; omega) v'
    unfold Holds at hres3 ⊢; rw [keep _ (lt_of_block hres3) (by omega)]; exact hres3
  · have h4 : Holds w4 pb 3 (pCells v noIt) 63 := by unfold Holds at hown3 ⊢; rw [keep _ hpb (by omega)]; exact hown3
    refine (h4.set 0 v').congr fun i _ => ?_
    unfold upd pCells
    by_cases h : i = 0 <;> simp [h]
  · have hv : ∀ c, v.ownBlock = some c → c < wr.heap.size := fun c hc => (h.row.lt c hc).2
    have hpw : pb < wr.heap.size := h.own.lt
    have hi4 : Row (w4.setCell ⟨pb, 0, none⟩ v') wr.heap.size 2 (.slice A' M'.length cap') M'.length (itCells M') := by
      refine (hi.kept (w' := w4) (fun k hk => ?_) hg.size).setOther (fun e => ?_) _
      · have h1 := hi.lt k hk
        exact hg.block k h1.2 (fun e => by have := hv k e.symm; omega)
      · have h1 := (hi.lt pb e).1; omega
    obtain ⟨_, B, c, hB, hI⟩ := hi4.itms
    injection hB with e1 e2 e3
    subst e1
    exact hI
  · have e : stCells (P ++ [y]) = stCells P ++ [.string y] := by simp [stCells]
    rw [List.length_append, e]
    exact hrow.setOther (hrow.fresh (Nat.lt_succ_self _)) _
theorem undrew {w w' : World} (h : Below w.drew.heap.size w.drew w') : Below w.heap.size w w' := ⟨h.os, h.tape, h.output, h.size, h.block⟩
theorem fin_block {pb : Nat} {w wr w4 w5 w6 : World} {M : List It} {A : Option Addr} {P : List ByteArray} {v : Value} (h : ProveRel pb w wr M A P v) (hb : Below wr.heap.size wr w4) (hb5 : Below w4.heap.size w4 w5) (hg : w5.grownBy w6 v.ownBlock) :
    Holds w6 pb 3 (pCells v noIt) 63 := by
  have h4 := h.own.below hb h.own.lt
  have h5 : Holds w5 pb 3 (pCells v noIt) 63 := h4.below hb5 h4.lt
  have hl := h5.lt
  unfold Holds at h5 ⊢
  rw [hg.block pb hl (fun e => by have := (h.row.lt pb e.symm).1; omega)]
  exact h5
theorem fin_cell {pb : Nat} {w wr w4 w5 w6 : World} {M : List It} {A : Option Addr} {P : List ByteArray} {v : Value} (h : ProveRel pb w wr M A P v) (hb : Below wr.heap.size wr w4) (hb5 : Below w4.heap.size w4 w5) (hg : w5.grownBy w6 v.ownBlock) :
    w6.cell? ⟨pb, 0, none⟩ = some v := (fin_block h hb hb5 hg).cell 0 (by omega)
theorem fin_free {pb : Nat} {w wr w4 w5 w6 : World} {M : List It} {A : Option Addr} {P : List ByteArray} {v : Value} (h : ProveRel pb w wr M A P v) (hb : Below wr.heap.size wr w4) (hb5 : Below w4.heap.size w4 w5) (hg : w5.grownBy w6 v.ownBlock) :
    w6.frozen? ⟨pb, 0, none⟩ = false := (fin_block h hb hb5 hg).free 0
structure LeafRel (pb : Nat) (w wr : World) (M : List It) (A : Option Addr) (P : List ByteArray) (v : Value) (k : Nat) : Prop where
  below : Below w.heap.size w wr
  lt : w.heap.size < pb
  res : Holds wr w.heap.size 3 (pCells (.slice none 0 0) noIt) 63
  own : Holds wr pb 3 (pCells v (if k = 0 then noIt else itAt M 0)) 63
  itms : k = 0 → Itms wr A M
  row : Row wr (pb + 1) 1 v P.length (stCells P)
end Go.Proofs.YtcfpmofmjnhonaaGreatDoor
/- The program's names and indexes: isLetter, isDigit, isMark, bit, Name, Bit. -/
namespace Go.Proofs.YtcfpmofmjnhonaaGreatDoor
open Go.RowKit

theorem and_one (X : Nat) (h : X < 256) : bits BinOp.and IntKind.i64 (wrap64 (X : Int)) 1 = ((X % 2 : Nat) : Int) := by
  have hall : ∀ x : Fin 256, bits BinOp.and IntKind.i64 (wrap64 ((x.val : Nat) : Int)) 1 = ((x.val % 2 : Nat) : Int) := by decide +kernel
  exact hall ⟨X, h⟩
def letterB (c : Nat) : Bool := decide (97 ≤ c ∧ c ≤ 122)
def digitB (c : Nat) : Bool := decide (48 ≤ c ∧ c ≤ 57)
theorem isLetter_any (c : Nat) (w : World) : Calls Tryz.prog 86 #[.int .u8 (c : Int)] w fun e w' => e = .returned (.bool (letterB c)) ∧ w' = w := by
  by_cases c1 : 97 ≤ c
  · by_cases c2 : c ≤ 122
    · have ec1 : decide ((97 : Int) ≤ (c : Int)) = true := by simp; omega
      have ec2 : decide ((c : Int) ≤ 122) = true := by simp; omega
      have e : letterB c = true := by unfold letterB; simp; omega
      rw [e]; clear e
      go_enter Tryz.func86, Tryz.ntmps86
      go_wp2
      go_ret
      exact ⟨rfl, rfl⟩
    · have ec1 : decide ((97 : Int) ≤ (c : Int)) = true := by simp; omega
      have ec2 : decide ((c : Int) ≤ 122) = false := by simp; omega
      have e : letterB c = false := by unfold letterB; simp; omega
      rw [e]; clear e
      go_enter Tryz.func86, Tryz.ntmps86
      go_wp2
      go_ret
      exact ⟨rfl, rfl⟩
  · have ec1 : decide ((97 : Int) ≤ (c : Int)) = false := by simp; omega
    have e : letterB c = false := by unfold letterB; simp; omega
    rw [e]; clear e
    go_enter Tryz.func86, Tryz.ntmps86
    go_wp2
    go_ret
    exact ⟨rfl, rfl⟩
theorem isDigit_any (c : Nat) (w : World) : Calls Tryz.prog 87 #[.int .u8 (c : Int)] w fun e w' => e = .returned (.bool (digitB c)) ∧ w' = w := by
  by_cases c1 : 48 ≤ c
  · by_cases c2 : c ≤ 57
    · have ec1 : decide ((48 : Int) ≤ (c : Int)) = true := by simp; omega
      have ec2 : decide ((c : Int) ≤ 57) = true := by simp; omega
      have e : digitB c = true := by unfold digitB; simp; omega
      rw [e]; clear e
      go_enter Tryz.func87, Tryz.ntmps87
      go_wp2
      go_ret
      exact ⟨rfl, rfl⟩
    · have ec1 : decide ((48 : Int) ≤ (c : Int)) = true := by simp; omega
      have ec2 : decide ((c : Int) ≤ 57) = false := by simp; omega
      have e : digitB c = false := by unfold digitB; simp; omega
      rw [e]; clear e
      go_enter Tryz.func87, Tryz.ntmps87
      go_wp2
      go_ret
      exact ⟨rfl, rfl⟩
  · have ec1 : decide ((48 : Int) ≤ (c : Int)) = false := by simp; omega
    have e : digitB c = false := by unfold digitB; simp; omega
    rw [e]; clear e
    go_enter Tryz.func87, Tryz.ntmps87
    go_wp2
    go_ret
    exact ⟨rfl, rfl⟩
theorem ixIsMark_any (s : ByteArray) (w : World) : Calls Tryz.prog 131 #[.string s] w fun e w' => e = .returned (.bool (decide (s.size = 16))) ∧ w' = w := by
  by_cases h : s.size = 16
  · go_enter Tryz.func131, Tryz.ntmps131
    go_wp2
    go_ret
    exact ⟨by simp [h], rfl⟩
  · go_enter Tryz.func131, Tryz.ntmps131
    go_wp2
    go_ret
    refine ⟨?_, rfl⟩
    simp [h]; omega
set_option maxRecDepth 100000 in
theorem bit_any (ix : ByteArray) (k : Nat) (w : World) (h16 : ix.size = 16) (hk : k < 128) :
    Calls Tryz.prog 132 #[.string ix, .int .i64 (k : Int)] w fun e w' => e = .returned (.int .i64 ((bitOf ix.data.toList k : Nat) : Int)) ∧ w' = w := by
  have hlt : k / 8 < ix.size := by omega
  obtain ⟨B, hB⟩ : ∃ B : Nat, ix[k / 8].toNat = B := ⟨_, rfl⟩
  have hB2 : B < 256 := by rw [← hB]; exact ix[k / 8].toNat_lt
  obtain ⟨D, hD⟩ : ∃ D : Nat, 7 - k % 8 = D := ⟨_, rfl⟩
  have hDi : 7 - (k : Int) % 8 = (D : Int) := by omega
  have hD7 : D < 8 := by omega
  have hbit : bitOf ix.data.toList k = B / 2 ^ D % 2 := by
    unfold bitOf
    rw [hD, ← hB]
    congr 3
    rw [List.getD_eq_getElem?_getD, List.getElem?_eq_getElem (by rw [Array.length_toList]; exact hlt)]; rfl
  have HBIT := Lib.hid hbit
  clear hbit hD
  go_enter Tryz.func132, Tryz.ntmps132
  go_wp2
  go_ret
  refine ⟨?_, rfl⟩
  show Ending.returned (Value.int IntKind.i64 (bits BinOp.and IntKind.i64 (wrap64 ((B : Int) / 2 ^ D)) 1)) = _
  rw [HBIT.out, show ((B : Int) / 2 ^ D) = ((B / 2 ^ D : Nat) : Int) by rw [Int.natCast_ediv, Int.natCast_pow]; rfl, and_one _ (Nat.lt_of_le_of_lt (Nat.div_le_self _ _) hB2)]
end Go.Proofs.YtcfpmofmjnhonaaGreatDoor
/- The program's Name, Bit and Common. -/
namespace Go.Proofs.YtcfpmofmjnhonaaGreatDoor
open Go.RowKit

theorem goodAt_is (l : List UInt8) (i : Nat) : goodAt l i = (letterB (l.getD i 0).toNat || (decide (i ≠ 0) && digitB (l.getD i 0).toNat)) := rfl
set_option maxRecDepth 100000 in
theorem name_any (s : ByteArray) (w : World) : Calls Tryz.prog 35 #[.string s] w fun e w' => e = .returned (.bool (nameOk s.data.toList)) ∧ w' = w := by
  have HL := Lib.hid (show s.data.toList.length = s.size from rfl)
  by_cases h1 : s.size < 1
  · have HF := Lib.hid (show nameOk s.data.toList = false by unfold nameOk; rw [HL.out]; simp; omega)
    go_enter Tryz.func35, Tryz.ntmps35
    go_wp2
    go_ret
    exact ⟨by rw [HF.out]; rfl, rfl⟩
  · by_cases h2 : 12 < s.size
    · have HF := Lib.hid (show nameOk s.data.toList = false by unfold nameOk; rw [HL.out]; simp; omega)
      go_enter Tryz.func35, Tryz.ntmps35
      go_wp2
      go_ret
      exact ⟨by rw [HF.out]; rfl, rfl⟩
    · have h0 : 0 < s.size := by omega
      obtain ⟨c, hc⟩ : ∃ c : Nat, s[0].toNat = c := ⟨_, rfl⟩
      have hci : ((s[0].toNat : Nat) : Int) = (c : Int) := by rw [hc]
      have HC := Lib.hid (show (s.data.toList.getD 0 0).toNat = c by
        rw [← hc, List.getD_eq_getElem?_getD, List.getElem?_eq_getElem (by rw [Array.length_toList]; exact h0)]; rfl)
      clear hc
      by_cases hl : letterB c = true
      · have HLT := Lib.hid hl
        clear hl
        go_enter Tryz.func35, Tryz.ntmps35
        go_wp2_with fail
        refine (isLetter_any c _).mono ?_
        rintro e w1 ⟨rfl, rfl⟩
        rw [HLT.out]
        clear hci
        go_wp2
        go_loopw [20] (fun i wr => ∃ k : Nat, k ≤ s.size ∧ i = .int .i64 (k : Int) ∧ wr = w1 ∧ goodUpto s.data.toList k = true) (fun i _ => s.size - (intOf i).toNat)
        case atStart => exact ⟨0, by omega, rfl, rfl, rfl⟩
        case round =>
          obtain ⟨k, hk, rfl, rfl, hall⟩ := hrel
          have HA := Lib.hid hall
          clear hall
          by_cases hlt : k < s.size
          · obtain ⟨d, hd⟩ : ∃ d : Nat, s[k].toNat = d := ⟨_, rfl⟩
            have hdi : ((s[k].toNat : Nat) : Int) = (d : Int) := by rw [hd]
            have HD := Lib.hid (show (s.data.toList.getD k 0).toNat = d by
              rw [← hd, List.getD_eq_getElem?_getD, List.getElem?_eq_getElem (by rw [Array.length_toList]; exact hlt)]; rfl)
            clear hd
            by_cases hl : letterB d = true
            · have HG := Lib.hid (show goodUpto s.data.toList (k + 1) = true by rw [goodUpto_next, HA.out, Bool.true_and, goodAt_is, HD.out, hl]; rfl)
              have HLD := Lib.hid hl
              clear hl
              go_wp2_with fail
              refine (isLetter_any d _).mono ?_
              rintro e w2 ⟨rfl, rfl⟩
              rw [HLD.out]
              go_wp2
              go_roundw
              case rel =>
                refine ⟨k + 1, by omega, by go_num, ?_, HG.out⟩
                first | rfl | trivial
              case measure => simp [intOf]; omega
            · have hl' : letterB d = false := by simpa using hl
              have HLD := Lib.hid hl'
              by_cases hg : digitB d = true
              · have hk0 : k ≠ 0 := by
                  rintro rfl
                  rw [HC.out] at HD
                  rw [← HD.out, HLT.out] at hl'
                  cases hl'
                have HG := Lib.hid (show goodUpto s.data.toList (k + 1) = true by rw [goodUpto_next, HA.out, Bool.true_and, goodAt_is, HD.out, hl', hg]; simpa using hk0)
                have HGD := Lib.hid hg
                clear hl hl' hg hk0
                go_wp2_with fail
                refine (isLetter_any d _).mono ?_
                rintro e w2 ⟨rfl, rfl⟩
                rw [HLD.out]
                go_wp2_with fail
                refine (isDigit_any d _).mono ?_
                rintro e w3 ⟨rfl, rfl⟩
                rw [HGD.out]
                go_wp2
                go_roundw
                case rel =>
                  refine ⟨k + 1, by omega, by go_num, ?_, HG.out⟩
                  first | rfl | trivial
                case measure => simp [intOf]; omega
              · have hg' : digitB d = false := by simpa using hg
                have HF := Lib.hid (show nameOk s.data.toList = false by unfold nameOk; rw [goodUpto_false (k := k) (by rw [goodAt_is, HD.out, hl', hg']; simp) (by rw [HL.out]; exact hlt)]; rfl)
                have HGD := Lib.hid hg'
                clear hl hl' hg hg'
                go_wp2_with fail
                refine (isLetter_any d _).mono ?_
                rintro e w2 ⟨rfl, rfl⟩
                rw [HLD.out]
                go_wp2_with fail
                refine (isDigit_any d _).mono ?_
                rintro e w3 ⟨rfl, rfl⟩
                rw [HGD.out]
                go_wp2
                go_ret
                exact ⟨by rw [HF.out]; rfl, rfl⟩
          · have hkn : k = s.size := by omega
            have HF := Lib.hid (show nameOk s.data.toList = true by
              unfold nameOk
              rw [HL.out, ← hkn, HA.out, Bool.true_and]; simp; omega)
            clear hkn
            go_wp2
            go_ret
            exact ⟨by rw [HF.out]; rfl, rfl⟩
      · have hl' : letterB c = false := by simpa using hl
        have HF := Lib.hid (show nameOk s.data.toList = false by unfold nameOk; rw [goodUpto_false (k := 0) (by rw [goodAt_is, HC.out, hl']; simp) (by rw [HL.out]; exact h0)]; rfl)
        have HLT := Lib.hid hl'
        clear hl hl'
        go_enter Tryz.func35, Tryz.ntmps35
        go_wp2_with fail
        refine (isLetter_any c _).mono ?_
        rintro e w1 ⟨rfl, rfl⟩
        rw [HLT.out]
        go_wp2
        go_ret
        exact ⟨by rw [HF.out]; rfl, rfl⟩

/-- The program's error of this number, or none. -/
def errOf (n : Int) : Value := if n = 0 then .nilIface else .iface 28 (.int .i64 n)
set_option maxRecDepth 100000 in
theorem ixBit_any (ix : ByteArray) (k : Int) (w : World) :
    Calls Tryz.prog 81 #[.string ix, .int .i64 k] w fun e w' => e = .returned (.tuple (if ix.size = 16 then (if 0 ≤ k ∧ k ≤ 127 then #[.int .i64 ((bitOf ix.data.toList k.toNat : Nat) : Int), .nilIface] else #[.int .i64 0, .iface 28 (.int .i64 2)]) else #[.int .i64 0, .iface 28 (.int .i64 1)])) ∧ w' = w := by
  by_cases h16 : ix.size = 16
  · rw [if_pos h16]
    have E1 := Lib.hid (show decide (ix.size = 16) = true by simp [h16])
    by_cases hk : 0 ≤ k ∧ k ≤ 127
    · rw [if_pos hk]
      obtain ⟨m, rfl⟩ : ∃ m : Nat, k = (m : Int) := ⟨k.toNat, by omega⟩
      have hm : m < 128 := by omega
      rw [Int.toNat_natCast]
      clear hk
      go_enter Tryz.func81, Tryz.ntmps81
      go_wp2_with fail
      refine (ixIsMark_any _ _).mono ?_
      rintro e w1 ⟨rfl, rfl⟩
      rw [E1.out]
      go_wp2_with fail
      refine (bit_any ix m _ h16 hm).mono ?_
      rintro e w1 ⟨rfl, rfl⟩
      go_wp2
      refine bodyPost_ret (results_tmp2 rfl _ _ _) rfl ?_
      exact ⟨rfl, rfl⟩
    · rw [if_neg hk]
      by_cases hk0 : k < 0
      · clear hk
        go_enter Tryz.func81, Tryz.ntmps81
        go_wp2_with fail
        refine (ixIsMark_any _ _).mono ?_
        rintro e w1 ⟨rfl, rfl⟩
        rw [E1.out]
        go_wp2
        refine bodyPost_ret (results_tmp2 rfl _ _ _) rfl ?_
        exact ⟨rfl, rfl⟩
      · have hk1 : 0 ≤ k := by omega
        have hk2 : 128 ≤ k := by omega
        clear hk hk0
        go_enter Tryz.func81, Tryz.ntmps81
        go_wp2_with fail
        refine (ixIsMark_any _ _).mono ?_
        rintro e w1 ⟨rfl, rfl⟩
        rw [E1.out]
        go_wp2
        refine bodyPost_ret (results_tmp2 rfl _ _ _) rfl ?_
        exact ⟨rfl, rfl⟩
  · rw [if_neg h16]
    have E1 := Lib.hid (show decide (ix.size = 16) = false by simp [h16])
    clear h16
    go_enter Tryz.func81, Tryz.ntmps81
    go_wp2_with fail
    refine (ixIsMark_any _ _).mono ?_
    rintro e w1 ⟨rfl, rfl⟩
    rw [E1.out]
    go_wp2
    refine bodyPost_ret (results_tmp2 rfl _ _ _) rfl ?_
    exact ⟨rfl, rfl⟩
set_option maxHeartbeats 400000 in
set_option maxRecDepth 100000 in
theorem ixCommon_any (a b : ByteArray) (w : World) :
    Calls Tryz.prog 82 #[.string a, .string b] w fun e w' => e = .returned (.tuple (if a.size = 16 ∧ b.size = 16 then #[.int .i64 ((commonOf a.data.toList b.data.toList : Nat) : Int), .nilIface] else #[.int .i64 0, .iface 28 (.int .i64 1)])) ∧ w' = w := by
  by_cases ha : a.size = 16
  · by_cases hb : b.size = 16
    · rw [if_pos ⟨ha, hb⟩]
      obtain ⟨T, hT⟩ : ∃ T, commonOf a.data.toList b.data.toList = T := ⟨_, rfl⟩
      rw [hT]
      have HT := Lib.hid hT
      clear hT
      have E1 := Lib.hid (show decide (a.size = 16) = true by simp [ha])
      have E2 := Lib.hid (show decide (b.size = 16) = true by simp [hb])
      go_enter Tryz.func82, Tryz.ntmps82
      go_wp2_with fail
      refine (ixIsMark_any _ _).mono ?_
      rintro e w1 ⟨rfl, rfl⟩
      rw [E1.out]
      go_wp2_with fail
      refine (ixIsMark_any _ _).mono ?_
      rintro e w1 ⟨rfl, rfl⟩
      rw [E2.out]
      go_wp2
      go_loopw [16] (fun i wr => ∃ n m : Nat, m + n = 128 ∧ i = .int .i64 (n : Int) ∧ wr = w1 ∧ commonFrom a.data.toList b.data.toList m n = T) (fun i _ => 128 - (intOf i).toNat)
      case atStart => exact ⟨0, 128, rfl, rfl, rfl, HT.out⟩
      case round =>
        obtain ⟨n, m, hn0, rfl, rfl, hc⟩ := hrel
        have hn : n ≤ 128 := by omega
        have HN := Lib.hid hn0
        clear hn0
        have HCO := Lib.hid hc
        clear hc
        by_cases hlt : n < 128
        · obtain ⟨m', rfl⟩ : ∃ m', m = m' + 1 := ⟨m - 1, by have := HN.out; omega⟩
          have hstep : commonFrom a.data.toList b.data.toList (m' + 1) n = if bitOf a.data.toList n = bitOf b.data.toList n then commonFrom a.data.toList b.data.toList m' (n + 1) else n := rfl
          have HST := Lib.hid hstep
          clear hstep
          obtain ⟨p, hp⟩ : ∃ p, bitOf a.data.toList n = p := ⟨_, rfl⟩
          obtain ⟨q, hq⟩ : ∃ q, bitOf b.data.toList n = q := ⟨_, rfl⟩
          have HP := Lib.hid hp
          have HQ := Lib.hid hq
          clear hp hq
          by_cases hpq : p = q
          · subst hpq
            go_wp2_with fail
            refine (bit_any a n _ ha hlt).mono ?_
            rintro e w2 ⟨rfl, rfl⟩
            rw [HP.out]
            go_wp2_with fail
            refine (bit_any b n _ hb hlt).mono ?_
            rintro e w3 ⟨rfl, rfl⟩
            rw [HQ.out]
            go_wp2
            go_roundw
            case rel =>
              refine ⟨n + 1, m', by have := HN.out; omega, by rw [Int.natCast_add]; rfl, ?_, ?_⟩
              · first | rfl | trivial
              · have h1 := HST.out; have h2 := HCO.out
                rw [HP.out, HQ.out, if_pos rfl] at h1
                rw [← h1, h2]
            case measure => simp [intOf]; omega
          · have hpi : ((p : Int) == (q : Int)) = false := by simp; omega
            go_wp2_with fail
            refine (bit_any a n _ ha hlt).mono ?_
            rintro e w2 ⟨rfl, rfl⟩
            rw [HP.out]
            go_wp2_with fail
            refine (bit_any b n _ hb hlt).mono ?_
            rintro e w3 ⟨rfl, rfl⟩
            rw [HQ.out]
            go_wp2
            refine bodyPost_ret (results_tmp2 rfl _ _ _) rfl ?_
            refine ⟨?_, rfl⟩
            have h1 := HST.out; have h2 := HCO.out
            rw [HP.out, HQ.out, if_neg hpq] at h1
            rw [← h2, h1]
            rfl
        · have hn8 : n = 128 := by omega
          have hm0 : m = 0 := by have := HN.out; omega
          subst hm0
          have h3 := Lib.hid (show n = T from HCO.out)
          subst hn8
          go_wp2
          refine bodyPost_ret (results_tmp2 rfl _ _ _) rfl ?_
          refine ⟨?_, rfl⟩
          rw [← h3.out]
          rfl
    · rw [if_neg (fun h => hb h.2)]
      have E1 := Lib.hid (show decide (a.size = 16) = true by simp [ha])
      have E2 := Lib.hid (show decide (b.size = 16) = false by simp [hb])
      clear ha hb
      go_enter Tryz.func82, Tryz.ntmps82
      go_wp2_with fail
      refine (ixIsMark_any _ _).mono ?_
      rintro e w1 ⟨rfl, rfl⟩
      rw [E1.out]
      go_wp2_with fail
      refine (ixIsMark_any _ _).mono ?_
      rintro e w1 ⟨rfl, rfl⟩
      rw [E2.out]
      go_wp2
      refine bodyPost_ret (results_tmp2 rfl _ _ _) rfl ?_
      exact ⟨rfl, rfl⟩
  · rw [if_neg (fun h => ha h.1)]
    have E1 := Lib.hid (show decide (a.size = 16) = false by simp [ha])
    clear ha
    go_enter Tryz.func82, Tryz.ntmps82
    go_wp2_with fail
    refine (ixIsMark_any _ _).mono ?_
    rintro e w1 ⟨rfl, rfl⟩
    rw [E1.out]
    go_wp2
    refine bodyPost_ret (results_tmp2 rfl _ _ _) rfl ?_
    exact ⟨rfl, rfl⟩
end Go.Proofs.YtcfpmofmjnhonaaGreatDoor
/- errors.As at a nil error, and at an api.Errno whose target is a *api.Errno (after the kit's worked example). -/
namespace Go.Proofs.YtcfpmofmjnhonaaGreatDoor
open Go.RowKit Go.Extern.Stop Go.Stop Go.Extern

/-- A type's handle. -/
noncomputable def hand0 : Nat := Tryz.prog.globals.size
noncomputable abbrev hand (t : Nat) : Value := .pointer (some ⟨hand0, t, none⟩)
theorem tValueOf (t : Addr) (w : World) : (ReflectliteValue.unpack (.iface 173 (.pointer (some t)))).run Tryz.prog w
    = .ok (.agg #[hand 173, .pointer (some ⟨w.heap.size, 0, none⟩), .int .u64 150]) (w.alloc (.cells #[.pointer (some t)] 173)) := by kernel_rfl
theorem tType (a : Addr) (w : World) : (ReflectliteValue.methodAny (ReflectliteValue.valueError "reflectlite.Value.Type" 0) (fun t _ _ _ => ReflectliteType.toType t) #[.agg #[hand 173, .pointer (some a), .int .u64 150]]).run Tryz.prog w
    = .ok (.iface 290 (.agg #[hand 173])) w := by kernel_rfl

theorem tKind (m k : Nat) (w : World) : (Go.method (m + 9) 290 (.agg #[hand k]) "Kind").run Tryz.prog w = .ok (275, hand k) w := by kernel_rfl
theorem tMethodElem (m : Nat) (h : Value) (w : World) : (Go.method (m + 9) 290 (.agg #[h]) "Elem").run Tryz.prog w = .ok (288, .agg #[h]) w := by kernel_rfl
theorem tMethodImplements (m : Nat) (h : Value) (w : World) : (Go.method (m + 9) 290 (.agg #[h]) "Implements").run Tryz.prog w = .ok (289, .agg #[h]) w := by kernel_rfl
theorem tMethodAssignable (m : Nat) (h : Value) (w : World) : (Go.method (m + 9) 290 (.agg #[h]) "AssignableTo").run Tryz.prog w = .ok (286, .agg #[h]) w := by kernel_rfl
theorem tKindPtr (w : World) : ((ReflectliteType.abiMethod fun t => (fun a : Nat => Value.int IntKind.u8 (a : Int)) <$> Rtype.kind t) #[hand 173]).run Tryz.prog w = .ok (.int .u8 22) w := by kernel_rfl
theorem tKindInt (w : World) : ((ReflectliteType.abiMethod fun t => (fun a : Nat => Value.int IntKind.u8 (a : Int)) <$> Rtype.kind t) #[hand 28]).run Tryz.prog w = .ok (.int .u8 2) w := by kernel_rfl
theorem rlm (z : Sem Value) (f : TypeId → Addr → Nat → Nat → Sem Value) (v : Value) :
    ReflectliteValue.method z f #[v] = (do match ← ReflectliteValue.parts v with | none => z | some (t, a, fl) => f t a fl (fl % 32)) := rfl
theorem tParts (a : Addr) (w : World) : (ReflectliteValue.parts (.agg #[hand 173, .pointer (some a), .int .u64 150])).run Tryz.prog w = .ok (some (173, a, 150)) w := by kernel_rfl
theorem tIsNil (a p : Addr) (W : World) (ha : W.cell? a = some (.pointer (some p))) :
    (ReflectliteValue.method (ReflectliteValue.valueError "reflectlite.Value.IsNil" 0) ReflectliteValue.isNil #[.agg #[hand 173, .pointer (some a), .int .u64 150]]).run Tryz.prog W = .ok (.bool false) W := by
  rw [rlm]
  simp only [Sem.run_bind, tParts, Result.andThen]
  simp [ReflectliteValue.isNil, loadVar, isAgg, underlying, Tryz.underlying173, ha, Result.andThen]
theorem tElem (w : World) : (ReflectliteType.method ReflectliteType.elem #[.agg #[hand 173]]).run Tryz.prog w = .ok (.iface 290 (.agg #[hand 28])) w := by kernel_rfl
theorem tImplements (w : World) : (ReflectliteType.relation "Implements" ReflectliteType.implements_ #[.agg #[hand 28], .iface 290 (.agg #[hand 33])]).run Tryz.prog w = .ok (.bool true) w := by kernel_rfl
theorem tTypeOf (v : Value) (w : World) : (ReflectliteType.typeOf #[.iface 28 v]).run Tryz.prog w = .ok (.iface 290 (.agg #[hand 28])) w := by kernel_rfl
theorem tAssignable (w : World) : (ReflectliteType.relation "AssignableTo" ReflectliteType.assignableTo #[.agg #[hand 28], .iface 290 (.agg #[hand 28])]).run Tryz.prog w = .ok (.bool true) w := by kernel_rfl
theorem tValueOfE (n : Int) (w : World) : (ReflectliteValue.unpack (.iface 28 (.int .i64 n))).run Tryz.prog w
    = .ok (.agg #[hand 28, .pointer (some ⟨w.heap.size, 0, none⟩), .int .u64 130]) (w.alloc (.cells #[.int .i64 n] 28)) := by kernel_rfl
theorem tElemOf (w : World) : (Rtype.elem? 173).run Tryz.prog w = .ok (some 28) w := by kernel_rfl
theorem tMk (p : Addr) (w : World) : (ReflectliteValue.mk 28 p ReflectliteValue.flagAddr).run Tryz.prog w = .ok (.agg #[hand 28, .pointer (some p), .int .u64 386]) w := by kernel_rfl
theorem tElemV (a p : Addr) (W : World) (ha : W.cell? a = some (.pointer (some p))) :
    (ReflectliteValue.method (ReflectliteValue.valueError "reflectlite.Value.Elem" 0) ReflectliteValue.elem #[.agg #[hand 173, .pointer (some a), .int .u64 150]]).run Tryz.prog W
      = .ok (.agg #[hand 28, .pointer (some p), .int .u64 386]) W := by
  rw [rlm]
  simp only [Sem.run_bind, tParts, Result.andThen]
  simp [ReflectliteValue.elem, loadVar, isAgg, underlying, Tryz.underlying173, ha, Result.andThen, tElemOf, tMk]

theorem rls (v x : Value) : ReflectliteValue.set #[v, x] = (do
    let (some (dst, a, fl), some (src, b, _)) := (← ReflectliteValue.parts v, ← ReflectliteValue.parts x)
      | unsupported (.noEntry "extern/(internal/reflectlite.Value).Set.zeroValue")
    if fl / ReflectliteValue.flagAddr % 2 == 0 then unsupported (.noEntry "extern/(internal/reflectlite.Value).Set.unaddressable")
    let val ← loadVar src b
    if ← Rtype.directlyAssignable dst src then storeVar dst a val
    else if ← Rtype.implements dst src then
      if (← Rtype.kind src) == 20 then
        match val with
        | .nilIface => unsupported (.noEntry "extern/reflectlite: a nil value of one interface type handed on as a value of another")
        | _ => storeVar dst a val
      else storeVar dst a (.iface src val)
    else panicString ("reflectlite.Set: value of type " ++ (← Rtype.spelt src) ++ " is not assignable to type " ++ (← Rtype.spelt dst))
    pure (.tuple #[])) := rfl
theorem tPartsA (a : Addr) (w : World) : (ReflectliteValue.parts (.agg #[hand 28, .pointer (some a), .int .u64 386])).run Tryz.prog w = .ok (some (28, a, 386)) w := by kernel_rfl
theorem tPartsB (a : Addr) (w : World) : (ReflectliteValue.parts (.agg #[hand 28, .pointer (some a), .int .u64 130])).run Tryz.prog w = .ok (some (28, a, 130)) w := by kernel_rfl
theorem tDirect (w : World) : (Rtype.directlyAssignable 28 28).run Tryz.prog w = .ok true w := by kernel_rfl
theorem tSet (ta b : Addr) (n : Int) (old : Value) (W : World) (hb : W.cell? b = some (.int .i64 n)) (ht : W.cell? ta = some old) (hf : W.frozen? ta = false) :
    (ReflectliteValue.set #[.agg #[hand 28, .pointer (some ta), .int .u64 386], .agg #[hand 28, .pointer (some b), .int .u64 130]]).run Tryz.prog W
      = .ok (.tuple #[]) (W.setCell ta (.int .i64 n)) := by
  rw [rls]
  simp only [Sem.run_bind, tPartsA, tPartsB, Result.andThen]
  simp [ReflectliteValue.flagAddr, loadVar, isAgg, underlying, Tryz.underlying28, hb, Result.andThen, tDirect, storeVar, Value.cells, storeCells, Addr.add]
  rw [run_store Tryz.prog W ta _ _ (by rfl)]
  simp [ht, hf]

set_option maxRecDepth 100000 in
set_option maxHeartbeats 4000000 in
theorem as_hit (n : Int) (t : Addr) (old : Value) (w : World) (hg : w.cell? ⟨0, 0, none⟩ = some (.iface 290 (.agg #[hand 33]))) (ht0 : w.cell? t = some old) (hf0 : w.frozen? t = false) :
    Calls Tryz.prog 83 #[.iface 28 (.int .i64 n), .iface 173 (.pointer (some t))] w fun ev w' => ev = .returned (.bool true) ∧ ∃ o1 o2 o3 o4, w' = ((((w.alloc o1).alloc o2).alloc o3).alloc o4).setCell t (.int .i64 n) := by
  have h42 := @run_callFunc_extern Tryz.prog 133 _ (fun args => ReflectliteValue.unpack (args.getD 0 (.tuple #[]))) Tryz.func133 (by kernel_rfl) (by kernel_rfl) (by kernel_rfl) (by kernel_rfl)
  have h43 := @run_callFunc_extern Tryz.prog 134 _ (ReflectliteValue.methodAny (ReflectliteValue.valueError "reflectlite.Value.Type" 0) (fun t _ _ _ => ReflectliteType.toType t)) Tryz.func134 (by kernel_rfl) (by kernel_rfl) (by kernel_rfl) (by kernel_rfl)
  have h44 := @run_callFunc_extern Tryz.prog 135 _ (ReflectliteValue.method (ReflectliteValue.valueError "reflectlite.Value.IsNil" 0) ReflectliteValue.isNil) Tryz.func135 (by kernel_rfl) (by kernel_rfl) (by kernel_rfl) (by kernel_rfl)
  have hKi := @run_callFunc_extern Tryz.prog 275 _ (ReflectliteType.abiMethod fun t => do pure (.int .u8 (← Rtype.kind t))) Tryz.func275 (by kernel_rfl) (by kernel_rfl) (by kernel_rfl) (by kernel_rfl)
  have hEl := @run_callFunc_extern Tryz.prog 288 _ (ReflectliteType.method ReflectliteType.elem) Tryz.func288 (by kernel_rfl) (by kernel_rfl) (by kernel_rfl) (by kernel_rfl)
  have hIm := @run_callFunc_extern Tryz.prog 289 _ (ReflectliteType.relation "Implements" ReflectliteType.implements_) Tryz.func289 (by kernel_rfl) (by kernel_rfl) (by kernel_rfl) (by kernel_rfl)
  have hTo := @run_callFunc_extern Tryz.prog 184 _ ReflectliteType.typeOf Tryz.func184 (by kernel_rfl) (by kernel_rfl) (by kernel_rfl) (by kernel_rfl)
  have hAs := @run_callFunc_extern Tryz.prog 286 _ (ReflectliteType.relation "AssignableTo" ReflectliteType.assignableTo) Tryz.func286 (by kernel_rfl) (by kernel_rfl) (by kernel_rfl) (by kernel_rfl)
  have hVE := @run_callFunc_extern Tryz.prog 185 _ (ReflectliteValue.method (ReflectliteValue.valueError "reflectlite.Value.Elem" 0) ReflectliteValue.elem) Tryz.func185 (by kernel_rfl) (by kernel_rfl) (by kernel_rfl) (by kernel_rfl)
  have hSe := @run_callFunc_extern Tryz.prog 186 _ ReflectliteValue.set Tryz.func186 (by kernel_rfl) (by kernel_rfl) (by kernel_rfl) (by kernel_rfl)
  have f1 := tValueOf
  have f2 := tType
  have f3 := tKind
  have f4 := tMethodElem
  have f5 := tMethodImplements
  have f6 := tMethodAssignable
  have f7 := tKindPtr
  have f8 := tKindInt
  have f9 := tElem
  have f10 := tImplements
  have f11 := tTypeOf
  have f12 := tAssignable
  have f13 := tValueOfE
  have hN : ∀ W : World, W.cell? ⟨w.heap.size, 0, none⟩ = some (.pointer (some t)) → (ReflectliteValue.method (ReflectliteValue.valueError "reflectlite.Value.IsNil" 0) ReflectliteValue.isNil #[.agg #[hand 173, .pointer (some ⟨w.heap.size, 0, none⟩), .int .u64 150]]).run Tryz.prog W = .ok (.bool false) W := fun W h => tIsNil _ t W h
  have hE : ∀ o2 o3, (ReflectliteValue.method (ReflectliteValue.valueError "reflectlite.Value.Elem" 0) ReflectliteValue.elem #[.agg #[hand 173, .pointer (some ⟨w.heap.size, 0, none⟩), .int .u64 150]]).run Tryz.prog (((w.alloc (.cells #[.pointer (some t)] 173)).alloc o2).alloc o3) = .ok (.agg #[hand 28, .pointer (some t), .int .u64 386]) (((w.alloc (.cells #[.pointer (some t)] 173)).alloc o2).alloc o3) := fun o2 o3 => tElemV ⟨w.heap.size, 0, none⟩ t _ (by
    rw [World.cell?_alloc_lt _ _ ⟨w.heap.size, 0, none⟩ (by simp <;> omega), World.cell?_alloc_lt _ _ ⟨w.heap.size, 0, none⟩ (by simp)]; simp)
  have hgl : (0 : Nat) < w.heap.size := block_lt_of_cell hg
  have htl : t.block < w.heap.size := block_lt_of_cell ht0
  have hg2 : ∀ o1 o2, ((w.alloc o1).alloc o2).cell? ⟨0, 0, none⟩ = some (.iface 290 (.agg #[hand 33])) := fun o1 o2 => by
    rw [World.cell?_alloc_lt _ _ ⟨0, 0, none⟩ (by simp <;> omega), World.cell?_alloc_lt _ _ ⟨0, 0, none⟩ hgl]; exact hg
  have hS : ∀ o1 o2 o3, (ReflectliteValue.set #[.agg #[hand 28, .pointer (some t), .int .u64 386], .agg #[hand 28, .pointer (some ⟨w.heap.size + 1 + 1 + 1, 0, none⟩), .int .u64 130]]).run Tryz.prog ((((w.alloc o1).alloc o2).alloc o3).alloc (.cells #[.int .i64 n] 28))
      = .ok (.tuple #[]) (((((w.alloc o1).alloc o2).alloc o3).alloc (.cells #[.int .i64 n] 28)).setCell t (.int .i64 n)) := fun o1 o2 o3 => tSet t ⟨w.heap.size + 1 + 1 + 1, 0, none⟩ n old _
    (by rw [World.cell?_alloc_at _ _ _ _ (by simp)]; rfl)
    (by rw [World.cell?_alloc_lt _ _ t (by simp <;> omega), World.cell?_alloc_lt _ _ t (by simp <;> omega), World.cell?_alloc_lt _ _ t (by simp <;> omega), World.cell?_alloc_lt _ _ t htl]; exact ht0)
    (by rw [World.frozen?_alloc_old _ _ t (by simp <;> omega), World.frozen?_alloc_old _ _ t (by simp <;> omega), World.frozen?_alloc_old _ _ t (by simp <;> omega), World.frozen?_alloc_old _ _ t (Nat.ne_of_lt htl)]; exact hf0)
  go_enter Tryz.func83, Tryz.ntmps83
  go_wp2
  refine wp_loop_rounds 1 ?_
  rw [rounds_succ]
  go_wp2
  go_ret
  exact ⟨rfl, _, _, _, _, rfl⟩

end Go.Proofs.YtcfpmofmjnhonaaGreatDoor
/- api.Tell, plain.Place: errors taken apart (nil, and a bare api.Errno). -/
namespace Go.Proofs.YtcfpmofmjnhonaaGreatDoor
open Go.RowKit

theorem tell_errno (n : Int) (w : World) (hg : w.cell? ⟨0, 0, none⟩ = some (.iface 290 (.agg #[hand 33]))) :
    Calls Tryz.prog 31 #[.iface 28 (.int .i64 n)] w fun e w' => e = .returned (.int .i64 n) ∧ Below w.heap.size w w' := by
  have hgl : (0 : Nat) < w.heap.size := block_lt_of_cell hg
  have hg1 : (w.alloc (.cells #[.int .i64 0] 28)).cell? ⟨0, 0, none⟩ = some (.iface 290 (.agg #[hand 33])) := by
    rw [World.cell?_alloc_lt _ _ ⟨0, 0, none⟩ hgl]; exact hg
  have HG := Lib.hid hg1
  clear hg hg1
  go_enter Tryz.func31, Tryz.ntmps31
  go_wp2_with fail
  refine (as_hit n ⟨w.heap.size, 0, none⟩ (.int .i64 0) _ HG.out (by simp) (by simp)).mono ?_
  rintro e w' ⟨rfl, o1, o2, o3, o4, rfl⟩
  go_wp2
  go_ret
  refine ⟨rfl, ?_⟩
  exact (((((Below.refl w.heap.size w).alloc (Nat.le_refl _) _).alloc (by simp) _).alloc (by simp; omega) _).alloc (by simp; omega) _).alloc (by simp; omega) _
end Go.Proofs.YtcfpmofmjnhonaaGreatDoor
