/- Parts of the proof, one behind the other: New, Index, Index2, As, TellErr, Of, LaterR. -/
import Derived.Test.YtpoibacokdjplaaGreatDoorM12
import Derived.Test.YtpoibacokdjplaaGreatDoorM10
import Derived.Test.YtpoibacokdjplaaGreatDoorM2
import Derived.Test.YtpoibacokdjplaaGreatDoorProg
import Derived.WalkKit
import Derived.LaidEql
import Derived.Stop.Asserts
import Derived.RowKitTokens
import Derived.Test.YtpoibacokdjplaaGreatDoorM1
import Derived.Test.YtpoibacokdjplaaGreatDoorM9
import Derived.BigQuiet
/- The document's numbers of rounds: New. -/
namespace Go.Proofs.YtpoibacokdjplaaGreatDoor
open Go.RowKit

def partR (i j : Nat) : Value := if j < 8 then (if j < i then .int .u32 (W32 (iv j)) else .int .u32 0) else if j - 8 < i then .int .u32 (W32 (kOf (j - 8))) else .int .u32 0
theorem zeroR (w : World) : (zeroValue 60).run Tryz.prog w = .ok (.agg (arr 72 fun _ => .int .u32 0)) w := by kernel_rfl
structure NewRel (N : Nat) (w wr : World) (v : Value) (i : Nat) : Prop where
  below : Below N w wr
  own : Holds wr N 72 (partR i) 60
  row : Row wr (N + 1) 1 v 64 (i64s (pl 310))

set_option maxRecDepth 100000 in
theorem new_any (w : World) :
    Calls Tryz.prog 6 #[] w fun e w' => ∃ b, e = .returned (.pointer (some ⟨b, 0, none⟩)) ∧ w.heap.size ≤ b ∧ Below w.heap.size w w' ∧ Holds w' b 72 refCells 60 := by
  go_enter Tryz.func6, Tryz.ntmps6
  have hzR := zeroR
  go_wp2_with (go_at_call 26; refine (primes_any _).mono ?_; rintro e w1 ⟨v1, rfl, hb1, hr1⟩; obtain ⟨q, cap, rfl⟩ := hr1.any; have HB1 := Lib.hid hb1; have HR1 := Lib.hid hr1; clear hb1 hr1)
  clear hzR
  go_loopw [8] (fun i wr => ∃ n : Nat, n ≤ 64 ∧ i = .int .i64 (n : Int) ∧ NewRel w.heap.size w wr (.slice q 64 cap) n) (fun i _ => 64 - (intOf i).toNat)
  case atStart =>
    refine ⟨0, by omega, rfl, ?_, ?_, ?_⟩
    · exact ((Below.refl _ _).alloc (Nat.le_refl _) _).trans (HB1.out.mono (by simp))
    · refine ((Holds.new w 72 (fun _ => .int .u32 0) 60).below HB1.out (by simp)).congr fun j hj => ?_
      unfold partR; split <;> rw [if_neg (by omega)]
    · have h := HR1.out; simpa using h
  case round =>
    obtain ⟨n, hn, rfl, hr⟩ := hrel
    have HR := Lib.hid hr
    clear hr
    by_cases hlt : n < 64
    · obtain ⟨g, cap', hv, hg1, hg2, _, hcell, _⟩ := HR.out.row.shape (by omega)
      injection hv with e1 e2 e3
      subst e1
      have hc := hcell n _ (i64s_get (pl 310) n (by rw [pl_310]; exact hlt))
      have hp := pl_pos 310 n (by rw [pl_310]; exact hlt)
      have hkv := k_val n hlt
      have hlow := h_val n
      clear hcell e3
      generalize (pl 310).getD n 0 = p at hc hp hkv hlow
      have HK := Lib.hid hkv
      have HL := Lib.hid hlow
      have hN : w.heap.size < wr.heap.size := HR.out.own.lt
      clear hkv hlow
      by_cases h8 : n < 8
      · go_wp2
        refine wp_region_head_tail (fun w' => ∃ z : Later wr.heap.size wr, w' = z.at') 8 (by kernel_rfl) (by kernel_rfl) ⟨⟨wr.drew, (Below.refl _ _).drew⟩, rfl⟩ ?_
        simp only [List.take_succ_cons, List.take_zero, List.drop_succ_cons, List.drop_zero]
        repeat (first | go_big_quiet_step ((go_at_call 27; refine later_of (root_any p 3 _ (by decide)))) | quiet_step ((go_at_call 27; refine later_of (root_any p 3 _ (by decide)))))
        refine wpQuiet_nil ?_
        rintro w4 ⟨⟨w4, hb4⟩, rfl⟩
        have hown4 := HR.out.own.below hb4 hN
        have hcell4 := hown4.cell (8 + n) (by omega)
        have hfree4 := hown4.free (8 + n)
        rw [show partR n (8 + n) = .int .u32 0 by unfold partR; rw [if_neg (by omega), if_neg (by omega)]] at hcell4
        have HOWN4 := Lib.hid hown4
        have HB4 := Lib.hid hb4
        clear hown4 hb4
        go_wp2
        have hN5 : w.heap.size < (w4.setCell ⟨w.heap.size, 8 + n, none⟩ (.int .u32 ((rootL p 3 : Nat) : Int))).heap.size := by have := HB4.out.size; simp [World.setCell]; omega
        have hown5 := HOWN4.out.set (8 + n) (.int .u32 ((rootL p 3 : Nat) : Int))
        have hb5 : Below w.heap.size w (w4.setCell ⟨w.heap.size, 8 + n, none⟩ (.int .u32 ((rootL p 3 : Nat) : Int))) := (HR.out.below.trans (HB4.out.mono (Nat.le_of_lt hN))).setCell (Nat.le_refl _) _
        have hrow5 : Row (w4.setCell ⟨w.heap.size, 8 + n, none⟩ (.int .u32 ((rootL p 3 : Nat) : Int))) (w.heap.size + 1) 1 (.slice (some ⟨g, 0, none⟩) 64 cap) 64 (i64s (pl 310)) := (HR.out.row.belowAll HB4.out).setOther (HR.out.row.fresh (Nat.lt_succ_self _)) _
        have HOWN5 := Lib.hid hown5
        have HB5 := Lib.hid hb5
        have HROW5 := Lib.hid hrow5
        clear hown5 hb5 hrow5 hcell4 hfree4
        generalize hw5 : w4.setCell ⟨w.heap.size, 8 + n, none⟩ (.int .u32 ((rootL p 3 : Nat) : Int)) = w5 at HOWN5 HB5 HROW5 hN5
        clear hw5
        refine wp_region_head_tail (fun w' => ∃ z : Later w5.heap.size w5, w' = z.at') 8 (by kernel_rfl) (by kernel_rfl) ⟨⟨w5.drew, (Below.refl _ _).drew⟩, rfl⟩ ?_
        simp only [List.take_succ_cons, List.take_zero, List.drop_succ_cons, List.drop_zero]
        repeat (first | go_big_quiet_step ((go_at_call 27; refine later_of (root_any p 2 _ (by decide)))) | quiet_step ((go_at_call 27; refine later_of (root_any p 2 _ (by decide)))))
        refine wpQuiet_nil ?_
        rintro w6 ⟨⟨w6, hb6⟩, rfl⟩
        have hown6 := HOWN5.out.below hb6 hN5
        have hcell6 := hown6.cell n (by omega)
        have hfree6 := hown6.free n
        rw [show upd (partR n) (8 + n) (.int .u32 ((rootL p 3 : Nat) : Int)) n = .int .u32 0 by unfold upd partR; rw [if_neg (by omega), if_pos (by omega), if_neg (by omega)]] at hcell6
        have HOWN6 := Lib.hid hown6
        have HB6 := Lib.hid hb6
        clear hown6 hb6
        go_wp2
        go_roundw
        case rel =>
          refine ⟨n + 1, by omega, by go_num, ?_, ?_, ?_⟩
          · exact (HB5.out.trans (HB6.out.mono (Nat.le_of_lt hN5))).setCell (Nat.le_refl _) _
          · refine (HOWN6.out.set n _).congr fun j hj => ?_
            rw [HK.out, HL.out h8]
            unfold upd partR
            by_cases hj8 : j < 8
            · rw [if_pos hj8, if_pos hj8]
              by_cases hjn : j = n
              · subst hjn; rw [if_pos rfl, if_pos (by omega)]
              · rw [if_neg hjn, if_neg (by omega)]
                by_cases hjl : j < n
                · rw [if_pos hjl, if_pos (by omega)]
                · rw [if_neg hjl, if_neg (by omega)]
            · rw [if_neg (by omega), if_neg hj8, if_neg hj8]
              by_cases hjn : j = 8 + n
              · subst hjn; rw [if_pos rfl, if_pos (by omega), show 8 + n - 8 = n by omega]
              · rw [if_neg hjn]
                by_cases hjl : j - 8 < n
                · rw [if_pos hjl, if_pos (by omega)]
                · rw [if_neg hjl, if_neg (by omega)]
          · exact (HROW5.out.belowAll HB6.out).setOther (HROW5.out.fresh (Nat.lt_succ_self _)) _
        case measure => simp [intOf]; omega
      · go_wp2
        refine wp_region_head_tail (fun w' => ∃ z : Later wr.heap.size wr, w' = z.at') 8 (by kernel_rfl) (by kernel_rfl) ⟨⟨wr.drew, (Below.refl _ _).drew⟩, rfl⟩ ?_
        simp only [List.take_succ_cons, List.take_zero, List.drop_succ_cons, List.drop_zero]
        repeat (first | go_big_quiet_step ((go_at_call 27; refine later_of (root_any p 3 _ (by decide)))) | quiet_step ((go_at_call 27; refine later_of (root_any p 3 _ (by decide)))))
        refine wpQuiet_nil ?_
        rintro w4 ⟨⟨w4, hb4⟩, rfl⟩
        have hown4 := HR.out.own.below hb4 hN
        have hcell4 := hown4.cell (8 + n) (by omega)
        have hfree4 := hown4.free (8 + n)
        rw [show partR n (8 + n) = .int .u32 0 by unfold partR; rw [if_neg (by omega), if_neg (by omega)]] at hcell4
        have HOWN4 := Lib.hid hown4
        have HB4 := Lib.hid hb4
        clear hown4 hb4
        go_wp2
        go_roundw
        case rel =>
          refine ⟨n + 1, by omega, by go_num, ?_, ?_, ?_⟩
          · exact (HR.out.below.trans (HB4.out.mono (Nat.le_of_lt hN))).setCell (Nat.le_refl _) _
          · refine (HOWN4.out.set (8 + n) _).congr fun j hj => ?_
            rw [HK.out]
            unfold upd partR
            by_cases hj8 : j < 8
            · rw [if_neg (by omega), if_pos hj8, if_pos hj8, if_pos (by omega), if_pos (by omega)]
            · rw [if_neg hj8, if_neg hj8]
              by_cases hjn : j = 8 + n
              · subst hjn; rw [if_pos rfl, if_pos (by omega), show 8 + n - 8 = n by omega]
              · rw [if_neg hjn]
                by_cases hjl : j - 8 < n
                · rw [if_pos hjl, if_pos (by omega)]
                · rw [if_neg hjl, if_neg (by omega)]
          · exact (HR.out.row.belowAll HB4.out).setOther (HR.out.row.fresh (Nat.lt_succ_self _)) _
        case measure => simp [intOf]; omega
    · have h64 : n = 64 := by omega
      have H64 := Lib.hid h64
      clear h64
      go_wp2
      go_ret
      refine ⟨w.heap.size, rfl, Nat.le_refl _, HR.out.below, HR.out.own.congr fun j hj => ?_⟩
      have := H64.out
      unfold partR refCells
      by_cases hj8 : j < 8
      · rw [if_pos hj8, if_pos hj8, if_pos (by omega)]
      · rw [if_neg hj8, if_neg hj8, if_pos (by omega)]
end Go.Proofs.YtpoibacokdjplaaGreatDoor
/- The program's names and indexes: isLetter, isDigit, isMark, bit, Name, Bit. -/
namespace Go.Proofs.YtpoibacokdjplaaGreatDoor
open Go.RowKit

theorem and_one (X : Nat) (h : X < 256) : bits BinOp.and IntKind.i64 (wrap64 (X : Int)) 1 = ((X % 2 : Nat) : Int) := by
  have hall : ∀ x : Fin 256, bits BinOp.and IntKind.i64 (wrap64 ((x.val : Nat) : Int)) 1 = ((x.val % 2 : Nat) : Int) := by decide +kernel
  exact hall ⟨X, h⟩
def letterB (c : Nat) : Bool := decide (97 ≤ c ∧ c ≤ 122)
def digitB (c : Nat) : Bool := decide (48 ≤ c ∧ c ≤ 57)
theorem ixIsMark_any (s : ByteArray) (w : World) : Calls Tryz.prog 67 #[.string s] w fun e w' => e = .returned (.bool (decide (s.size = 16))) ∧ w' = w := by
  by_cases h : s.size = 16
  · go_enter Tryz.func67, Tryz.ntmps67
    go_wp2
    go_ret
    exact ⟨by simp [h], rfl⟩
  · go_enter Tryz.func67, Tryz.ntmps67
    go_wp2
    go_ret
    refine ⟨?_, rfl⟩
    simp [h]; omega
set_option maxRecDepth 100000 in
theorem bit_any (ix : ByteArray) (k : Nat) (w : World) (h16 : ix.size = 16) (hk : k < 128) :
    Calls Tryz.prog 68 #[.string ix, .int .i64 (k : Int)] w fun e w' => e = .returned (.int .i64 ((bitOf ix.data.toList k : Nat) : Int)) ∧ w' = w := by
  have hlt : k / 8 < ix.size := by omega
  obtain ⟨B, hB⟩ : ∃ B : Nat, ix[k / 8].toNat = B := ⟨_, rfl⟩
  have hB2 : B < 256 := by rw [← hB]; exact ix[k / 8].toNat_lt
  obtain ⟨D, hD⟩ : ∃ D : Nat, 7 - k % 8 = D := ⟨_, rfl⟩
  have hDi : 7 - (k : Int) % 8 = (D : Int) := by omega
  have hD7 : D < 8 := by omega
  have hbit : bitOf ix.data.toList k = B / 2 ^ D % 2 := by
    unfold bitOf
    rw [hD, ← hB]
    congr 3
    rw [List.getD_eq_getElem?_getD, List.getElem?_eq_getElem (by rw [Array.length_toList]; exact hlt)]; rfl
  have HBIT := Lib.hid hbit
  clear hbit hD
  go_enter Tryz.func68, Tryz.ntmps68
  go_wp2
  go_ret
  refine ⟨?_, rfl⟩
  show Ending.returned (Value.int IntKind.i64 (bits BinOp.and IntKind.i64 (wrap64 ((B : Int) / 2 ^ D)) 1)) = _
  rw [HBIT.out, show ((B : Int) / 2 ^ D) = ((B / 2 ^ D : Nat) : Int) by rw [Int.natCast_ediv, Int.natCast_pow]; rfl, and_one _ (Nat.lt_of_le_of_lt (Nat.div_le_self _ _) hB2)]
end Go.Proofs.YtpoibacokdjplaaGreatDoor
/- The program's Name, Bit and Common. -/
namespace Go.Proofs.YtpoibacokdjplaaGreatDoor
open Go.RowKit

theorem goodAt_is (l : List UInt8) (i : Nat) : goodAt l i = (letterB (l.getD i 0).toNat || (decide (i ≠ 0) && digitB (l.getD i 0).toNat)) := rfl
/-- The program's error of this number, or none. -/
def errOf (n : Int) : Value := if n = 0 then .nilIface else .iface 32 (.int .i64 n)
set_option maxRecDepth 100000 in
theorem ixBit_any (ix : ByteArray) (k : Int) (w : World) :
    Calls Tryz.prog 55 #[.string ix, .int .i64 k] w fun e w' => e = .returned (.tuple (if ix.size = 16 then (if 0 ≤ k ∧ k ≤ 127 then #[.int .i64 ((bitOf ix.data.toList k.toNat : Nat) : Int), .nilIface] else #[.int .i64 0, .iface 32 (.int .i64 2)]) else #[.int .i64 0, .iface 32 (.int .i64 1)])) ∧ w' = w := by
  by_cases h16 : ix.size = 16
  · rw [if_pos h16]
    have E1 := Lib.hid (show decide (ix.size = 16) = true by simp [h16])
    by_cases hk : 0 ≤ k ∧ k ≤ 127
    · rw [if_pos hk]
      obtain ⟨m, rfl⟩ : ∃ m : Nat, k = (m : Int) := ⟨k.toNat, by omega⟩
      have hm : m < 128 := by omega
      rw [Int.toNat_natCast]
      clear hk
      go_enter Tryz.func55, Tryz.ntmps55
      go_wp2_with fail
      refine (ixIsMark_any _ _).mono ?_
      rintro e w1 ⟨rfl, rfl⟩
      rw [E1.out]
      go_wp2_with fail
      refine (bit_any ix m _ h16 hm).mono ?_
      rintro e w1 ⟨rfl, rfl⟩
      go_wp2
      refine bodyPost_ret (results_tmp2 rfl _ _ _) rfl ?_
      exact ⟨rfl, rfl⟩
    · rw [if_neg hk]
      by_cases hk0 : k < 0
      · clear hk
        go_enter Tryz.func55, Tryz.ntmps55
        go_wp2_with fail
        refine (ixIsMark_any _ _).mono ?_
        rintro e w1 ⟨rfl, rfl⟩
        rw [E1.out]
        go_wp2
        refine bodyPost_ret (results_tmp2 rfl _ _ _) rfl ?_
        exact ⟨rfl, rfl⟩
      · have hk1 : 0 ≤ k := by omega
        have hk2 : 128 ≤ k := by omega
        clear hk hk0
        go_enter Tryz.func55, Tryz.ntmps55
        go_wp2_with fail
        refine (ixIsMark_any _ _).mono ?_
        rintro e w1 ⟨rfl, rfl⟩
        rw [E1.out]
        go_wp2
        refine bodyPost_ret (results_tmp2 rfl _ _ _) rfl ?_
        exact ⟨rfl, rfl⟩
  · rw [if_neg h16]
    have E1 := Lib.hid (show decide (ix.size = 16) = false by simp [h16])
    clear h16
    go_enter Tryz.func55, Tryz.ntmps55
    go_wp2_with fail
    refine (ixIsMark_any _ _).mono ?_
    rintro e w1 ⟨rfl, rfl⟩
    rw [E1.out]
    go_wp2
    refine bodyPost_ret (results_tmp2 rfl _ _ _) rfl ?_
    exact ⟨rfl, rfl⟩
end Go.Proofs.YtpoibacokdjplaaGreatDoor
/- errors.As at a nil error, and at an api.Errno whose target is a *api.Errno (after the kit's worked example). -/
namespace Go.Proofs.YtpoibacokdjplaaGreatDoor
open Go.RowKit Go.Extern.Stop Go.Stop Go.Extern

/-- A type's handle. -/
noncomputable def hand0 : Nat := Tryz.prog.globals.size
noncomputable abbrev hand (t : Nat) : Value := .pointer (some ⟨hand0, t, none⟩)
theorem tValueOf (t : Addr) (w : World) : (ReflectliteValue.unpack (.iface 120 (.pointer (some t)))).run Tryz.prog w
    = .ok (.agg #[hand 120, .pointer (some ⟨w.heap.size, 0, none⟩), .int .u64 150]) (w.alloc (.cells #[.pointer (some t)] 120)) := by kernel_rfl
theorem tType (a : Addr) (w : World) : (ReflectliteValue.methodAny (ReflectliteValue.valueError "reflectlite.Value.Type" 0) (fun t _ _ _ => ReflectliteType.toType t) #[.agg #[hand 120, .pointer (some a), .int .u64 150]]).run Tryz.prog w
    = .ok (.iface 122 (.agg #[hand 120])) w := by kernel_rfl

theorem tKind (m k : Nat) (w : World) : (Go.method (m + 9) 122 (.agg #[hand k]) "Kind").run Tryz.prog w = .ok (117, hand k) w := by kernel_rfl
theorem tMethodElem (m : Nat) (h : Value) (w : World) : (Go.method (m + 9) 122 (.agg #[h]) "Elem").run Tryz.prog w = .ok (126, .agg #[h]) w := by kernel_rfl
theorem tMethodImplements (m : Nat) (h : Value) (w : World) : (Go.method (m + 9) 122 (.agg #[h]) "Implements").run Tryz.prog w = .ok (127, .agg #[h]) w := by kernel_rfl
theorem tMethodAssignable (m : Nat) (h : Value) (w : World) : (Go.method (m + 9) 122 (.agg #[h]) "AssignableTo").run Tryz.prog w = .ok (125, .agg #[h]) w := by kernel_rfl
theorem tKindPtr (w : World) : ((ReflectliteType.abiMethod fun t => (fun a : Nat => Value.int IntKind.u8 (a : Int)) <$> Rtype.kind t) #[hand 120]).run Tryz.prog w = .ok (.int .u8 22) w := by kernel_rfl
theorem tKindInt (w : World) : ((ReflectliteType.abiMethod fun t => (fun a : Nat => Value.int IntKind.u8 (a : Int)) <$> Rtype.kind t) #[hand 32]).run Tryz.prog w = .ok (.int .u8 2) w := by kernel_rfl
theorem rlm (z : Sem Value) (f : TypeId → Addr → Nat → Nat → Sem Value) (v : Value) :
    ReflectliteValue.method z f #[v] = (do match ← ReflectliteValue.parts v with | none => z | some (t, a, fl) => f t a fl (fl % 32)) := rfl
theorem tParts (a : Addr) (w : World) : (ReflectliteValue.parts (.agg #[hand 120, .pointer (some a), .int .u64 150])).run Tryz.prog w = .ok (some (120, a, 150)) w := by kernel_rfl
theorem tIsNil (a p : Addr) (W : World) (ha : W.cell? a = some (.pointer (some p))) :
    (ReflectliteValue.method (ReflectliteValue.valueError "reflectlite.Value.IsNil" 0) ReflectliteValue.isNil #[.agg #[hand 120, .pointer (some a), .int .u64 150]]).run Tryz.prog W = .ok (.bool false) W := by
  rw [rlm]
  simp only [Sem.run_bind, tParts, Result.andThen]
  simp [ReflectliteValue.isNil, loadVar, isAgg, underlying, Tryz.underlying120, ha, Result.andThen]
theorem tElem (w : World) : (ReflectliteType.method ReflectliteType.elem #[.agg #[hand 120]]).run Tryz.prog w = .ok (.iface 122 (.agg #[hand 32])) w := by kernel_rfl
theorem tImplements (w : World) : (ReflectliteType.relation "Implements" ReflectliteType.implements_ #[.agg #[hand 32], .iface 122 (.agg #[hand 36])]).run Tryz.prog w = .ok (.bool true) w := by kernel_rfl
theorem tTypeOf (v : Value) (w : World) : (ReflectliteType.typeOf #[.iface 32 v]).run Tryz.prog w = .ok (.iface 122 (.agg #[hand 32])) w := by kernel_rfl
theorem tAssignable (w : World) : (ReflectliteType.relation "AssignableTo" ReflectliteType.assignableTo #[.agg #[hand 32], .iface 122 (.agg #[hand 32])]).run Tryz.prog w = .ok (.bool true) w := by kernel_rfl
theorem tValueOfE (n : Int) (w : World) : (ReflectliteValue.unpack (.iface 32 (.int .i64 n))).run Tryz.prog w
    = .ok (.agg #[hand 32, .pointer (some ⟨w.heap.size, 0, none⟩), .int .u64 130]) (w.alloc (.cells #[.int .i64 n] 32)) := by kernel_rfl
theorem tElemOf (w : World) : (Rtype.elem? 120).run Tryz.prog w = .ok (some 32) w := by kernel_rfl
theorem tMk (p : Addr) (w : World) : (ReflectliteValue.mk 32 p ReflectliteValue.flagAddr).run Tryz.prog w = .ok (.agg #[hand 32, .pointer (some p), .int .u64 386]) w := by kernel_rfl
theorem tElemV (a p : Addr) (W : World) (ha : W.cell? a = some (.pointer (some p))) :
    (ReflectliteValue.method (ReflectliteValue.valueError "reflectlite.Value.Elem" 0) ReflectliteValue.elem #[.agg #[hand 120, .pointer (some a), .int .u64 150]]).run Tryz.prog W
      = .ok (.agg #[hand 32, .pointer (some p), .int .u64 386]) W := by
  rw [rlm]
  simp only [Sem.run_bind, tParts, Result.andThen]
  simp [ReflectliteValue.elem, loadVar, isAgg, underlying, Tryz.underlying120, ha, Result.andThen, tElemOf, tMk]

theorem rls (v x : Value) : ReflectliteValue.set #[v, x] = (do
    let (some (dst, a, fl), some (src, b, _)) := (← ReflectliteValue.parts v, ← ReflectliteValue.parts x)
      | unsupported (.noEntry "extern/(internal/reflectlite.Value).Set.zeroValue")
    if fl / ReflectliteValue.flagAddr % 2 == 0 then unsupported (.noEntry "extern/(internal/reflectlite.Value).Set.unaddressable")
    let val ← loadVar src b
    if ← Rtype.directlyAssignable dst src then storeVar dst a val
    else if ← Rtype.implements dst src then
      if (← Rtype.kind src) == 20 then
        match val with
        | .nilIface => unsupported (.noEntry "extern/reflectlite: a nil value of one interface type handed on as a value of another")
        | _ => storeVar dst a val
      else storeVar dst a (.iface src val)
    else panicString ("reflectlite.Set: value of type " ++ (← Rtype.spelt src) ++ " is not assignable to type " ++ (← Rtype.spelt dst))
    pure (.tuple #[])) := rfl
theorem tPartsA (a : Addr) (w : World) : (ReflectliteValue.parts (.agg #[hand 32, .pointer (some a), .int .u64 386])).run Tryz.prog w = .ok (some (32, a, 386)) w := by kernel_rfl
theorem tPartsB (a : Addr) (w : World) : (ReflectliteValue.parts (.agg #[hand 32, .pointer (some a), .int .u64 130])).run Tryz.prog w = .ok (some (32, a, 130)) w := by kernel_rfl
theorem tDirect (w : World) : (Rtype.directlyAssignable 32 32).run Tryz.prog w = .ok true w := by kernel_rfl
theorem tSize (w : World) : (sizeOf 32).run Tryz.prog w = .ok 1 w := by kernel_rfl
theorem tSet (ta b : Addr) (n : Int) (old : Value) (W : World) (hb : W.cell? b = some (.int .i64 n)) (ht : W.cell? ta = some old) (hf : W.frozen? ta = false) :
    (ReflectliteValue.set #[.agg #[hand 32, .pointer (some ta), .int .u64 386], .agg #[hand 32, .pointer (some b), .int .u64 130]]).run Tryz.prog W
      = .ok (.tuple #[]) (W.setCell ta (.int .i64 n)) := by
  rw [rls]
  simp only [Sem.run_bind, tPartsA, tPartsB, Result.andThen]
  simp [ReflectliteValue.flagAddr, loadVar, isAgg, underlying, Tryz.underlying32, hb, Result.andThen, tDirect, storeVar, Value.cells, storeCells, Addr.add]
  rw [run_store Tryz.prog W ta _ _ (by rfl)]
  simp [ht, hf]

set_option maxRecDepth 100000 in
set_option maxHeartbeats 4000000 in
theorem as_hit (n : Int) (t : Addr) (old : Value) (w : World) (hg : w.cell? ⟨2, 0, none⟩ = some (.iface 122 (.agg #[hand 36]))) (ht0 : w.cell? t = some old) (hf0 : w.frozen? t = false) :
    Calls Tryz.prog 66 #[.iface 32 (.int .i64 n), .iface 120 (.pointer (some t))] w fun ev w' => ev = .returned (.bool true) ∧ ∃ o1 o2 o3 o4, w' = ((((w.alloc o1).alloc o2).alloc o3).alloc o4).setCell t (.int .i64 n) := by
  have h42 := @run_callFunc_extern Tryz.prog 56 _ (fun args => ReflectliteValue.unpack (args.getD 0 (.tuple #[]))) Tryz.func56 (by kernel_rfl) (by kernel_rfl) (by kernel_rfl) (by kernel_rfl)
  have h43 := @run_callFunc_extern Tryz.prog 91 _ (ReflectliteValue.methodAny (ReflectliteValue.valueError "reflectlite.Value.Type" 0) (fun t _ _ _ => ReflectliteType.toType t)) Tryz.func91 (by kernel_rfl) (by kernel_rfl) (by kernel_rfl) (by kernel_rfl)
  have h44 := @run_callFunc_extern Tryz.prog 92 _ (ReflectliteValue.method (ReflectliteValue.valueError "reflectlite.Value.IsNil" 0) ReflectliteValue.isNil) Tryz.func92 (by kernel_rfl) (by kernel_rfl) (by kernel_rfl) (by kernel_rfl)
  have hKi := @run_callFunc_extern Tryz.prog 117 _ (ReflectliteType.abiMethod fun t => do pure (.int .u8 (← Rtype.kind t))) Tryz.func117 (by kernel_rfl) (by kernel_rfl) (by kernel_rfl) (by kernel_rfl)
  have hEl := @run_callFunc_extern Tryz.prog 126 _ (ReflectliteType.method ReflectliteType.elem) Tryz.func126 (by kernel_rfl) (by kernel_rfl) (by kernel_rfl) (by kernel_rfl)
  have hIm := @run_callFunc_extern Tryz.prog 127 _ (ReflectliteType.relation "Implements" ReflectliteType.implements_) Tryz.func127 (by kernel_rfl) (by kernel_rfl) (by kernel_rfl) (by kernel_rfl)
  have hTo := @run_callFunc_extern Tryz.prog 99 _ ReflectliteType.typeOf Tryz.func99 (by kernel_rfl) (by kernel_rfl) (by kernel_rfl) (by kernel_rfl)
  have hAs := @run_callFunc_extern Tryz.prog 125 _ (ReflectliteType.relation "AssignableTo" ReflectliteType.assignableTo) Tryz.func125 (by kernel_rfl) (by kernel_rfl) (by kernel_rfl) (by kernel_rfl)
  have hVE := @run_callFunc_extern Tryz.prog 100 _ (ReflectliteValue.method (ReflectliteValue.valueError "reflectlite.Value.Elem" 0) ReflectliteValue.elem) Tryz.func100 (by kernel_rfl) (by kernel_rfl) (by kernel_rfl) (by kernel_rfl)
  have hSe := @run_callFunc_extern Tryz.prog 101 _ ReflectliteValue.set Tryz.func101 (by kernel_rfl) (by kernel_rfl) (by kernel_rfl) (by kernel_rfl)
  have f1 := tValueOf
  have f2 := tType
  have f3 := tKind
  have f4 := tMethodElem
  have f5 := tMethodImplements
  have f6 := tMethodAssignable
  have f7 := tKindPtr
  have f8 := tKindInt
  have f9 := tElem
  have f10 := tImplements
  have f11 := tTypeOf
  have f12 := tAssignable
  have f13 := tValueOfE
  have hN : ∀ W : World, W.cell? ⟨w.heap.size, 0, none⟩ = some (.pointer (some t)) → (ReflectliteValue.method (ReflectliteValue.valueError "reflectlite.Value.IsNil" 0) ReflectliteValue.isNil #[.agg #[hand 120, .pointer (some ⟨w.heap.size, 0, none⟩), .int .u64 150]]).run Tryz.prog W = .ok (.bool false) W := fun W h => tIsNil _ t W h
  have hE : ∀ o2 o3, (ReflectliteValue.method (ReflectliteValue.valueError "reflectlite.Value.Elem" 0) ReflectliteValue.elem #[.agg #[hand 120, .pointer (some ⟨w.heap.size, 0, none⟩), .int .u64 150]]).run Tryz.prog (((w.alloc (.cells #[.pointer (some t)] 120)).alloc o2).alloc o3) = .ok (.agg #[hand 32, .pointer (some t), .int .u64 386]) (((w.alloc (.cells #[.pointer (some t)] 120)).alloc o2).alloc o3) := fun o2 o3 => tElemV ⟨w.heap.size, 0, none⟩ t _ (by
    rw [World.cell?_alloc_lt _ _ ⟨w.heap.size, 0, none⟩ (by simp <;> omega), World.cell?_alloc_lt _ _ ⟨w.heap.size, 0, none⟩ (by simp)]; simp)
  have hgl : (2 : Nat) < w.heap.size := block_lt_of_cell hg
  have htl : t.block < w.heap.size := block_lt_of_cell ht0
  have hg2 : ∀ o1 o2, ((w.alloc o1).alloc o2).cell? ⟨2, 0, none⟩ = some (.iface 122 (.agg #[hand 36])) := fun o1 o2 => by
    rw [World.cell?_alloc_lt _ _ ⟨2, 0, none⟩ (by simp <;> omega), World.cell?_alloc_lt _ _ ⟨2, 0, none⟩ hgl]; exact hg
  have hS : ∀ o1 o2 o3, (ReflectliteValue.set #[.agg #[hand 32, .pointer (some t), .int .u64 386], .agg #[hand 32, .pointer (some ⟨w.heap.size + 1 + 1 + 1, 0, none⟩), .int .u64 130]]).run Tryz.prog ((((w.alloc o1).alloc o2).alloc o3).alloc (.cells #[.int .i64 n] 32))
      = .ok (.tuple #[]) (((((w.alloc o1).alloc o2).alloc o3).alloc (.cells #[.int .i64 n] 32)).setCell t (.int .i64 n)) := fun o1 o2 o3 => tSet t ⟨w.heap.size + 1 + 1 + 1, 0, none⟩ n old _
    (by rw [World.cell?_alloc_at _ _ _ _ (by simp)]; rfl)
    (by rw [World.cell?_alloc_lt _ _ t (by simp <;> omega), World.cell?_alloc_lt _ _ t (by simp <;> omega), World.cell?_alloc_lt _ _ t (by simp <;> omega), World.cell?_alloc_lt _ _ t htl]; exact ht0)
    (by rw [World.frozen?_alloc_old _ _ t (by simp <;> omega), World.frozen?_alloc_old _ _ t (by simp <;> omega), World.frozen?_alloc_old _ _ t (by simp <;> omega), World.frozen?_alloc_old _ _ t (Nat.ne_of_lt htl)]; exact hf0)
  go_enter Tryz.func66, Tryz.ntmps66
  go_wp2
  refine wp_loop_rounds 1 ?_
  rw [rounds_succ]
  go_wp2
  go_ret
  exact ⟨rfl, _, _, _, _, rfl⟩

theorem as_nil (t : Value) (w : World) : Calls Tryz.prog 66 #[.nilIface, t] w fun e w' => e = .returned (.bool false) ∧ w' = w := by
  go_enter Tryz.func66, Tryz.ntmps66
  go_wp2
  go_ret
  exact ⟨rfl, rfl⟩
end Go.Proofs.YtpoibacokdjplaaGreatDoor
/- api.Tell, plain.Place: errors taken apart (nil, and a bare api.Errno). -/
namespace Go.Proofs.YtpoibacokdjplaaGreatDoor
open Go.RowKit

theorem tell_nil (w : World) : Calls Tryz.prog 54 #[.nilIface] w fun e w' => e = .returned (.int .i64 0) ∧ w' = w := by
  go_enter Tryz.func54, Tryz.ntmps54
  go_wp2
  go_ret
  exact ⟨rfl, rfl⟩
theorem tell_errno (n : Int) (w : World) (hg : w.cell? ⟨2, 0, none⟩ = some (.iface 122 (.agg #[hand 36]))) :
    Calls Tryz.prog 54 #[.iface 32 (.int .i64 n)] w fun e w' => e = .returned (.int .i64 n) ∧ Below w.heap.size w w' := by
  have hgl : (2 : Nat) < w.heap.size := block_lt_of_cell hg
  have hg1 : (w.alloc (.cells #[.int .i64 0] 32)).cell? ⟨2, 0, none⟩ = some (.iface 122 (.agg #[hand 36])) := by
    rw [World.cell?_alloc_lt _ _ ⟨2, 0, none⟩ hgl]; exact hg
  have HG := Lib.hid hg1
  clear hg hg1
  go_enter Tryz.func54, Tryz.ntmps54
  go_wp2_with fail
  refine (as_hit n ⟨w.heap.size, 0, none⟩ (.int .i64 0) _ HG.out (by simp) (by simp)).mono ?_
  rintro e w' ⟨rfl, o1, o2, o3, o4, rfl⟩
  go_wp2
  go_ret
  refine ⟨rfl, ?_⟩
  exact (((((Below.refl w.heap.size w).alloc (Nat.le_refl _) _).alloc (by simp) _).alloc (by simp; omega) _).alloc (by simp; omega) _).alloc (by simp; omega) _
set_option maxRecDepth 100000 in
theorem place_nil (w : World) : Calls Tryz.prog 36 #[.nilIface] w fun e w' => e = .returned (.tuple #[.int .i64 0, .int .i64 (-1)]) ∧ w' = w := by
  go_enter Tryz.func36, Tryz.ntmps36
  go_wp2_with fail
  refine (tell_nil _).mono ?_
  rintro e w1 ⟨rfl, rfl⟩
  go_wp2
  refine wp_loop_rounds 1 ?_
  rw [rounds_succ]
  go_wp2
  refine bodyPost_ret (results_tmp2 rfl _ _ _) rfl ?_
  exact ⟨rfl, rfl⟩
theorem notAt (n : Int) (w : World) : (Instr.typeAssert (.iface 32 (.int .i64 n)) 36 92 true).run Tryz.prog w = .ok (.tuple #[.pointer none, .bool false]) w := by kernel_rfl
theorem noUnwrap (v : Value) (w : World) : (Instr.typeAssert (.iface 32 v) 36 96 true).run Tryz.prog w = .ok (.tuple #[.nilIface, .bool false]) w :=
  run_typeAssert_lacksB Tryz.underlying96 (by kernel_rfl) (by kernel_rfl) v _ w
set_option maxRecDepth 100000 in
theorem place_errno (n : Int) (w : World) (hg : w.cell? ⟨2, 0, none⟩ = some (.iface 122 (.agg #[hand 36]))) :
    Calls Tryz.prog 36 #[.iface 32 (.int .i64 n)] w fun e w' => e = .returned (.tuple #[.int .i64 n, .int .i64 (-1)]) ∧ Below w.heap.size w w' := by
  go_enter Tryz.func36, Tryz.ntmps36
  go_wp2_with fail
  refine (tell_errno n _ hg).mono ?_
  rintro e w1 ⟨rfl, hb⟩
  have HB := Lib.hid hb
  clear hb
  have a1 := notAt n
  have a2 := noUnwrap
  go_wp2
  refine wp_loop_rounds 1 ?_
  rw [rounds_succ]
  go_wp2
  refine bodyPost_ret (results_tmp2 rfl _ _ _) rfl ?_
  exact ⟨rfl, HB.out⟩
set_option maxRecDepth 100000 in
theorem bare_nil (n : Int) (w : World) : Calls Tryz.prog 17 #[.nilIface, .int .i64 n] w fun e w' => e = .returned (.bool (decide (n = 0))) ∧ w' = w := by
  go_enter Tryz.func17, Tryz.ntmps17
  go_wp2_with fail
  refine (place_nil _).mono ?_
  rintro e w1 ⟨rfl, rfl⟩
  by_cases h : n = 0
  · subst h
    go_wp2
    go_ret
    exact ⟨rfl, rfl⟩
  · go_wp2
    go_ret
    refine ⟨?_, rfl⟩
    show Ending.returned (Value.bool _) = _
    congr 2
    simp; omega
set_option maxRecDepth 100000 in
theorem bare_errno (m n : Int) (w : World) (hg : w.cell? ⟨2, 0, none⟩ = some (.iface 122 (.agg #[hand 36]))) :
    Calls Tryz.prog 17 #[.iface 32 (.int .i64 m), .int .i64 n] w fun e w' => e = .returned (.bool (decide (m = n))) ∧ Below w.heap.size w w' := by
  go_enter Tryz.func17, Tryz.ntmps17
  go_wp2_with fail
  refine (place_errno m _ hg).mono ?_
  rintro e w1 ⟨rfl, hb⟩
  have HB := Lib.hid hb
  clear hb
  by_cases h : m = n
  · subst h
    go_wp2
    go_ret
    exact ⟨by simp, HB.out⟩
  · go_wp2
    go_ret
    refine ⟨?_, HB.out⟩
    simp [h]
end Go.Proofs.YtpoibacokdjplaaGreatDoor
/- Of, Bit and Common, of the program and of the document, each by one answer: a value and the number of an error. -/
namespace Go.Proofs.YtpoibacokdjplaaGreatDoor
open Go.RowKit

/-- An error is this number, without a place. -/
theorem bare_any (m n : Int) (w : World) (hg : w.cell? ⟨2, 0, none⟩ = some (.iface 122 (.agg #[hand 36]))) :
    Calls Tryz.prog 17 #[errOf m, .int .i64 n] w fun e w' => e = .returned (.bool (decide (m = n))) ∧ Below w.heap.size w w' := by
  by_cases h : m = 0
  · subst h
    refine (bare_nil n w).mono ?_
    rintro e w' ⟨rfl, rfl⟩
    refine ⟨?_, Below.refl _ _⟩
    congr 2
    simp only [decide_eq_decide]
    omega
  · unfold errOf
    rw [if_neg h]
    exact bare_errno m n w hg
theorem bare_same (n : Int) (w : World) (hg : w.cell? ⟨2, 0, none⟩ = some (.iface 122 (.agg #[hand 36]))) :
    Calls Tryz.prog 17 #[errOf n, .int .i64 n] w fun e w' => e = .returned (.bool true) ∧ Below w.heap.size w w' :=
  (bare_any n n w hg).mono fun e w' ⟨he, hb⟩ => ⟨by rw [he]; simp, hb⟩

def ofAns (name : ByteArray) : ByteArray × Int := if nameOk name.data.toList then (markOf 105 [name], 0) else (⟨#[]⟩, 5)
def bitAns (ix : ByteArray) (k : Int) : Int × Int := if ix.size = 16 then (if 0 ≤ k ∧ k ≤ 127 then (((bitOf ix.data.toList k.toNat : Nat) : Int), 0) else (0, 2)) else (0, 1)
def comAns (a b : ByteArray) : Int × Int := if a.size = 16 ∧ b.size = 16 then (((commonOf a.data.toList b.data.toList : Nat) : Int), 0) else (0, 1)

theorem ixBit_is (ix : ByteArray) (k x n : Int) (w : World) (h : bitAns ix k = (x, n)) :
    Calls Tryz.prog 55 #[.string ix, .int .i64 k] w fun e w' => e = .returned (.tuple #[.int .i64 x, errOf n]) ∧ w' = w := by
  refine (ixBit_any ix k w).mono ?_
  rintro e w' ⟨rfl, rfl⟩
  refine ⟨?_, rfl⟩
  unfold bitAns at h
  by_cases h16 : ix.size = 16
  · rw [if_pos h16] at h ⊢
    by_cases hk : 0 ≤ k ∧ k ≤ 127
    · rw [if_pos hk] at h ⊢; cases h; rfl
    · rw [if_neg hk] at h ⊢; cases h; rfl
  · rw [if_neg h16] at h ⊢; cases h; rfl
/-- One text in a block that was made just now. -/
theorem one_part (name : ByteArray) (w : World) : ∀ (i : Nat) p, ([name] : List ByteArray)[i]? = some p → ∃ a, some (⟨w.heap.size, 0, none⟩ : Addr) = some a ∧ a.block < (w.alloc (.cells #[.string name] 9)).heap.size ∧ (w.alloc (.cells #[.string name] 9)).cell? (a.add i) = some (.string p) := by
  intro i p hp
  match i, hp with
  | 0, hp =>
    simp at hp; subst hp
    refine ⟨_, rfl, by simp, ?_⟩
    rw [show (⟨w.heap.size, 0, none⟩ : Addr).add 0 = ⟨w.heap.size, 0, none⟩ by simp [Addr.add]]
    exact (Holds.new w 1 (fun _ => .string name) 9).cell 0 (by omega)
theorem nameOk_size (s : ByteArray) (h : nameOk s.data.toList = true) : s.size ≤ 12 := by
  unfold nameOk at h
  simp at h
  exact h.2.2
theorem HasK.alloc {w : World} (h : HasK w) (o : Obj) : HasK (w.alloc o) := h.below ((Below.refl w.heap.size w).alloc (Nat.le_refl _) o) h.lt
end Go.Proofs.YtpoibacokdjplaaGreatDoor
/- Regions that only read and call what makes memory. No program is imported. -/
namespace Go.Proofs.YtpoibacokdjplaaGreatDoor
open Go.RowKit

/-- A region that only reads and calls what makes memory: one walk, in the text's order, over the worlds later than its own. -/
theorem wp_region_later {P : Program} {id : Nat} {Q : Exit → Act → World → Prop} {a : Act} {w : World} {l : List Oper} (hm : P.follows .mixedOrders = true) (hB : Region.lexB .any l.toArray = true)
    (h : wpQuiet P l.toArray (fun w' => ∃ z : Later w.heap.size w, w' = z.at') (fun a' => ∀ w', (∃ z : Later w.heap.size w, w' = z.at') → Q .normal a' w') l a) : (Code.region id l.toArray true).wp P Q a w :=
  wp_region_quiet (C := fun w' => ∃ z : Later w.heap.size w, w' = z.at') hm hB ⟨⟨w.drew, (Below.refl _ _).drew⟩, rfl⟩ (by simpa using h)

end Go.Proofs.YtpoibacokdjplaaGreatDoor
