/- Parts of the proof, one behind the other: QDigits, QPub, QSign, QFrom, VVerify, PSealed. -/
import Derived.WalkKit
import Derived.Lib.Hide
import Derived.WalkLawsBesides
import Derived.Deep.QuietTactic
import Derived.Deep.WholeRow
import Derived.ArgAppend
import Derived.Laws.AppendOwnNone
import Derived.Laws.CopyRow
import Derived.Deep.RegionLaw
import Derived.Laws.BytesString
import Derived.Laws.IdiomStrings
import Derived.Test.YtgjmbokfenpefaaGreatDoorProg
import Derived.Laws.BitsAllLaws
import Derived.Outline
import Derived.BigQuiet
import Derived.Laws.CopyOwn
import Derived.RegionTactic
import Derived.StillTail
import Derived.Deep.Quiet
import Derived.IntWalk
import Derived.Deep.RegionHeld3
import Derived.Deep.DeepCutAuto
import Derived.Sort.Walk0
import Derived.Tactics
import Derived.Orders
import Derived.Laws.ResultCell
import Derived.LaidEql
import Derived.Stop.Asserts
import Derived.RowKitTokens
import Derived.Laws.StructEq
import Derived.OrdersHeld
import Derived.StringKeys
import Derived.Maps.Own
import Derived.Maps.Views
import Derived.Maps.OwnSet
import Derived.Maps.OwnOps
import Derived.Maps.RangeWalk
import Derived.Sort.KeysCollected
import Derived.Sort.LotA
import Derived.Lib.SortBridge
import Derived.Deep.AppendSrc
import Derived.Shelf.SlSortFuncK.WholeK
import Derived.Ground.GgsProg
import Derived.Shelf.GgSortFunc.Tiny
import Derived.Shelf.Strings.Repeat
import Derived.KernelRfl
import Derived.WideKeyEntry
import Derived.Deep.CutRange
import Derived.Test.YtgjmbokfenpefaaGreatDoorM1
import Derived.Test.YtgjmbokfenpefaaGreatDoorM2
import Derived.Test.YtgjmbokfenpefaaGreatDoorM3
import Derived.Test.YtgjmbokfenpefaaGreatDoorM4
import Derived.Test.YtgjmbokfenpefaaGreatDoorM5
import Derived.Test.YtgjmbokfenpefaaGreatDoorM6
import Derived.Test.YtgjmbokfenpefaaGreatDoorM7
import Derived.Test.YtgjmbokfenpefaaGreatDoorM8
import Derived.Test.YtgjmbokfenpefaaGreatDoorM9
/- The program's once: digits, in an array. -/
namespace Go.Proofs.YtgjmbokfenpefaaGreatDoor
open Go.RowKit

/-- Four bits at a place. -/
theorem and15q (n : Int) : bits BinOp.and IntKind.i64 n 15 = n % 16 := by
  have h15 : (BitVec.ofInt 64 15).toNat = 2 ^ 4 - 1 := by decide
  have key : (BitVec.ofInt 64 n &&& BitVec.ofInt 64 15).toNat = (n % ((2 ^ 64 : Nat) : Int)).toNat % 2 ^ 4 := by
    rw [BitVec.toNat_and, BitVec.toNat_ofInt, h15, Nat.and_two_pow_sub_one_eq_mod]
  show IntKind.i64.wrap ((BitVec.ofInt 64 n &&& BitVec.ofInt 64 15).toNat : Nat) = n % 16
  rw [key, IntKind.wrap_i64]
  omega
theorem qBits_any (n p : Nat) (w : World) (_hn : n ≤ 1000000) (hp : p ≤ 2) :
    Calls Tryz.prog 252 #[.int .i64 (n : Int), .int .i64 (p : Int)] w fun e w' => e = .returned (.int .i64 ((n / 16 ^ p % 16 : Nat) : Int)) ∧ w' = w := by
  have HV := Lib.hid (show bits BinOp.and IntKind.i64 ((n : Int) / 2 ^ (4 * p)) 15 = ((n / 16 ^ p % 16 : Nat) : Int) by
    rw [and15q, show n / 16 ^ p % 16 = n / 2 ^ (4 * p) % 16 by rw [Nat.pow_mul]]
    simp)
  go_enter Tryz.func252, Tryz.ntmps252
  go_wp2
  rw [HV.out]
  go_ret
  exact ⟨rfl, rfl⟩

/-- What the first k of these lack of 15. -/
def lackUpto (l : List UInt8) (k : Nat) : Nat := (((digsOf l).take k).map fun d => 15 - d).sum
theorem lackUpto_all (l : List UInt8) : (((digsOf l)).map fun d => 15 - d).sum = lackOf l := by
  unfold digsOf lackOf
  induction l with
  | nil => rfl
  | cons b l ih =>
    have := b.toNat_lt
    simp only [List.flatMap_cons, List.map_append, List.sum_append, List.map_cons, List.map_nil, List.sum_cons, List.sum_nil, ih]
    omega
theorem digsOf_at (l : List UInt8) (i : Nat) (b : UInt8) (h : l[i]? = some b) : (digsOf l)[2 * i]? = some (b.toNat / 16) ∧ (digsOf l)[2 * i + 1]? = some (b.toNat % 16) := by
  unfold digsOf
  induction l generalizing i with
  | nil => cases h
  | cons c l ih =>
    cases i with
    | zero => obtain rfl : c = b := Option.some.inj h
              simp
    | succ i =>
      obtain ⟨h1, h2⟩ := ih i (by simpa using h)
      simp only [List.flatMap_cons]
      rw [show 2 * (i + 1) = (2 * i) + 2 by omega, show 2 * i + 2 + 1 = (2 * i + 1) + 2 by omega]
      exact ⟨h1, h2⟩
theorem digsOf_nib (l : List UInt8) (k : Nat) (b : UInt8) (h : l[k / 2]? = some b) : (digsOf l)[k]? = some (b.toNat / 16 ^ (1 - k % 2) % 16) := by
  have hb := b.toNat_lt
  obtain ⟨h1, h2⟩ := digsOf_at l (k / 2) b h
  rcases (show k % 2 = 0 ∨ k % 2 = 1 by omega) with e | e
  · rw [e, show k = 2 * (k / 2) by omega, h1]
    congr 1
    simp; omega
  · rw [e, show k = 2 * (k / 2) + 1 by omega, h2]
    congr 1
    simp
theorem lackUpto_succ (l : List UInt8) (k d : Nat) (h : (digsOf l)[k]? = some d) : lackUpto l (k + 1) = lackUpto l k + (15 - d) := by
  unfold lackUpto
  rw [List.take_add_one, h]
  simp
/-- The first k of the digits, noughts behind. -/
def dfill (D : List Nat) (k : Nat) : Nat → Value := fun i => if i < k then .int .i64 ((D.getD i 0 : Nat) : Int) else .int .i64 0
theorem dfill_succ (D : List Nat) (k d : Nat) (h : D[k]? = some d) : upd (dfill D k) k (.int .i64 (d : Int)) = dfill D (k + 1) := by
  funext i
  unfold upd dfill
  by_cases e : i = k
  · subst e
    rw [if_pos rfl, if_pos (by omega), List.getD_eq_getElem?_getD, h]; rfl
  · rw [if_neg e]
    by_cases e2 : i < k
    · rw [if_pos e2, if_pos (by omega)]
    · rw [if_neg e2, if_neg (by omega)]
structure DgRel (N : Nat) (w wr : World) (f : Nat → Value) : Prop where
  below : Below N w wr
  size : wr.heap.size = N + 2
  res : Holds wr N 35 (fun _ => .int .i64 0) 347
  own : Holds wr (N + 1) 35 f 347
theorem DgRel.store {N : Nat} {w wr : World} {f : Nat → Value} (h : DgRel N w wr f) (k : Nat) (x : Value) : DgRel N w (wr.setCell ⟨N + 1, k, none⟩ x) (upd f k x) :=
  ⟨h.below.setCell (by show N ≤ N + 1; omega) _, by simp [World.setCell]; exact h.size, h.res.other (by show N ≠ N + 1; omega) _, h.own.set k _⟩

theorem digits_nib (l : List UInt8) (k : Nat) (b : UInt8) (h : l[k / 2]? = some b) (hk : k < 2 * l.length) : (digitsOf l)[k]? = some (b.toNat / 16 ^ (1 - k % 2) % 16) := by
  unfold digitsOf
  rw [List.getElem?_append_left (by rw [digsOf_length]; exact hk)]
  exact digsOf_nib l k b h
theorem digits_lack (l : List UInt8) (hl : l.length = 16) (k : Nat) (hk : k < 3) : (digitsOf l)[32 + k]? = some (lackOf l / 16 ^ (2 - k) % 16) := by
  have h := lackOf_le l
  unfold digitsOf
  rw [List.getElem?_append_right (by rw [digsOf_length]; omega), digsOf_length, hl]
  rcases (show k = 0 ∨ k = 1 ∨ k = 2 by omega) with rfl | rfl | rfl
  · simp; omega
  · simp
  · simp
theorem lackUpto_32 (l : List UInt8) (hl : l.length = 16) : lackUpto l 32 = lackOf l := by
  unfold lackUpto
  rw [List.take_of_length_le (by rw [digsOf_length]; omega)]
  exact lackUpto_all l

set_option maxRecDepth 100000 in
theorem qDigits_any (s : ByteArray) (w : World) (h16 : s.size = 16) :
    Calls Tryz.prog 228 #[.string s] w fun e w' => e = .returned (.agg (arr 35 fun i => .int .i64 (((digitsOf s.data.toList).getD i 0 : Nat) : Int))) ∧ Below w.heap.size w w' := by
  have H16 := Lib.hid h16
  have hs1 : s.size ≤ 16 := by omega
  have hs2 : 16 ≤ s.size := by omega
  clear h16
  have HLEN := Lib.hid (show s.data.toList.length = s.size from size_len s)
  go_enter Tryz.func228, Tryz.ntmps228
  go_wp2
  go_loopw [4, 8] (fun lk i wr => ∃ (k q : Nat), k ≤ 32 ∧ i = .int .i64 (k : Int) ∧ lk = .int .i64 (q : Int) ∧ q ≤ 15 * k ∧ Hid (q = lackUpto s.data.toList k ∧ DgRel w.heap.size w wr (dfill (digitsOf s.data.toList) k))) (fun _ i _ => 32 - (intOf i).toNat)
  case atStart =>
    refine ⟨0, 0, by omega, rfl, rfl, by omega, Lib.hid ⟨rfl, ⟨((Below.refl _ _).alloc (Nat.le_refl _) _).alloc (by simp) _, by simp, ?_, ?_⟩⟩⟩
    · exact (Holds.new w 35 (fun _ => .int .i64 0) 347).alloc _
    · have hz := Holds.new (w.alloc (.cells (arr 35 (fun _ => .int .i64 0)) 347)) 35 (fun _ => .int .i64 0) 347
      rw [World.size_alloc] at hz
      exact hz.congr fun i hi => by unfold dfill; rw [if_neg (by omega)]
  case round =>
    obtain ⟨k, q, hk, rfl, rfl, hq, HU⟩ := hrel
    by_cases hlt : k < 32
    · obtain ⟨c, hc⟩ : ∃ c, s.data.toList[k / 2]? = some c := ⟨_, List.getElem?_eq_getElem (by have := HLEN.out; omega)⟩
      have hsk : k / 2 < s.size := by omega
      obtain ⟨B, hB⟩ : ∃ B : Nat, c.toNat = B := ⟨_, rfl⟩
      have hB2 : B < 256 := by rw [← hB]; exact c.toNat_lt
      have hbk : s[k / 2].toNat = B := by
        rw [← hB]; congr 1
        rw [List.getElem?_eq_getElem (by have := HLEN.out; omega)] at hc
        exact Option.some.inj hc
      have hw : wrap64 ((s[k / 2].toNat : Nat) : Int) = (B : Int) := by rw [hbk]; simp [wrap64]; omega
      obtain ⟨p, hp⟩ : ∃ p, 1 - k % 2 = p := ⟨_, rfl⟩
      have hp1 : p ≤ 2 := by omega
      have e1 : (1 : Int) - (k : Int) % 2 = (p : Int) := by omega
      obtain ⟨d, hd⟩ : ∃ d, B / 16 ^ p % 16 = d := ⟨_, rfl⟩
      have hd15 : d ≤ 15 := by rw [← hd]; omega
      have HD := Lib.hid (show (digitsOf s.data.toList)[k]? = some d by rw [digits_nib _ k c hc (by have := HLEN.out; omega), hp, hB, hd])
      have HD2 := Lib.hid (show (digsOf s.data.toList)[k]? = some d by rw [digsOf_nib _ k c hc, hp, hB, hd])
      have HCA := Lib.hid (qBits_any B p wr (by omega) hp1)
      rw [hd] at HCA
      clear hc hB hbk hp hd
      have c0 := HU.out.2.own.cell k (by omega)
      have f0 := HU.out.2.own.free k
      go_wp2_with fail
      refine HCA.out.mono ?_
      rintro e w1 ⟨rfl, rfl⟩
      clear hw e1 HCA
      go_wp2
      go_roundw
      case rel =>
        refine ⟨k + 1, q + (15 - d), by omega, by go_num, by go_num, by omega, Lib.hid ⟨?_, ?_⟩⟩
        · rw [lackUpto_succ _ k d HD2.out, ← HU.out.1]
        · rw [← dfill_succ _ k d HD.out]
          exact HU.out.2.store k _
      case measure => simp [intOf]; omega
    · have HK := Lib.hid (show k = 32 by omega)
      have HQ := Lib.hid (show q = lackOf s.data.toList by rw [HU.out.1, HK.out]; exact lackUpto_32 _ (HLEN.out.trans H16.out))
      have HR := Lib.hid (show DgRel w.heap.size w wr (dfill (digitsOf s.data.toList) 32) by have h := HU.out.2; rw [HK.out] at h; exact h)
      have hq2 : q ≤ 480 := by omega
      clear HU hq
      go_wp2
      clear hlt hk HK
      go_loopw [28] (fun i wr => ∃ k : Nat, k ≤ 3 ∧ i = .int .i64 (k : Int) ∧ Hid (DgRel w.heap.size w wr (dfill (digitsOf s.data.toList) (32 + k)))) (fun i _ => 3 - (intOf i).toNat)
      case atStart => exact ⟨0, by omega, rfl, HR⟩
      case round =>
        clear HR
        obtain ⟨i, hk, rfl, HR⟩ := hrel
        by_cases hlt : i < 3
        · obtain ⟨p, hp⟩ : ∃ p, 2 - i = p := ⟨_, rfl⟩
          have hp1 : p ≤ 2 := by omega
          have e1 : (2 : Int) - (i : Int) = (p : Int) := by omega
          obtain ⟨d, hd⟩ : ∃ d, q / 16 ^ p % 16 = d := ⟨_, rfl⟩
          have HD := Lib.hid (show (digitsOf s.data.toList)[32 + i]? = some d by rw [digits_lack _ (HLEN.out.trans H16.out) i hlt, ← HQ.out, hp, hd])
          have HCA := Lib.hid (qBits_any q p wr (by omega) hp1)
          rw [hd] at HCA
          clear hp hd
          have c0 := HR.out.own.cell (32 + i) (by omega)
          have f0 := HR.out.own.free (32 + i)
          go_wp2_with fail
          refine HCA.out.mono ?_
          rintro e w1 ⟨rfl, rfl⟩
          clear e1 HCA
          go_wp2
          go_roundw
          case rel =>
            refine ⟨i + 1, by omega, by go_num, Lib.hid ?_⟩
            rw [show 32 + (i + 1) = 32 + i + 1 by omega, ← dfill_succ _ (32 + i) d HD.out]
            exact HR.out.store (32 + i) _
          case measure => simp [intOf]; omega
        · obtain rfl : i = 3 := by omega
          have HF := Lib.hid (show Holds wr (w.heap.size + 1) 35 (fun i => .int .i64 (((digitsOf s.data.toList).getD i 0 : Nat) : Int)) 347 from HR.out.own.congr fun j hj => by unfold dfill; rw [if_pos (by omega)])
          have hi : (Tryz.prog.info? 347).map (·.size) = some (arr 35 fun i => Value.int .i64 (((digitsOf s.data.toList).getD i 0 : Nat) : Int)).size := by rw [arr_size]; kernel_rfl
          have hz : (arr 35 fun _ => Value.int .i64 0).size = (arr 35 fun i => Value.int .i64 (((digitsOf s.data.toList).getD i 0 : Nat) : Int)).size := by rw [arr_size, arr_size]
          have h1 := arr_one 35 (fun i => Value.int .i64 (((digitsOf s.data.toList).getD i 0 : Nat) : Int)) (fun _ => rfl)
          obtain ⟨z, ez⟩ : ∃ z, z = arr 35 fun i => Value.int .i64 (((digitsOf s.data.toList).getD i 0 : Nat) : Int) := ⟨_, rfl⟩
          have Hown : wr.heap[w.heap.size + 1]? = some (.cells z 347 (0, 0)) := by rw [ez]; exact HF.out
          have Hres : wr.heap[w.heap.size]? = some (.cells (arr 35 fun _ => Value.int .i64 0) 347 (0, 0)) := HR.out.res
          rw [← ez] at hi hz h1
          have EZ := Lib.hid ez
          have HI := Lib.hid hi
          have HZ := Lib.hid hz
          have H1 := Lib.hid h1
          have HO := Lib.hid Hown
          have HE := Lib.hid Hres
          clear ez hi hz h1 Hown Hres hk hlt
          go_wp2_with (first | (refine wpList_load_row rfl 347 (.tmp 3) rfl (w.heap.size + 1) rfl 347 z (0, 0) _ HO.out Tryz.underlying347 rfl HI.out ?_) | (refine wpList_store_row rfl 347 (.tmp 2) (.tmp 39) rfl w.heap.size z rfl rfl 347 _ HE.out HI.out HZ.out H1.out ?_))
          have hp : Holds (wr.setRow w.heap.size z) w.heap.size 35 (fun i => Value.int .i64 (((digitsOf s.data.toList).getD i 0 : Nat) : Int)) 347 := by
            rw [EZ.out]; exact HR.out.res.row _
          have hrun : ∀ tmps : Array Value, tmps.getD 2 undef = .pointer (some ⟨w.heap.size, 0, none⟩) → (results Tryz.f228 tmps).run Tryz.prog (wr.setRow w.heap.size z) = .ok (.agg z) (wr.setRow w.heap.size z) := fun tmps ht =>
            results_cell_row (by rfl) tmps _ w.heap.size 347 z (0, 0) _ ht (by rw [EZ.out] at hp ⊢; exact hp) Tryz.underlying347 rfl HI.out
          exact bodyPost_ret (hrun _ rfl) rfl ⟨by rw [EZ.out], below_setRow HR.out.below (Nat.le_refl _) _⟩
end Go.Proofs.YtgjmbokfenpefaaGreatDoor
/- The program's once: Public. -/
namespace Go.Proofs.YtgjmbokfenpefaaGreatDoor
open Go.RowKit

/-- The first k of some texts, empty ones behind. -/
def sfill (L : List ByteArray) (k : Nat) : Nat → Value := fun i => if i < k then .string (L.getD i ⟨#[]⟩) else .string ⟨#[]⟩
theorem sfill_succ (L : List ByteArray) (k : Nat) (x : ByteArray) (h : L[k]? = some x) : upd (sfill L k) k (.string x) = sfill L (k + 1) := by
  funext i
  unfold upd sfill
  by_cases e : i = k
  · subst e
    rw [if_pos rfl, if_pos (by omega), List.getD_eq_getElem?_getD, h]; rfl
  · rw [if_neg e]
    by_cases e2 : i < k
    · rw [if_pos e2, if_pos (by omega)]
    · rw [if_neg e2, if_neg (by omega)]
theorem map_range_at {α : Type} (f : Nat → α) (n k : Nat) (h : k < n) : ((List.range n).map f)[k]? = some (f k) := by
  rw [List.getElem?_map, List.getElem?_range h]; rfl
theorem strs_of_holds {w : World} {b n : Nat} {L : List ByteArray} {t : TypeId} (h : Holds w b n (sfill L n) t) (hn : L.length = n) : Strs w (some ⟨b, 0, none⟩) L := by
  intro i p hp
  have hi : i < L.length := (List.getElem?_eq_some_iff.1 hp).1
  refine ⟨_, rfl, h.lt, ?_⟩
  rw [add_none, Nat.zero_add, h.cell i (by omega)]
  unfold sfill
  rw [if_pos (by omega), List.getD_eq_getElem?_getD, hp]; rfl
theorem oneMark {s : ByteArray} {b : Bool} (h : decide (s.size = 16) = b) : marksOk [s] = b := by
  rw [← h]; unfold marksOk; simp

end Go.Proofs.YtgjmbokfenpefaaGreatDoor
/- The program's once: Sign. -/
namespace Go.Proofs.YtgjmbokfenpefaaGreatDoor
open Go.RowKit

theorem run_index_arr {P : Program} (w : World) (t e n : Nat) (cs : Array Value) (v : Value) (i : Nat) (h : P.underlying t = some (.array n e)) (h1 : ∀ w, (Go.sizeOf e).run P w = .ok 1 w) (h2 : ∀ w, (isAgg e).run P w = .ok false w) (hi : i < n) (hv : cs[i]? = some v) :
    (Instr.index t (.agg cs) (.int .i64 (i : Int))).run P w = .ok v w := by
  have hn : (0 : Int) ≤ (i : Int) ∧ (i : Int) < (n : Int) := by omega
  simp [Instr.index, run_underlying h, asIntOf, hn, h1, h2, hi, hv, Result.andThen, go_sem]
theorem sizeInt (w : World) : (Go.sizeOf 3).run Tryz.prog w = .ok 1 w := by kernel_rfl
theorem aggInt (w : World) : (isAgg 3).run Tryz.prog w = .ok false w := by kernel_rfl
end Go.Proofs.YtgjmbokfenpefaaGreatDoor
/- The program's once: From. -/
namespace Go.Proofs.YtgjmbokfenpefaaGreatDoor
open Go.RowKit

set_option maxRecDepth 100000 in
theorem qFrom_is (m : ByteArray) (S : List ByteArray) (A : Option Addr) (cap : Nat) (x : ByteArray) (n : Int) (w : World) (hk : HasK w) (hl : S.length ≤ 1000000) (hs : Strs w A S) (h : fromAns m S = (x, n)) :
    Calls Tryz.prog 178 #[.string m, .slice A S.length cap] w fun e w' => e = .returned (.tuple #[.string x, errOf n]) ∧ Below w.heap.size w w' := by
  have HK := Lib.hid hk
  have HS := Lib.hid hs
  clear hk hs
  have HB0 := Lib.hid (alloc_below w (.cells #[.string m] 9))
  have HS0 := Lib.hid (strs_new w [m] 9)
  unfold fromAns at h
  by_cases h16 : m.size = 16
  · have HM := Lib.hid (oneMark (decide_eq_true h16))
    have HM16 := Lib.hid h16
    by_cases h35 : S.length = 35
    · have HL35 := Lib.hid h35
      have e35 : ((S.length : Int) == 35) = true := by rw [beq_iff_eq]; omega
      have e36 : ((S.length : Int) != 35) = false := by simp; omega
      by_cases hmk : marksOk S = true
      · rw [if_pos ⟨h16, h35, hmk⟩] at h
        obtain ⟨hx, rfl⟩ := Prod.mk.inj h
        have HX := Lib.hid hx
        have HMK := Lib.hid hmk
        have hs1 : S.length ≤ 35 := by omega
        have hs2 : 35 ≤ S.length := by omega
        clear h hx h16 h35 hmk
        go_enter Tryz.func178, Tryz.ntmps178
        go_wp2_with fail
        refine (qAre_any [m] _ 1 _ (by simp) HS0.out).mono ?_
        rintro e w1 ⟨rfl, rfl⟩
        rw [HM.out]
        go_wp2_with fail
        refine (qAre_any S A cap _ hl (HS.out.below HB0.out)).mono ?_
        rintro e w1 ⟨rfl, rfl⟩
        rw [HMK.out]
        clear e35 e36
        go_wp2_with fail
        refine (qDigits_any m _ HM16.out).mono ?_
        rintro e w2 ⟨rfl, hb2⟩
        have HB1 := Lib.hid (HB0.out.trans ((alloc_below _ (.cells (arr 35 fun _ => .string ⟨#[]⟩) 346)).mono HB0.out.size))
        have HN1 := Lib.hid (Holds.new (w.alloc (.cells (stCells [m]).toArray 9)) 35 (fun _ => .string ⟨#[]⟩) 346)
        rw [World.size_alloc] at HN1
        have HH2 := Lib.hid (HN1.out.below hb2 HN1.out.lt)
        have HB2 := Lib.hid (HB1.out.trans (hb2.mono HB1.out.size))
        clear hb2
        have HZ := Lib.hid (show ∀ k, k < 35 → (arr 35 fun i => Value.int .i64 (((digitsOf m.data.toList).getD i 0 : Nat) : Int))[k]? = some (Value.int .i64 (((digitsOf m.data.toList).getD k 0 : Nat) : Int)) from fun k hk => arr_get 35 _ k hk)
        generalize (arr 35 fun i => Value.int .i64 (((digitsOf m.data.toList).getD i 0 : Nat) : Int)) = Z at HZ ⊢
        go_wp2
        go_loopw [26] (fun i wr => ∃ k : Nat, k ≤ 35 ∧ i = .int .i64 (k : Int) ∧ Hid (Below w.heap.size w wr ∧ Holds wr (w.heap.size + 1) 35 (sfill (fromChains m S 35) k) 346)) (fun i _ => 35 - (intOf i).toNat)
        case atStart =>
          refine ⟨0, by omega, rfl, Lib.hid ⟨HB2.out, HH2.out.congr fun i hi => by unfold sfill; rw [if_neg (by omega)]⟩⟩
        case round =>
          obtain ⟨k, hk, rfl, HU⟩ := hrel
          by_cases hlt : k < 35
          · have HN := Lib.hid HU.out.2.lt
            obtain ⟨D, hD⟩ : ∃ D, (digitsOf m.data.toList).getD k 0 = D := ⟨_, rfl⟩
            obtain ⟨p, hp⟩ : ∃ p, S[k]? = some p := ⟨_, List.getElem?_eq_getElem (by omega)⟩
            obtain ⟨a, rfl, _, c0⟩ := (HS.out.below HU.out.1) k p hp
            have HXK := Lib.hid (show (fromChains m S 35)[k]? = some (alongFrom (k : Int) (15 - D) D p) by
              have e := map_range_at (fun c : Nat => alongFrom (c : Int) (15 - (digitsOf m.data.toList).getD c 0) ((digitsOf m.data.toList).getD c 0) (S.getD c ⟨#[]⟩)) 35 k hlt
              rw [hD, List.getD_eq_getElem?_getD, hp] at e
              exact e)
            have HPS := Lib.hid (marksOk_get HMK.out hp)
            have HDL := Lib.hid (digit_le HM16.out k)
            have hz := HZ.out k hlt
            rw [hD] at HDL hz
            have hix := fun wx => run_index_arr (P := Tryz.prog) wx 347 3 35 Z _ k Tryz.underlying347 sizeInt aggInt hlt hz
            clear hD hz hp
            go_wp2_with fail
            clear hix c0
            refine (qWalk_any p (k : Int) D 15 _ (HK.out.below HU.out.1 HK.out.lt) HPS.out HDL.out (by omega)).mono ?_
            rintro e w4 ⟨rfl, hb4⟩
            have HB4 := Lib.hid (HU.out.1.trans (hb4.mono HU.out.1.size))
            have HH4 := Lib.hid (HU.out.2.below hb4 HN.out)
            clear hb4
            have c0 := HH4.out.cell k hlt
            have f0 := HH4.out.free k
            rw [show sfill (fromChains m S 35) k k = .string ⟨#[]⟩ by unfold sfill; rw [if_neg (by omega)]] at c0
            go_wp2
            go_roundw
            case rel =>
              refine ⟨k + 1, by omega, by go_num, Lib.hid ⟨HB4.out.setCell (by show w.heap.size ≤ w.heap.size + 1; omega) _, ?_⟩⟩
              rw [← sfill_succ _ k _ HXK.out]
              exact HH4.out.set k _
            case measure => simp [intOf]; omega
          · obtain rfl : k = 35 := by omega
            have HLEN := Lib.hid (show (fromChains m S 35).length = 35 from chains_len _ _)
            have HST := Lib.hid (strs_of_holds HU.out.2 HLEN.out)
            have HTOT := Lib.hid (show total (fromChains m S 35) ≤ 1073741800 by have := total_leM _ 16 (from_size m S (marksOk_all HMK.out) HL35.out 35 (Nat.le_refl _)); rw [HLEN.out] at this; omega)
            have HKW := Lib.hid (HK.out.below HU.out.1 HK.out.lt)
            have HMA := Lib.hid (mark_any 112 (fromChains m S 35) (some ⟨w.heap.size + 1, 0, none⟩) 35 wr HKW.out HTOT.out (by rw [HLEN.out]; omega) HST.out)
            rw [HLEN.out] at HMA
            clear hlt hk
            go_wp2_with fail
            refine HMA.out.mono ?_
            rintro e w7 ⟨rfl, hb7⟩
            have HB7 := Lib.hid (HU.out.1.trans (hb7.mono HU.out.1.size))
            clear hb7 HMA
            go_wp2
            refine bodyPost_ret (results_tmp2 rfl _ _ _) rfl ?_
            exact ⟨by rw [← HX.out]; rfl, HB7.out⟩
      · rw [if_neg (fun e => hmk e.2.2)] at h
        obtain ⟨rfl, rfl⟩ := Prod.mk.inj h
        have HMK := Lib.hid (show marksOk S = false by simpa using hmk)
        clear h h16 h35 hmk
        go_enter Tryz.func178, Tryz.ntmps178
        go_wp2_with fail
        refine (qAre_any [m] _ 1 _ (by simp) HS0.out).mono ?_
        rintro e w1 ⟨rfl, rfl⟩
        rw [HM.out]
        go_wp2_with fail
        refine (qAre_any S A cap _ hl (HS.out.below HB0.out)).mono ?_
        rintro e w1 ⟨rfl, rfl⟩
        rw [HMK.out]
        go_wp2
        refine bodyPost_ret (results_tmp2 rfl _ _ _) rfl ?_
        exact ⟨rfl, HB0.out⟩
    · rw [if_neg (fun e => h35 e.2.1)] at h
      obtain ⟨rfl, rfl⟩ := Prod.mk.inj h
      have e35 : ((S.length : Int) == 35) = false := by rw [beq_eq_false_iff_ne]; omega
      have e36 : ((S.length : Int) != 35) = true := by simp; omega
      clear h h16 h35
      go_enter Tryz.func178, Tryz.ntmps178
      go_wp2_with fail
      refine (qAre_any [m] _ 1 _ (by simp) HS0.out).mono ?_
      rintro e w1 ⟨rfl, rfl⟩
      rw [HM.out]
      go_wp2
      refine bodyPost_ret (results_tmp2 rfl _ _ _) rfl ?_
      exact ⟨rfl, HB0.out⟩
  · rw [if_neg (fun e => h16 e.1)] at h
    obtain ⟨rfl, rfl⟩ := Prod.mk.inj h
    have HM := Lib.hid (oneMark (decide_eq_false h16))
    clear h h16
    go_enter Tryz.func178, Tryz.ntmps178
    go_wp2_with fail
    refine (qAre_any [m] _ 1 _ (by simp) HS0.out).mono ?_
    rintro e w1 ⟨rfl, rfl⟩
    rw [HM.out]
    go_wp2
    refine bodyPost_ret (results_tmp2 rfl _ _ _) rfl ?_
    exact ⟨rfl, HB0.out⟩
end Go.Proofs.YtgjmbokfenpefaaGreatDoor
/- The program's seal: Verify. -/
namespace Go.Proofs.YtgjmbokfenpefaaGreatDoor
open Go.RowKit

set_option maxHeartbeats 2000000 in
set_option maxRecDepth 100000 in
theorem vVerify_any (pub m : ByteArray) (key : Int) (S P : List ByteArray) (A B : Option Addr) (ca cb : Nat) (w : World) (hk : HasK w) (hls : S.length ≤ 1000000) (hlp : P.length ≤ 1000000) (hs : Strs w A S) (hp : Strs w B P) :
    Calls Tryz.prog 116 #[.string pub, .string m, .agg #[.int .i64 key, .slice A S.length ca, .slice B P.length cb]] w fun e w' => e = .returned (.bool (sealOk pub m key S P)) ∧ Below w.heap.size w w' := by
  have HB0 := Lib.hid (alloc_below w (.cells #[.int .i64 key, .slice A S.length ca, .slice B P.length cb] 55))
  have HH0 := Lib.hid (show Holds (w.alloc (.cells #[.int .i64 key, .slice A S.length ca, .slice B P.length cb] 55)) w.heap.size 3 (slF key (.slice A S.length ca) (.slice B P.length cb)) 55 from Holds.new w 3 (slF key (.slice A S.length ca) (.slice B P.length cb)) 55)
  have HK := Lib.hid (hk.below HB0.out hk.lt)
  have HSS := Lib.hid (hs.below HB0.out)
  have HPP := Lib.hid (hp.below HB0.out)
  have HE0 := Lib.hid (show errOf 0 = Value.nilIface from rfl)
  clear hk hs hp
  obtain ⟨T, hT⟩ : ∃ T, sealOk pub m key S P = T := ⟨_, rfl⟩
  rw [hT]
  have HT := Lib.hid hT
  clear hT
  go_enter Tryz.func116, Tryz.ntmps116
  have c0 : (w.alloc (.cells #[.int .i64 key, .slice A S.length ca, .slice B P.length cb] 55)).cell? ⟨w.heap.size, 0, none⟩ = some (.int .i64 key) := HH0.out.cell 0 (by omega)
  have c1 : (w.alloc (.cells #[.int .i64 key, .slice A S.length ca, .slice B P.length cb] 55)).cell? ⟨w.heap.size, 1, none⟩ = some (.slice A S.length ca) := HH0.out.cell 1 (by omega)
  have c2 : (w.alloc (.cells #[.int .i64 key, .slice A S.length ca, .slice B P.length cb] 55)).cell? ⟨w.heap.size, 2, none⟩ = some (.slice B P.length cb) := HH0.out.cell 2 (by omega)
  by_cases hkey : 0 ≤ key ∧ key ≤ 7
  · by_cases h3 : P.length = 3
    · have e2 : ((P.length : Int) != 3) = false := by simp; omega
      have e3 : ((P.length : Int) == 3) = true := by rw [beq_iff_eq]; omega
      have H3 := Lib.hid h3
      clear h3
      go_wp2_with fail
      generalize w.alloc (.cells #[.int .i64 key, .slice A S.length ca, .slice B P.length cb] 55) = w0 at HB0 HH0 HK HSS HPP c0 c1 c2
      refine (vKey_any key _).mono ?_
      rintro e w1 ⟨rfl, rfl⟩
      rw [decide_eq_true hkey]
      go_wp2_with fail
      refine (vAre_any P B cb _ hlp HPP.out).mono ?_
      rintro e w1 ⟨rfl, rfl⟩
      clear e2 e3
      obtain ⟨mk, hmk⟩ : ∃ mk, marksOk P = mk := ⟨_, rfl⟩
      rw [hmk]
      cases mk
      · have HF := Lib.hid (show T = false by rw [← HT.out]; unfold sealOk; rw [hmk]; simp)
        clear hmk hkey
        go_wp2
        go_ret
        exact ⟨by rw [HF.out]; rfl, HB0.out⟩
      · have HMK := Lib.hid hmk
        clear hmk
        obtain ⟨x, n, hx⟩ : ∃ x n, fromAns m S = (x, n) := ⟨_, _, rfl⟩
        have HX := Lib.hid hx
        clear hx
        go_wp2_with fail
        refine (qFrom_is m S A ca x n _ HK.out hls HSS.out HX.out).mono ?_
        rintro e w2 ⟨rfl, hb2⟩
        have HB2 := Lib.hid (HB0.out.trans (hb2.mono HB0.out.size))
        have HK2 := Lib.hid (HK.out.below hb2 HK.out.lt)
        have HPP2 := Lib.hid (HPP.out.below hb2)
        have HH2 := Lib.hid (HH0.out.below hb2 HH0.out.lt)
        clear hb2 c0 c1 c2
        by_cases hn : n = 0
        · subst hn
          rw [HE0.out]
          have HXS := Lib.hid (fromAns_size HX.out)
          have HTT := Lib.hid (show decide (upFrom P (sLeaf key x) key.toNat = pub) = T by
            rw [← HT.out]; unfold sealOk sLeaf; rw [HX.out, HMK.out, H3.out]; simp [hkey])
          obtain ⟨kk, rfl⟩ : ∃ kk : Nat, key = (kk : Int) := ⟨key.toNat, by omega⟩
          have hkk : kk ≤ 7 := by omega
          rw [Int.toNat_natCast] at HTT
          have c0 : w2.cell? ⟨w.heap.size, 0, none⟩ = some (.int .i64 (kk : Int)) := HH2.out.cell 0 (by omega)
          have c2 : w2.cell? ⟨w.heap.size, 2, none⟩ = some (.slice B P.length cb) := HH2.out.cell 2 (by omega)
          clear hkey
          go_wp2_with fail
          refine (vClimb_any kk x P B cb _ HK2.out hkk HXS.out H3.out HMK.out HPP2.out).mono ?_
          rintro e w3 ⟨rfl, hb3⟩
          have HB3 := Lib.hid (HB2.out.trans (hb3.mono HB2.out.size))
          clear hb3 c0 c2
          generalize upFrom P (sLeaf (kk : Int) x) kk = t at HTT ⊢
          have HEQ := Lib.hid (show (t.toList == pub.toList) = T by
            rw [← HTT.out, Bool.eq_iff_iff, beq_iff_eq, decide_eq_true_eq, ByteArray.toList_eq, ByteArray.toList_eq]
            exact ⟨text_of, fun h => by rw [h]⟩)
          go_wp2
          go_ret
          exact ⟨by rw [← HEQ.out]; rfl, HB3.out⟩
        · have HEL := Lib.hid (show errOf n = Value.iface 28 (.int .i64 n) by unfold errOf; rw [if_neg hn])
          have HF := Lib.hid (show T = false by rw [← HT.out]; unfold sealOk; rw [HX.out]; simp [hn])
          rw [HEL.out]
          clear hn hkey
          go_wp2
          go_ret
          exact ⟨by rw [HF.out]; rfl, HB2.out⟩
    · have e2 : ((P.length : Int) != 3) = true := by simp; omega
      have e3 : ((P.length : Int) == 3) = false := by rw [beq_eq_false_iff_ne]; omega
      have HF := Lib.hid (show T = false by rw [← HT.out]; unfold sealOk; rw [decide_eq_false h3]; simp)
      clear h3
      go_wp2_with fail
      generalize w.alloc (.cells #[.int .i64 key, .slice A S.length ca, .slice B P.length cb] 55) = w0 at HB0 HH0 HK HSS HPP c0 c1 c2
      refine (vKey_any key _).mono ?_
      rintro e w1 ⟨rfl, rfl⟩
      rw [decide_eq_true hkey]
      clear hkey
      go_wp2
      go_ret
      exact ⟨by rw [HF.out]; rfl, HB0.out⟩
  · have HF := Lib.hid (show T = false by rw [← HT.out]; unfold sealOk; rw [decide_eq_false hkey]; simp)
    go_wp2_with fail
    generalize w.alloc (.cells #[.int .i64 key, .slice A S.length ca, .slice B P.length cb] 55) = w0 at HB0 HH0 HK HSS HPP c0 c1 c2
    refine (vKey_any key _).mono ?_
    rintro e w1 ⟨rfl, rfl⟩
    rw [decide_eq_false hkey]
    clear hkey
    go_wp2
    go_ret
    exact ⟨by rw [HF.out]; rfl, HB0.out⟩
end Go.Proofs.YtgjmbokfenpefaaGreatDoor
/- The program's client: whether a head has its own epoch's seal. -/
namespace Go.Proofs.YtgjmbokfenpefaaGreatDoor
open Go.RowKit

def sealedOk (pub : ByteArray) (h : Hd) (key : Int) (S P : List ByteArray) : Bool := rightHead h && (decide (key = h.epoch - 1) && sealOk pub (headMark h) key S P)
set_option maxHeartbeats 2000000 in
set_option maxRecDepth 100000 in
theorem pSealed_is (F : Nat → Prop) (p : Nat) (c : Cl) (h : Hd) (key : Int) (S P : List ByteArray) (A B : Option Addr) (ca cb : Nat) (T : Bool) (w : World) (hc : PCl F w p c) (hk : HasK w)
    (hls : S.length ≤ 1000000) (hlp : P.length ≤ 1000000) (he : h.epoch < 9223372036854775808) (hs : Strs w A S) (hp : Strs w B P) (ht : sealedOk c.pub h key S P = T) :
    Calls Tryz.prog 72 #[.pointer (some ⟨p, 0, none⟩), .agg #[.int .i64 h.epoch, .string h.root, .string h.prev, .int .i64 key, .slice A S.length ca, .slice B P.length cb]] w fun e w' => e = .returned (.bool T) ∧ Below w.heap.size w w' := by
  obtain ⟨v, hc⟩ := hc
  have HB0 := Lib.hid (alloc_below w (.cells #[.int .i64 h.epoch, .string h.root, .string h.prev, .int .i64 key, .slice A S.length ca, .slice B P.length cb] 57))
  have HX0 := Lib.hid (show Holds (w.alloc (.cells #[.int .i64 h.epoch, .string h.root, .string h.prev, .int .i64 key, .slice A S.length ca, .slice B P.length cb] 57)) w.heap.size 6 (sgF h key (.slice A S.length ca) (.slice B P.length cb)) 57 from Holds.new w 6 (sgF h key (.slice A S.length ca) (.slice B P.length cb)) 57)
  have HK0 := Lib.hid (hk.below HB0.out hk.lt)
  have HC0 := Lib.hid (hc.same (same_of_below HB0.out hc.lt))
  have HS0 := Lib.hid (hs.below HB0.out)
  have HP0 := Lib.hid (hp.below HB0.out)
  have HE := Lib.hid he
  have HT := Lib.hid ht
  clear hc hk hs hp he ht
  obtain ⟨mk, m, hmk⟩ : ∃ mk m, headMarkAns h = (mk, m) := ⟨_, _, rfl⟩
  have HMK := Lib.hid hmk
  go_enter Tryz.func72, Tryz.ntmps72
  go_wp2_with fail
  generalize w.alloc (.cells #[.int .i64 h.epoch, .string h.root, .string h.prev, .int .i64 key, .slice A S.length ca, .slice B P.length cb] 57) = w0 at HB0 HX0 HK0 HC0 HS0 HP0 ⊢
  refine (pHdMark_is h mk m _ HK0.out HMK.out).mono ?_
  rintro e w1 ⟨rfl, hb1⟩
  have HB1 := Lib.hid (HB0.out.trans (hb1.mono HB0.out.size))
  have HK1 := Lib.hid (HK0.out.below hb1 HK0.out.lt)
  have HC1 := Lib.hid (HC0.out.same (same_of_below hb1 HC0.out.lt))
  have HX1 := Lib.hid (HX0.out.below hb1 HX0.out.lt)
  have HS1 := Lib.hid (HS0.out.below hb1)
  have HP1 := Lib.hid (HP0.out.below hb1)
  have HP1L := Lib.hid (show p < w1.heap.size from HC1.out.own.lt)
  have HQ1L := Lib.hid (show w.heap.size < w1.heap.size from HX1.out.lt)
  clear hb1 HK0 HC0 HX0 HS0 HP0 HB0
  have HF2 := Lib.hid (show ∀ z : Later w1.heap.size w1, z.at'.cell? ⟨p, 0, none⟩ = some (.string c.pub) ∧ (z.at'.cell? ⟨w.heap.size, 0, none⟩ = some (.int .i64 h.epoch) ∧ z.at'.cell? ⟨w.heap.size, 3, none⟩ = some (.int .i64 key)) ∧ z.at'.cell? ⟨w.heap.size, 4, none⟩ = some (.slice A S.length ca) ∧ z.at'.cell? ⟨w.heap.size, 5, none⟩ = some (.slice B P.length cb) from fun z =>
    ⟨(z.below.cell (p := ⟨p, 0, none⟩) HP1L.out).trans (HC1.out.own.cell 0 (by omega)), ⟨(z.below.cell (p := ⟨w.heap.size, 0, none⟩) HQ1L.out).trans (HX1.out.cell 0 (by omega)), (z.below.cell (p := ⟨w.heap.size, 3, none⟩) HQ1L.out).trans (HX1.out.cell 3 (by omega))⟩, (z.below.cell (p := ⟨w.heap.size, 4, none⟩) HQ1L.out).trans (HX1.out.cell 4 (by omega)), (z.below.cell (p := ⟨w.heap.size, 5, none⟩) HQ1L.out).trans (HX1.out.cell 5 (by omega))⟩)
  have z1 : ∀ z : Later w1.heap.size w1, z.at'.cell? ⟨p, 0, none⟩ = some (.string c.pub) := fun z => (HF2.out z).1
  have z2 : ∀ z : Later w1.heap.size w1, z.at'.cell? ⟨w.heap.size, 0, none⟩ = some (.int .i64 h.epoch) := fun z => (HF2.out z).2.1.1
  have z3 : ∀ z : Later w1.heap.size w1, z.at'.cell? ⟨w.heap.size, 3, none⟩ = some (.int .i64 key) := fun z => (HF2.out z).2.1.2
  have z4 : ∀ z : Later w1.heap.size w1, z.at'.cell? ⟨w.heap.size, 4, none⟩ = some (.slice A S.length ca) := fun z => (HF2.out z).2.2.1
  have z5 : ∀ z : Later w1.heap.size w1, z.at'.cell? ⟨w.heap.size, 5, none⟩ = some (.slice B P.length cb) := fun z => (HF2.out z).2.2.2
  unfold headMarkAns at hmk
  by_cases hrt : rightHead h = true
  · rw [if_pos hrt] at hmk
    obtain ⟨rfl, rfl⟩ := Prod.mk.inj hmk
    rw [show errOf 0 = .nilIface from rfl]
    obtain ⟨k, hk⟩ : ∃ k : Nat, h.epoch = (k : Int) + 1 := ⟨(h.epoch - 1).toNat, by have := (rightHead_facts hrt).1; omega⟩
    have HK := Lib.hid hk
    have hwk : wrap64 (h.epoch - 1) = (k : Int) := by have := HE.out; unfold wrap64; omega
    have HRT := Lib.hid hrt
    clear hrt hmk hk
    by_cases hkey : key = (k : Int)
    · have e1 : (key == (k : Int)) = true := by rw [beq_iff_eq]; exact hkey
      have HKEY := Lib.hid hkey
      clear hkey
      have HT2 := Lib.hid (show sealOk c.pub (headMark h) key S P = T from by
        have := HT.out
        unfold sealedOk at this
        rw [HRT.out, show decide (key = h.epoch - 1) = true from decide_eq_true (by rw [HK.out, HKEY.out]; omega)] at this
        simpa using this)
      have HVZ := Lib.hid (show ∀ z : Later w1.heap.size w1, Calls Tryz.prog 116 #[.string c.pub, .string (headMark h), .agg #[.int .i64 key, .slice A S.length ca, .slice B P.length cb]] z.at' fun e w' => e = .returned (.bool T) ∧ Below z.at'.heap.size z.at' w' from fun z => by
        rw [← HT2.out]
        exact vVerify_any c.pub (headMark h) key S P A B ca cb z.at' (HK1.out.below z.below HK1.out.lt) hls hlp (HS1.out.below z.below) (HP1.out.below z.below))
      go_wp2
      refine wp_region_later (by kernel_rfl) (by kernel_rfl) ?_
      repeat (go_big_quiet_step ((first | (go_at_call 116; refine later_of (HVZ.out _)))))
      refine wpQuiet_nil ?_
      rintro w2 ⟨⟨w2, hb2⟩, rfl⟩
      have HB2 := Lib.hid (HB1.out.trans (hb2.mono HB1.out.size))
      clear z1 z2 z3 z4 z5 hb2 HF2 HVZ
      go_wp2
      go_ret
      exact ⟨rfl, HB2.out⟩
    · have e1 : (key == (k : Int)) = false := by rw [beq_eq_false_iff_ne]; exact hkey
      have HT2 := Lib.hid (show T = false from by
        have := HT.out
        unfold sealedOk at this
        rw [HRT.out, show decide (key = h.epoch - 1) = false from decide_eq_false (by rw [HK.out]; intro e; exact hkey (by rw [e]; omega))] at this
        simpa using this.symm)
      clear hkey
      go_wp2
      refine wp_region_later (by kernel_rfl) (by kernel_rfl) ?_
      repeat (go_big_quiet_step (fail))
      refine wpQuiet_nil ?_
      rintro w2 ⟨⟨w2, hb2⟩, rfl⟩
      have HB2 := Lib.hid (HB1.out.trans (hb2.mono HB1.out.size))
      clear z1 z2 z3 z4 z5 hb2 HF2
      go_wp2
      go_ret
      exact ⟨by rw [HT2.out]; rfl, HB2.out⟩
  · rw [if_neg hrt] at hmk
    obtain ⟨rfl, rfl⟩ := Prod.mk.inj hmk
    rw [show errOf 1 = .iface 28 (.int .i64 1) from rfl]
    have HT2 := Lib.hid (show T = false from by
      have := HT.out
      unfold sealedOk at this
      rw [show rightHead h = false from by simpa using hrt] at this
      simpa using this.symm)
    clear hmk hrt
    go_wp2
    refine wp_region_later (by kernel_rfl) (by kernel_rfl) ?_
    repeat (go_big_quiet_step (fail))
    refine wpQuiet_nil ?_
    rintro w2 ⟨⟨w2, hb2⟩, rfl⟩
    have HB2 := Lib.hid (HB1.out.trans (hb2.mono HB1.out.size))
    clear z1 z2 z3 z4 z5 hb2 HF2
    go_wp2
    go_ret
    exact ⟨by rw [HT2.out]; rfl, HB2.out⟩
end Go.Proofs.YtgjmbokfenpefaaGreatDoor
