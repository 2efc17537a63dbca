/- Parts of the proof, one behind the other: Row2, MapK2, RIndex, Bits, Eight, RNum, Rot2, RWords. -/
import Derived.WalkKit
import Derived.Lib.Hide
import Derived.WalkLawsBesides
import Derived.Deep.QuietTactic
import Derived.Deep.WholeRow
import Derived.ArgAppend
import Derived.Laws.AppendOwnNone
import Derived.Laws.CopyRow
import Derived.Deep.RegionLaw
import Derived.Laws.BytesString
import Derived.Laws.IdiomStrings
import Derived.Test.YtgjmbokfenpefaaGreatDoorProg
import Derived.StringKeys
import Derived.Maps.Own
import Derived.Maps.Views
import Derived.Maps.OwnSet
import Derived.Maps.OwnOps
import Derived.Maps.RangeWalk
import Derived.Sort.KeysCollected
import Derived.Laws.BitsAllLaws
import Derived.Outline
import Derived.RegionTactic
import Derived.BigQuiet
import Derived.Laws.CopyOwn
import Derived.Test.YtgjmbokfenpefaaGreatDoorM1
import Derived.Test.YtgjmbokfenpefaaGreatDoorM2
import Derived.Test.YtgjmbokfenpefaaGreatDoorM3
import Derived.Test.YtgjmbokfenpefaaGreatDoorM4
/- Rows out of texts; parts of blocks loaded whole. No program is imported. -/
namespace Go.Proofs.YtgjmbokfenpefaaGreatDoor
open Go.RowKit

theorem bytesRow_get (s : ByteArray) (cap j : Nat) (hc : s.size ≤ cap) (hj : j < cap) : ((bytesRow s cap)[j]?).isSome = true := by
  have : (bytesRow s cap).size = cap := by
    unfold bytesRow
    rw [Array.size_append, Array.size_map, Array.size_replicate]
    have e : s.data.size = s.size := rfl
    omega
  simp [this, hj]
theorem bytesRow_byte (s : ByteArray) (cap j : Nat) (u : Value) (h : (bcells s.data.toList)[j]? = some u) : (bytesRow s cap)[j]? = some u := by
  have hj : j < (bcells s.data.toList).length := (List.getElem?_eq_some_iff.1 h).1
  rw [bcells_length] at hj
  have hj2 : j < s.data.size := by simpa using hj
  rw [bytesRow_at s cap j hj2]
  rw [← h]
  simp only [bcells, List.getElem?_map, Array.getElem?_toList, Array.getElem?_eq_getElem hj2, Option.map_some]
theorem Row.of_bytes (w : World) (s : ByteArray) (cap : Nat) (e : TypeId) (hc : s.size ≤ cap) :
    Row (w.drew.alloc (.cells (bytesRow s cap) e ((bytesRow s cap).size, (bytesRow s cap).size + 1))) w.heap.size 1 (.slice (some ⟨w.heap.size, 0, none⟩) s.size cap) s.size (bcells s.data.toList) := by
  have hh : (w.drew.alloc (.cells (bytesRow s cap) e ((bytesRow s cap).size, (bytesRow s cap).size + 1))).heap[w.heap.size]? = some (.cells (bytesRow s cap) e ((bytesRow s cap).size, (bytesRow s cap).size + 1)) := by
    show (w.heap.push _)[w.heap.size]? = _
    simp
  refine ⟨by rw [bcells_length, size_len, Nat.mul_one], .inr ⟨w.heap.size, cap, rfl, Nat.le_refl _, by simp, hc, ?_, ?_⟩⟩
  · intro j u hj
    rw [cell_of_row _ _ _ _ _ _ hh]
    exact bytesRow_byte s cap j u hj
  · intro j hj
    rw [cell_of_row _ _ _ _ _ _ hh]
    have hjc : j < cap := by omega
    refine ⟨bytesRow_get s cap j hc hjc, ?_⟩
    have hsz : (bytesRow s cap).size = cap := by
      unfold bytesRow
      rw [Array.size_append, Array.size_map, Array.size_replicate]
      have e : s.data.size = s.size := rfl
      omega
    unfold World.frozen?
    rw [hh]
    simp only [hsz]
    rw [decide_eq_false (by omega)]; rfl
/-- '[]byte(s)'. -/
theorem wpList_bytes_row {P : Program} {ops : Array Oper} {rest : List Oper} {o : Oper} {a : Act} {w : World} {Q : Exit → Act → World → Prop} (hgd : o.guard = none) (src dst : TypeId) (x : Operand) (ho : o.op = .convert src dst x)
    (e : TypeId) (s : ByteArray) (hx : a.eval x = .string s) (hs : P.underlying src = some .string) (hd : P.underlying dst = some (.slice e)) (he : P.underlying e = some (.int .u8))
    (hK : ∀ v w', Hid (Row w' w.heap.size 1 v s.size (bcells s.data.toList)) → Hid (Below w.heap.size w w') → wpList P ops Q rest (a.put o.dst v) w') : wpList P ops Q (o :: rest) a w := by
  refine wpList_plain hgd fun K hKK => ?_
  have hrun := run_bytes_of_string (P := P) w src dst e s hs hd he
  unfold Oper.wp execOp
  simp only [ho, hx, Sem.run_bind, hrun, Result.andThen]
  refine hKK _ _ (hK _ _ (show Row _ _ _ _ _ _ from Row.of_bytes w s _ e ?_) (show Below _ _ _ from ((Below.refl _ _).drew).alloc (Nat.le_refl _) _))
  exact grownCap_ge _ _ _ _
/-- A part of a block, loaded whole. -/
theorem run_loadVar_part {P : Program} {w : World} {b n : Nat} {f : Nat → Value} {t : TypeId} (h : Holds w b n f t) (ty : TypeId) (o k : Nat) (d : TypeDesc) (hfit : o + k ≤ n)
    (hu : P.underlying ty = some d) (hd : (match d with | .struct _ | .array _ _ => true | _ => false) = true) (hi : (P.info? ty).map (·.size) = some k) :
    (loadVar ty ⟨b, o, none⟩).run P w = .ok (.agg (arr k fun i => f (o + i))) w := by
  have hl : (loadCells ⟨b, o, none⟩ (arr k fun i => f (o + i)).toList.length).run P w = .ok (arr k fun i => f (o + i)).toList.toArray w :=
    run_loadCells_list (P := P) w ⟨b, o, none⟩ (arr k fun i => f (o + i)).toList (fun j v hv => by
      have hadd : (⟨b, o, none⟩ : Addr).add j = ⟨b, o + j, none⟩ := by unfold Addr.add; split <;> simp_all
      have hj : j < k := by
        have := (List.getElem?_eq_some_iff.1 hv).1; rw [Array.length_toList, arr_size] at this; exact this
      rw [hadd, h.cell (o + j) (by omega)]
      have := arr_get k (fun i => f (o + i)) j hj
      simp at hv this
      rw [this] at hv
      exact hv)
  cases hq : P.info? ty with
  | none => simp [hq] at hi
  | some i =>
    have hs : i.size = k := by simpa [hq] using hi
    have hagg : (isAgg ty).run P w = .ok true w := by
      unfold isAgg
      rw [Sem.run_bind, run_underlying hu w]
      cases d <;> simp_all
    simp only [Array.length_toList, Array.toArray_toList, arr_size] at hl
    simp [loadVar, Sem.run_bind, hagg, sizeOf, typeInfo, hq, hs, hl]
theorem wpList_load_part {P : Program} {ops : Array Oper} {rest : List Oper} {o : Oper} {a : Act} {w : World} {Q : Exit → Act → World → Prop} (hgd : o.guard = none) (ty : TypeId) (x : Operand) (ho : o.op = .load ty x)
    (b n : Nat) (f : Nat → Value) (t : TypeId) (off k : Nat) (hx : a.eval x = .pointer (some ⟨b, off, none⟩)) (hh : Holds w b n f t) (d : TypeDesc) (hfit : off + k ≤ n)
    (hu : P.underlying ty = some d) (hd : (match d with | .struct _ | .array _ _ => true | _ => false) = true) (hi : (P.info? ty).map (·.size) = some k)
    (h : wpList P ops Q rest (a.put o.dst (.agg (arr k fun i => f (off + i)))) w) : wpList P ops Q (o :: rest) a w := by
  refine wpList_plain hgd fun K hK => ?_
  unfold Oper.wp execOp
  simp only [ho, hx, Instr.loadAt, Instr.sureAddr, Sem.run_bind, Sem.run_pure, Result.andThen_ok, run_loadVar_part hh ty off k d hfit hu hd hi]
  exact hK _ _ h
theorem wpList_append_one {P : Program} {w : World} {ops : Array Oper} {rest : List Oper} {o : Oper} {a : Act} {Q : Exit → Act → World → Prop}
    (hg : o.guard = none) (s x : Operand) (t : TypeId) (hop : o.op = Op.call { callee := Callee.builtin Builtin.append, args := #[s, x], argTypes := #[t, t] })
    (e : TypeId) (h1 : P.underlying t = some (.slice e)) (z : Value) (bytes : Nat) (hi : (P.info? e).map (fun i => (i.zero, i.size, i.bytes)) = some (some z, 1, bytes)) (h6 : z.cells.size = 1) (hby : bytes ≤ 64)
    (base : Nat) (v : Value) (n : Nat) (xs : List Value) (hs : a.eval s = v) (hrow : Row w base 1 v n xs) (hbase : base ≤ w.heap.size) (hn : n ≤ 2147483647)
    (u : Value) (hx : a.eval x = .slice (some ⟨w.heap.size, 0, none⟩) 1 1) (h1c : u.oneCell' = true) (e' : TypeId)
    (hK : ∀ v' w', Hid (Row w' base 1 v' (n + 1) (xs ++ [u])) → Hid (w.grownBy w' v.ownBlock) → wpList P ops Q rest (a.put o.dst v') w') :
    wpList P ops Q (o :: rest) a (w.alloc (.cells #[u] e')) :=
  wpList_append_one2 hg s x t hop e h1 z bytes hi h6 hby base v n xs hs hrow hbase hn u hx h1c e' fun v' w' h1 h2 _ => hK v' w' h1 h2
/-- A part of a slice of one-cell elements, its bounds as natural numbers. -/
theorem slice_lh {P : Program} (t e : Nat) (ht : P.underlying t = some (.slice e)) (hz : ∀ w, (Go.sizeOf e).run P w = .ok 1 w) (b o len cap l h : Nat) (hl : l ≤ h) (hh : h ≤ cap) (hn : l < cap) (x y : Int) (hx : x = l) (hy : y = h) (w : World) :
    (Instr.sliceAt t (.slice (some ⟨b, o, none⟩) len cap) (some (.int .i64 x)) (some (.int .i64 y)) none).run P w = .ok (.slice (some ⟨b, o + l, none⟩) (h - l) (cap - l)) w := by
  subst hx; subst hy
  have e2 : P.elem t = e := by simp [Program.elem, ht]
  rw [run_sliceAt_slice w t _ _ _ _ (by rw [e2]; exact ht), run_slice_lh w t (some ⟨b, o, none⟩) len cap (by rw [e2]; exact ht) .i64 .i64 l h (by omega) (by omega) (by omega), e2, hz]
  have : ¬ cap = l := by omega
  simp [Result.andThen, sliced, Addr.add, this]
theorem slice_l {P : Program} (t e : Nat) (ht : P.underlying t = some (.slice e)) (hz : ∀ w, (Go.sizeOf e).run P w = .ok 1 w) (b o len cap l : Nat) (hl : l ≤ len) (x : Int) (hx : x = l) :
    ∃ a : Addr, (l < cap → a = ⟨b, o + l, none⟩) ∧ ∀ w, (Instr.sliceAt t (.slice (some ⟨b, o, none⟩) len cap) (some (.int .i64 x)) none none).run P w = .ok (.slice (some a) (len - l) (cap - l)) w := by
  subst hx
  have e2 : P.elem t = e := by simp [Program.elem, ht]
  refine ⟨if cap = l then ⟨b, o, none⟩ else ⟨b, o + l, none⟩, fun h => by rw [if_neg (by omega)], fun w => ?_⟩
  rw [run_sliceAt_slice w t _ _ _ _ (by rw [e2]; exact ht), run_slice_l w t (some ⟨b, o, none⟩) len cap (by rw [e2]; exact ht) .i64 l (by omega) (by omega), e2, hz]
  by_cases h : cap = l
  · simp [Result.andThen, sliced, h]
  · simp [Result.andThen, sliced, Addr.add, h]
end Go.Proofs.YtgjmbokfenpefaaGreatDoor
/- Maps from texts to texts, to numbers, to bools. -/
namespace Go.Proofs.YtgjmbokfenpefaaGreatDoor
open Go.RowKit Go.Maps

set_option maxRecDepth 100000 in
theorem elemB_inv {v : Value} {z : DataW Unit × List MemPlace} (h : plainElem Tryz.prog 4 v = some z) : ∃ x, v = .bool x ∧ z = (.lit (.bool x), []) ∧ True := by
  unfold plainElem at h
  rw [Tryz.underlying4] at h
  cases v <;> simp at h
  subst h
  exact ⟨_, rfl, rfl, trivial⟩
/-- Bools as elements. -/
noncomputable def kB : MKind Bool where
  M := 166
  E := 4
  wd := .bool
  lt := .bool
  zero := false
  good _ := True
  und := Tryz.underlying166
  R := plainElem Tryz.prog 4
  put x _ := plainElem_bool Tryz.underlying4 x
  inv _ _ h := elemB_inv h
  inj _ _ h := by injection h
  zer w := Tryz.zeroValue4 w
  zgood := trivial

section
variable {α : Type}
theorem upsAll_snoc (L P : List (ByteArray × α)) (p : ByteArray × α) : upsAll L (P ++ [p]) = ups (upsAll L P) p.1 p.2 := by simp [upsAll, List.foldl_append]
/-- In whichever order they are put in, each once. -/
theorem upsAll_same {L P Q : List (ByteArray × α)} (hP : (keysL P).Nodup) (hQ : (keysL Q).Nodup) (h : SameSay P Q) : SameSay (upsAll L P) (upsAll L Q) := fun s => by
  rw [upsAll_look _ _ hP, upsAll_look _ _ hQ, h s]
end
end Go.Proofs.YtgjmbokfenpefaaGreatDoor
/- The document's names and indexes: in, mark, at, Name, Bit, Common. -/
namespace Go.Proofs.YtgjmbokfenpefaaGreatDoor
open Go.RowKit

theorem in_any (n low high : Int) (w : World) : Calls Tryz.prog 66 #[.int .i64 n, .int .i64 low, .int .i64 high] w fun e w' => e = .returned (.bool (decide (low ≤ n) && decide (n ≤ high))) ∧ w' = w := by
  by_cases h1 : low ≤ n
  · by_cases h2 : n ≤ high
    · have e : (decide (low ≤ n) && decide (n ≤ high)) = true := by simp [h1, h2]
      rw [e]
      clear e
      go_enter Tryz.func66, Tryz.ntmps66
      go_wp2
      go_ret
      exact ⟨rfl, rfl⟩
    · have e : (decide (low ≤ n) && decide (n ≤ high)) = false := by simp [h2]
      rw [e]
      clear e
      go_enter Tryz.func66, Tryz.ntmps66
      go_wp2
      go_ret
      exact ⟨rfl, rfl⟩
  · have e : (decide (low ≤ n) && decide (n ≤ high)) = false := by simp [h1]
    rw [e]
    clear e
    go_enter Tryz.func66, Tryz.ntmps66
    go_wp2
    go_ret
    exact ⟨rfl, rfl⟩
theorem isMark_any (s : ByteArray) (w : World) : Calls Tryz.prog 32 #[.string s] w fun e w' => e = .returned (.bool (decide (s.size = 16))) ∧ w' = w := by
  by_cases h : s.size = 16
  · go_enter Tryz.func32, Tryz.ntmps32
    go_wp2
    go_ret
    exact ⟨by simp [h], rfl⟩
  · go_enter Tryz.func32, Tryz.ntmps32
    go_wp2
    go_ret
    refine ⟨?_, rfl⟩
    simp [h]; omega
set_option maxRecDepth 100000 in
theorem at_any (ix : ByteArray) (k : Nat) (w : World) (h16 : ix.size = 16) (hk : k < 128) :
    Calls Tryz.prog 219 #[.string ix, .int .i64 (k : Int)] w fun e w' => e = .returned (.int .i64 ((bitOf ix.data.toList k : Nat) : Int)) ∧ w' = w := by
  have hlt : k / 8 < ix.size := by omega
  obtain ⟨B, hB⟩ : ∃ B : Nat, ix[k / 8].toNat = B := ⟨_, rfl⟩
  have hB2 : B < 256 := by rw [← hB]; exact ix[k / 8].toNat_lt
  have hw : wrap64 ((ix[k / 8].toNat : Nat) : Int) = (B : Int) := by rw [hB]; simp [wrap64]; omega
  obtain ⟨D, hD⟩ : ∃ D : Nat, 7 - k % 8 = D := ⟨_, rfl⟩
  have hDi : 7 - (k : Int) % 8 = (D : Int) := by omega
  have hbit : bitOf ix.data.toList k = B / 2 ^ D % 2 := by
    unfold bitOf
    rw [hD, ← hB]
    congr 3
    rw [List.getD_eq_getElem?_getD, List.getElem?_eq_getElem (by rw [Array.length_toList]; exact hlt)]; rfl
  have HBIT := Lib.hid hbit
  clear hbit hD
  go_enter Tryz.func219, Tryz.ntmps219
  go_wp2
  go_loopw [5, 14] (fun b i wr => ∃ j d : Nat, j ≤ D ∧ d = B / 2 ^ j ∧ b = .int .i64 (d : Int) ∧ i = .int .i64 (j : Int) ∧ wr = w) (fun _ i _ => D - (intOf i).toNat)
  case atStart => exact ⟨0, B, by omega, by simp, rfl, rfl, rfl⟩
  case round =>
    obtain ⟨j, d, hj, hd, rfl, rfl, rfl⟩ := hrel
    have hdl : d < 256 := by rw [hd]; exact Nat.lt_of_le_of_lt (Nat.div_le_self _ _) hB2
    have HD := Lib.hid hd
    clear hd
    by_cases hjD : j < D
    · go_wp2
      go_roundw
      case rel =>
        refine ⟨j + 1, d / 2, by omega, ?_, by go_num, by go_num, ?_⟩
        · rw [HD.out, Nat.div_div_eq_div_mul, Nat.pow_succ]
        · first | rfl | trivial
      case measure => simp [intOf]; omega
    · have hjd : j = D := by omega
      have HJ := Lib.hid hjd
      clear hjd
      go_wp2
      go_ret
      refine ⟨?_, rfl⟩
      rw [HBIT.out, ← HJ.out, ← HD.out]
      rfl
set_option maxRecDepth 100000 in
theorem refName_any (s : ByteArray) (w : World) (hs : s.size ≤ 1000000) : Calls Tryz.prog 65 #[.string s] w fun e w' => e = .returned (.bool (nameOk s.data.toList)) ∧ w' = w := by
  go_enter Tryz.func65, Tryz.ntmps65
  go_wp2
  have HL := Lib.hid (show s.data.toList.length = s.size from rfl)
  go_loopw [7] (fun i wr => ∃ k : Nat, k ≤ s.size ∧ i = .int .i64 (k : Int) ∧ wr = w ∧ goodUpto s.data.toList k = true) (fun i _ => s.size - (intOf i).toNat)
  case atStart => exact ⟨0, by omega, rfl, rfl, rfl⟩
  case round =>
    obtain ⟨k, hk, rfl, rfl, hall⟩ := hrel
    have HA := Lib.hid hall
    clear hall
    by_cases hlt : k < s.size
    · by_cases k0 : k = 0
      · subst k0
        obtain ⟨c, hc⟩ : ∃ c : Nat, s[0].toNat = c := ⟨_, rfl⟩
        have hci : ((s[0].toNat : Nat) : Int) = (c : Int) := by rw [hc]
        have HC := Lib.hid (show (s.data.toList.getD 0 0).toNat = c by
          rw [← hc, List.getD_eq_getElem?_getD, List.getElem?_eq_getElem (by rw [Array.length_toList]; exact hlt)]; rfl)
        have hc2 : c < 256 := by rw [← hc]; exact s[0].toNat_lt
        clear hc
        by_cases c1 : 97 ≤ c
        · by_cases c2 : c ≤ 122
          · have ec1 : decide ((97 : Int) ≤ (c : Int)) = true := by simp; omega
            have ec2 : decide ((c : Int) ≤ 122) = true := by simp; omega
            have HG := Lib.hid (show goodUpto s.data.toList (0 + 1) = true by rw [goodUpto_next, HA.out, Bool.true_and]; unfold goodAt; rw [HC.out]; simp; omega)
            go_wp2
            go_roundw
            case rel =>
              refine ⟨0 + 1, by omega, by go_num, ?_, HG.out⟩
              first | rfl | trivial
            case measure => simp [intOf]; omega
          · have ec1 : decide ((97 : Int) ≤ (c : Int)) = true := by simp; omega
            have ec2 : decide ((c : Int) ≤ 122) = false := by simp; omega
            have HF := Lib.hid (show nameOk s.data.toList = false by unfold nameOk; rw [goodUpto_false (k := 0) (by unfold goodAt; rw [HC.out]; simp; omega) (by rw [HL.out]; exact hlt)]; rfl)
            go_wp2
            go_ret
            exact ⟨by rw [HF.out]; rfl, rfl⟩
        · have ec1 : decide ((97 : Int) ≤ (c : Int)) = false := by simp; omega
          have HF := Lib.hid (show nameOk s.data.toList = false by unfold nameOk; rw [goodUpto_false (k := 0) (by unfold goodAt; rw [HC.out]; simp; omega) (by rw [HL.out]; exact hlt)]; rfl)
          go_wp2
          go_ret
          exact ⟨by rw [HF.out]; rfl, rfl⟩
      · have k1 : 0 < k := by omega
        have kz : ((k : Int) == 0) = false := by simp; omega
        clear k0
        obtain ⟨c, hc⟩ : ∃ c : Nat, s[k].toNat = c := ⟨_, rfl⟩
        have hci : ((s[k].toNat : Nat) : Int) = (c : Int) := by rw [hc]
        have HC := Lib.hid (show (s.data.toList.getD k 0).toNat = c by
          rw [← hc, List.getD_eq_getElem?_getD, List.getElem?_eq_getElem (by rw [Array.length_toList]; exact hlt)]; rfl)
        have hc2 : c < 256 := by rw [← hc]; exact s[k].toNat_lt
        clear hc
        by_cases c1 : 97 ≤ c
        · by_cases c2 : c ≤ 122
          · have ec1 : decide ((97 : Int) ≤ (c : Int)) = true := by simp; omega
            have ec2 : decide ((c : Int) ≤ 122) = true := by simp; omega
            have HG := Lib.hid (show goodUpto s.data.toList (k + 1) = true by rw [goodUpto_next, HA.out, Bool.true_and]; unfold goodAt; rw [HC.out]; simp; omega)
            go_wp2
            go_roundw
            case rel =>
              refine ⟨k + 1, by omega, by go_num, ?_, HG.out⟩
              first | rfl | trivial
            case measure => simp [intOf]; omega
          · have ec1 : decide ((97 : Int) ≤ (c : Int)) = true := by simp; omega
            have ec2 : decide ((c : Int) ≤ 122) = false := by simp; omega
            have ec4 : decide ((c : Int) ≤ 57) = false := by simp; omega
            have HF := Lib.hid (show nameOk s.data.toList = false by unfold nameOk; rw [goodUpto_false (k := k) (by unfold goodAt; rw [HC.out]; simp; omega) (by rw [HL.out]; exact hlt)]; rfl)
            go_wp2
            go_ret
            exact ⟨by rw [HF.out]; rfl, rfl⟩
        · by_cases c3 : 48 ≤ c
          · by_cases c4 : c ≤ 57
            · have ec1 : decide ((97 : Int) ≤ (c : Int)) = false := by simp; omega
              have ec3 : decide ((48 : Int) ≤ (c : Int)) = true := by simp; omega
              have ec4 : decide ((c : Int) ≤ 57) = true := by simp; omega
              have HG := Lib.hid (show goodUpto s.data.toList (k + 1) = true by rw [goodUpto_next, HA.out, Bool.true_and]; unfold goodAt; rw [HC.out]; simp; omega)
              go_wp2
              go_roundw
              case rel =>
                refine ⟨k + 1, by omega, by go_num, ?_, HG.out⟩
                first | rfl | trivial
              case measure => simp [intOf]; omega
            · have ec1 : decide ((97 : Int) ≤ (c : Int)) = false := by simp; omega
              have ec3 : decide ((48 : Int) ≤ (c : Int)) = true := by simp; omega
              have ec4 : decide ((c : Int) ≤ 57) = false := by simp; omega
              have HF := Lib.hid (show nameOk s.data.toList = false by unfold nameOk; rw [goodUpto_false (k := k) (by unfold goodAt; rw [HC.out]; simp; omega) (by rw [HL.out]; exact hlt)]; rfl)
              go_wp2
              go_ret
              exact ⟨by rw [HF.out]; rfl, rfl⟩
          · have ec1 : decide ((97 : Int) ≤ (c : Int)) = false := by simp; omega
            have ec3 : decide ((48 : Int) ≤ (c : Int)) = false := by simp; omega
            have HF := Lib.hid (show nameOk s.data.toList = false by unfold nameOk; rw [goodUpto_false (k := k) (by unfold goodAt; rw [HC.out]; simp; omega) (by rw [HL.out]; exact hlt)]; rfl)
            go_wp2
            go_ret
            exact ⟨by rw [HF.out]; rfl, rfl⟩
    · have hkn : k = s.size := by omega
      have HF := Lib.hid (show nameOk s.data.toList = (decide ((1 : Int) ≤ s.size) && decide ((s.size : Int) ≤ 12)) by
        unfold nameOk
        rw [HL.out, ← hkn, HA.out, Bool.true_and, Bool.eq_iff_iff]; simp; omega)
      have HK := Lib.hid hkn
      clear hkn
      go_wp2_with fail
      refine (in_any _ _ _ _).mono ?_
      rintro e w1 ⟨rfl, rfl⟩
      rw [← HF.out]
      go_wp2
      go_ret
      exact ⟨rfl, rfl⟩
end Go.Proofs.YtgjmbokfenpefaaGreatDoor
/- Plain words of 32 bits as the walk shows them. No program is imported. -/
namespace Go.Proofs.YtgjmbokfenpefaaGreatDoor
open Go.RowKit

theorem W32_ofNat (n : Nat) (h1 : n < 4294967296) : W32 (BitVec.ofNat 32 n) = (n : Int) := by
  unfold W32; rw [BitVec.toNat_ofNat]; omega

theorem w_mul (a b : BitVec 32) : (W32 a * W32 b) % 4294967296 = W32 (a * b) := by
  unfold W32; rw [BitVec.toNat_mul]; simp
theorem w_sum5 (a b c d e : BitVec 32) : (W32 a + W32 b + W32 c + W32 d + W32 e) % (4294967296 : Int) = W32 (a + b + c + d + e) := by
  rw [← w_add, ← w_sum4]; omega
theorem ror_add (x : BitVec 32) (n m : Nat) (h : n + m = 32) : (x >>> n) + (x <<< m) = ror x n := by
  unfold ror; rw [show 32 - n = m from by omega]
  apply BitVec.add_eq_or_of_and_eq_zero
  ext i hi
  simp
  intro h1 h2
  exfalso
  rcases Nat.lt_or_ge (n + i) 32 with h3 | h3
  · omega
  · rw [BitVec.getLsbD_of_ge x _ h3] at h1; cases h1

theorem ch_alt (e f g : BitVec 32) : g ^^^ (e &&& (f ^^^ g)) = ch e f g := by
  unfold ch; ext i hi; simp; cases e[i] <;> cases f[i] <;> cases g[i] <;> rfl
theorem maj_alt (a b c : BitVec 32) : (a &&& b) ||| (c &&& (a ||| b)) = maj a b c := by
  unfold maj; ext i hi; simp; cases a[i] <;> cases b[i] <;> cases c[i] <;> rfl
end Go.Proofs.YtgjmbokfenpefaaGreatDoor
/- eightBytes, and Num. -/
namespace Go.Proofs.YtgjmbokfenpefaaGreatDoor
open Go.RowKit

theorem sizeU8 (w : World) : (Go.sizeOf 5).run Tryz.prog w = .ok 1 w := by kernel_rfl

end Go.Proofs.YtgjmbokfenpefaaGreatDoor
/- The document's Num. -/
namespace Go.Proofs.YtgjmbokfenpefaaGreatDoor
open Go.RowKit

theorem low_eight (m : Nat) : low m 8 = be8 m := by
  simp [be8, low, List.range, List.range.loop]
theorem low_length (m : Nat) : ∀ k, (low m k).length = k
  | 0 => rfl
  | k + 1 => by simp [low, low_length m k]
theorem txt_append (a b : List UInt8) : txt a ++ txt b = txt (a ++ b) := by
  rw [← txt_of (txt a ++ txt b)]
  congr 1
theorem conv1 (w : World) (b : UInt8) (x : Int) (hx : x = (b.toNat : Int)) :
    (convert 118 9 (.slice (some ⟨w.heap.size, 0, none⟩) 1 1)).run Tryz.prog (w.alloc (.cells #[.int .u8 x] 5)) = .ok (.string (txt [b])) (w.alloc (.cells #[.int .u8 x] 5)) := by
  subst hx
  have hh := Holds.new w 1 (fun _ => .int .u8 (b.toNat : Int)) 5
  have hf : ∀ i, i < 1 → (fun _ : Nat => Value.int .u8 (b.toNat : Int)) (0 + i) = .int .u8 ((([b] : List UInt8).getD i 0).toNat : Int) := fun i hi => by
    obtain rfl : i = 0 := by omega
    rfl
  exact run_conv_text hh 118 9 5 Tryz.underlying118 Tryz.underlying5 Tryz.underlying9 [b] 0 1 1 rfl (by omega) hf

set_option maxRecDepth 100000 in
theorem refNum_any (n : Int) (w : World) :
    Calls Tryz.prog 63 #[.int .i64 n] w fun e w' => e = .returned (.string (txt (num8 n))) ∧ Below w.heap.size w w' := by
  obtain ⟨m, hm⟩ : ∃ m : Nat, (n % 18446744073709551616) = m := ⟨(n % 18446744073709551616).toNat, by omega⟩
  have hw : IntKind.u64.wrap n = m := by rw [wrap_u64, hm]
  have e : num8 n = be8 m := by unfold num8; rw [hm]; rfl
  have hm64 : m < 18446744073709551616 := by omega
  rw [e]
  clear hm e
  go_enter Tryz.func63, Tryz.ntmps63
  go_wp2
  go_loopw [3, 4, 7] (fun s u i wr => ∃ k d : Nat, k ≤ 8 ∧ d = m / 256 ^ k ∧ i = .int .i64 (k : Int) ∧ u = .int .u64 (d : Int) ∧ s = .string (txt (low m k)) ∧ Below w.heap.size w wr) (fun _ _ i _ => 8 - (intOf i).toNat)
  case atStart =>
    exact ⟨0, m, by omega, by simp, rfl, rfl, rfl, Below.refl _ _⟩
  case round =>
    obtain ⟨k, d, hk, hd, rfl, rfl, rfl, hb⟩ := hrel
    have HB := Lib.hid hb
    have HD := Lib.hid hd
    have hl := low_length m k
    generalize hL : low m k = L at hl
    have HL := Lib.hid hL
    clear hb hd hL
    by_cases hlt : k < 8
    · have hcv : (convert 118 9 (.slice (some ⟨wr.heap.size, 0, none⟩) 1 1)).run Tryz.prog (wr.alloc (.cells #[.int .u8 ((d : Int) % 256)] 5)) = .ok (.string (txt [UInt8.ofNat d])) (wr.alloc (.cells #[.int .u8 ((d : Int) % 256)] 5)) := by
        refine conv1 wr (UInt8.ofNat d) _ ?_
        rw [UInt8.toNat_ofNat']; omega
      have hap : txt [UInt8.ofNat d] ++ txt L = txt (UInt8.ofNat d :: L) := txt_append _ _
      have hz1 : (txt [UInt8.ofNat d]).size = 1 := by rw [txt_size]; rfl
      have hz2 : (txt L).size = k := by rw [txt_size, hl]
      have hd64 : d < 18446744073709551616 := by
        have := HD.out; have := Nat.div_le_self m (256 ^ k); omega
      go_wp2
      go_roundw
      case rel =>
        refine ⟨k + 1, d / 256, by omega, ?_, by go_num, by go_num, ?_, HB.out.alloc HB.out.size _⟩
        · rw [HD.out, Nat.div_div_eq_div_mul, Nat.pow_succ]
        · rw [← HL.out, HD.out]; rfl
      case measure => simp [intOf]; omega
    · have hk8 : k = 8 := by omega
      have HK8 := Lib.hid hk8
      clear hk8
      go_wp2
      go_ret
      refine ⟨?_, HB.out⟩
      have h := HL.out
      rw [HK8.out, low_eight] at h
      rw [h]; rfl
end Go.Proofs.YtgjmbokfenpefaaGreatDoor
/- The document's rotation (a closure without captures). -/
namespace Go.Proofs.YtgjmbokfenpefaaGreatDoor
open Go.RowKit

theorem rotR_core (x : BitVec 32) (n : Nat) (h0 : 0 < n) (h1 : n < 32) (w : World) :
    Calls Tryz.prog 105 #[.int .u32 (W32 x), .int .i64 (n : Int)] w fun e w' => e = .returned (.int .u32 (W32 (ror x n))) ∧ ∃ m, w' = w.drewN m := by
  go_enter Tryz.func105, Tryz.ntmps105
  go_wp2
  go_quiet (fail)
  go_wp2
  go_ret
  refine ⟨?_, _, rfl⟩
  have fin : (W32 x / 2 ^ n + W32 x * 2 ^ (32 - n) % 4294967296) % (4294967296 : Int) = W32 (ror x n) := by
    rw [w_shr, w_shl, w_add, ror_add _ _ _ (by omega)]
  rw [← fin]
  rfl
theorem rotR_any (x : BitVec 32) (k : Int) (h0 : 0 < k) (h1 : k < 32) (w : World) :
    Calls Tryz.prog 105 #[.int .u32 (W32 x), .int .i64 k] w fun e w' => e = .returned (.int .u32 (W32 (ror x k.toNat))) ∧ ∃ m, w' = w.drewN m := by
  have h := rotR_core x k.toNat (by omega) (by omega) w
  rwa [show ((k.toNat : Nat) : Int) = k from by omega] at h
end Go.Proofs.YtgjmbokfenpefaaGreatDoor
/- The words of a block, as the document reckons them. No program is walked here. -/
namespace Go.Proofs.YtgjmbokfenpefaaGreatDoor
open Go.RowKit

theorem wext_stable (blk : Nat → Nat) (i m : Nat) : ∀ k, i < 16 + m → wext blk (m + k) i = wext blk m i
  | 0, _ => rfl
  | k + 1, h => by
    have e : wext blk (m + (k + 1)) i = wext blk (m + k) i := by
      show upd (wext blk (m + k)) (m + k + 16) _ i = _
      unfold upd; rw [if_neg (by omega)]
    rw [e, wext_stable blk i m k h]
/-- All the words. -/
def wall (blk : Nat → Nat) : Nat → BitVec 32 := wext blk 48
theorem wall_low (blk : Nat → Nat) (i : Nat) (h : i < 16) : wall blk i = wordOf blk i 4 := by
  unfold wall
  rw [show 48 = 0 + 48 from rfl, wext_stable blk i 0 48 (by omega)]
  show wfill blk 16 0 i = _
  unfold wfill; rw [if_pos h]
theorem wall_high (blk : Nat → Nat) (n : Nat) (h : n < 48) : wall blk (n + 16) = ((wall blk n + s0 (wall blk (n + 1))) + wall blk (n + 9)) + s1 (wall blk (n + 14)) := by
  have e : ∀ i, i < 16 + n → wall blk i = wext blk n i := fun i hi => by
    unfold wall; rw [show 48 = n + (48 - n) from by omega]; exact wext_stable blk i n _ hi
  have e2 : wall blk (n + 16) = wext blk (n + 1) (n + 16) := by
    unfold wall; rw [show 48 = (n + 1) + (47 - n) from by omega]; exact wext_stable blk (n + 16) (n + 1) _ (by omega)
  rw [e2, e n (by omega), e (n + 1) (by omega), e (n + 9) (by omega), e (n + 14) (by omega)]
  show upd (wext blk n) (n + 16) _ (n + 16) = _
  unfold upd; rw [if_pos rfl]
theorem wall_alt (blk : Nat → Nat) (t : Nat) (h : 16 ≤ t) (h2 : t < 64) : ((s1 (wall blk (t - 2)) + wall blk (t - 7)) + s0 (wall blk (t - 15))) + wall blk (t - 16) = wall blk t := by
  obtain ⟨n, rfl⟩ : ∃ n, t = n + 16 := ⟨t - 16, by omega⟩
  rw [wall_high blk n (by omega), show n + 16 - 2 = n + 14 from by omega, show n + 16 - 7 = n + 9 from by omega, show n + 16 - 15 = n + 1 from by omega, show n + 16 - 16 = n from by omega]
  generalize s1 (wall blk (n + 14)) = p; generalize s0 (wall blk (n + 1)) = q; generalize wall blk (n + 9) = r; generalize wall blk n = u
  ac_rfl
/-- The words up to place t; then noughts. -/
def wupto (blk : Nat → Nat) (t : Nat) : Nat → BitVec 32 := fun i => if i < t then wall blk i else 0
theorem wupto_next (blk : Nat → Nat) (t : Nat) : upd (wupto blk t) t (wall blk t) = wupto blk (t + 1) := by
  funext i; unfold upd wupto
  by_cases h : i = t
  · subst h; rw [if_pos rfl, if_pos (by omega)]
  · rw [if_neg h]
    by_cases h2 : i < t
    · rw [if_pos h2, if_pos (by omega)]
    · rw [if_neg h2, if_neg (by omega)]
theorem word_step (x : BitVec 32) (c : Nat) (h : c < 256) : x * 256 + BitVec.ofNat 32 c = (x <<< 8) ||| BitVec.ofNat 32 c := by
  have e : x * 256 = x <<< 8 := by
    apply BitVec.eq_of_toNat_eq
    rw [BitVec.toNat_mul, BitVec.toNat_shiftLeft, Nat.shiftLeft_eq]
    rfl
  rw [e]
  apply BitVec.add_eq_or_of_and_eq_zero
  ext i hi
  simp
  intro h1 h2
  have : c.testBit i = false := Nat.testBit_lt_two_pow (Nat.lt_of_lt_of_le h (by
    have : 2 ^ 8 ≤ 2 ^ i := Nat.pow_le_pow_right (by omega) (by omega)
    simpa using this))
  rw [← BitVec.getLsbD_eq_getElem, BitVec.getLsbD_ofNat, this]; simp
theorem rword_value (x : BitVec 32) (c : Nat) (h : c < 256) : (W32 x * 256 + (c : Int)) % (4294967296 : Int) = W32 ((x <<< 8) ||| BitVec.ofNat 32 c) := by
  rw [← word_step x c h, ← w_add, ← w_mul, W32_ofNat c (by omega)]
  show _ = (W32 x * 256 % 4294967296 + _) % 4294967296
  omega
theorem rword_value2 (x : BitVec 32) (c : Nat) (h : c < 256) : W32 x * 256 % (4294967296 : Int) + (c : Int) = W32 ((x <<< 8) ||| BitVec.ofNat 32 c) := by
  rw [← rword_value x c h]; omega
/-- A round, as the document writes it. -/
theorem rstep_ref (s : Nat → BitVec 32) (k w : BitVec 32) : ∀ i, i < 8 → rstep s k w i =
    (let one := (((s 7 + S1 (s 4)) + ch (s 4) (s 5) (s 6)) + k) + w
     let two := S0 (s 0) + maj (s 0) (s 1) (s 2)
     if i = 0 then one + two else if i = 4 then s 3 + one else s (i - 1)) := by
  intro i _
  have e : (s 7 + S1 (s 4)) + ((ch (s 4) (s 5) (s 6) + k) + w) = (((s 7 + S1 (s 4)) + ch (s 4) (s 5) (s 6)) + k) + w := by
    generalize s 7 + S1 (s 4) = p; generalize ch (s 4) (s 5) (s 6) = q
    ac_rfl
  unfold rstep
  simp only [e]
/-- The state behind the blocks of a text. -/
def blocks (M : List UInt8) : Nat → Nat → BitVec 32
  | 0 => iv
  | j + 1 => mixed (blocks M j) (fun i => (M.getD (64 * j + i) 0).toNat)
theorem blocks_feed (M : List UInt8) : ∀ j, 64 * j ≤ M.length → (feed rs0 (M.take (64 * j))).st = blocks M j
  | 0, _ => rfl
  | j + 1, h => by
    have e : M.take (64 * (j + 1)) = M.take (64 * j) ++ (M.drop (64 * j)).take 64 := by
      rw [show 64 * (j + 1) = 64 * j + 64 from by omega, List.take_add]
    have hl : ((M.drop (64 * j)).take 64).length = 64 := by rw [List.length_take, List.length_drop]; omega
    have ih := blocks_feed M j (by omega)
    have hs : (feed rs0 (M.take (64 * j))).size = 64 * j := by
      rw [feed_size, List.length_take]; show 0 + min (64 * j) M.length = _; omega
    rw [e, feed_append]
    rw [feed_piece _ _ (by intro e; rw [e] at hl; simp at hl) (by rw [hs, hl]; omega)]
    rw [hs, hl, if_pos (by omega), show 64 * j % 64 = 0 from by omega, ih]
    show mixed (blocks M j) _ = mixed (blocks M j) _
    apply mixed_congr
    intro i hi
    unfold lay
    rw [hl, if_pos (by omega)]
    congr 1
    rw [List.getD_eq_getElem?_getD, List.getD_eq_getElem?_getD, Nat.sub_zero, List.getElem?_take, if_pos hi, List.getElem?_drop]
/-- Four bytes of a word. -/
def quad (x : BitVec 32) : List UInt8 := [UInt8.ofNat (x.toNat / 2 ^ 24), UInt8.ofNat (x.toNat / 2 ^ 16), UInt8.ofNat (x.toNat / 2 ^ 8), UInt8.ofNat x.toNat]
theorem sumText_quad (st : Nat → BitVec 32) (j : Nat) (h : j < 8) : (sumText st).take (4 * (j + 1)) = (sumText st).take (4 * j) ++ quad (st j) := by
  unfold sumText
  rw [← List.map_take, ← List.map_take, List.take_range, List.take_range, show min (4 * (j + 1)) 32 = 4 * j + 4 from by omega, show min (4 * j) 32 = 4 * j from by omega, List.range_add, List.map_append]
  congr 1
  simp only [List.map_map]
  have e0 : (4 * j + 0) / 4 = j := by omega
  have e1 : (4 * j + 1) / 4 = j := by omega
  have e2 : (4 * j + 2) / 4 = j := by omega
  have e3 : (4 * j + 3) / 4 = j := by omega
  have m0 : (4 * j + 0) % 4 = 0 := by omega
  have m1 : (4 * j + 1) % 4 = 1 := by omega
  have m2 : (4 * j + 2) % 4 = 2 := by omega
  have m3 : (4 * j + 3) % 4 = 3 := by omega
  rw [show List.range 4 = [0, 1, 2, 3] from rfl]
  simp only [List.map_cons, List.map_nil, Function.comp, e0, e1, e2, e3, m0, m1, m2, m3, quad]
  simp
theorem run_conv4 {P : Program} (w : World) (src dst e e' : TypeId) (hs : P.underlying src = some (.slice e)) (he : P.underlying e = some (.int .u8)) (hd : P.underlying dst = some .string)
    (p q r s : UInt8) (a b c d : Int) (ha : a = (p.toNat : Int)) (hb : b = (q.toNat : Int)) (hc : c = (r.toNat : Int)) (hd' : d = (s.toNat : Int)) :
    (convert src dst (.slice (some ⟨w.heap.size, 0, none⟩) 4 4)).run P (w.alloc (.cells #[.int .u8 a, .int .u8 b, .int .u8 c, .int .u8 d] e')) = .ok (.string (txt [p, q, r, s])) (w.alloc (.cells #[.int .u8 a, .int .u8 b, .int .u8 c, .int .u8 d] e')) := by
  subst ha hb hc hd'
  have h := Holds.new w 4 (fun i => Value.int .u8 ((([p, q, r, s] : List UInt8).getD i 0).toNat : Int)) e'
  exact run_conv_text h src dst e hs he hd [p, q, r, s] 0 4 4 rfl (by omega) (fun i _ => by rw [Nat.zero_add])
theorem w_byte (x : BitVec 32) (k : Nat) : W32 x / 2 ^ k % (256 : Int) = ((UInt8.ofNat (x.toNat / 2 ^ k)).toNat : Int) := by
  rw [UInt8.toNat_ofNat']; unfold W32; simp
theorem w_byte0 (x : BitVec 32) : W32 x % (256 : Int) = ((UInt8.ofNat x.toNat).toNat : Int) := by
  rw [UInt8.toNat_ofNat']; unfold W32; simp
end Go.Proofs.YtgjmbokfenpefaaGreatDoor
