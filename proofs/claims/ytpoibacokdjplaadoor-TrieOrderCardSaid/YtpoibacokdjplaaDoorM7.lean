/- Parts of the proof, one behind the other: PSeek, Part, Step, CopyOf, Halves, Clone. -/
import Derived.Test.YtpoibacokdjplaaDoorM6
import Derived.Shelf.Small.Strs
import Derived.Test.YtpoibacokdjplaaDoorM4
import Derived.Tactics
import Derived.Orders
import Derived.WalkKit
import Derived.Deep.AppendSrc
import Derived.Deep.RegionHeld3
import Derived.Deep.RegionLaw
import Derived.Deep.DeepCutAuto
/- Where an index lies, or would: the library's binary search over the program's comparison. -/
namespace Go.Proofs.YtpoibacokdjplaaDoor
open Go.RowKit

theorem cmp_lt : ∀ a b : List UInt8, Lib.compareBytes a b < 0 ↔ a < b
  | [], [] => by simp [Lib.compareBytes]
  | [], _ :: _ => by simp [Lib.compareBytes]
  | _ :: _, [] => by simp [Lib.compareBytes]
  | a :: r, b :: s => by
    rw [List.cons_lt_cons_iff, ← cmp_lt r s]
    rw [show Lib.compareBytes (a :: r) (b :: s) = if a < b then -1 else if b < a then 1 else Lib.compareBytes r s from by rw [Lib.compareBytes]]
    by_cases h1 : a < b
    · rw [if_pos h1]; simp [h1]
    · rw [if_neg h1]
      by_cases h2 : b < a
      · rw [if_pos h2]
        have : a ≠ b := fun e => by subst e; exact h1 h2
        simp [h1, this]
      · rw [if_neg h2]
        have e : a = b := by
          apply UInt8.toNat_inj.1
          rw [UInt8.lt_iff_toNat_lt] at h1 h2
          omega
        simp [e]
theorem cmp_eq0 : ∀ a b : List UInt8, Lib.compareBytes a b = 0 ↔ a = b
  | [], [] => by simp [Lib.compareBytes]
  | [], _ :: _ => by simp [Lib.compareBytes]
  | _ :: _, [] => by simp [Lib.compareBytes]
  | a :: r, b :: s => by
    rw [List.cons.injEq, ← cmp_eq0 r s]
    rw [show Lib.compareBytes (a :: r) (b :: s) = if a < b then -1 else if b < a then 1 else Lib.compareBytes r s from by rw [Lib.compareBytes]]
    by_cases h1 : a < b
    · rw [if_pos h1]
      have : a ≠ b := fun e => by subst e; exact absurd h1 (by simp)
      simp [this]
    · rw [if_neg h1]
      by_cases h2 : b < a
      · rw [if_pos h2]
        have : a ≠ b := fun e => by subst e; exact h1 h2
        simp [this]
      · rw [if_neg h2]
        have e : a = b := by
          apply UInt8.toNat_inj.1
          rw [UInt8.lt_iff_toNat_lt] at h1 h2
          omega
        simp [e]
set_option maxRecDepth 100000 in
theorem compareString_any (a b : ByteArray) (w : World) :
    Calls Tryd.prog 49 #[.string a, .string b] w fun e w' => e = .returned (.int .i64 (Lib.compareBytes a.data.toList b.data.toList)) ∧ w' = w := by
  go_enter Tryd.func49, Tryd.ntmps49
  go_wp2
  rw [run_callFunc_extern Tryd.func57 (by kernel_rfl) (by kernel_rfl) (by kernel_rfl) (e := Extern.BytealgCompare.compare) (by kernel_rfl), Lib.run_compareString]
  simp only [Result.andThen]
  rw [Oper.upon_value]
  go_wp2
  go_ret
  exact ⟨rfl, rfl⟩
theorem compare_any (a b : ByteArray) (w : World) :
    Calls Tryd.prog 37 #[.string a, .string b] w fun e w' => e = .returned (.int .i64 (Lib.compareBytes a.data.toList b.data.toList)) ∧ w' = w := by
  go_enter Tryd.func37, Tryd.ntmps37
  go_wp2_with fail
  refine (compareString_any a b _).mono ?_
  rintro e w1 ⟨rfl, rfl⟩
  go_wp2
  go_ret
  exact ⟨rfl, rfl⟩
theorem tSet1_any (y : It) (ix : ByteArray) (w : World) :
    Calls Tryd.prog 36 #[.agg #[.string y.1, .string y.2], .string ix] w fun e w' => e = .returned (.int .i64 (Lib.compareBytes y.1.data.toList ix.data.toList)) ∧ Below w.heap.size w w' := by
  have HB0 := Lib.hid (alloc_below w (.cells #[.string y.1, .string y.2] 28))
  have hc0 : (w.alloc (.cells #[.string y.1, .string y.2] 28)).cell? ⟨w.heap.size, 0, none⟩ = some (.string y.1) := cell_of_row _ w.heap.size 0 _ 28 (0, 0) (heap_alloc_new _ _)
  go_enter Tryd.func36, Tryd.ntmps36
  go_wp2_with fail
  refine (compare_any y.1 ix _).mono ?_
  rintro e w1 ⟨rfl, rfl⟩
  clear hc0
  go_wp2
  go_ret
  exact ⟨rfl, HB0.out⟩
/-- A place, and whether it is there. -/
structure Spot where
  p : Nat
  b : Bool
structure Spot.Of (s : Spot) (L : List It) (x : It) : Prop where
  le : s.p ≤ L.length
  low : ∀ i, i < s.p → i < L.length → ltI (itAt L i) x
  there : s.b = true → s.p < L.length ∧ (itAt L s.p).1 = x.1
  high : s.b = false → ∀ i, s.p ≤ i → i < L.length → ltI x (itAt L i)
set_option maxRecDepth 100000 in
theorem tSeek_any (L : List It) (A : Option Addr) (cap : Nat) (x : It) (w : World) (hl : L.length ≤ 1000000) (hm : Itms w A L) (hs : L.Pairwise ltI) :
    Calls Tryd.prog 35 #[.slice A L.length cap, .string x.1, .func (.func 36) #[] #[]] w fun e w' => Below w.heap.size w w' ∧ ∃ s : Spot, s.Of L x ∧ e = .returned (.tuple #[.int .i64 (s.p : Int), .bool s.b]) := by
  have HM := Lib.hid hm
  have HS := Lib.hid hs
  clear hm hs
  go_enter Tryd.func35, Tryd.ntmps35
  go_wp2
  go_loopw [9, 10] (fun i j wr => ∃ p q : Nat, p ≤ q ∧ q ≤ L.length ∧ i = .int .i64 (p : Int) ∧ j = .int .i64 (q : Int) ∧ (∀ m, m < p → m < L.length → ltI (itAt L m) x) ∧ (∀ m, q ≤ m → m < L.length → ¬ ltI (itAt L m) x) ∧ Below w.heap.size w wr) (fun i j _ => (intOf j).toNat - (intOf i).toNat)
  case atStart => exact ⟨0, L.length, by omega, by omega, rfl, rfl, fun m hm => by omega, fun m h1 h2 => by omega, Below.refl _ _⟩
  case round =>
    obtain ⟨p, q, hpq, hq, rfl, rfl, h0, h1, hb⟩ := hrel
    have H0 := Lib.hid h0
    have H1 := Lib.hid h1
    have HB := Lib.hid hb
    clear h0 h1 hb
    by_cases hlt : p < q
    · obtain ⟨h, hh⟩ : ∃ h, (p + q) / 2 = h := ⟨_, rfl⟩
      have hph : p ≤ h := by omega
      have hhq : h < q := by omega
      have hhl : h < L.length := by omega
      have HV : ((p : Int) + (q : Int)) / 2 = (h : Int) := by omega
      have hv2 : (h : Int) < (L.length : Int) := by omega
      have hmk := Itms.below HM.out HB.out
      obtain ⟨a, rfl, hal, c0, c1⟩ := hmk.at_ hhl
      have d2 : wr.cell? ⟨(a.add (h * 2)).block, (a.add (h * 2)).off + 1, none⟩ = some (.string (itAt L h).2) := c1
      clear hmk hh c1 hal
      generalize hy : itAt L h = y at c0 d2
      have HY := Lib.hid hy
      clear hy
      go_wp2_with fail
      refine (tSet1_any y x.1 _).mono ?_
      rintro e w1 ⟨rfl, hb1⟩
      have HB1 := Lib.hid (HB.out.trans (hb1.mono HB.out.size))
      clear hb1 c0 d2 HV
      by_cases hc : ltI y x
      · have hneg : Lib.compareBytes y.1.data.toList x.1.data.toList < 0 := (cmp_lt _ _).2 hc
        have HH := Lib.hid (show ∀ m, m < h + 1 → m < L.length → ltI (itAt L m) x from fun m h1 _ => by
          rcases (show m = h ∨ m < h by omega) with rfl | h2
          · rw [HY.out]; exact hc
          · exact ltI_trans (itAt_rise HS.out h2 hhl) (by rw [HY.out]; exact hc))
        clear hc
        generalize Lib.compareBytes y.1.data.toList x.1.data.toList = c at hneg
        go_wp2
        go_roundw
        case rel => exact ⟨h + 1, q, by omega, hq, by go_num, rfl, HH.out, H1.out, HB1.out⟩
        case measure => simp [intOf]; omega
      · have hneg : ¬ Lib.compareBytes y.1.data.toList x.1.data.toList < 0 := fun e => hc ((cmp_lt _ _).1 e)
        have HH := Lib.hid (show ∀ m, h ≤ m → m < L.length → ¬ ltI (itAt L m) x from fun m h1 h3 h4 => by
          rcases (show m = h ∨ h < m by omega) with rfl | h2
          · rw [HY.out] at h4; exact hc h4
          · have := ltI_trans (itAt_rise HS.out h2 h3) h4
            rw [HY.out] at this; exact hc this)
        clear hc
        generalize Lib.compareBytes y.1.data.toList x.1.data.toList = c at hneg
        go_wp2
        go_roundw
        case rel => exact ⟨p, h, hph, by omega, rfl, rfl, H0.out, HH.out, HB1.out⟩
        case measure => simp [intOf]; omega
    · have hpq' : p = q := by omega
      subst hpq'
      clear hlt hpq
      by_cases hpl : p < L.length
      · have hv2 : (p : Int) < (L.length : Int) := by omega
        have hmk := Itms.below HM.out HB.out
        obtain ⟨a, rfl, hal, c0, c1⟩ := hmk.at_ hpl
        have d2 : wr.cell? ⟨(a.add (p * 2)).block, (a.add (p * 2)).off + 1, none⟩ = some (.string (itAt L p).2) := c1
        clear hmk c1 hal
        generalize hy : itAt L p = y at c0 d2
        have HY := Lib.hid hy
        clear hy
        go_wp2_with fail
        refine (tSet1_any y x.1 _).mono ?_
        rintro e w1 ⟨rfl, hb1⟩
        have HB1 := Lib.hid (HB.out.trans (hb1.mono HB.out.size))
        clear hb1 c0 d2
        by_cases he : y.1 = x.1
        · have hz : Lib.compareBytes y.1.data.toList x.1.data.toList = 0 := (cmp_eq0 _ _).2 (by rw [he])
          rw [hz]
          have HE := Lib.hid he
          clear he hz
          go_wp2
          refine bodyPost_ret (results_tmp2 rfl _ _ _) rfl ?_
          exact ⟨HB1.out, ⟨p, true⟩, ⟨hq, H0.out, fun _ => ⟨hpl, by rw [HY.out]; exact HE.out⟩, fun h => by cases h⟩, rfl⟩
        · have hz : (Lib.compareBytes y.1.data.toList x.1.data.toList == 0) = false := by
            rw [beq_eq_false_iff_ne]
            intro e
            exact he (text_of ((cmp_eq0 _ _).1 e))
          have HE := Lib.hid (show ∀ i, p ≤ i → i < L.length → ltI x (itAt L i) from fun i h1 h2 => by
            have h3 := H1.out p (Nat.le_refl p) hpl
            rw [HY.out] at h3
            have h4 : ltI x y := ltI_total h3 he
            rcases (show i = p ∨ p < i by omega) with rfl | h5
            · rw [HY.out]; exact h4
            · exact ltI_trans h4 (by have := itAt_rise HS.out h5 h2; rwa [HY.out] at this))
          clear he
          generalize Lib.compareBytes y.1.data.toList x.1.data.toList = c at hz
          go_wp2
          refine bodyPost_ret (results_tmp2 rfl _ _ _) rfl ?_
          exact ⟨HB1.out, ⟨p, false⟩, ⟨hq, H0.out, (fun h => by cases h), fun _ => HE.out⟩, rfl⟩
      · have hv2 : ¬ (p : Int) < (L.length : Int) := by omega
        go_wp2
        refine bodyPost_ret (results_tmp2 rfl _ _ _) rfl ?_
        exact ⟨HB.out, ⟨p, false⟩, ⟨hq, H0.out, (fun h => by cases h), fun _ i h1 h2 => by have : p ≤ i := h1; omega⟩, rfl⟩
end Go.Proofs.YtpoibacokdjplaaDoor
/- Parts of a list of items: l[:r], l[r:]. -/
namespace Go.Proofs.YtpoibacokdjplaaDoor
open Go.RowKit

def partAt (A : Option Addr) (cap r : Nat) : Option Addr := if cap = r then A else A.map (·.add (r * 2))
theorem items_to {P : Program} (t e : Nat) (ht : P.underlying t = some (.slice e)) (hz : ∀ w, (Go.sizeOf e).run P w = .ok 2 w) (A : Option Addr) (n cap r : Nat) (hr : r ≤ cap) (w : World) :
    (Instr.sliceAt t (.slice A n cap) none (some (.int .i64 (r : Int))) none).run P w = .ok (.slice A r cap) w := by
  have e2 : P.elem t = e := by simp [Program.elem, ht]
  rw [run_sliceAt_slice w t _ _ _ _ (by rw [e2]; exact ht), run_slice_h w t A n cap (by rw [e2]; exact ht) .i64 r (by omega) (by omega), e2, hz]
  cases A <;> simp [Result.andThen, sliced, Addr.add]
theorem items_from {P : Program} (t e : Nat) (ht : P.underlying t = some (.slice e)) (hz : ∀ w, (Go.sizeOf e).run P w = .ok 2 w) (A : Option Addr) (n cap r : Nat) (hr : r ≤ n) (w : World) :
    (Instr.sliceAt t (.slice A n cap) (some (.int .i64 (r : Int))) none none).run P w = .ok (.slice (partAt A cap r) (n - r) (cap - r)) w := by
  have e2 : P.elem t = e := by simp [Program.elem, ht]
  rw [run_sliceAt_slice w t _ _ _ _ (by rw [e2]; exact ht), run_slice_l w t A n cap (by rw [e2]; exact ht) .i64 r (by omega) (by omega), e2, hz]
  simp [Result.andThen, sliced, partAt]
theorem Itms.take {w : World} {A : Option Addr} {L : List It} (h : Itms w A L) (r : Nat) : Itms w A (L.take r) := fun i x hx => by
  rw [List.getElem?_take] at hx
  split at hx
  · exact h i x hx
  · cases hx
theorem Itms.drop {w : World} {A : Option Addr} {L : List It} (h : Itms w A L) {cap r : Nat} (hc : L.length ≤ cap) : Itms w (partAt A cap r) (L.drop r) := fun i x hx => by
  rw [List.getElem?_drop] at hx
  obtain ⟨a, rfl, hl, c0, c1⟩ := h _ x hx
  have hlt := (List.getElem?_eq_some_iff.1 hx).1
  unfold partAt
  rw [if_neg (by omega)]
  have e : (a.add (r * 2)).add (i * 2) = a.add ((r + i) * 2) := by rw [add_add', show r * 2 + i * 2 = (r + i) * 2 by omega]
  exact ⟨a.add (r * 2), rfl, by rw [block_add]; exact hl, by rw [e]; exact c0, by rw [e]; exact c1⟩
theorem itemSize : ∀ w, (Go.sizeOf 28).run Tryd.prog w = .ok 2 w := Tryd.sizeOf28
theorem it_to (A : Option Addr) (n cap r : Nat) (hr : r ≤ cap) (w : World) : (Instr.sliceAt 22 (.slice A n cap) none (some (.int .i64 (r : Int))) none).run Tryd.prog w = .ok (.slice A r cap) w :=
  items_to 22 28 Tryd.underlying22 itemSize A n cap r hr w
theorem it_from (A : Option Addr) (n cap r : Nat) (hr : r ≤ n) (w : World) : (Instr.sliceAt 22 (.slice A n cap) (some (.int .i64 (r : Int))) none none).run Tryd.prog w = .ok (.slice (partAt A cap r) (n - r) (cap - r)) w :=
  items_from 22 28 Tryd.underlying22 itemSize A n cap r hr w
end Go.Proofs.YtpoibacokdjplaaDoor
/- A law of the walk over a list of operations, at one step of a region that draws its order. No program is imported. -/
namespace Go.Proofs.YtpoibacokdjplaaDoor
open Go.RowKit

/-- What holds behind the one operation, and nothing at any other way out. -/
def Then1 (K : Act → World → Prop) : Exit → Act → World → Prop
  | .normal, a, w => K a w
  | _, _, _ => False
theorem then1 {P : Program} {ops : Array Oper} {K : Act → World → Prop} {a : Act} {w : World} (h : K a w) : wpList P ops (Then1 K) [] a w := h
theorem wp_of_list {P : Program} {ops : Array Oper} {o : Oper} {a : Act} {w : World} {K : Act → World → Prop} {Q : Exit → Act → World → Prop} (hgd : o.guard = none) (h : wpList P ops (Then1 K) [o] a w) : o.wp P a w K Q := by
  have hw : Region.wanted o (yielded ops a.tmps) = true := by simp [Region.wanted, hgd]
  unfold wpList at h
  rw [if_pos hw] at h
  rcases h with h | ⟨_, _, _, h⟩
  · unfold Oper.wp at *
    generalize (execOp a.eval o).run P w = r at *
    cases r with
    | ok n w' =>
      cases n <;> simp only [Oper.upon] at h ⊢
      all_goals first
        | exact h
        | exact h.elim
        | exact Calls.mono h (fun e w'' hh => by cases e <;> first | exact hh | exact hh.elim | (obtain ⟨_, _, hh⟩ := hh; exact hh.elim))
        | exact Rows.mono h (fun _ _ he => he)
    | halt x w' => cases x <;> simp only [Oper.upon] at h ⊢ <;> first | exact h | exact h.elim | (obtain ⟨_, _, h⟩ := h; exact h.elim)
  · exact h.elim
theorem step_of_list {P : Program} {ops : Array Oper} {o : Oper} {a : Act} {w : World} {K : Act → World → Prop} {Q : Exit → Act → World → Prop} {E : Prop} (hgd : o.guard = none) (h : wpList P ops (Then1 K) [o] a w) :
    if Region.wanted o (yielded ops a.tmps) = true then Oper.wp P o a w K Q else E := by
  have hw : Region.wanted o (yielded ops a.tmps) = true := by simp [Region.wanted, hgd]
  rw [if_pos hw]
  exact wp_of_list hgd h
end Go.Proofs.YtpoibacokdjplaaDoor
/- append([]T{}, l...): the items of a list, once more, in memory of the call's own. -/
namespace Go.Proofs.YtpoibacokdjplaaDoor
open Go.RowKit

theorem Itms.cells {w : World} {A : Option Addr} {L : List It} (h : Itms w A L) (hn : 0 < L.length) : ∃ a, A = some a ∧ ∀ j u, (itCells L)[j]? = some u → w.cell? (a.add j) = some u := by
  obtain ⟨a, rfl, -⟩ := h.at_ hn
  refine ⟨a, rfl, fun j u hj => ?_⟩
  have hjl := (List.getElem?_eq_some_iff.1 hj).1
  rw [itCells_length] at hjl
  have hi : j / 2 < L.length := by omega
  obtain ⟨a', ha, _, h0, h1⟩ := h.at_ hi
  obtain rfl : a = a' := Option.some.inj ha
  have hx : L[j / 2]? = some (itAt L (j / 2)) := by rw [List.getElem?_eq_getElem hi, itAt_of hi]
  obtain ⟨e1, e2⟩ := itCells_get L (j / 2) _ hx
  rcases (show j = j / 2 * 2 ∨ j = j / 2 * 2 + 1 by omega) with e | e
  · rw [← e] at e1 h0
    rw [hj] at e1
    rw [h0, ← e1]
  · rw [← e] at e2
    rw [add_add', ← e] at h1
    rw [hj] at e2
    rw [h1, ← e2]
theorem itCells_one' (L : List It) : ∀ u ∈ itCells L, u.oneCell' = true := by
  intro u hu
  unfold itCells at hu
  simp only [List.mem_flatMap] at hu
  obtain ⟨x, _, hx⟩ := hu
  simp at hx
  rcases hx with rfl | rfl <;> rfl
theorem wpList_append_copyc {P : Program} {ops : Array Oper} {rest : List Oper} {o : Oper} {a : Act} {w : World} {Q : Exit → Act → World → Prop} (hgd : o.guard = none) (d s : Operand) (T : TypeId)
    (ho : o.op = .call { callee := .builtin .append, args := #[d, s], argTypes := #[T, T] }) (e : TypeId) (ht : P.underlying T = some (.slice e)) (i : TypeInfo) (z : Value) (hi : P.info? e = some i) (hz : i.zero = some z) (hsz : i.size = 2) (hby : i.bytes = 32) (hzc : z.cells.size = 2)
    (L : List It) (A : Option Addr) (cap : Nat) (b0 : Addr) (hd : a.eval d = .slice (some b0) 0 0) (hs : a.eval s = .slice A L.length cap) (hm : Itms w A L) (hl : L.length ≤ 1000000)
    (hK : ∀ A' cap' w', Hid (Below w.heap.size w w') → Hid (Itms w' A' L) → Hid (L.length ≤ cap') → wpList P ops Q rest (a.put o.dst (.slice A' L.length cap')) w') : wpList P ops Q (o :: rest) a w := by
  by_cases h0 : L.length = 0
  · obtain rfl := List.eq_nil_of_length_eq_zero h0
    have hsrc : ∃ news, Src P i.size T (.slice A 0 cap) 0 news w := by
      cases A with
      | none => exact ⟨[], Src.ofNil w ht cap⟩
      | some x => exact ⟨[], Src.ofSlice w ht x 0 cap [] (by simp) (fun j u h => by simp at h) (fun u h => by cases h)⟩
    obtain ⟨news, hsrc⟩ := hsrc
    have hnl : news = [] := List.eq_nil_of_length_eq_zero (by simpa using hsrc.newsLen)
    subst hnl
    have hk1 : ∃ e', P.underlying T = some (.slice e') := ⟨e, ht⟩
    have hrun : (Builtin.append_ #[T, T] o.type #[.slice (some b0) 0 0, .slice A 0 cap]).run P w = .ok (.slice (some b0) 0 0) w := by
      have hst : (storeCells (b0.add 0) []).run P w = .ok () w := by simp [storeCells]
      simp [Builtin.append_, run_underlying ht, sizeOf, typeInfo, hi, hsrc.len, hsrc.cells, hst]
    refine wpList_plain hgd fun K hK' => ?_
    unfold Oper.wp
    simp [execOp, ho, resolve, invoke, builtin, hd, hs, hrun, Result.andThen]
    exact hK' _ _ (hK _ _ _ (Lib.hid (Below.refl _ _)) (Lib.hid (Itms.nil _ _)) (Lib.hid (Nat.le_refl 0)))
  · obtain ⟨x, rfl, hc⟩ := hm.cells (by omega)
    refine wpList_append_grows w hgd d s T ho e i z 2 32 ht hi hz hsz hby hzc (by omega) (some b0) 0 0 [] hd (fun h => by cases h) (by simp) (fun _ _ j u h => by simp at h) x L.length cap (itCells L) hs (itCells_length L) hc (itCells_one' L) (by omega) (by unfold maxLen; omega) (by omega) ?_
    intro v' w' hown hg
    have hrow : Row w' w.heap.size 2 v' L.length (itCells L) := by simpa using Row.of_owns hown
    obtain ⟨_, A', cap', rfl, hit⟩ := hrow.itms
    have hcap : L.length ≤ cap' := by
      obtain ⟨g, c', hv, _, _, hle, _⟩ := hrow.shape (by omega)
      injection hv with _ _ e3
      omega
    exact hK A' cap' w' (Lib.hid (grownBy.below hg (Nat.le_refl _) (fun k h => by cases h))) (Lib.hid hit) (Lib.hid hcap)
theorem wpList_append_copyr {P : Program} {ops : Array Oper} {rest : List Oper} {o : Oper} {a : Act} {w : World} {Q : Exit → Act → World → Prop} (hgd : o.guard = none) (d s : Operand) (T : TypeId)
    (ho : o.op = .call { callee := .builtin .append, args := #[d, s], argTypes := #[T, T] }) (e : TypeId) (ht : P.underlying T = some (.slice e)) (i : TypeInfo) (z : Value) (hi : P.info? e = some i) (hz : i.zero = some z) (hsz : i.size = 2) (hby : i.bytes = 32) (hzc : z.cells.size = 2)
    (L : List It) (A : Option Addr) (cap : Nat) (g : Nat) (hg : g < w.heap.size) (base : Nat) (hbg : base ≤ g) (hd : a.eval d = .slice (some ⟨g, 0, none⟩) 0 0) (hs : a.eval s = .slice A L.length cap) (hm : Itms w A L) (hl : L.length ≤ 1000000)
    (hK : ∀ A' cap' w', Hid (Below w.heap.size w w') → Hid (Row w' base 2 (.slice A' L.length cap') L.length (itCells L)) → wpList P ops Q rest (a.put o.dst (.slice A' L.length cap')) w') : wpList P ops Q (o :: rest) a w := by
  by_cases h0 : L.length = 0
  · obtain rfl := List.eq_nil_of_length_eq_zero h0
    have hsrc : ∃ news, Src P i.size T (.slice A 0 cap) 0 news w := by
      cases A with
      | none => exact ⟨[], Src.ofNil w ht cap⟩
      | some x => exact ⟨[], Src.ofSlice w ht x 0 cap [] (by simp) (fun j u h => by simp at h) (fun u h => by cases h)⟩
    obtain ⟨news, hsrc⟩ := hsrc
    have hnl : news = [] := List.eq_nil_of_length_eq_zero (by simpa using hsrc.newsLen)
    subst hnl
    have hk1 : ∃ e', P.underlying T = some (.slice e') := ⟨e, ht⟩
    have hrun : (Builtin.append_ #[T, T] o.type #[.slice (some ⟨g, 0, none⟩) 0 0, .slice A 0 cap]).run P w = .ok (.slice (some ⟨g, 0, none⟩) 0 0) w := by
      have hst : (storeCells ((Addr.mk g 0 none).add 0) []).run P w = .ok () w := by simp [storeCells]
      simp [Builtin.append_, run_underlying ht, sizeOf, typeInfo, hi, hsrc.len, hsrc.cells, hst]
    refine wpList_plain hgd fun K hK' => ?_
    unfold Oper.wp
    simp [execOp, ho, resolve, invoke, builtin, hd, hs, hrun, Result.andThen]
    exact hK' _ _ (hK _ _ _ (Lib.hid (Below.refl _ _)) (Lib.hid ⟨rfl, .inr ⟨g, 0, rfl, hbg, hg, Nat.le_refl 0, fun j u h => (by cases h), fun j h => by omega⟩⟩))
  · obtain ⟨x, rfl, hc⟩ := hm.cells (by omega)
    refine wpList_append_grows w hgd d s T ho e i z 2 32 ht hi hz hsz hby hzc (by omega) (some ⟨g, 0, none⟩) 0 0 [] hd (fun h => by cases h) (by simp) (fun _ _ j u h => by simp at h) x L.length cap (itCells L) hs (itCells_length L) hc (itCells_one' L) (by omega) (by unfold maxLen; omega) (by omega) ?_
    intro v' w' hown hg'
    have hrow : Row w' w.heap.size 2 v' L.length (itCells L) := by simpa using Row.of_owns hown
    obtain ⟨A', cap', rfl⟩ := hrow.any
    exact hK A' cap' w' (Lib.hid (grownBy.below hg' (Nat.le_refl _) (fun k h => by cases h))) (Lib.hid (hrow.mono (by omega)))
theorem wpList_append_copy {P : Program} {ops : Array Oper} {rest : List Oper} {o : Oper} {a : Act} {w : World} {Q : Exit → Act → World → Prop} (hgd : o.guard = none) (d s : Operand) (T : TypeId)
    (ho : o.op = .call { callee := .builtin .append, args := #[d, s], argTypes := #[T, T] }) (e : TypeId) (ht : P.underlying T = some (.slice e)) (i : TypeInfo) (z : Value) (hi : P.info? e = some i) (hz : i.zero = some z) (hsz : i.size = 2) (hby : i.bytes = 32) (hzc : z.cells.size = 2)
    (L : List It) (A : Option Addr) (cap : Nat) (b0 : Addr) (hd : a.eval d = .slice (some b0) 0 0) (hs : a.eval s = .slice A L.length cap) (hm : Itms w A L) (hl : L.length ≤ 1000000)
    (hK : ∀ A' cap' w', Hid (Below w.heap.size w w') → Hid (Itms w' A' L) → wpList P ops Q rest (a.put o.dst (.slice A' L.length cap')) w') : wpList P ops Q (o :: rest) a w :=
  wpList_append_copyc hgd d s T ho e ht i z hi hz hsz hby hzc L A cap b0 hd hs hm hl fun A' c' w' h1 h2 _ => hK A' c' w' h1 h2
end Go.Proofs.YtpoibacokdjplaaDoor
/- The document's Halves. -/
namespace Go.Proofs.YtpoibacokdjplaaDoor
open Go.RowKit

theorem infoItem : (Tryd.prog.info? 28).map (fun i => (i.zero, i.size, i.bytes)) = some (some (.agg #[.string ⟨#[]⟩, .string ⟨#[]⟩]), 2, 32) := by kernel_rfl
/-- append of one item, just built. -/
theorem wpList_append_item {P : Program} {w : World} {ops : Array Oper} {rest : List Oper} {o : Oper} {a : Act} {Q : Exit → Act → World → Prop}
    (hg : o.guard = none) (s x : Operand) (t : TypeId) (hop : o.op = Op.call { callee := Callee.builtin Builtin.append, args := #[s, x], argTypes := #[t, t] })
    (e : TypeId) (h1 : P.underlying t = some (.slice e)) (z : Value) (bytes : Nat) (hi : (P.info? e).map (fun i => (i.zero, i.size, i.bytes)) = some (some z, 2, bytes)) (h6 : z.cells.size = 2) (hby : bytes ≤ 64)
    (base : Nat) (v : Value) (L : List It) (hs : a.eval s = v) (hrow : Row w base 2 v L.length (itCells L)) (hbase : base ≤ w.heap.size) (hn : L.length ≤ 2147483647)
    (y : It) (B : Nat) (hx : a.eval x = .slice (some ⟨B, 0, none⟩) 1 1) (e' : TypeId) (hB : w.heap[B]? = some (.cells #[.string y.1, .string y.2] e' (0, 0)))
    (hK : ∀ v' w', Hid (Row w' base 2 v' (L ++ [y]).length (itCells (L ++ [y]))) → Hid (w.grownBy w' v.ownBlock) → Hid (Moved w v v') → wpList P ops Q rest (a.put o.dst v') w') :
    wpList P ops Q (o :: rest) a w := by
  obtain ⟨i0, hi0, hz0, hz1, hz2⟩ := info_parts hi
  refine wpList_append_row2 hg s x t hop e i0 z 2 bytes h1 hi0 hz0 hz1 hz2 h6 (by decide) base v L.length (itCells L) hs hrow hbase ⟨B, 0, none⟩ 1 1 (itCells [y]) hx rfl ?_ ?_ (by unfold maxLen; omega) ?_ ?_
  · intro j u hj
    rw [add_none, Nat.zero_add, cell_of_row _ B j _ e' (0, 0) hB]
    simpa [itCells] using hj
  · intro u hu; simp [itCells] at hu; rcases hu with rfl | rfl <;> rfl
  · have := Nat.mul_le_mul (show L.length + 1 ≤ 2147483648 by omega) hby
    omega
  · intro v' w' hr' hg' hm'
    refine hK v' w' ?_ hg' hm'
    have := hr'.out
    rw [← itCells_append] at this
    rw [List.length_append]
    exact Lib.hid this

/-- A block that the row does not lie in, behind an append behind a new block. -/
theorem grown_holds {w w3 : World} {X : Obj} {v : Value} {b n : Nat} {f : Nat → Value} {t : TypeId} (h : Holds w b n f t) (hg : ((w.alloc X).drew).grownBy w3 v.ownBlock) (hv : v.ownBlock ≠ some b) : Holds w3 b n f t := by
  have h1 := (h.alloc X).drew
  have := h1.lt
  unfold Holds at h1 ⊢
  rw [hg.block b this (fun e => hv e.symm)]; exact h1
theorem half_take (L : List It) (d k j : Nat) (x : It) (h : L[k]? = some x) : half (L.take (k + 1)) d j = half (L.take k) d j ++ (if bitI x d = j then [x] else []) := by
  rw [List.take_add_one, h]
  unfold half
  rw [List.filter_append]
  congr 1
  by_cases e : bitI x d = j <;> simp [e]
theorem row_past {w w3 : World} {X : Obj} {v u : Value} {base size n : Nat} {xs : List Value} (h : Row w base size u n xs) (hg : ((w.alloc X).drew).grownBy w3 v.ownBlock) (ha : ∀ b, v.ownBlock = some b → u.ownBlock ≠ some b) : Row w3 base size u n xs := by
  have h1 : Row ((w.alloc X).drew) base size u n xs := (h.alloc X).drew
  refine h1.kept (fun k hk => hg.block k (h1.lt k hk).2 (fun e => ha k e.symm hk)) hg.size
theorem moved_apart {w : World} {X : Obj} {v v' u : Value} {base size n : Nat} {xs : List Value} (h : Row w base size u n xs) (hm : Moved ((w.alloc X).drew) v v') (ha : ∀ b, v.ownBlock = some b → u.ownBlock ≠ some b) : ∀ b, v'.ownBlock = some b → u.ownBlock ≠ some b := by
  intro b hb hu
  rcases hm with e | hm
  · exact ha b (e.symm.trans hb) hu
  · have h1 := hm b hb
    have h2 := (h.lt b hu).2
    have : w.heap.size < ((w.alloc X).drew).heap.size := by show w.heap.size < (w.alloc X).heap.size; simp
    omega
end Go.Proofs.YtpoibacokdjplaaDoor
/- slices.Clone of items. -/
namespace Go.Proofs.YtpoibacokdjplaaDoor
open Go.RowKit

theorem cloneItems_any (L : List It) (A : Option Addr) (cap : Nat) (w : World) (hl : L.length ≤ 1000000) (hm : Itms w A L) :
    Calls Tryd.prog 9 #[.slice A L.length cap] w fun e w' => ∃ A' c', e = .returned (.slice A' L.length c') ∧ Below w.heap.size w w' ∧ Row w' w.heap.size 2 (.slice A' L.length c') L.length (itCells L) := by
  have HM := Lib.hid hm
  clear hm
  cases A with
  | none =>
    obtain rfl : L = [] := by
      match L, HM with
      | [], _ => rfl
      | x :: r, HM =>
        obtain ⟨a, h, _⟩ := HM.out.at_ (show 0 < (x :: r).length by simp)
        cases h
    have hnil : ∀ u : World, (binOp .eql 22 (.slice none 0 cap) (.slice none 0 0)).run Tryd.prog u = .ok (.bool true) u := fun u => by kernel_rfl
    go_enter Tryd.func9, Tryd.ntmps9
    go_wp2
    go_ret
    exact ⟨none, 0, rfl, Below.refl _ _, Row.nil _ _ _⟩
  | some x =>
    have hnil : ∀ u : World, (binOp .eql 22 (.slice (some x) L.length cap) (.slice none 0 0)).run Tryd.prog u = .ok (.bool false) u := fun u => by kernel_rfl
    go_enter Tryd.func9, Tryd.ntmps9
    obtain ⟨i0, hi0, hz0, hz1, hz2⟩ := info_parts infoItem
    have hb0 : Below w.heap.size w (w.alloc (.cells #[] 28)) := alloc_below w _
    go_wp2_with (at_builtin; refine wpList_append_copyr rfl (.tmp 5) (.tmp 6) 22 rfl 28 Tryd.underlying22 i0 _ hi0 hz0 hz1 hz2 rfl L (some x) cap w.heap.size (by simp) w.heap.size (Nat.le_refl _) rfl rfl (HM.out.below hb0) hl ?_; intro A2 cap2 w7 hb7 hi7)
    go_wp2
    go_ret
    exact ⟨A2, cap2, rfl, hb0.trans (hb7.out.mono hb0.size), hi7.out⟩
theorem clonePart_any (L : List It) (n : Nat) (A : Option Addr) (cap : Nat) (w : World) (hn : L.length = n) (hl : n ≤ 1000000) (hm : Itms w A L) :
    Calls Tryd.prog 9 #[.slice A n cap] w fun e w' => ∃ A' c', e = .returned (.slice A' n c') ∧ Below w.heap.size w w' ∧ Row w' w.heap.size 2 (.slice A' n c') n (itCells L) := by
  subst hn
  exact cloneItems_any L A cap w hl hm
end Go.Proofs.YtpoibacokdjplaaDoor
