/- Parts of the proof, one behind the other: Cut, Part, Clone, PHalves, PHds, Back. -/
import Derived.WalkKit
import Derived.Lib.Hide
import Derived.WalkLawsBesides
import Derived.Deep.QuietTactic
import Derived.Deep.WholeRow
import Derived.Laws.CopyRow
import Derived.Deep.RegionLaw
import Derived.Laws.BytesString
import Derived.Test.YtgjmbokfenpefaaGreatDoorProg
import Derived.Laws.BitsAllLaws
import Derived.Outline
import Derived.BigQuiet
import Derived.Laws.CopyOwn
import Derived.RegionTactic
import Derived.Sort.LotA
import Derived.Lib.SortBridge
import Derived.ArgAppend
import Derived.Laws.AppendOwnNone
import Derived.Laws.IdiomStrings
import Derived.IntWalk
import Derived.Sort.Walk0
import Derived.Tactics
import Derived.Orders
import Derived.Deep.RegionHeld3
import Derived.Deep.DeepCutAuto
import Derived.Deep.AppendSrc
import Derived.StillTail
import Derived.Deep.Quiet
import Derived.LaidEql
import Derived.Stop.Asserts
import Derived.RowKitTokens
import Derived.StringKeys
import Derived.Maps.Own
import Derived.Maps.Views
import Derived.Maps.OwnSet
import Derived.Maps.OwnOps
import Derived.Maps.RangeWalk
import Derived.Sort.KeysCollected
import Derived.Laws.ResultCell
import Derived.OrdersHeld
import Derived.Shelf.SlSortFuncK.WholeK
import Derived.Ground.GgsProg
import Derived.Shelf.GgSortFunc.Tiny
import Derived.Shelf.Strings.Repeat
import Derived.KernelRfl
import Derived.WideKeyEntry
import Derived.Deep.CutRange
import Derived.Laws.StructEq
import Derived.RangeFuncNested
import Derived.RangeFuncBound
import Derived.RangeFuncCalls
import Derived.RangeFuncLeaves
import Derived.Shelf.Abstract
import Derived.Shelf.RegionOpen
import Derived.OwnWalkIn
import Derived.TacticsInMore
import Derived.LoopNIn
import Derived.LoopIn
import Derived.OrdersIn
import Derived.TacticsIn
import Derived.Test.YtgjmbokfenpefaaGreatDoorM1
import Derived.Test.YtgjmbokfenpefaaGreatDoorM2
import Derived.Test.YtgjmbokfenpefaaGreatDoorM3
import Derived.Test.YtgjmbokfenpefaaGreatDoorM4
import Derived.Test.YtgjmbokfenpefaaGreatDoorM5
import Derived.Test.YtgjmbokfenpefaaGreatDoorM6
import Derived.Test.YtgjmbokfenpefaaGreatDoorM7
import Derived.Test.YtgjmbokfenpefaaGreatDoorM8
import Derived.Test.YtgjmbokfenpefaaGreatDoorM9
import Derived.Test.YtgjmbokfenpefaaGreatDoorM10
import Derived.Test.YtgjmbokfenpefaaGreatDoorM12
import Derived.Test.YtgjmbokfenpefaaGreatDoorM13
import Derived.Test.YtgjmbokfenpefaaGreatDoorM17
import Derived.Test.YtgjmbokfenpefaaGreatDoorM18
import Derived.Test.YtgjmbokfenpefaaGreatDoorM19
import Derived.Test.YtgjmbokfenpefaaGreatDoorM20
import Derived.Test.YtgjmbokfenpefaaGreatDoorM21
/- Where items that rise part at a bit, and where one more must stand: plain facts. -/
namespace Go.Proofs.YtgjmbokfenpefaaGreatDoor

theorem byte_of_bits_lt (x y m : Nat) (hx : x < 256) (hy : y < 256) (hm : m < 8) (h : ∀ j, j < m → x / 2 ^ (7 - j) % 2 = y / 2 ^ (7 - j) % 2) (h1 : x / 2 ^ (7 - m) % 2 = 1) (h0 : y / 2 ^ (7 - m) % 2 = 0) : y < x := by
  rcases (show m = 0 ∨ m = 1 ∨ m = 2 ∨ m = 3 ∨ m = 4 ∨ m = 5 ∨ m = 6 ∨ m = 7 by omega) with rfl | rfl | rfl | rfl | rfl | rfl | rfl | rfl
  · simp at h0 h1; omega
  · have a0 := h 0 (by omega)
    simp at h0 h1 a0; omega
  · have a0 := h 0 (by omega); have a1 := h 1 (by omega)
    simp at h0 h1 a0 a1; omega
  · have a0 := h 0 (by omega); have a1 := h 1 (by omega); have a2 := h 2 (by omega)
    simp at h0 h1 a0 a1 a2; omega
  · have a0 := h 0 (by omega); have a1 := h 1 (by omega); have a2 := h 2 (by omega); have a3 := h 3 (by omega)
    simp at h0 h1 a0 a1 a2 a3; omega
  · have a0 := h 0 (by omega); have a1 := h 1 (by omega); have a2 := h 2 (by omega); have a3 := h 3 (by omega); have a4 := h 4 (by omega)
    simp at h0 h1 a0 a1 a2 a3 a4; omega
  · have a0 := h 0 (by omega); have a1 := h 1 (by omega); have a2 := h 2 (by omega); have a3 := h 3 (by omega); have a4 := h 4 (by omega); have a5 := h 5 (by omega)
    simp at h0 h1 a0 a1 a2 a3 a4 a5; omega
  · have a0 := h 0 (by omega); have a1 := h 1 (by omega); have a2 := h 2 (by omega); have a3 := h 3 (by omega); have a4 := h 4 (by omega); have a5 := h 5 (by omega); have a6 := h 6 (by omega)
    simp at h0 h1 a0 a1 a2 a3 a4 a5 a6; omega
theorem getD_eq (l : List UInt8) (i : Nat) (h : i < l.length) : l.getD i 0 = l[i] := by
  rw [List.getD_eq_getElem?_getD, List.getElem?_eq_getElem h]; rfl
theorem lt_at {a b : List UInt8} (m : Nat) (ha : m < a.length) (hb : m < b.length) (hs : ∀ i, i < m → a.getD i 0 = b.getD i 0) (h : b.getD m 0 < a.getD m 0) : b < a := by
  have e : b.take m = a.take m := by
    apply List.ext_getElem
    · simp; omega
    · intro i h1 h2
      have hi : i < m := by rw [List.length_take] at h1; omega
      rw [List.getElem_take, List.getElem_take]
      have := hs i hi
      rw [getD_eq a i (by omega), getD_eq b i (by omega)] at this
      exact this.symm
  rw [← List.take_append_drop m b, ← List.take_append_drop m a, e]
  apply List.append_left_lt
  rw [List.drop_eq_getElem_cons hb, List.drop_eq_getElem_cons ha]
  rw [getD_eq a m ha, getD_eq b m hb] at h
  exact List.cons_lt_cons_iff.2 (.inl h)
/-- Alike ahead of a bit, that with the bit 0 stands first. -/
theorem bit_first {a b : List UInt8} (ha : a.length = 16) (hb : b.length = 16) {d : Nat} (hd : d < 128) (hs : ∀ k, k < d → bitOf a k = bitOf b k) (h1 : bitOf a d = 1) (h0 : bitOf b d = 0) : b < a := by
  refine lt_at (d / 8) (by omega) (by omega) (fun i hi => ?_) ?_
  · apply UInt8.toNat_inj.1
    refine byte_of_bits _ _ (a.getD i 0).toNat_lt (b.getD i 0).toNat_lt fun j hj => ?_
    have := hs (8 * i + j) (by omega)
    unfold bitOf at this
    rw [show (8 * i + j) / 8 = i by omega, show (8 * i + j) % 8 = j by omega] at this
    exact this
  · rw [UInt8.lt_iff_toNat_lt]
    refine byte_of_bits_lt _ _ (d % 8) (a.getD (d / 8) 0).toNat_lt (b.getD (d / 8) 0).toNat_lt (Nat.mod_lt _ (by decide)) (fun j hj => ?_) h1 h0
    have := hs (8 * (d / 8) + j) (by omega)
    unfold bitOf at this
    rw [show (8 * (d / 8) + j) / 8 = d / 8 by omega, show (8 * (d / 8) + j) % 8 = j by omega] at this
    exact this
theorem itAt_mem {L : List It} {i : Nat} (h : i < L.length) : itAt L i ∈ L := by rw [itAt_of h]; exact List.getElem_mem h
theorem itAt_rise {L : List It} (hs : L.Pairwise ltI) {i j : Nat} (hij : i < j) (hj : j < L.length) : ltI (itAt L i) (itAt L j) := by
  rw [itAt_of hj, itAt_of (show i < L.length by omega)]
  exact List.pairwise_iff_getElem.1 hs i j (by omega) hj hij
/-- Behind one whose bit is 1 all have it. -/
theorem bit_mono {L : List It} {d : Nat} (hs : L.Pairwise ltI) (hap : Apart L d) (hd : d < 128) {i j : Nat} (hij : i ≤ j) (hj : j < L.length) (h : bitI (itAt L i) d = 1) : bitI (itAt L j) d = 1 := by
  by_cases e : i = j
  · rwa [← e]
  · have hlt : ltI (itAt L i) (itAt L j) := itAt_rise hs (by omega) hj
    have hi : itAt L i ∈ L := itAt_mem (by omega)
    have hjm : itAt L j ∈ L := itAt_mem hj
    have hb := bitOf_lt (itAt L j).1.data.toList d
    by_cases e0 : bitI (itAt L j) d = 0
    · have := bit_first (a := (itAt L i).1.data.toList) (b := (itAt L j).1.data.toList) (hap.1 _ hi) (hap.1 _ hjm) hd (fun k hk => hap.2.2 _ hi _ hjm k hk) h e0
      exact (ltI_asymm hlt this).elim
    · unfold bitI at e0 ⊢; omega
theorem half_cut {L : List It} {d r : Nat} (h0 : ∀ i, i < r → i < L.length → bitI (itAt L i) d ≠ 1) (h1 : ∀ i, r ≤ i → i < L.length → bitI (itAt L i) d = 1) : half L d 0 = L.take r ∧ half L d 1 = L.drop r := by
  have t0 : ∀ x ∈ L.take r, bitI x d = 0 := by
    intro x hx
    obtain ⟨i, hi, rfl⟩ := List.getElem_of_mem hx
    rw [List.length_take] at hi
    have := h0 i (by omega) (by omega)
    rw [itAt_of (show i < L.length by omega)] at this
    rw [List.getElem_take]
    have hb := bitOf_lt (L[i]'(by omega)).1.data.toList d
    unfold bitI at this ⊢; omega
  have t1 : ∀ x ∈ L.drop r, bitI x d = 1 := by
    intro x hx
    obtain ⟨i, hi, rfl⟩ := List.getElem_of_mem hx
    rw [List.length_drop] at hi
    have := h1 (r + i) (by omega) (by omega)
    rw [itAt_of (show r + i < L.length by omega)] at this
    rw [List.getElem_drop]
    exact this
  unfold half
  constructor
  · conv => lhs; rw [← List.take_append_drop r L]
    rw [List.filter_append, List.filter_eq_self.2 (fun x hx => by rw [beq_iff_eq]; exact t0 x hx), List.filter_eq_nil_iff.2 (fun x hx => by rw [beq_iff_eq, t1 x hx]; decide), List.append_nil]
  · conv => lhs; rw [← List.take_append_drop r L]
    rw [List.filter_append, List.filter_eq_nil_iff.2 (fun x hx => by rw [beq_iff_eq, t0 x hx]; decide), List.filter_eq_self.2 (fun x hx => by rw [beq_iff_eq]; exact t1 x hx), List.nil_append]
theorem half_rise {L : List It} (h : L.Pairwise ltI) (d k : Nat) : (half L d k).Pairwise ltI := h.filter _
theorem drop_at {L : List It} {p : Nat} (hp : p < L.length) : L.drop p = itAt L p :: L.drop (p + 1) := by
  rw [List.drop_eq_getElem_cons hp, itAt_of hp]
theorem rise_mid {L : List It} {x : It} {p q : Nat} (hs : L.Pairwise ltI) (_hpq : p ≤ q) (h0 : ∀ i, i < p → i < L.length → ltI (itAt L i) x) (h1 : ∀ i, q ≤ i → i < L.length → ltI x (itAt L i)) : (L.take p ++ x :: L.drop q).Pairwise ltI := by
  have a0 : ∀ y ∈ L.take p, ltI y x := by
    intro y hy
    obtain ⟨i, hi, rfl⟩ := List.getElem_of_mem hy
    rw [List.length_take] at hi
    have := h0 i (by omega) (by omega)
    rw [itAt_of (show i < L.length by omega)] at this
    rw [List.getElem_take]; exact this
  have a1 : ∀ y ∈ L.drop q, ltI x y := by
    intro y hy
    obtain ⟨i, hi, rfl⟩ := List.getElem_of_mem hy
    rw [List.length_drop] at hi
    have := h1 (q + i) (by omega) (by omega)
    rw [itAt_of (show q + i < L.length by omega)] at this
    rw [List.getElem_drop]; exact this
  rw [List.pairwise_append, List.pairwise_cons]
  refine ⟨hs.sublist (List.take_sublist p L), ⟨a1, hs.sublist (List.drop_sublist q L)⟩, fun y hy z hz => ?_⟩
  rcases List.mem_cons.1 hz with rfl | hz
  · exact a0 y hy
  · exact ltI_trans (a0 y hy) (a1 z hz)
theorem ltI_ne {x y : It} (h : ltI x y) : x.1 ≠ y.1 := fun e => by
  unfold ltI at h
  rw [e] at h
  exact List.lt_irrefl _ h
theorem take_ne {L : List It} {x : It} {p : Nat} (h0 : ∀ i, i < p → i < L.length → ltI (itAt L i) x) : ∀ y ∈ L.take p, y.1 ≠ x.1 := by
  intro y hy
  obtain ⟨i, hi, rfl⟩ := List.getElem_of_mem hy
  rw [List.length_take] at hi
  have := h0 i (by omega) (by omega)
  rw [itAt_of (show i < L.length by omega)] at this
  rw [List.getElem_take]; exact ltI_ne this
theorem drop_ne {L : List It} {x : It} {q : Nat} (h1 : ∀ i, q ≤ i → i < L.length → ltI x (itAt L i)) : ∀ y ∈ L.drop q, y.1 ≠ x.1 := by
  intro y hy
  obtain ⟨i, hi, rfl⟩ := List.getElem_of_mem hy
  rw [List.length_drop] at hi
  have := h1 (q + i) (by omega) (by omega)
  rw [itAt_of (show q + i < L.length by omega)] at this
  rw [List.getElem_drop]; exact fun e => ltI_ne this e.symm
/-- One more, of a new index. -/
theorem set_new {L : List It} {x : It} {p : Nat} (hs : L.Pairwise ltI) (h0 : ∀ i, i < p → i < L.length → ltI (itAt L i) x) (h1 : ∀ i, p ≤ i → i < L.length → ltI x (itAt L i)) :
    others L x = L ∧ L.take p ++ x :: L.drop p = insIt x (others L x) := by
  have he : others L x = L := by
    refine List.filter_eq_self.2 fun y hy => decide_eq_true ?_
    rw [← List.take_append_drop p L] at hy
    rcases List.mem_append.1 hy with hy | hy
    · exact take_ne h0 y hy
    · exact drop_ne h1 y hy
  refine ⟨he, set_sorted hs ?_ (rise_mid hs (Nat.le_refl p) h0 h1)⟩
  rw [he]
  conv => rhs; rw [← List.take_append_drop p L]
  rw [List.append_assoc]
  exact List.Perm.append_left _ (List.perm_append_singleton x _).symm
/-- One in another one's place. -/
theorem set_there {L : List It} {x : It} {p : Nat} (hs : L.Pairwise ltI) (hp : p < L.length) (he : (itAt L p).1 = x.1) :
    (others L x).length + 1 = L.length ∧ L.take p ++ x :: L.drop (p + 1) = insIt x (others L x) := by
  have h0 : ∀ i, i < p → i < L.length → ltI (itAt L i) x := fun i hi _ => by
    have := itAt_rise hs hi hp
    unfold ltI at this ⊢
    rwa [he] at this
  have h1 : ∀ i, p + 1 ≤ i → i < L.length → ltI x (itAt L i) := fun i hi hl => by
    have := itAt_rise hs (show p < i by omega) hl
    unfold ltI at this ⊢
    rwa [he] at this
  have ho : others L x = L.take p ++ L.drop (p + 1) := by
    unfold others
    conv => lhs; rw [← List.take_append_drop p L, drop_at hp]
    rw [List.filter_append, List.filter_cons_of_neg (by simp [he]), List.filter_eq_self.2 (fun y hy => decide_eq_true (take_ne h0 y hy)), List.filter_eq_self.2 (fun y hy => decide_eq_true (drop_ne h1 y hy))]
  refine ⟨by rw [ho]; simp; omega, set_sorted hs ?_ (rise_mid hs (Nat.le_succ p) h0 h1)⟩
  rw [ho, List.append_assoc]
  exact List.Perm.append_left _ (List.perm_append_singleton x _).symm
end Go.Proofs.YtgjmbokfenpefaaGreatDoor
/- Parts of a list of items: l[:r], l[r:]. -/
namespace Go.Proofs.YtgjmbokfenpefaaGreatDoor
open Go.RowKit

theorem items_to {P : Program} (t e : Nat) (ht : P.underlying t = some (.slice e)) (hz : ∀ w, (Go.sizeOf e).run P w = .ok 2 w) (A : Option Addr) (n cap r : Nat) (hr : r ≤ cap) (w : World) :
    (Instr.sliceAt t (.slice A n cap) none (some (.int .i64 (r : Int))) none).run P w = .ok (.slice A r cap) w := by
  have e2 : P.elem t = e := by simp [Program.elem, ht]
  rw [run_sliceAt_slice w t _ _ _ _ (by rw [e2]; exact ht), run_slice_h w t A n cap (by rw [e2]; exact ht) .i64 r (by omega) (by omega), e2, hz]
  cases A <;> simp [Result.andThen, sliced, Addr.add]
theorem items_from {P : Program} (t e : Nat) (ht : P.underlying t = some (.slice e)) (hz : ∀ w, (Go.sizeOf e).run P w = .ok 2 w) (A : Option Addr) (n cap r : Nat) (hr : r ≤ n) (w : World) :
    (Instr.sliceAt t (.slice A n cap) (some (.int .i64 (r : Int))) none none).run P w = .ok (.slice (partAt A cap r) (n - r) (cap - r)) w := by
  have e2 : P.elem t = e := by simp [Program.elem, ht]
  rw [run_sliceAt_slice w t _ _ _ _ (by rw [e2]; exact ht), run_slice_l w t A n cap (by rw [e2]; exact ht) .i64 r (by omega) (by omega), e2, hz]
  simp [Result.andThen, sliced, partAt]
theorem itemSize : ∀ w, (Go.sizeOf 59).run Tryz.prog w = .ok 2 w := Tryz.sizeOf59
theorem it_to (A : Option Addr) (n cap r : Nat) (hr : r ≤ cap) (w : World) : (Instr.sliceAt 155 (.slice A n cap) none (some (.int .i64 (r : Int))) none).run Tryz.prog w = .ok (.slice A r cap) w :=
  items_to 155 59 Tryz.underlying155 itemSize A n cap r hr w
theorem it_from (A : Option Addr) (n cap r : Nat) (hr : r ≤ n) (w : World) : (Instr.sliceAt 155 (.slice A n cap) (some (.int .i64 (r : Int))) none none).run Tryz.prog w = .ok (.slice (partAt A cap r) (n - r) (cap - r)) w :=
  items_from 155 59 Tryz.underlying155 itemSize A n cap r hr w
end Go.Proofs.YtgjmbokfenpefaaGreatDoor
/- slices.Clone of items. -/
namespace Go.Proofs.YtgjmbokfenpefaaGreatDoor
open Go.RowKit

theorem cloneItems_any (L : List It) (A : Option Addr) (cap : Nat) (w : World) (hl : L.length ≤ 1000000) (hm : Itms w A L) :
    Calls Tryz.prog 210 #[.slice A L.length cap] w fun e w' => ∃ A' c', e = .returned (.slice A' L.length c') ∧ Below w.heap.size w w' ∧ Row w' w.heap.size 2 (.slice A' L.length c') L.length (itCells L) := by
  have HM := Lib.hid hm
  clear hm
  cases A with
  | none =>
    obtain rfl : L = [] := by
      match L, HM with
      | [], _ => rfl
      | x :: r, HM =>
        obtain ⟨a, h, _⟩ := HM.out.at_ (show 0 < (x :: r).length by simp)
        cases h
    have hnil : ∀ u : World, (binOp .eql 155 (.slice none 0 cap) (.slice none 0 0)).run Tryz.prog u = .ok (.bool true) u := fun u => by kernel_rfl
    go_enter Tryz.func210, Tryz.ntmps210
    go_wp2
    go_ret
    exact ⟨none, 0, rfl, Below.refl _ _, Row.nil _ _ _⟩
  | some x =>
    have hnil : ∀ u : World, (binOp .eql 155 (.slice (some x) L.length cap) (.slice none 0 0)).run Tryz.prog u = .ok (.bool false) u := fun u => by kernel_rfl
    go_enter Tryz.func210, Tryz.ntmps210
    obtain ⟨i0, hi0, hz0, hz1, hz2⟩ := info_parts infoItem
    have hb0 : Below w.heap.size w (w.alloc (.cells #[] 59)) := alloc_below w _
    go_wp2_with (at_builtin; refine wpList_append_copyr rfl (.tmp 5) (.tmp 6) 155 rfl 59 Tryz.underlying155 i0 _ hi0 hz0 hz1 hz2 rfl L (some x) cap w.heap.size (by simp) w.heap.size (Nat.le_refl _) rfl rfl (HM.out.below hb0) hl ?_; intro A2 cap2 w7 hb7 hi7)
    go_wp2
    go_ret
    exact ⟨A2, cap2, rfl, hb0.trans (hb7.out.mono hb0.size), hi7.out⟩
theorem clonePart_any (L : List It) (n : Nat) (A : Option Addr) (cap : Nat) (w : World) (hn : L.length = n) (hl : n ≤ 1000000) (hm : Itms w A L) :
    Calls Tryz.prog 210 #[.slice A n cap] w fun e w' => ∃ A' c', e = .returned (.slice A' n c') ∧ Below w.heap.size w w' ∧ Row w' w.heap.size 2 (.slice A' n c') n (itCells L) := by
  subst hn
  exact cloneItems_any L A cap w hl hm
end Go.Proofs.YtgjmbokfenpefaaGreatDoor
/- The program's Halves: the library's search, and two copies. -/
namespace Go.Proofs.YtgjmbokfenpefaaGreatDoor
open Go.RowKit

set_option maxRecDepth 100000 in
theorem tHalf1_any (L : List It) (A : Option Addr) (cap k d pb db : Nat) (w : World) (hk : k < L.length) (_hl : L.length ≤ 1000000) (hm : Itms w A L) (h16 : ∀ x ∈ L, x.1.size = 16) (hd : d < 128)
    (hp : w.cell? ⟨pb, 0, none⟩ = some (.slice A L.length cap)) (hi : w.cell? ⟨db, 0, none⟩ = some (.int .i64 (d : Int))) :
    Calls Tryz.prog 209 #[.int .i64 (k : Int), .pointer (some ⟨pb, 0, none⟩), .pointer (some ⟨db, 0, none⟩)] w fun e w' => e = .returned (.bool (decide (bitI (itAt L k) d = 1))) ∧ Below w.heap.size w w' := by
  obtain ⟨a, rfl, _, c0, _⟩ := hm.at_ hk
  have hx := h16 _ (itAt_mem hk)
  have hb2 := bitOf_lt (itAt L k).1.data.toList d
  have hkl : (k : Int) < (L.length : Int) := by omega
  have he : bitI (itAt L k) d = bitOf (itAt L k).1.data.toList d := rfl
  rw [he]
  clear he
  generalize itAt L k = x at c0 hx hb2
  obtain ⟨b, hb⟩ : ∃ b, bitOf x.1.data.toList d = b := ⟨_, rfl⟩
  rw [hb] at hb2 ⊢
  have HC := Lib.hid (show ∀ u, Calls Tryz.prog 158 #[.string x.1, .int .i64 (d : Int)] u fun e w' => e = .returned (.int .i64 (b : Int)) ∧ w' = u from fun u => by have := tBit_any x.1 d u hx hd; rwa [hb] at this)
  clear hm h16 hx hb
  go_enter Tryz.func209, Tryz.ntmps209
  go_wp2_with fail
  rcases (show b = 0 ∨ b = 1 by omega) with rfl | rfl
  all_goals
    clear hb2
    go_quiet ((go_at_call 158; exact Calls.quiet_of_same (HC.out _)))
    go_wp2
    go_ret
    exact ⟨rfl, below_drew (Below.refl _ _) _⟩
set_option maxRecDepth 100000 in
theorem tSearch_any (L : List It) (A : Option Addr) (cap d pb db : Nat) (w : World) (hl : L.length ≤ 1000000) (hm : Itms w A L) (hs : L.Pairwise ltI) (hap : Apart L d) (hd : d < 128)
    (hp : w.cell? ⟨pb, 0, none⟩ = some (.slice A L.length cap)) (hi : w.cell? ⟨db, 0, none⟩ = some (.int .i64 (d : Int))) :
    Calls Tryz.prog 208 #[.int .i64 (L.length : Int), .func (.func 209) #[] #[.pointer (some ⟨pb, 0, none⟩), .pointer (some ⟨db, 0, none⟩)]] w fun e w' => Below w.heap.size w w' ∧ ∃ r : Nat, r ≤ L.length ∧ e = .returned (.int .i64 (r : Int)) ∧ half L d 0 = L.take r ∧ half L d 1 = L.drop r := by
  have HM := Lib.hid hm
  have HS := Lib.hid hs
  have HAP := Lib.hid hap
  have HP := Lib.hid hp
  have HI := Lib.hid hi
  clear hm hs hap hp hi
  go_enter Tryz.func208, Tryz.ntmps208
  go_wp2
  go_loopw [5, 6] (fun i j wr => ∃ p q : Nat, p ≤ q ∧ q ≤ L.length ∧ i = .int .i64 (p : Int) ∧ j = .int .i64 (q : Int) ∧ (∀ m, m < p → m < L.length → bitI (itAt L m) d ≠ 1) ∧ (∀ m, q ≤ m → m < L.length → bitI (itAt L m) d = 1) ∧ Below w.heap.size w wr) (fun i j _ => (intOf j).toNat - (intOf i).toNat)
  case atStart => exact ⟨0, L.length, by omega, by omega, rfl, rfl, fun m hm => by omega, fun m h1 h2 => by omega, Below.refl _ _⟩
  case round =>
    obtain ⟨p, q, hpq, hq, rfl, rfl, h0, h1, hb⟩ := hrel
    have H0 := Lib.hid h0
    have H1 := Lib.hid h1
    have HB := Lib.hid hb
    clear h0 h1 hb
    by_cases hlt : p < q
    · obtain ⟨h, hh⟩ : ∃ h, (p + q) / 2 = h := ⟨_, rfl⟩
      have hph : p ≤ h := by omega
      have hhq : h < q := by omega
      have HV := Lib.hid (show ((p : Int) + (q : Int)) / 2 = (h : Int) by omega)
      clear hh
      go_wp2_with fail
      rw [HV.out]
      refine (tHalf1_any L A cap h d pb db _ (by omega) hl (HM.out.below HB.out) HAP.out.1 hd ((HB.out.cell (block_lt_of_cell HP.out)).trans HP.out) ((HB.out.cell (block_lt_of_cell HI.out)).trans HI.out)).mono ?_
      rintro e w1 ⟨rfl, hb1⟩
      have HB1 := Lib.hid (HB.out.trans (hb1.mono HB.out.size))
      clear hb1 HV
      by_cases hbit : bitI (itAt L h) d = 1
      · rw [decide_eq_true hbit]
        have HH := Lib.hid (show ∀ m, h ≤ m → m < L.length → bitI (itAt L m) d = 1 from fun m h1 h2 => bit_mono HS.out HAP.out hd h1 h2 hbit)
        clear hbit
        go_wp2
        go_roundw
        case rel => exact ⟨p, h, hph, by omega, rfl, rfl, H0.out, HH.out, HB1.out⟩
        case measure => simp [intOf]; omega
      · rw [decide_eq_false hbit]
        have HH := Lib.hid (show ∀ m, m < h + 1 → m < L.length → bitI (itAt L m) d ≠ 1 from fun m h1 h2 h3 => hbit (bit_mono HS.out HAP.out hd (show m ≤ h by omega) (by omega) h3))
        clear hbit
        go_wp2
        go_roundw
        case rel => exact ⟨h + 1, q, by omega, hq, by go_num, rfl, HH.out, H1.out, HB1.out⟩
        case measure => simp [intOf]; omega
    · have hpq' : p = q := by omega
      subst hpq'
      have HC := Lib.hid (half_cut H0.out H1.out)
      clear hlt
      go_wp2
      go_ret
      exact ⟨HB.out, p, hq, rfl, HC.out⟩
set_option maxRecDepth 100000 in
theorem tHalves_row (L : List It) (A : Option Addr) (cap d : Nat) (w : World) (hl : L.length ≤ 1000000) (hcap : L.length ≤ cap) (hm : Itms w A L) (hs : L.Pairwise ltI) (hap : Apart L d) (hd : d < 128) :
    Calls Tryz.prog 157 #[.slice A L.length cap, .int .i64 (d : Int)] w fun e w' => ∃ A0 c0 A1 c1, e = .returned (.tuple #[.slice A0 (half L d 0).length c0, .slice A1 (half L d 1).length c1]) ∧ Below w.heap.size w w' ∧ Row w' w.heap.size 2 (.slice A0 (half L d 0).length c0) (half L d 0).length (itCells (half L d 0)) ∧ Row w' w.heap.size 2 (.slice A1 (half L d 1).length c1) (half L d 1).length (itCells (half L d 1)) := by
  have HM := Lib.hid hm
  have HS := Lib.hid hs
  have HAP := Lib.hid hap
  clear hm hs hap
  go_enter Tryz.func157, Tryz.ntmps157
  go_wp2_with fail
  have hb0 : Below w.heap.size w ((w.alloc (.cells #[.slice A L.length cap] 155)).alloc (.cells #[.int .i64 (d : Int)] 3)) := (alloc_below w _).alloc (by simp) _
  have hp0 : ((w.alloc (.cells #[.slice A L.length cap] 155)).alloc (.cells #[.int .i64 (d : Int)] 3)).cell? ⟨w.heap.size, 0, none⟩ = some (.slice A L.length cap) :=
    ((alloc_below (w.alloc (.cells #[.slice A L.length cap] 155)) (.cells #[.int .i64 (d : Int)] 3)).cell (p := ⟨w.heap.size, 0, none⟩) (by show w.heap.size < _; simp)).trans (cell_of_row _ w.heap.size 0 _ 155 (0, 0) (heap_alloc_new _ _))
  have hi0 : ((w.alloc (.cells #[.slice A L.length cap] 155)).alloc (.cells #[.int .i64 (d : Int)] 3)).cell? ⟨w.heap.size + 1, 0, none⟩ = some (.int .i64 (d : Int)) := by
    have e : w.heap.size + 1 = (w.alloc (.cells #[.slice A L.length cap] 155)).heap.size := by simp
    rw [e]
    exact cell_of_row _ _ 0 _ 3 (0, 0) (heap_alloc_new _ _)
  have HB0 := Lib.hid hb0
  have HP0 := Lib.hid hp0
  have HI0 := Lib.hid hi0
  clear hb0 hp0 hi0
  generalize (w.alloc (.cells #[.slice A L.length cap] 155)).alloc (.cells #[.int .i64 (d : Int)] 3) = w0 at HB0 HP0 HI0
  refine (tSearch_any L A cap d w.heap.size (w.heap.size + 1) _ hl (HM.out.below HB0.out) HS.out HAP.out hd HP0.out HI0.out).mono ?_
  rintro e w1 ⟨hb1, r, hr, rfl, h0, h1⟩
  have HB1 := Lib.hid (HB0.out.trans (hb1.mono HB0.out.size))
  have hp1 : w1.cell? ⟨w.heap.size, 0, none⟩ = some (.slice A L.length cap) := (hb1.cell (block_lt_of_cell HP0.out)).trans HP0.out
  have hN1 : w.heap.size < w1.heap.size := block_lt_of_cell hp1
  have hto := it_to A L.length cap r (by omega)
  have hfrom := it_from A L.length cap r hr
  have hdr := (HM.out.below HB1.out).drop (r := r) hcap
  have htk := (HM.out.below HB1.out).take r
  have hdl : (L.drop r).length = L.length - r := List.length_drop
  have htl : (L.take r).length = r := by rw [List.length_take]; omega
  generalize partAt A cap r = B at hfrom hdr
  obtain ⟨s, hse⟩ : ∃ s, L.length - r = s := ⟨_, rfl⟩
  obtain ⟨c2, hc2⟩ : ∃ c2, cap - r = c2 := ⟨_, rfl⟩
  have hsl : s ≤ 1000000 := by omega
  rw [hse, hc2] at hfrom
  rw [hse] at hdl
  have H0 := Lib.hid h0
  have H1 := Lib.hid h1
  have HTL := Lib.hid htl
  have HDL := Lib.hid hdl
  have HTO := Lib.hid hto
  have HFROM := Lib.hid hfrom
  have HTK := Lib.hid htk
  have HDR := Lib.hid hdr
  have HS0 := Lib.hid (show w1.cell? ⟨w.heap.size, 0, none⟩ = some (.slice A L.length cap) ∧ Below w1.heap.size w1 w1.drew from ⟨hp1, (Below.refl _ _).drew⟩)
  have HKEEP := Lib.hid (show ∀ u v : World, (u.cell? ⟨w.heap.size, 0, none⟩ = some (.slice A L.length cap) ∧ Below w1.heap.size w1 u) → Below u.heap.size u v → (v.cell? ⟨w.heap.size, 0, none⟩ = some (.slice A L.length cap) ∧ Below w1.heap.size w1 v) from
    fun u v ⟨h0, hb⟩ hv => ⟨(hv.cell (Nat.lt_of_lt_of_le hN1 hb.size)).trans h0, hb.trans (hv.mono hb.size)⟩)
  have HC0 := Lib.hid (show ∀ u : World, (u.cell? ⟨w.heap.size, 0, none⟩ = some (.slice A L.length cap) ∧ Below w1.heap.size w1 u) → Calls Tryz.prog 210 #[.slice A r cap] u fun e w' => ∃ A' c', e = .returned (.slice A' r c') ∧ Below u.heap.size u w' ∧ Row w' u.heap.size 2 (.slice A' r c') r (itCells (L.take r)) from
    fun u hu => clonePart_any (L.take r) r A cap u HTL.out (by omega) (HTK.out.below hu.2))
  have HC1 := Lib.hid (show ∀ u : World, (u.cell? ⟨w.heap.size, 0, none⟩ = some (.slice A L.length cap) ∧ Below w1.heap.size w1 u) → Calls Tryz.prog 210 #[.slice B s c2] u fun e w' => ∃ A' c', e = .returned (.slice A' s c') ∧ Below u.heap.size u w' ∧ Row w' u.heap.size 2 (.slice A' s c') s (itCells (L.drop r)) from
    fun u hu => clonePart_any (L.drop r) s B c2 u HDL.out hsl (HDR.out.below hu.2))
  clear hb1 h0 h1 hto hfrom htk hdr hdl htl hse hc2 hcap
  have hto := HTO.out
  have hfrom := HFROM.out
  go_wp2_with fail
  go_region_held3 (fun w' => w'.cell? ⟨w.heap.size, 0, none⟩ = some (.slice A L.length cap) ∧ Below w1.heap.size w1 w')
    (first | exact HS0.out | (refine HKEEP.out _ _ ?_ (by assumption); first | exact HS0.out | assumption | exact ⟨by assumption, by assumption⟩))
    (first | (go_at_call 210; refine (HC0.out _ (by first | exact HS0.out | assumption)).mono ?_; rintro e w8 ⟨A3, c3, rfl, hb8, hi8⟩) | (go_at_call 210; refine (HC1.out _ (by first | exact HS0.out | assumption)).mono ?_; rintro e w9 ⟨A4, c4, rfl, hb9, hi9⟩))
  rename_i hheld
  have HB2 := Lib.hid (HB1.out.trans (hheld.2.mono HB1.out.size))
  have HI8 := Lib.hid ((hi8.belowAll hb9).mono HB1.out.size)
  have HI9 := Lib.hid (hi9.mono (Nat.le_trans HB1.out.size hb8.size))
  clear hheld hb8 hb9 hi8 hi9 hto hfrom
  go_wp2
  refine bodyPost_ret (results_tmp2 rfl _ _ _) rfl ?_
  refine ⟨A3, c3, A4, c4, ?_, HB2.out, ?_, ?_⟩
  · rw [H0.out, H1.out, HTL.out, HDL.out]; rfl
  · rw [H0.out, HTL.out]; exact HI8.out
  · rw [H1.out, HDL.out]; exact HI9.out
theorem Row.items {w : World} {base n c : Nat} {p : Option Addr} {L : List It} (h : Row w base 2 (.slice p n c) n (itCells L)) : Itms w p L := by
  obtain ⟨_, A', c', hv, hit⟩ := h.itms
  injection hv with e1 _ _
  subst e1
  exact hit
theorem tHalves_any (L : List It) (A : Option Addr) (cap d : Nat) (w : World) (hl : L.length ≤ 1000000) (hcap : L.length ≤ cap) (hm : Itms w A L) (hs : L.Pairwise ltI) (hap : Apart L d) (hd : d < 128) :
    Calls Tryz.prog 157 #[.slice A L.length cap, .int .i64 (d : Int)] w fun e w' => ∃ A0 c0 A1 c1, e = .returned (.tuple #[.slice A0 (half L d 0).length c0, .slice A1 (half L d 1).length c1]) ∧ Below w.heap.size w w' ∧ Itms w' A0 (half L d 0) ∧ Itms w' A1 (half L d 1) ∧ (half L d 0).length ≤ c0 ∧ (half L d 1).length ≤ c1 :=
  (tHalves_row L A cap d w hl hcap hm hs hap hd).mono fun _ _ ⟨A0, c0, A1, c1, he, hb, h0, h1⟩ => ⟨A0, c0, A1, c1, he, hb, h0.items, h1.items, h0.cap, h1.cap⟩
end Go.Proofs.YtgjmbokfenpefaaGreatDoor
/- The program's directory: its heads. -/
namespace Go.Proofs.YtgjmbokfenpefaaGreatDoor
open Go.RowKit Go.Maps

theorem Row.sixes {w : World} {base : Nat} {v : Value} {M : List SgM} (h : Row w base 6 v M.length (sgCells M)) : ∃ A cap, v = .slice A M.length cap ∧ M.length ≤ cap ∧ SixAt w A M := by
  obtain ⟨p, cap, rfl⟩ := h.any
  refine ⟨p, cap, rfl, h.cap, fun i x hi => ?_⟩
  have hil : i < M.length := (List.getElem?_eq_some_iff.1 hi).1
  obtain ⟨g, cap', hv, _, hg, _, hc, _⟩ := h.shape (by omega)
  injection hv with hv _ _
  have k : ∀ j, j < 6 → (sgCells M)[i * 6 + j]? = x.cells[j]? := fun j hj => sgCells_get M i x j hi hj
  refine ⟨⟨g, 0, none⟩, hv, hg, ?_, ?_, ?_, ?_, ?_, ?_⟩
  · rw [add_none, Nat.zero_add]; exact hc _ _ (k 0 (by omega))
  all_goals rw [add_add', add_none, Nat.zero_add]
  · exact hc _ _ (k 1 (by omega))
  · exact hc _ _ (k 2 (by omega))
  · exact hc _ _ (k 3 (by omega))
  · exact hc _ _ (k 4 (by omega))
  · exact hc _ _ (k 5 (by omega))
def fillL (cs : List Value) (z : Nat → Value) (i : Nat) : Value := cs.getD i (z i)
theorem fill_snoc (cs : List Value) (z : Nat → Value) (v : Value) (j i : Nat) (hj : cs.length = j) : upd (fillL cs z) j v i = fillL (cs ++ [v]) z i := by
  subst hj
  unfold upd fillL
  simp only [List.getD_eq_getElem?_getD]
  by_cases h : i = cs.length
  · subst h; simp
  · by_cases h2 : i < cs.length
    · rw [if_neg h, List.getElem?_append_left h2]
    · rw [if_neg h, List.getElem?_eq_none (by omega), List.getElem?_eq_none (by simp; omega)]
theorem Holds.fill {w : World} {b n : Nat} {cs : List Value} {z : Nat → Value} {t : TypeId} (h : Holds w b n (fillL cs z) t) (j : Nat) (hj : cs.length = j) (v : Value) : Holds (w.setCell ⟨b, j, none⟩ v) b n (fillL (cs ++ [v]) z) t :=
  (h.set j v).congr fun i _ => fill_snoc cs z v j i hj
def zHd (i : Nat) : Value := if i % 3 = 0 then .int .i64 0 else .string ⟨#[]⟩
theorem makeHds (n : Nat) (h : n ≤ 8) (w : World) : (Instr.makeSlice 129 (.int .i64 (n : Int)) (.int .i64 (n : Int))).run Tryz.prog w = .ok (.slice (some ⟨w.heap.size, 0, none⟩) n n) (w.alloc (.cells (arr (n * 3) zHd) 52)) := by
  rcases (by omega : n = 0 ∨ n = 1 ∨ n = 2 ∨ n = 3 ∨ n = 4 ∨ n = 5 ∨ n = 6 ∨ n = 7 ∨ n = 8) with rfl | rfl | rfl | rfl | rfl | rfl | rfl | rfl | rfl <;> kernel_rfl
set_option maxHeartbeats 1000000 in
set_option maxRecDepth 100000 in
theorem pDirHeads_any (p : Nat) (M : List SgM) (A : Option Addr) (cap : Nat) (w : World) (h8 : M.length ≤ 8) (hp : w.cell? ⟨p, 5, none⟩ = some (.slice A M.length cap)) (hm : SixAt w A M) :
    Calls Tryz.prog 153 #[.pointer (some ⟨p, 0, none⟩)] w fun e w' => ∃ A' c', e = .returned (.slice A' M.length c') ∧ Below w.heap.size w w' ∧ Hds w' A' (M.map (·.s.head)) ∧ M.length ≤ c' := by
  have HM := Lib.hid hm
  have HPL := Lib.hid (block_lt_of_cell hp)
  have HN := Lib.hid (Holds.new w (M.length * 3) zHd 52)
  have HB := Lib.hid (alloc_below w (.cells (arr (M.length * 3) zHd) 52))
  have hp1 : (w.alloc (.cells (arr (M.length * 3) zHd) 52)).cell? ⟨p, 5, none⟩ = some (.slice A M.length cap) := (HB.out.cell (p := ⟨p, 5, none⟩) HPL.out).trans hp
  have hmk := makeHds M.length h8
  clear hm
  go_enter Tryz.func153, Tryz.ntmps153
  go_wp2
  generalize w.alloc (.cells (arr (M.length * 3) zHd) 52) = w1 at HN HB hp1 ⊢
  clear hmk hp hp1
  go_loopw [17] (fun i wr => ∃ k : Nat, k ≤ M.length ∧ i = .int .i64 (k : Int) ∧ Hid (Below w.heap.size w wr ∧ Holds wr w.heap.size (M.length * 3) (fillL (hdCells ((M.take k).map (·.s.head))) zHd) 52)) (fun i _ => M.length - (intOf i).toNat)
  case atStart => exact ⟨0, by omega, rfl, Lib.hid ⟨HB.out, HN.out⟩⟩
  case round =>
    obtain ⟨k, hk, rfl, HU⟩ := hrel
    by_cases hlt : k < M.length
    · obtain ⟨m, hmk⟩ : ∃ m, M[k]? = some m := ⟨_, List.getElem?_eq_getElem hlt⟩
      obtain ⟨a, rfl, hal, c0, c1, c2, c3, c4, c5⟩ := (HM.out.below HU.out.1) k m hmk
      have hki : (k : Int) < (M.length : Int) := by omega
      have d1 : wr.cell? ⟨(a.add (k * 6)).block, (a.add (k * 6)).off + 1, none⟩ = some (.string m.s.head.root) := c1
      have d2 : wr.cell? ⟨(a.add (k * 6)).block, (a.add (k * 6)).off + 2, none⟩ = some (.string m.s.head.prev) := c2
      have d3 : wr.cell? ⟨(a.add (k * 6)).block, (a.add (k * 6)).off + 3, none⟩ = some (.int .i64 m.s.key) := c3
      have d4 : wr.cell? ⟨(a.add (k * 6)).block, (a.add (k * 6)).off + 4, none⟩ = some (.slice m.A m.s.sig.length m.ca) := c4
      have d5 : wr.cell? ⟨(a.add (k * 6)).block, (a.add (k * 6)).off + 5, none⟩ = some (.slice m.B m.s.path.length m.cb) := c5
      obtain ⟨cs, hcs⟩ : ∃ cs, hdCells ((M.take k).map (·.s.head)) = cs := ⟨_, rfl⟩
      have HCS := Lib.hid (show cs.length = k * 3 from by rw [← hcs, hdCells_length, List.length_map, List.length_take]; omega)
      have HNX := Lib.hid (show hdCells ((M.take (k + 1)).map (·.s.head)) = cs ++ [.int .i64 m.s.head.epoch] ++ [.string m.s.head.root] ++ [.string m.s.head.prev] from by
        rw [List.take_add_one, hmk, List.map_append, hdCells_append, hcs]
        simp [hdCells, Hd.cells])
      have HH0 := Lib.hid HU.out.2
      rw [hcs] at HH0
      have HB1 := Lib.hid (HU.out.1.alloc HU.out.1.size (.cells #[.int .i64 m.s.head.epoch, .string m.s.head.root, .string m.s.head.prev, .int .i64 m.s.key, .slice m.A m.s.sig.length m.ca, .slice m.B m.s.path.length m.cb] 57))
      have HH1 := Lib.hid (HH0.out.alloc (.cells #[.int .i64 m.s.head.epoch, .string m.s.head.root, .string m.s.head.prev, .int .i64 m.s.key, .slice m.A m.s.sig.length m.ca, .slice m.B m.s.path.length m.cb] 57))
      have z0 : fillL cs zHd (k * 3) = .int .i64 0 := by
        unfold fillL; rw [List.getD_eq_getElem?_getD, List.getElem?_eq_none (by rw [HCS.out]; omega)]; show zHd (k * 3) = _; unfold zHd; rw [if_pos (by omega)]
      have z1 : fillL cs zHd (k * 3 + 1) = .string ⟨#[]⟩ := by
        unfold fillL; rw [List.getD_eq_getElem?_getD, List.getElem?_eq_none (by rw [HCS.out]; omega)]; show zHd (k * 3 + 1) = _; unfold zHd; rw [if_neg (by omega)]
      have z2 : fillL cs zHd (k * 3 + 2) = .string ⟨#[]⟩ := by
        unfold fillL; rw [List.getD_eq_getElem?_getD, List.getElem?_eq_none (by rw [HCS.out]; omega)]; show zHd (k * 3 + 2) = _; unfold zHd; rw [if_neg (by omega)]
      have e0 := HH1.out.cell (k * 3) (by omega)
      have e1 := HH1.out.cell (k * 3 + 1) (by omega)
      have e2 := HH1.out.cell (k * 3 + 2) (by omega)
      rw [z0] at e0
      rw [z1] at e1
      rw [z2] at e2
      have g0 := HH1.out.free (k * 3)
      have g1 := HH1.out.free (k * 3 + 1)
      have g2 := HH1.out.free (k * 3 + 2)
      have HFIN := Lib.hid (((HH1.out.fill (k * 3) HCS.out (.int .i64 m.s.head.epoch)).fill (k * 3 + 1) (by simp [HCS.out]) (.string m.s.head.root)).fill (k * 3 + 2) (by simp [HCS.out]) (.string m.s.head.prev))
      have HFB := Lib.hid (((HB1.out.setCell (p := ⟨w.heap.size, k * 3, none⟩) (Nat.le_refl _) (.int .i64 m.s.head.epoch)).setCell (p := ⟨w.heap.size, k * 3 + 1, none⟩) (Nat.le_refl _) (.string m.s.head.root)).setCell (p := ⟨w.heap.size, k * 3 + 2, none⟩) (Nat.le_refl _) (.string m.s.head.prev))
      clear z0 z1 z2 hcs hmk c1 c2 c3 c4 c5 hal
      go_wp2
      go_roundw
      case rel => exact ⟨k + 1, by omega, by go_num, Lib.hid ⟨HFB.out, by rw [HNX.out]; exact HFIN.out⟩⟩
      case measure => simp [intOf]; omega
    · obtain rfl : k = M.length := by omega
      go_wp2
      go_ret
      refine ⟨some ⟨w.heap.size, 0, none⟩, M.length, rfl, HU.out.1, fun i x hx => ?_, Nat.le_refl _⟩
      have hh := HU.out.2
      rw [List.take_length] at hh
      have hil : i < M.length := by have := (List.getElem?_eq_some_iff.1 hx).1; simpa using this
      have hl : (hdCells (M.map (·.s.head))).length = M.length * 3 := by rw [hdCells_length, List.length_map]
      have hg : ∀ j, j < 3 → wr.cell? ⟨w.heap.size, i * 3 + j, none⟩ = x.cells[j]? := fun j hj => by
        rw [hh.cell (i * 3 + j) (by omega), ← hdCells_get _ i x j hx hj]
        unfold fillL
        rw [List.getD_eq_getElem?_getD, List.getElem?_eq_getElem (show i * 3 + j < (hdCells (M.map (·.s.head))).length by rw [hl]; omega)]
        rfl
      refine ⟨⟨w.heap.size, 0, none⟩, rfl, hh.lt, ?_, ?_, ?_⟩
      · rw [add_none, Nat.zero_add]; exact hg 0 (by omega)
      · rw [add_add', add_none, Nat.zero_add]; exact hg 1 (by omega)
      · rw [add_add', add_none, Nat.zero_add]; exact hg 2 (by omega)
end Go.Proofs.YtgjmbokfenpefaaGreatDoor
/- slices.Backward over strings: what its rounds are handed, in what order. -/
namespace Go.Proofs.YtgjmbokfenpefaaGreatDoor
open Go.RowKit Go.Shelf
attribute [local go_sem] Oper.semAt_some

/-- What has come when k rounds are over: the last places first. -/
def backTo (n k : Nat) : List Nat := (List.range k).map fun j => n - 1 - j
theorem backTo_succ (n k : Nat) : backTo n (k + 1) = backTo n k ++ [n - 1 - k] := by simp [backTo, List.range_succ]
theorem backTo_length (n k : Nat) : (backTo n k).length = k := by simp [backTo]
def back (P : List ByteArray) (ys : List (Fin P.length)) (k : Nat) : Prop := ys.map (·.val) = backTo P.length k
theorem back_snoc {P : List ByteArray} {ys : List (Fin P.length)} {k : Nat} (h : back P ys k) (x : Fin P.length) (hx : x.val = P.length - 1 - k) : back P (ys ++ [x]) (k + 1) := by
  unfold back at h ⊢
  rw [backTo_succ, List.map_append, h, List.map_singleton, hx]
theorem back_len {P : List ByteArray} {ys : List (Fin P.length)} {k : Nat} (h : back P ys k) : ys.length = k := by
  have := congrArg List.length h
  rwa [List.length_map, backTo_length] at this
def placed (P : List ByteArray) (x : Fin P.length) : ByteArray := P.getD x.val ⟨#[]⟩
/-- What a round that goes on keeps: what lies below n₀, and the box with the slice. -/
def KeepBox (n₀ Bs : Nat) (v : Value) (W W' : World) : Prop := Below n₀ W W' ∧ (W.cell? ⟨Bs, 0, none⟩ = some v → W'.cell? ⟨Bs, 0, none⟩ = some v)
theorem keepBox_t {n₀ Bs : Nat} {v : Value} {A B C : World} (h : KeepBox n₀ Bs v A B) (k : KeepBox n₀ Bs v B C) : KeepBox n₀ Bs v A C := ⟨h.1.trans k.1, fun e => k.2 (h.2 e)⟩
theorem keepBox_b {n₀ Bs : Nat} {v : Value} {w : World} (hn : n₀ ≤ w.heap.size) (W : World) (l : Nat) (o o' : Obj) (hl : w.heap.size ≤ l) (h : W.heap[l]? = some o) (hc : o.isCells = false) (hw : o.isWalk = false) : KeepBox n₀ Bs v W (W.putObj l o') :=
  ⟨belowK_b hn W l o o' hl h hc hw, fun e => cell_kept e (grownBy_putObj' W l o') (fun r e => by cases e; exact ⟨_, h, hc⟩)⟩

set_option maxRecDepth 100000 in
set_option maxHeartbeats 2000000 in
theorem back1_in (F : Fence) (n : Nat) (h8 : F.fn 246) (hro : F.round = none) (hn : 1 ≤ n) (l Bs n₀ cap : Nat) (A : Option Addr) (P : List ByteArray) (hlen : P.length ≤ 1000000) (J Jx : List (Fin P.length) → World → Prop)
    (hY : ∀ pre x W, J pre W → pre.length < P.length → YieldAt F (n - 1) Tryz.prog l #[.int .i64 (x.val : Int), .string (placed P x)] W fun e W' =>
      (e = .returned (.bool true) ∧ J (pre ++ [x]) W' ∧ KeepBox n₀ Bs (.slice A P.length cap) W W') ∨ (e = .returned (.bool false) ∧ Jx (pre ++ [x]) W'))
    (W : World) (hBs : W.cell? ⟨Bs, 0, none⟩ = some (.slice A P.length cap)) (hc : StrsAt n₀ W A P) (h0 : J [] W) :
    CallsIn F n Tryz.prog 246 #[.func (.yield l) #[] #[], .pointer (some ⟨Bs, 0, none⟩)] W fun e W' => (∃ v, e = .returned v) ∧
      ((∃ ys, back P ys P.length ∧ J ys W') ∨ (∃ pre, (∃ k, k ≤ P.length ∧ back P pre k) ∧ Jx pre W')) := by
  refine callsIn_of_wp Tryz.func246 rfl h8 ?_ hro
  simp only [Tryz.ntmps246, List.size_toArray, List.length_cons, List.length_nil, Nat.reduceAdd, Nat.reduceSub, Array.replicate_succ, Array.replicate_zero, List.push_toArray, List.append_toArray, List.nil_append, List.cons_append]
  have hw0 : IntKind.i64.wrap ((P.length : Int) - 1) = (P.length : Int) - 1 := IntWalk.i64_in _ (by omega)
  gi_wp2
  gi_loopw [3] (fun i wr => ∃ k : Nat, k ≤ P.length ∧ i = .int .i64 ((P.length : Int) - 1 - k) ∧ (∃ ys, back P ys k ∧ J ys wr) ∧ Below n₀ W wr ∧ wr.cell? ⟨Bs, 0, none⟩ = some (.slice A P.length cap))
    (fun i _ => (intOf i + 1).toNat)
  case atStart => exact ⟨0, Nat.zero_le _, by simp, ⟨[], rfl, h0⟩, Below.refl _ _, hBs⟩
  case round =>
    obtain ⟨k, hk, rfl, ⟨ys, hys, hJs⟩, hnx, hcs⟩ := hrel
    by_cases hlt : k < P.length
    · obtain ⟨m, hm⟩ : ∃ m : Nat, P.length - 1 - k = m := ⟨_, rfl⟩
      have hmi : (P.length : Int) - 1 - k = (m : Int) := by omega
      have hml : (m : Int) < (P.length : Int) := by omega
      have hw1 : IntKind.i64.wrap ((m : Int) - 1) = (m : Int) - 1 := IntWalk.i64_in _ (by omega)
      obtain ⟨a, rfl, hal, hcc⟩ := hc m (P.getD m ⟨#[]⟩) (by rw [List.getD_eq_getElem?_getD, List.getElem?_eq_getElem (by omega)]; rfl)
      have hcx : wr.cell? (a.add m) = some (.string (P.getD m ⟨#[]⟩)) := (hnx.cell (by rw [block_add]; exact hal)).trans hcc
      obtain ⟨fn, tmps, assign, body, hy, hR⟩ := hY ys ⟨m, by omega⟩ wr hJs (by rw [back_len hys]; exact hlt)
      dsimp only [placed] at hy
      have hbs := back_snoc hys ⟨m, by omega⟩ hm.symm
      rw [hmi]
      generalize P.getD m ⟨#[]⟩ = p at hcx hy
      gi_wp2
      refine hR.mono ?_
      rintro e W3 (⟨rfl, hJ3, hk3⟩ | ⟨rfl, hJx3⟩)
      · gi_wp2
        go_roundw
        case rel => exact ⟨k + 1, by omega, by congr 1; omega, ⟨_, hbs, hJ3⟩, hnx.trans hk3.1, hk3.2 hcs⟩
        case measure => simp only [intOf]; omega
      · gi_wp2
        refine bodyPost_ret (results_none rfl _ _ _) rfl ?_
        exact ⟨⟨_, rfl⟩, .inr ⟨_, ⟨k + 1, by omega, hbs⟩, hJx3⟩⟩
    · obtain rfl : k = P.length := by omega
      rw [show (P.length : Int) - 1 - P.length = -1 by omega]
      gi_wp2
      go_end0
      exact ⟨⟨_, rfl⟩, .inl ⟨_, hys, hJs⟩⟩

set_option maxHeartbeats 1000000 in
theorem back_in (F : Fence) (n : Nat) (h6 : F.fn 217) (hro : F.round = none) (a : Option Addr) (len cap : Nat) (w : World) :
    CallsIn F n Tryz.prog 217 #[.slice a len cap] w fun e w' => e = .returned (.func (.func 246) #[] #[.pointer (some ⟨w.heap.size, 0, none⟩)]) ∧ w' = w.alloc (.cells #[.slice a len cap] 53) := by
  refine callsIn_of_wp Tryz.func217 rfl h6 ?_ hro
  simp only [Tryz.ntmps217, List.size_toArray, List.length_cons, List.length_nil, Nat.reduceAdd, Nat.reduceSub, Array.replicate_succ, Array.replicate_zero, List.push_toArray, List.append_toArray, List.nil_append, List.cons_append]
  gi_wp2
  go_ret
  exact ⟨rfl, rfl⟩

/-- What slices.Backward hands back stops after all the texts, the last first; or a round said no more. -/
theorem back_stops (F : Fence) (n : Nat) (h8 : F.fn 246) (hro : F.round = none) (hn : 1 ≤ n) (Bs n₀ cap : Nat) (A : Option Addr) (P : List ByteArray) (hlen : P.length ≤ 1000000) (w : World) (hBs : Bs < w.heap.size) (hn₀ : n₀ ≤ w.heap.size)
    (hc : w.cell? ⟨Bs, 0, none⟩ = some (.slice A P.length cap)) (hI : StrsAt n₀ w A P) :
    SeqStopsK F n Tryz.prog 246 #[.pointer (some ⟨Bs, 0, none⟩)] (fun x : Fin P.length => #[Value.int .i64 (x.val : Int), Value.string (placed P x)]) (KeepBox n₀ Bs (.slice A P.length cap)) (fun ys => back P ys P.length)
      (fun pre => ∃ k, k ≤ P.length ∧ back P pre k) P.length w := fun l J Jx W hW _ _ hY h0 =>
  back1_in F n h8 hro hn l Bs n₀ cap A P hlen J Jx hY W ((hW.cell (p := ⟨Bs, 0, none⟩) hBs).trans hc) (hI.below (hW.mono hn₀)) h0
end Go.Proofs.YtgjmbokfenpefaaGreatDoor
