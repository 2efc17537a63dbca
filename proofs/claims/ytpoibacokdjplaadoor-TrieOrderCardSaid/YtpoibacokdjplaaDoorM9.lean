/- Parts of the proof, one behind the other: Cut, Part, PHalves, PNode. -/
import Derived.Test.YtpoibacokdjplaaDoorM5
import Derived.Test.YtpoibacokdjplaaDoorM4
import Derived.Test.YtpoibacokdjplaaDoorM8
import Derived.Deep.RegionHeld3
import Derived.Deep.DeepCutAuto
import Derived.Test.YtpoibacokdjplaaDoorM6
/- Where items that rise part at a bit, and where one more must stand: plain facts. -/
namespace Go.Proofs.YtpoibacokdjplaaDoor

theorem byte_of_bits_lt (x y m : Nat) (hx : x < 256) (hy : y < 256) (hm : m < 8) (h : ∀ j, j < m → x / 2 ^ (7 - j) % 2 = y / 2 ^ (7 - j) % 2) (h1 : x / 2 ^ (7 - m) % 2 = 1) (h0 : y / 2 ^ (7 - m) % 2 = 0) : y < x := by
  rcases (show m = 0 ∨ m = 1 ∨ m = 2 ∨ m = 3 ∨ m = 4 ∨ m = 5 ∨ m = 6 ∨ m = 7 by omega) with rfl | rfl | rfl | rfl | rfl | rfl | rfl | rfl
  · simp at h0 h1; omega
  · have a0 := h 0 (by omega)
    simp at h0 h1 a0; omega
  · have a0 := h 0 (by omega); have a1 := h 1 (by omega)
    simp at h0 h1 a0 a1; omega
  · have a0 := h 0 (by omega); have a1 := h 1 (by omega); have a2 := h 2 (by omega)
    simp at h0 h1 a0 a1 a2; omega
  · have a0 := h 0 (by omega); have a1 := h 1 (by omega); have a2 := h 2 (by omega); have a3 := h 3 (by omega)
    simp at h0 h1 a0 a1 a2 a3; omega
  · have a0 := h 0 (by omega); have a1 := h 1 (by omega); have a2 := h 2 (by omega); have a3 := h 3 (by omega); have a4 := h 4 (by omega)
    simp at h0 h1 a0 a1 a2 a3 a4; omega
  · have a0 := h 0 (by omega); have a1 := h 1 (by omega); have a2 := h 2 (by omega); have a3 := h 3 (by omega); have a4 := h 4 (by omega); have a5 := h 5 (by omega)
    simp at h0 h1 a0 a1 a2 a3 a4 a5; omega
  · have a0 := h 0 (by omega); have a1 := h 1 (by omega); have a2 := h 2 (by omega); have a3 := h 3 (by omega); have a4 := h 4 (by omega); have a5 := h 5 (by omega); have a6 := h 6 (by omega)
    simp at h0 h1 a0 a1 a2 a3 a4 a5 a6; omega
theorem getD_eq (l : List UInt8) (i : Nat) (h : i < l.length) : l.getD i 0 = l[i] := by
  rw [List.getD_eq_getElem?_getD, List.getElem?_eq_getElem h]; rfl
theorem lt_at {a b : List UInt8} (m : Nat) (ha : m < a.length) (hb : m < b.length) (hs : ∀ i, i < m → a.getD i 0 = b.getD i 0) (h : b.getD m 0 < a.getD m 0) : b < a := by
  have e : b.take m = a.take m := by
    apply List.ext_getElem
    · simp; omega
    · intro i h1 h2
      have hi : i < m := by rw [List.length_take] at h1; omega
      rw [List.getElem_take, List.getElem_take]
      have := hs i hi
      rw [getD_eq a i (by omega), getD_eq b i (by omega)] at this
      exact this.symm
  rw [← List.take_append_drop m b, ← List.take_append_drop m a, e]
  apply List.append_left_lt
  rw [List.drop_eq_getElem_cons hb, List.drop_eq_getElem_cons ha]
  rw [getD_eq a m ha, getD_eq b m hb] at h
  exact List.cons_lt_cons_iff.2 (.inl h)
/-- Alike ahead of a bit, that with the bit 0 stands first. -/
theorem bit_first {a b : List UInt8} (ha : a.length = 16) (hb : b.length = 16) {d : Nat} (hd : d < 128) (hs : ∀ k, k < d → bitOf a k = bitOf b k) (h1 : bitOf a d = 1) (h0 : bitOf b d = 0) : b < a := by
  refine lt_at (d / 8) (by omega) (by omega) (fun i hi => ?_) ?_
  · apply UInt8.toNat_inj.1
    refine byte_of_bits _ _ (a.getD i 0).toNat_lt (b.getD i 0).toNat_lt fun j hj => ?_
    have := hs (8 * i + j) (by omega)
    unfold bitOf at this
    rw [show (8 * i + j) / 8 = i by omega, show (8 * i + j) % 8 = j by omega] at this
    exact this
  · rw [UInt8.lt_iff_toNat_lt]
    refine byte_of_bits_lt _ _ (d % 8) (a.getD (d / 8) 0).toNat_lt (b.getD (d / 8) 0).toNat_lt (Nat.mod_lt _ (by decide)) (fun j hj => ?_) h1 h0
    have := hs (8 * (d / 8) + j) (by omega)
    unfold bitOf at this
    rw [show (8 * (d / 8) + j) / 8 = d / 8 by omega, show (8 * (d / 8) + j) % 8 = j by omega] at this
    exact this
theorem itAt_mem {L : List It} {i : Nat} (h : i < L.length) : itAt L i ∈ L := by rw [itAt_of h]; exact List.getElem_mem h
theorem itAt_rise {L : List It} (hs : L.Pairwise ltI) {i j : Nat} (hij : i < j) (hj : j < L.length) : ltI (itAt L i) (itAt L j) := by
  rw [itAt_of hj, itAt_of (show i < L.length by omega)]
  exact List.pairwise_iff_getElem.1 hs i j (by omega) hj hij
/-- Behind one whose bit is 1 all have it. -/
theorem bit_mono {L : List It} {d : Nat} (hs : L.Pairwise ltI) (hap : Apart L d) (hd : d < 128) {i j : Nat} (hij : i ≤ j) (hj : j < L.length) (h : bitI (itAt L i) d = 1) : bitI (itAt L j) d = 1 := by
  by_cases e : i = j
  · rwa [← e]
  · have hlt : ltI (itAt L i) (itAt L j) := itAt_rise hs (by omega) hj
    have hi : itAt L i ∈ L := itAt_mem (by omega)
    have hjm : itAt L j ∈ L := itAt_mem hj
    have hb := bitOf_lt (itAt L j).1.data.toList d
    by_cases e0 : bitI (itAt L j) d = 0
    · have := bit_first (a := (itAt L i).1.data.toList) (b := (itAt L j).1.data.toList) (hap.1 _ hi) (hap.1 _ hjm) hd (fun k hk => hap.2.2 _ hi _ hjm k hk) h e0
      exact (ltI_asymm hlt this).elim
    · unfold bitI at e0 ⊢; omega
theorem half_cut {L : List It} {d r : Nat} (h0 : ∀ i, i < r → i < L.length → bitI (itAt L i) d ≠ 1) (h1 : ∀ i, r ≤ i → i < L.length → bitI (itAt L i) d = 1) : half L d 0 = L.take r ∧ half L d 1 = L.drop r := by
  have t0 : ∀ x ∈ L.take r, bitI x d = 0 := by
    intro x hx
    obtain ⟨i, hi, rfl⟩ := List.getElem_of_mem hx
    rw [List.length_take] at hi
    have := h0 i (by omega) (by omega)
    rw [itAt_of (show i < L.length by omega)] at this
    rw [List.getElem_take]
    have hb := bitOf_lt (L[i]'(by omega)).1.data.toList d
    unfold bitI at this ⊢; omega
  have t1 : ∀ x ∈ L.drop r, bitI x d = 1 := by
    intro x hx
    obtain ⟨i, hi, rfl⟩ := List.getElem_of_mem hx
    rw [List.length_drop] at hi
    have := h1 (r + i) (by omega) (by omega)
    rw [itAt_of (show r + i < L.length by omega)] at this
    rw [List.getElem_drop]
    exact this
  unfold half
  constructor
  · conv => lhs; rw [← List.take_append_drop r L]
    rw [List.filter_append, List.filter_eq_self.2 (fun x hx => by rw [beq_iff_eq]; exact t0 x hx), List.filter_eq_nil_iff.2 (fun x hx => by rw [beq_iff_eq, t1 x hx]; decide), List.append_nil]
  · conv => lhs; rw [← List.take_append_drop r L]
    rw [List.filter_append, List.filter_eq_nil_iff.2 (fun x hx => by rw [beq_iff_eq, t0 x hx]; decide), List.filter_eq_self.2 (fun x hx => by rw [beq_iff_eq]; exact t1 x hx), List.nil_append]
theorem half_rise {L : List It} (h : L.Pairwise ltI) (d k : Nat) : (half L d k).Pairwise ltI := h.filter _
theorem drop_at {L : List It} {p : Nat} (hp : p < L.length) : L.drop p = itAt L p :: L.drop (p + 1) := by
  rw [List.drop_eq_getElem_cons hp, itAt_of hp]
theorem rise_mid {L : List It} {x : It} {p q : Nat} (hs : L.Pairwise ltI) (_hpq : p ≤ q) (h0 : ∀ i, i < p → i < L.length → ltI (itAt L i) x) (h1 : ∀ i, q ≤ i → i < L.length → ltI x (itAt L i)) : (L.take p ++ x :: L.drop q).Pairwise ltI := by
  have a0 : ∀ y ∈ L.take p, ltI y x := by
    intro y hy
    obtain ⟨i, hi, rfl⟩ := List.getElem_of_mem hy
    rw [List.length_take] at hi
    have := h0 i (by omega) (by omega)
    rw [itAt_of (show i < L.length by omega)] at this
    rw [List.getElem_take]; exact this
  have a1 : ∀ y ∈ L.drop q, ltI x y := by
    intro y hy
    obtain ⟨i, hi, rfl⟩ := List.getElem_of_mem hy
    rw [List.length_drop] at hi
    have := h1 (q + i) (by omega) (by omega)
    rw [itAt_of (show q + i < L.length by omega)] at this
    rw [List.getElem_drop]; exact this
  rw [List.pairwise_append, List.pairwise_cons]
  refine ⟨hs.sublist (List.take_sublist p L), ⟨a1, hs.sublist (List.drop_sublist q L)⟩, fun y hy z hz => ?_⟩
  rcases List.mem_cons.1 hz with rfl | hz
  · exact a0 y hy
  · exact ltI_trans (a0 y hy) (a1 z hz)
theorem ltI_ne {x y : It} (h : ltI x y) : x.1 ≠ y.1 := fun e => by
  unfold ltI at h
  rw [e] at h
  exact List.lt_irrefl _ h
theorem take_ne {L : List It} {x : It} {p : Nat} (h0 : ∀ i, i < p → i < L.length → ltI (itAt L i) x) : ∀ y ∈ L.take p, y.1 ≠ x.1 := by
  intro y hy
  obtain ⟨i, hi, rfl⟩ := List.getElem_of_mem hy
  rw [List.length_take] at hi
  have := h0 i (by omega) (by omega)
  rw [itAt_of (show i < L.length by omega)] at this
  rw [List.getElem_take]; exact ltI_ne this
theorem drop_ne {L : List It} {x : It} {q : Nat} (h1 : ∀ i, q ≤ i → i < L.length → ltI x (itAt L i)) : ∀ y ∈ L.drop q, y.1 ≠ x.1 := by
  intro y hy
  obtain ⟨i, hi, rfl⟩ := List.getElem_of_mem hy
  rw [List.length_drop] at hi
  have := h1 (q + i) (by omega) (by omega)
  rw [itAt_of (show q + i < L.length by omega)] at this
  rw [List.getElem_drop]; exact fun e => ltI_ne this e.symm
/-- One more, of a new index. -/
theorem set_new {L : List It} {x : It} {p : Nat} (hs : L.Pairwise ltI) (h0 : ∀ i, i < p → i < L.length → ltI (itAt L i) x) (h1 : ∀ i, p ≤ i → i < L.length → ltI x (itAt L i)) :
    others L x = L ∧ L.take p ++ x :: L.drop p = insIt x (others L x) := by
  have he : others L x = L := by
    refine List.filter_eq_self.2 fun y hy => decide_eq_true ?_
    rw [← List.take_append_drop p L] at hy
    rcases List.mem_append.1 hy with hy | hy
    · exact take_ne h0 y hy
    · exact drop_ne h1 y hy
  refine ⟨he, set_sorted hs ?_ (rise_mid hs (Nat.le_refl p) h0 h1)⟩
  rw [he]
  conv => rhs; rw [← List.take_append_drop p L]
  rw [List.append_assoc]
  exact List.Perm.append_left _ (List.perm_append_singleton x _).symm
/-- One in another one's place. -/
theorem set_there {L : List It} {x : It} {p : Nat} (hs : L.Pairwise ltI) (hp : p < L.length) (he : (itAt L p).1 = x.1) :
    (others L x).length + 1 = L.length ∧ L.take p ++ x :: L.drop (p + 1) = insIt x (others L x) := by
  have h0 : ∀ i, i < p → i < L.length → ltI (itAt L i) x := fun i hi _ => by
    have := itAt_rise hs hi hp
    unfold ltI at this ⊢
    rwa [he] at this
  have h1 : ∀ i, p + 1 ≤ i → i < L.length → ltI x (itAt L i) := fun i hi hl => by
    have := itAt_rise hs (show p < i by omega) hl
    unfold ltI at this ⊢
    rwa [he] at this
  have ho : others L x = L.take p ++ L.drop (p + 1) := by
    unfold others
    conv => lhs; rw [← List.take_append_drop p L, drop_at hp]
    rw [List.filter_append, List.filter_cons_of_neg (by simp [he]), List.filter_eq_self.2 (fun y hy => decide_eq_true (take_ne h0 y hy)), List.filter_eq_self.2 (fun y hy => decide_eq_true (drop_ne h1 y hy))]
  refine ⟨by rw [ho]; simp; omega, set_sorted hs ?_ (rise_mid hs (Nat.le_succ p) h0 h1)⟩
  rw [ho, List.append_assoc]
  exact List.Perm.append_left _ (List.perm_append_singleton x _).symm
end Go.Proofs.YtpoibacokdjplaaDoor
/- Parts of a list of items: l[:r], l[r:]. -/
namespace Go.Proofs.YtpoibacokdjplaaDoor
open Go.RowKit

def partAt (A : Option Addr) (cap r : Nat) : Option Addr := if cap = r then A else A.map (·.add (r * 2))
theorem items_to {P : Program} (t e : Nat) (ht : P.underlying t = some (.slice e)) (hz : ∀ w, (Go.sizeOf e).run P w = .ok 2 w) (A : Option Addr) (n cap r : Nat) (hr : r ≤ cap) (w : World) :
    (Instr.sliceAt t (.slice A n cap) none (some (.int .i64 (r : Int))) none).run P w = .ok (.slice A r cap) w := by
  have e2 : P.elem t = e := by simp [Program.elem, ht]
  rw [run_sliceAt_slice w t _ _ _ _ (by rw [e2]; exact ht), run_slice_h w t A n cap (by rw [e2]; exact ht) .i64 r (by omega) (by omega), e2, hz]
  cases A <;> simp [Result.andThen, sliced, Addr.add]
theorem items_from {P : Program} (t e : Nat) (ht : P.underlying t = some (.slice e)) (hz : ∀ w, (Go.sizeOf e).run P w = .ok 2 w) (A : Option Addr) (n cap r : Nat) (hr : r ≤ n) (w : World) :
    (Instr.sliceAt t (.slice A n cap) (some (.int .i64 (r : Int))) none none).run P w = .ok (.slice (partAt A cap r) (n - r) (cap - r)) w := by
  have e2 : P.elem t = e := by simp [Program.elem, ht]
  rw [run_sliceAt_slice w t _ _ _ _ (by rw [e2]; exact ht), run_slice_l w t A n cap (by rw [e2]; exact ht) .i64 r (by omega) (by omega), e2, hz]
  simp [Result.andThen, sliced, partAt]
theorem Itms.take {w : World} {A : Option Addr} {L : List It} (h : Itms w A L) (r : Nat) : Itms w A (L.take r) := fun i x hx => by
  rw [List.getElem?_take] at hx
  split at hx
  · exact h i x hx
  · cases hx
theorem Itms.drop {w : World} {A : Option Addr} {L : List It} (h : Itms w A L) {cap r : Nat} (hc : L.length ≤ cap) : Itms w (partAt A cap r) (L.drop r) := fun i x hx => by
  rw [List.getElem?_drop] at hx
  obtain ⟨a, rfl, hl, c0, c1⟩ := h _ x hx
  have hlt := (List.getElem?_eq_some_iff.1 hx).1
  unfold partAt
  rw [if_neg (by omega)]
  have e : (a.add (r * 2)).add (i * 2) = a.add ((r + i) * 2) := by rw [add_add', show r * 2 + i * 2 = (r + i) * 2 by omega]
  exact ⟨a.add (r * 2), rfl, by rw [block_add]; exact hl, by rw [e]; exact c0, by rw [e]; exact c1⟩
theorem itemSize : ∀ w, (Go.sizeOf 28).run Tryd.prog w = .ok 2 w := Tryd.sizeOf28
theorem it_to (A : Option Addr) (n cap r : Nat) (hr : r ≤ cap) (w : World) : (Instr.sliceAt 22 (.slice A n cap) none (some (.int .i64 (r : Int))) none).run Tryd.prog w = .ok (.slice A r cap) w :=
  items_to 22 28 Tryd.underlying22 itemSize A n cap r hr w
theorem it_from (A : Option Addr) (n cap r : Nat) (hr : r ≤ n) (w : World) : (Instr.sliceAt 22 (.slice A n cap) (some (.int .i64 (r : Int))) none none).run Tryd.prog w = .ok (.slice (partAt A cap r) (n - r) (cap - r)) w :=
  items_from 22 28 Tryd.underlying22 itemSize A n cap r hr w
end Go.Proofs.YtpoibacokdjplaaDoor
/- The program's Halves: the library's search, and two copies. -/
namespace Go.Proofs.YtpoibacokdjplaaDoor
open Go.RowKit

set_option maxRecDepth 100000 in
theorem tHalf1_any (L : List It) (A : Option Addr) (cap k d pb db : Nat) (w : World) (hk : k < L.length) (_hl : L.length ≤ 1000000) (hm : Itms w A L) (h16 : ∀ x ∈ L, x.1.size = 16) (hd : d < 128)
    (hp : w.cell? ⟨pb, 0, none⟩ = some (.slice A L.length cap)) (hi : w.cell? ⟨db, 0, none⟩ = some (.int .i64 (d : Int))) :
    Calls Tryd.prog 51 #[.int .i64 (k : Int), .pointer (some ⟨pb, 0, none⟩), .pointer (some ⟨db, 0, none⟩)] w fun e w' => e = .returned (.bool (decide (bitI (itAt L k) d = 1))) ∧ Below w.heap.size w w' := by
  obtain ⟨a, rfl, _, c0, _⟩ := hm.at_ hk
  have hx := h16 _ (itAt_mem hk)
  have hb2 := bitOf_lt (itAt L k).1.data.toList d
  have hkl : (k : Int) < (L.length : Int) := by omega
  have he : bitI (itAt L k) d = bitOf (itAt L k).1.data.toList d := rfl
  rw [he]
  clear he
  generalize itAt L k = x at c0 hx hb2
  obtain ⟨b, hb⟩ : ∃ b, bitOf x.1.data.toList d = b := ⟨_, rfl⟩
  rw [hb] at hb2 ⊢
  have HC := Lib.hid (show ∀ u, Calls Tryd.prog 52 #[.string x.1, .int .i64 (d : Int)] u fun e w' => e = .returned (.int .i64 (b : Int)) ∧ w' = u from fun u => by have := tBit_any x.1 d u hx hd; rwa [hb] at this)
  clear hm h16 hx hb
  go_enter Tryd.func51, Tryd.ntmps51
  go_wp2_with fail
  rcases (show b = 0 ∨ b = 1 by omega) with rfl | rfl
  all_goals
    clear hb2
    go_quiet ((go_at_call 52; exact Calls.quiet_of_same (HC.out _)))
    go_wp2
    go_ret
    exact ⟨rfl, below_drew (Below.refl _ _) _⟩
set_option maxRecDepth 100000 in
theorem tSearch_any (L : List It) (A : Option Addr) (cap d pb db : Nat) (w : World) (hl : L.length ≤ 1000000) (hm : Itms w A L) (hs : L.Pairwise ltI) (hap : Apart L d) (hd : d < 128)
    (hp : w.cell? ⟨pb, 0, none⟩ = some (.slice A L.length cap)) (hi : w.cell? ⟨db, 0, none⟩ = some (.int .i64 (d : Int))) :
    Calls Tryd.prog 50 #[.int .i64 (L.length : Int), .func (.func 51) #[] #[.pointer (some ⟨pb, 0, none⟩), .pointer (some ⟨db, 0, none⟩)]] w fun e w' => Below w.heap.size w w' ∧ ∃ r : Nat, r ≤ L.length ∧ e = .returned (.int .i64 (r : Int)) ∧ half L d 0 = L.take r ∧ half L d 1 = L.drop r := by
  have HM := Lib.hid hm
  have HS := Lib.hid hs
  have HAP := Lib.hid hap
  have HP := Lib.hid hp
  have HI := Lib.hid hi
  clear hm hs hap hp hi
  go_enter Tryd.func50, Tryd.ntmps50
  go_wp2
  go_loopw [5, 6] (fun i j wr => ∃ p q : Nat, p ≤ q ∧ q ≤ L.length ∧ i = .int .i64 (p : Int) ∧ j = .int .i64 (q : Int) ∧ (∀ m, m < p → m < L.length → bitI (itAt L m) d ≠ 1) ∧ (∀ m, q ≤ m → m < L.length → bitI (itAt L m) d = 1) ∧ Below w.heap.size w wr) (fun i j _ => (intOf j).toNat - (intOf i).toNat)
  case atStart => exact ⟨0, L.length, by omega, by omega, rfl, rfl, fun m hm => by omega, fun m h1 h2 => by omega, Below.refl _ _⟩
  case round =>
    obtain ⟨p, q, hpq, hq, rfl, rfl, h0, h1, hb⟩ := hrel
    have H0 := Lib.hid h0
    have H1 := Lib.hid h1
    have HB := Lib.hid hb
    clear h0 h1 hb
    by_cases hlt : p < q
    · obtain ⟨h, hh⟩ : ∃ h, (p + q) / 2 = h := ⟨_, rfl⟩
      have hph : p ≤ h := by omega
      have hhq : h < q := by omega
      have HV := Lib.hid (show ((p : Int) + (q : Int)) / 2 = (h : Int) by omega)
      clear hh
      go_wp2_with fail
      rw [HV.out]
      refine (tHalf1_any L A cap h d pb db _ (by omega) hl (HM.out.below HB.out) HAP.out.1 hd ((HB.out.cell (block_lt_of_cell HP.out)).trans HP.out) ((HB.out.cell (block_lt_of_cell HI.out)).trans HI.out)).mono ?_
      rintro e w1 ⟨rfl, hb1⟩
      have HB1 := Lib.hid (HB.out.trans (hb1.mono HB.out.size))
      clear hb1 HV
      by_cases hbit : bitI (itAt L h) d = 1
      · rw [decide_eq_true hbit]
        have HH := Lib.hid (show ∀ m, h ≤ m → m < L.length → bitI (itAt L m) d = 1 from fun m h1 h2 => bit_mono HS.out HAP.out hd h1 h2 hbit)
        clear hbit
        go_wp2
        go_roundw
        case rel => exact ⟨p, h, hph, by omega, rfl, rfl, H0.out, HH.out, HB1.out⟩
        case measure => simp [intOf]; omega
      · rw [decide_eq_false hbit]
        have HH := Lib.hid (show ∀ m, m < h + 1 → m < L.length → bitI (itAt L m) d ≠ 1 from fun m h1 h2 h3 => hbit (bit_mono HS.out HAP.out hd (show m ≤ h by omega) (by omega) h3))
        clear hbit
        go_wp2
        go_roundw
        case rel => exact ⟨h + 1, q, by omega, hq, by go_num, rfl, HH.out, H1.out, HB1.out⟩
        case measure => simp [intOf]; omega
    · have hpq' : p = q := by omega
      subst hpq'
      have HC := Lib.hid (half_cut H0.out H1.out)
      clear hlt
      go_wp2
      go_ret
      exact ⟨HB.out, p, hq, rfl, HC.out⟩
set_option maxRecDepth 100000 in
theorem tHalves_row (L : List It) (A : Option Addr) (cap d : Nat) (w : World) (hl : L.length ≤ 1000000) (hcap : L.length ≤ cap) (hm : Itms w A L) (hs : L.Pairwise ltI) (hap : Apart L d) (hd : d < 128) :
    Calls Tryd.prog 40 #[.slice A L.length cap, .int .i64 (d : Int)] w fun e w' => ∃ A0 c0 A1 c1, e = .returned (.tuple #[.slice A0 (half L d 0).length c0, .slice A1 (half L d 1).length c1]) ∧ Below w.heap.size w w' ∧ Row w' w.heap.size 2 (.slice A0 (half L d 0).length c0) (half L d 0).length (itCells (half L d 0)) ∧ Row w' w.heap.size 2 (.slice A1 (half L d 1).length c1) (half L d 1).length (itCells (half L d 1)) := by
  have HM := Lib.hid hm
  have HS := Lib.hid hs
  have HAP := Lib.hid hap
  clear hm hs hap
  go_enter Tryd.func40, Tryd.ntmps40
  go_wp2_with fail
  have hb0 : Below w.heap.size w ((w.alloc (.cells #[.slice A L.length cap] 22)).alloc (.cells #[.int .i64 (d : Int)] 3)) := (alloc_below w _).alloc (by simp) _
  have hp0 : ((w.alloc (.cells #[.slice A L.length cap] 22)).alloc (.cells #[.int .i64 (d : Int)] 3)).cell? ⟨w.heap.size, 0, none⟩ = some (.slice A L.length cap) :=
    ((alloc_below (w.alloc (.cells #[.slice A L.length cap] 22)) (.cells #[.int .i64 (d : Int)] 3)).cell (p := ⟨w.heap.size, 0, none⟩) (by show w.heap.size < _; simp)).trans (cell_of_row _ w.heap.size 0 _ 22 (0, 0) (heap_alloc_new _ _))
  have hi0 : ((w.alloc (.cells #[.slice A L.length cap] 22)).alloc (.cells #[.int .i64 (d : Int)] 3)).cell? ⟨w.heap.size + 1, 0, none⟩ = some (.int .i64 (d : Int)) := by
    have e : w.heap.size + 1 = (w.alloc (.cells #[.slice A L.length cap] 22)).heap.size := by simp
    rw [e]
    exact cell_of_row _ _ 0 _ 3 (0, 0) (heap_alloc_new _ _)
  have HB0 := Lib.hid hb0
  have HP0 := Lib.hid hp0
  have HI0 := Lib.hid hi0
  clear hb0 hp0 hi0
  generalize (w.alloc (.cells #[.slice A L.length cap] 22)).alloc (.cells #[.int .i64 (d : Int)] 3) = w0 at HB0 HP0 HI0
  refine (tSearch_any L A cap d w.heap.size (w.heap.size + 1) _ hl (HM.out.below HB0.out) HS.out HAP.out hd HP0.out HI0.out).mono ?_
  rintro e w1 ⟨hb1, r, hr, rfl, h0, h1⟩
  have HB1 := Lib.hid (HB0.out.trans (hb1.mono HB0.out.size))
  have hp1 : w1.cell? ⟨w.heap.size, 0, none⟩ = some (.slice A L.length cap) := (hb1.cell (block_lt_of_cell HP0.out)).trans HP0.out
  have hN1 : w.heap.size < w1.heap.size := block_lt_of_cell hp1
  have hto := it_to A L.length cap r (by omega)
  have hfrom := it_from A L.length cap r hr
  have hdr := (HM.out.below HB1.out).drop (r := r) hcap
  have htk := (HM.out.below HB1.out).take r
  have hdl : (L.drop r).length = L.length - r := List.length_drop
  have htl : (L.take r).length = r := by rw [List.length_take]; omega
  generalize partAt A cap r = B at hfrom hdr
  obtain ⟨s, hse⟩ : ∃ s, L.length - r = s := ⟨_, rfl⟩
  obtain ⟨c2, hc2⟩ : ∃ c2, cap - r = c2 := ⟨_, rfl⟩
  have hsl : s ≤ 1000000 := by omega
  rw [hse, hc2] at hfrom
  rw [hse] at hdl
  have H0 := Lib.hid h0
  have H1 := Lib.hid h1
  have HTL := Lib.hid htl
  have HDL := Lib.hid hdl
  have HTO := Lib.hid hto
  have HFROM := Lib.hid hfrom
  have HTK := Lib.hid htk
  have HDR := Lib.hid hdr
  have HS0 := Lib.hid (show w1.cell? ⟨w.heap.size, 0, none⟩ = some (.slice A L.length cap) ∧ Below w1.heap.size w1 w1.drew from ⟨hp1, (Below.refl _ _).drew⟩)
  have HKEEP := Lib.hid (show ∀ u v : World, (u.cell? ⟨w.heap.size, 0, none⟩ = some (.slice A L.length cap) ∧ Below w1.heap.size w1 u) → Below u.heap.size u v → (v.cell? ⟨w.heap.size, 0, none⟩ = some (.slice A L.length cap) ∧ Below w1.heap.size w1 v) from
    fun u v ⟨h0, hb⟩ hv => ⟨(hv.cell (Nat.lt_of_lt_of_le hN1 hb.size)).trans h0, hb.trans (hv.mono hb.size)⟩)
  have HC0 := Lib.hid (show ∀ u : World, (u.cell? ⟨w.heap.size, 0, none⟩ = some (.slice A L.length cap) ∧ Below w1.heap.size w1 u) → Calls Tryd.prog 9 #[.slice A r cap] u fun e w' => ∃ A' c', e = .returned (.slice A' r c') ∧ Below u.heap.size u w' ∧ Row w' u.heap.size 2 (.slice A' r c') r (itCells (L.take r)) from
    fun u hu => clonePart_any (L.take r) r A cap u HTL.out (by omega) (HTK.out.below hu.2))
  have HC1 := Lib.hid (show ∀ u : World, (u.cell? ⟨w.heap.size, 0, none⟩ = some (.slice A L.length cap) ∧ Below w1.heap.size w1 u) → Calls Tryd.prog 9 #[.slice B s c2] u fun e w' => ∃ A' c', e = .returned (.slice A' s c') ∧ Below u.heap.size u w' ∧ Row w' u.heap.size 2 (.slice A' s c') s (itCells (L.drop r)) from
    fun u hu => clonePart_any (L.drop r) s B c2 u HDL.out hsl (HDR.out.below hu.2))
  clear hb1 h0 h1 hto hfrom htk hdr hdl htl hse hc2 hcap
  have hto := HTO.out
  have hfrom := HFROM.out
  go_wp2_with fail
  go_region_held3 (fun w' => w'.cell? ⟨w.heap.size, 0, none⟩ = some (.slice A L.length cap) ∧ Below w1.heap.size w1 w')
    (first | exact HS0.out | (refine HKEEP.out _ _ ?_ (by assumption); first | exact HS0.out | assumption | exact ⟨by assumption, by assumption⟩))
    (first | (go_at_call 9; refine (HC0.out _ (by first | exact HS0.out | assumption)).mono ?_; rintro e w8 ⟨A3, c3, rfl, hb8, hi8⟩) | (go_at_call 9; refine (HC1.out _ (by first | exact HS0.out | assumption)).mono ?_; rintro e w9 ⟨A4, c4, rfl, hb9, hi9⟩))
  rename_i hheld
  have HB2 := Lib.hid (HB1.out.trans (hheld.2.mono HB1.out.size))
  have HI8 := Lib.hid ((hi8.belowAll hb9).mono HB1.out.size)
  have HI9 := Lib.hid (hi9.mono (Nat.le_trans HB1.out.size hb8.size))
  clear hheld hb8 hb9 hi8 hi9 hto hfrom
  go_wp2
  refine bodyPost_ret (results_tmp2 rfl _ _ _) rfl ?_
  refine ⟨A3, c3, A4, c4, ?_, HB2.out, ?_, ?_⟩
  · rw [H0.out, H1.out, HTL.out, HDL.out]; rfl
  · rw [H0.out, HTL.out]; exact HI8.out
  · rw [H1.out, HDL.out]; exact HI9.out
theorem Row.cap {w : World} {base size n c : Nat} {p : Option Addr} {xs : List Value} (h : Row w base size (.slice p n c) n xs) : n ≤ c := by
  obtain ⟨_, hr⟩ := h
  rcases hr with ⟨hr, rfl⟩ | ⟨g, cap', hv, _, _, hle, _⟩
  · exact Nat.zero_le _
  · injection hv with _ _ e3
    omega
theorem Row.items {w : World} {base n c : Nat} {p : Option Addr} {L : List It} (h : Row w base 2 (.slice p n c) n (itCells L)) : Itms w p L := by
  obtain ⟨_, A', c', hv, hit⟩ := h.itms
  injection hv with e1 _ _
  subst e1
  exact hit
theorem tHalves_any (L : List It) (A : Option Addr) (cap d : Nat) (w : World) (hl : L.length ≤ 1000000) (hcap : L.length ≤ cap) (hm : Itms w A L) (hs : L.Pairwise ltI) (hap : Apart L d) (hd : d < 128) :
    Calls Tryd.prog 40 #[.slice A L.length cap, .int .i64 (d : Int)] w fun e w' => ∃ A0 c0 A1 c1, e = .returned (.tuple #[.slice A0 (half L d 0).length c0, .slice A1 (half L d 1).length c1]) ∧ Below w.heap.size w w' ∧ Itms w' A0 (half L d 0) ∧ Itms w' A1 (half L d 1) ∧ (half L d 0).length ≤ c0 ∧ (half L d 1).length ≤ c1 :=
  (tHalves_row L A cap d w hl hcap hm hs hap hd).mono fun _ _ ⟨A0, c0, A1, c1, he, hb, h0, h1⟩ => ⟨A0, c0, A1, c1, he, hb, h0.items, h1.items, h0.cap, h1.cap⟩
end Go.Proofs.YtpoibacokdjplaaDoor
/- The program's NODE and Root. -/
namespace Go.Proofs.YtpoibacokdjplaaDoor
open Go.RowKit

set_option maxRecDepth 100000 in
theorem tNode_few (f d : Nat) (L : List It) (A : Option Addr) (cap : Nat) (w : World) (h2 : L.length < 2) (hap : Apart L d) (hcm : ∀ x ∈ L, x.2.size ≤ 1000000) (hk : HasK w) (hm : Itms w A L) :
    Calls Tryd.prog 22 #[.slice A L.length cap, .int .i64 (d : Int)] w fun e w' => e = .returned (.string (nodeOf f L d)) ∧ Below w.heap.size w w' := by
  have HK := Lib.hid hk
  have HM := Lib.hid hm
  have HAP := Lib.hid hap
  have HCM := Lib.hid hcm
  clear hk hm hap hcm
  rcases (show L.length = 0 ∨ L.length = 1 by omega) with h | h
  · have HT := Lib.hid (nodeOf_nil f L d h)
    have h0 : ((L.length : Int) == 0) = true := by rw [beq_iff_eq]; omega
    clear h h2
    go_enter Tryd.func22, Tryd.ntmps22
    go_wp2_with fail
    refine (tEmpty_any d _ HK.out).mono ?_
    rintro e w1 ⟨rfl, hb1⟩
    have HB1 := Lib.hid hb1
    clear hb1 h0
    go_wp2
    go_ret
    exact ⟨by rw [HT.out]; rfl, HB1.out⟩
  · have HT := Lib.hid (nodeOf_one f L d h)
    have h0 : ((L.length : Int) == 0) = false := by rw [beq_eq_false_iff_ne]; omega
    have h1 : ((L.length : Int) == 1) = true := by rw [beq_iff_eq]; omega
    have hlt : (0 : Int) < (L.length : Int) := by omega
    obtain ⟨a, rfl, hal, c0, c1⟩ := HM.out.at_ (show 0 < L.length by omega)
    have hx : itAt L 0 ∈ L := by rw [itAt_of (show 0 < L.length by omega)]; exact List.getElem_mem _
    have hx1 := HAP.out.1 _ hx
    have hx2 := HCM.out _ hx
    rw [Nat.zero_mul, add_zero'] at c0 c1
    have d2 : w.cell? ⟨a.block, a.off + 1, none⟩ = some (.string (itAt L 0).2) := c1
    generalize itAt L 0 = x at c0 d2 hx1 hx2 HT
    have HX1 := Lib.hid hx1
    have HX2 := Lib.hid hx2
    clear c1 hx1 hx2 hx h h2
    go_enter Tryd.func22, Tryd.ntmps22
    go_wp2_with fail
    refine (tLeaf_any x d _ HK.out (by have := HX1.out; omega) HX2.out).mono ?_
    rintro e w1 ⟨rfl, hb1⟩
    have HB1 := Lib.hid hb1
    clear hb1 h0 h1
    go_wp2
    go_ret
    exact ⟨by rw [HT.out]; rfl, HB1.out⟩
set_option maxRecDepth 100000 in
theorem tNode_any : ∀ (f d : Nat) (L : List It) (A : Option Addr) (cap : Nat) (w : World), d + f = 128 → Apart L d → L.Pairwise ltI → L.length ≤ 1000000 → L.length ≤ cap → (∀ x ∈ L, x.2.size ≤ 1000000) → HasK w → Itms w A L →
    Calls Tryd.prog 22 #[.slice A L.length cap, .int .i64 (d : Int)] w fun e w' => e = .returned (.string (nodeOf f L d)) ∧ Below w.heap.size w w' := by
  intro f
  induction f with
  | zero =>
    intro d L A cap w hdf hap hs hl hc hcm hk hm
    refine tNode_few 0 d L A cap w ?_ hap hcm hk hm
    rcases Nat.lt_or_ge L.length 2 with h | h
    · exact h
    · have := hap.lt h; omega
  | succ f ih =>
    intro d L A cap w hdf hap hs hl hc hcm hk hm
    rcases Nat.lt_or_ge L.length 2 with h | h
    · exact tNode_few (f + 1) d L A cap w h hap hcm hk hm
    · have IH := Lib.hid ih
      have HK := Lib.hid hk
      have HM := Lib.hid hm
      have HAP := Lib.hid hap
      have HS := Lib.hid hs
      have HCM := Lib.hid hcm
      have HDF := Lib.hid hdf
      have HCAP := Lib.hid hc
      clear ih hk hm hap hs hcm hdf hc
      have hd : d < 128 := HAP.out.lt h
      have HT := Lib.hid (nodeOf_two f L d h)
      have ED := Lib.hid (show ((d : Int) + 1) = ((d + 1 : Nat) : Int) by omega)
      have h0 : ((L.length : Int) == 0) = false := by rw [beq_eq_false_iff_ne]; omega
      have h1 : ((L.length : Int) == 1) = false := by rw [beq_eq_false_iff_ne]; omega
      go_enter Tryd.func22, Tryd.ntmps22
      go_wp2_with fail
      refine (tHalves_any L A cap d _ hl HCAP.out HM.out HS.out HAP.out hd).mono ?_
      rintro e w1 ⟨A0, c0, A1, c1, rfl, hb1, hi0, hi1, hc0, hc1⟩
      have HB1 := Lib.hid hb1
      have HI0 := Lib.hid hi0
      have HI1 := Lib.hid hi1
      have HC0 := Lib.hid hc0
      have HC1 := Lib.hid hc1
      clear hb1 hi0 hi1 hc0 hc1 h0 h1
      go_wp2_with fail
      rw [ED.out]
      refine (IH.out (d + 1) (half L d 0) A0 c0 _ (by have := HDF.out; omega) (HAP.out.half 0) (half_rise HS.out d 0) (Nat.le_trans (half_le _ _ _) hl) HC0.out (fun x hx => HCM.out x (List.mem_filter.1 hx).1) (HK.out.below HB1.out HK.out.lt) HI0.out).mono ?_
      rintro e w2 ⟨rfl, hb2⟩
      have HI1' := Lib.hid (HI1.out.below hb2)
      have HB2 := Lib.hid (HB1.out.trans (hb2.mono HB1.out.size))
      have hs1 := nodeOf_size f (half L d 0) (d + 1)
      generalize nodeOf f (half L d 0) (d + 1) = n0 at hs1 HT
      have HS1 := Lib.hid hs1
      clear hb2 hs1
      go_wp2_with fail
      rw [ED.out]
      refine (IH.out (d + 1) (half L d 1) A1 c1 _ (by have := HDF.out; omega) (HAP.out.half 1) (half_rise HS.out d 1) (Nat.le_trans (half_le _ _ _) hl) HC1.out (fun x hx => HCM.out x (List.mem_filter.1 hx).1) (HK.out.below HB2.out HK.out.lt) HI1'.out).mono ?_
      rintro e w3 ⟨rfl, hb3⟩
      have HB3 := Lib.hid (HB2.out.trans (hb3.mono HB2.out.size))
      have hs2 := nodeOf_size f (half L d 1) (d + 1)
      generalize nodeOf f (half L d 1) (d + 1) = n1 at hs2 HT
      have HS2 := Lib.hid hs2
      clear hb3 hs2
      go_wp2_with fail
      refine (tJoin_any n0 n1 _ (HK.out.below HB3.out HK.out.lt) (by have := HS1.out; omega) (by have := HS2.out; omega)).mono ?_
      rintro e w4 ⟨rfl, hb4⟩
      have HB4 := Lib.hid (HB3.out.trans (hb4.mono HB3.out.size))
      clear hb4
      go_wp2
      go_ret
      exact ⟨by rw [HT.out]; rfl, HB4.out⟩
set_option maxRecDepth 100000 in
theorem tRoot_is (L : List It) (A : Option Addr) (cap : Nat) (x : ByteArray) (n : Int) (w : World) (hk : HasK w) (hl : L.length ≤ 1000000) (hc : L.length ≤ cap) (hm : Itms w A L) (h : rootAns L = (x, n)) :
    Calls Tryd.prog 11 #[.slice A L.length cap] w fun e w' => e = .returned (.tuple #[.string x, errOf n]) ∧ Below w.heap.size w w' := by
  have HK := Lib.hid hk
  have HM := Lib.hid hm
  have HCAP := Lib.hid hc
  clear hk hm hc
  unfold rootAns at h
  by_cases hk : rightItems L = true
  · rw [if_pos hk] at h
    cases h
    have HAP := Lib.hid (right_apart hk)
    have HCM := Lib.hid (right_cm hk)
    have HS := Lib.hid (right_sorted hk)
    have HR := Lib.hid hk
    clear hk
    go_enter Tryd.func11, Tryd.ntmps11
    go_wp2_with fail
    refine (tRight_any L A cap _ hl HM.out).mono ?_
    rintro e w1 ⟨rfl, hb1⟩
    rw [HR.out]
    have HB1 := Lib.hid hb1
    have HM1 := Lib.hid (HM.out.below hb1)
    clear hb1
    go_wp2_with fail
    refine (tNode_any 128 0 L A cap _ rfl HAP.out HS.out hl HCAP.out HCM.out (HK.out.below HB1.out HK.out.lt) HM1.out).mono ?_
    rintro e w2 ⟨rfl, hb2⟩
    have HB2 := Lib.hid (HB1.out.trans (hb2.mono HB1.out.size))
    clear hb2
    go_wp2
    refine bodyPost_ret (results_tmp2 rfl _ _ _) rfl ?_
    exact ⟨rfl, HB2.out⟩
  · rw [if_neg hk] at h
    cases h
    have HR := Lib.hid (show rightItems L = false by simpa using hk)
    clear hk
    go_enter Tryd.func11, Tryd.ntmps11
    go_wp2_with fail
    refine (tRight_any L A cap _ hl HM.out).mono ?_
    rintro e w1 ⟨rfl, hb1⟩
    rw [HR.out]
    have HB1 := Lib.hid hb1
    clear hb1
    go_wp2
    refine bodyPost_ret (results_tmp2 rfl _ _ _) rfl ?_
    exact ⟨rfl, HB1.out⟩
end Go.Proofs.YtpoibacokdjplaaDoor
