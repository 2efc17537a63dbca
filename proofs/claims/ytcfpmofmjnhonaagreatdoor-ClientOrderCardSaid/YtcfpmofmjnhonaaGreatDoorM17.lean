/- Parts of the proof, one behind the other: Part, Clone, PHalves, PHds, PNode. -/
import Derived.Test.YtcfpmofmjnhonaaGreatDoorM5
import Derived.Test.YtcfpmofmjnhonaaGreatDoorM11
import Derived.Test.YtcfpmofmjnhonaaGreatDoorM16
import Derived.Deep.RegionHeld3
import Derived.Deep.DeepCutAuto
/- Parts of a list of items: l[:r], l[r:]. -/
namespace Go.Proofs.YtcfpmofmjnhonaaGreatDoor
open Go.RowKit

def partAt (A : Option Addr) (cap r : Nat) : Option Addr := if cap = r then A else A.map (·.add (r * 2))
theorem items_to {P : Program} (t e : Nat) (ht : P.underlying t = some (.slice e)) (hz : ∀ w, (Go.sizeOf e).run P w = .ok 2 w) (A : Option Addr) (n cap r : Nat) (hr : r ≤ cap) (w : World) :
    (Instr.sliceAt t (.slice A n cap) none (some (.int .i64 (r : Int))) none).run P w = .ok (.slice A r cap) w := by
  have e2 : P.elem t = e := by simp [Program.elem, ht]
  rw [run_sliceAt_slice w t _ _ _ _ (by rw [e2]; exact ht), run_slice_h w t A n cap (by rw [e2]; exact ht) .i64 r (by omega) (by omega), e2, hz]
  cases A <;> simp [Result.andThen, sliced, Addr.add]
theorem items_from {P : Program} (t e : Nat) (ht : P.underlying t = some (.slice e)) (hz : ∀ w, (Go.sizeOf e).run P w = .ok 2 w) (A : Option Addr) (n cap r : Nat) (hr : r ≤ n) (w : World) :
    (Instr.sliceAt t (.slice A n cap) (some (.int .i64 (r : Int))) none none).run P w = .ok (.slice (partAt A cap r) (n - r) (cap - r)) w := by
  have e2 : P.elem t = e := by simp [Program.elem, ht]
  rw [run_sliceAt_slice w t _ _ _ _ (by rw [e2]; exact ht), run_slice_l w t A n cap (by rw [e2]; exact ht) .i64 r (by omega) (by omega), e2, hz]
  simp [Result.andThen, sliced, partAt]
theorem Itms.take {w : World} {A : Option Addr} {L : List It} (h : Itms w A L) (r : Nat) : Itms w A (L.take r) := fun i x hx => by
  rw [List.getElem?_take] at hx
  split at hx
  · exact h i x hx
  · cases hx
theorem Itms.drop {w : World} {A : Option Addr} {L : List It} (h : Itms w A L) {cap r : Nat} (hc : L.length ≤ cap) : Itms w (partAt A cap r) (L.drop r) := fun i x hx => by
  rw [List.getElem?_drop] at hx
  obtain ⟨a, rfl, hl, c0, c1⟩ := h _ x hx
  have hlt := (List.getElem?_eq_some_iff.1 hx).1
  unfold partAt
  rw [if_neg (by omega)]
  have e : (a.add (r * 2)).add (i * 2) = a.add ((r + i) * 2) := by rw [add_add', show r * 2 + i * 2 = (r + i) * 2 by omega]
  exact ⟨a.add (r * 2), rfl, by rw [block_add]; exact hl, by rw [e]; exact c0, by rw [e]; exact c1⟩
theorem itemSize : ∀ w, (Go.sizeOf 61).run Tryz.prog w = .ok 2 w := Tryz.sizeOf61
theorem it_to (A : Option Addr) (n cap r : Nat) (hr : r ≤ cap) (w : World) : (Instr.sliceAt 132 (.slice A n cap) none (some (.int .i64 (r : Int))) none).run Tryz.prog w = .ok (.slice A r cap) w :=
  items_to 132 61 Tryz.underlying132 itemSize A n cap r hr w
theorem it_from (A : Option Addr) (n cap r : Nat) (hr : r ≤ n) (w : World) : (Instr.sliceAt 132 (.slice A n cap) (some (.int .i64 (r : Int))) none none).run Tryz.prog w = .ok (.slice (partAt A cap r) (n - r) (cap - r)) w :=
  items_from 132 61 Tryz.underlying132 itemSize A n cap r hr w
end Go.Proofs.YtcfpmofmjnhonaaGreatDoor
/- slices.Clone of items. -/
namespace Go.Proofs.YtcfpmofmjnhonaaGreatDoor
open Go.RowKit

theorem cloneItems_any (L : List It) (A : Option Addr) (cap : Nat) (w : World) (hl : L.length ≤ 1000000) (hm : Itms w A L) :
    Calls Tryz.prog 180 #[.slice A L.length cap] w fun e w' => ∃ A' c', e = .returned (.slice A' L.length c') ∧ Below w.heap.size w w' ∧ Row w' w.heap.size 2 (.slice A' L.length c') L.length (itCells L) := by
  have HM := Lib.hid hm
  clear hm
  cases A with
  | none =>
    obtain rfl : L = [] := by
      match L, HM with
      | [], _ => rfl
      | x :: r, HM =>
        obtain ⟨a, h, _⟩ := HM.out.at_ (show 0 < (x :: r).length by simp)
        cases h
    have hnil : ∀ u : World, (binOp .eql 132 (.slice none 0 cap) (.slice none 0 0)).run Tryz.prog u = .ok (.bool true) u := fun u => by kernel_rfl
    go_enter Tryz.func180, Tryz.ntmps180
    go_wp2
    go_ret
    exact ⟨none, 0, rfl, Below.refl _ _, Row.nil _ _ _⟩
  | some x =>
    have hnil : ∀ u : World, (binOp .eql 132 (.slice (some x) L.length cap) (.slice none 0 0)).run Tryz.prog u = .ok (.bool false) u := fun u => by kernel_rfl
    go_enter Tryz.func180, Tryz.ntmps180
    obtain ⟨i0, hi0, hz0, hz1, hz2⟩ := info_parts infoItem
    have hb0 : Below w.heap.size w (w.alloc (.cells #[] 61)) := alloc_below w _
    go_wp2_with (at_builtin; refine wpList_append_copyr rfl (.tmp 5) (.tmp 6) 132 rfl 61 Tryz.underlying132 i0 _ hi0 hz0 hz1 hz2 rfl L (some x) cap w.heap.size (by simp) w.heap.size (Nat.le_refl _) rfl rfl (HM.out.below hb0) hl ?_; intro A2 cap2 w7 hb7 hi7)
    go_wp2
    go_ret
    exact ⟨A2, cap2, rfl, hb0.trans (hb7.out.mono hb0.size), hi7.out⟩
theorem clonePart_any (L : List It) (n : Nat) (A : Option Addr) (cap : Nat) (w : World) (hn : L.length = n) (hl : n ≤ 1000000) (hm : Itms w A L) :
    Calls Tryz.prog 180 #[.slice A n cap] w fun e w' => ∃ A' c', e = .returned (.slice A' n c') ∧ Below w.heap.size w w' ∧ Row w' w.heap.size 2 (.slice A' n c') n (itCells L) := by
  subst hn
  exact cloneItems_any L A cap w hl hm
end Go.Proofs.YtcfpmofmjnhonaaGreatDoor
/- The program's Halves: the library's search, and two copies. -/
namespace Go.Proofs.YtcfpmofmjnhonaaGreatDoor
open Go.RowKit

set_option maxRecDepth 100000 in
theorem tHalf1_any (L : List It) (A : Option Addr) (cap k d pb db : Nat) (w : World) (hk : k < L.length) (_hl : L.length ≤ 1000000) (hm : Itms w A L) (h16 : ∀ x ∈ L, x.1.size = 16) (hd : d < 128)
    (hp : w.cell? ⟨pb, 0, none⟩ = some (.slice A L.length cap)) (hi : w.cell? ⟨db, 0, none⟩ = some (.int .i64 (d : Int))) :
    Calls Tryz.prog 179 #[.int .i64 (k : Int), .pointer (some ⟨pb, 0, none⟩), .pointer (some ⟨db, 0, none⟩)] w fun e w' => e = .returned (.bool (decide (bitI (itAt L k) d = 1))) ∧ Below w.heap.size w w' := by
  obtain ⟨a, rfl, _, c0, _⟩ := hm.at_ hk
  have hx := h16 _ (itAt_mem hk)
  have hb2 := bitOf_lt (itAt L k).1.data.toList d
  have hkl : (k : Int) < (L.length : Int) := by omega
  have he : bitI (itAt L k) d = bitOf (itAt L k).1.data.toList d := rfl
  rw [he]
  clear he
  generalize itAt L k = x at c0 hx hb2
  obtain ⟨b, hb⟩ : ∃ b, bitOf x.1.data.toList d = b := ⟨_, rfl⟩
  rw [hb] at hb2 ⊢
  have HC := Lib.hid (show ∀ u, Calls Tryz.prog 128 #[.string x.1, .int .i64 (d : Int)] u fun e w' => e = .returned (.int .i64 (b : Int)) ∧ w' = u from fun u => by have := tBit_any x.1 d u hx hd; rwa [hb] at this)
  clear hm h16 hx hb
  go_enter Tryz.func179, Tryz.ntmps179
  go_wp2_with fail
  rcases (show b = 0 ∨ b = 1 by omega) with rfl | rfl
  all_goals
    clear hb2
    go_quiet ((go_at_call 128; exact Calls.quiet_of_same (HC.out _)))
    go_wp2
    go_ret
    exact ⟨rfl, below_drew (Below.refl _ _) _⟩
set_option maxRecDepth 100000 in
theorem tSearch_any (L : List It) (A : Option Addr) (cap d pb db : Nat) (w : World) (hl : L.length ≤ 1000000) (hm : Itms w A L) (hs : L.Pairwise ltI) (hap : Apart L d) (hd : d < 128)
    (hp : w.cell? ⟨pb, 0, none⟩ = some (.slice A L.length cap)) (hi : w.cell? ⟨db, 0, none⟩ = some (.int .i64 (d : Int))) :
    Calls Tryz.prog 178 #[.int .i64 (L.length : Int), .func (.func 179) #[] #[.pointer (some ⟨pb, 0, none⟩), .pointer (some ⟨db, 0, none⟩)]] w fun e w' => Below w.heap.size w w' ∧ ∃ r : Nat, r ≤ L.length ∧ e = .returned (.int .i64 (r : Int)) ∧ half L d 0 = L.take r ∧ half L d 1 = L.drop r := by
  have HM := Lib.hid hm
  have HS := Lib.hid hs
  have HAP := Lib.hid hap
  have HP := Lib.hid hp
  have HI := Lib.hid hi
  clear hm hs hap hp hi
  go_enter Tryz.func178, Tryz.ntmps178
  go_wp2
  go_loopw [5, 6] (fun i j wr => ∃ p q : Nat, p ≤ q ∧ q ≤ L.length ∧ i = .int .i64 (p : Int) ∧ j = .int .i64 (q : Int) ∧ (∀ m, m < p → m < L.length → bitI (itAt L m) d ≠ 1) ∧ (∀ m, q ≤ m → m < L.length → bitI (itAt L m) d = 1) ∧ Below w.heap.size w wr) (fun i j _ => (intOf j).toNat - (intOf i).toNat)
  case atStart => exact ⟨0, L.length, by omega, by omega, rfl, rfl, fun m hm => by omega, fun m h1 h2 => by omega, Below.refl _ _⟩
  case round =>
    obtain ⟨p, q, hpq, hq, rfl, rfl, h0, h1, hb⟩ := hrel
    have H0 := Lib.hid h0
    have H1 := Lib.hid h1
    have HB := Lib.hid hb
    clear h0 h1 hb
    by_cases hlt : p < q
    · obtain ⟨h, hh⟩ : ∃ h, (p + q) / 2 = h := ⟨_, rfl⟩
      have hph : p ≤ h := by omega
      have hhq : h < q := by omega
      have HV := Lib.hid (show ((p : Int) + (q : Int)) / 2 = (h : Int) by omega)
      clear hh
      go_wp2_with fail
      rw [HV.out]
      refine (tHalf1_any L A cap h d pb db _ (by omega) hl (HM.out.below HB.out) HAP.out.1 hd ((HB.out.cell (block_lt_of_cell HP.out)).trans HP.out) ((HB.out.cell (block_lt_of_cell HI.out)).trans HI.out)).mono ?_
      rintro e w1 ⟨rfl, hb1⟩
      have HB1 := Lib.hid (HB.out.trans (hb1.mono HB.out.size))
      clear hb1 HV
      by_cases hbit : bitI (itAt L h) d = 1
      · rw [decide_eq_true hbit]
        have HH := Lib.hid (show ∀ m, h ≤ m → m < L.length → bitI (itAt L m) d = 1 from fun m h1 h2 => bit_mono HS.out HAP.out hd h1 h2 hbit)
        clear hbit
        go_wp2
        go_roundw
        case rel => exact ⟨p, h, hph, by omega, rfl, rfl, H0.out, HH.out, HB1.out⟩
        case measure => simp [intOf]; omega
      · rw [decide_eq_false hbit]
        have HH := Lib.hid (show ∀ m, m < h + 1 → m < L.length → bitI (itAt L m) d ≠ 1 from fun m h1 h2 h3 => hbit (bit_mono HS.out HAP.out hd (show m ≤ h by omega) (by omega) h3))
        clear hbit
        go_wp2
        go_roundw
        case rel => exact ⟨h + 1, q, by omega, hq, by go_num, rfl, HH.out, H1.out, HB1.out⟩
        case measure => simp [intOf]; omega
    · have hpq' : p = q := by omega
      subst hpq'
      have HC := Lib.hid (half_cut H0.out H1.out)
      clear hlt
      go_wp2
      go_ret
      exact ⟨HB.out, p, hq, rfl, HC.out⟩
set_option maxRecDepth 100000 in
theorem tHalves_row (L : List It) (A : Option Addr) (cap d : Nat) (w : World) (hl : L.length ≤ 1000000) (hcap : L.length ≤ cap) (hm : Itms w A L) (hs : L.Pairwise ltI) (hap : Apart L d) (hd : d < 128) :
    Calls Tryz.prog 127 #[.slice A L.length cap, .int .i64 (d : Int)] w fun e w' => ∃ A0 c0 A1 c1, e = .returned (.tuple #[.slice A0 (half L d 0).length c0, .slice A1 (half L d 1).length c1]) ∧ Below w.heap.size w w' ∧ Row w' w.heap.size 2 (.slice A0 (half L d 0).length c0) (half L d 0).length (itCells (half L d 0)) ∧ Row w' w.heap.size 2 (.slice A1 (half L d 1).length c1) (half L d 1).length (itCells (half L d 1)) := by
  have HM := Lib.hid hm
  have HS := Lib.hid hs
  have HAP := Lib.hid hap
  clear hm hs hap
  go_enter Tryz.func127, Tryz.ntmps127
  go_wp2_with fail
  have hb0 : Below w.heap.size w ((w.alloc (.cells #[.slice A L.length cap] 132)).alloc (.cells #[.int .i64 (d : Int)] 3)) := (alloc_below w _).alloc (by simp) _
  have hp0 : ((w.alloc (.cells #[.slice A L.length cap] 132)).alloc (.cells #[.int .i64 (d : Int)] 3)).cell? ⟨w.heap.size, 0, none⟩ = some (.slice A L.length cap) :=
    ((alloc_below (w.alloc (.cells #[.slice A L.length cap] 132)) (.cells #[.int .i64 (d : Int)] 3)).cell (p := ⟨w.heap.size, 0, none⟩) (by show w.heap.size < _; simp)).trans (cell_of_row _ w.heap.size 0 _ 132 (0, 0) (heap_alloc_new _ _))
  have hi0 : ((w.alloc (.cells #[.slice A L.length cap] 132)).alloc (.cells #[.int .i64 (d : Int)] 3)).cell? ⟨w.heap.size + 1, 0, none⟩ = some (.int .i64 (d : Int)) := by
    have e : w.heap.size + 1 = (w.alloc (.cells #[.slice A L.length cap] 132)).heap.size := by simp
    rw [e]
    exact cell_of_row _ _ 0 _ 3 (0, 0) (heap_alloc_new _ _)
  have HB0 := Lib.hid hb0
  have HP0 := Lib.hid hp0
  have HI0 := Lib.hid hi0
  clear hb0 hp0 hi0
  generalize (w.alloc (.cells #[.slice A L.length cap] 132)).alloc (.cells #[.int .i64 (d : Int)] 3) = w0 at HB0 HP0 HI0
  refine (tSearch_any L A cap d w.heap.size (w.heap.size + 1) _ hl (HM.out.below HB0.out) HS.out HAP.out hd HP0.out HI0.out).mono ?_
  rintro e w1 ⟨hb1, r, hr, rfl, h0, h1⟩
  have HB1 := Lib.hid (HB0.out.trans (hb1.mono HB0.out.size))
  have hp1 : w1.cell? ⟨w.heap.size, 0, none⟩ = some (.slice A L.length cap) := (hb1.cell (block_lt_of_cell HP0.out)).trans HP0.out
  have hN1 : w.heap.size < w1.heap.size := block_lt_of_cell hp1
  have hto := it_to A L.length cap r (by omega)
  have hfrom := it_from A L.length cap r hr
  have hdr := (HM.out.below HB1.out).drop (r := r) hcap
  have htk := (HM.out.below HB1.out).take r
  have hdl : (L.drop r).length = L.length - r := List.length_drop
  have htl : (L.take r).length = r := by rw [List.length_take]; omega
  generalize partAt A cap r = B at hfrom hdr
  obtain ⟨s, hse⟩ : ∃ s, L.length - r = s := ⟨_, rfl⟩
  obtain ⟨c2, hc2⟩ : ∃ c2, cap - r = c2 := ⟨_, rfl⟩
  have hsl : s ≤ 1000000 := by omega
  rw [hse, hc2] at hfrom
  rw [hse] at hdl
  have H0 := Lib.hid h0
  have H1 := Lib.hid h1
  have HTL := Lib.hid htl
  have HDL := Lib.hid hdl
  have HTO := Lib.hid hto
  have HFROM := Lib.hid hfrom
  have HTK := Lib.hid htk
  have HDR := Lib.hid hdr
  have HS0 := Lib.hid (show w1.cell? ⟨w.heap.size, 0, none⟩ = some (.slice A L.length cap) ∧ Below w1.heap.size w1 w1.drew from ⟨hp1, (Below.refl _ _).drew⟩)
  have HKEEP := Lib.hid (show ∀ u v : World, (u.cell? ⟨w.heap.size, 0, none⟩ = some (.slice A L.length cap) ∧ Below w1.heap.size w1 u) → Below u.heap.size u v → (v.cell? ⟨w.heap.size, 0, none⟩ = some (.slice A L.length cap) ∧ Below w1.heap.size w1 v) from
    fun u v ⟨h0, hb⟩ hv => ⟨(hv.cell (Nat.lt_of_lt_of_le hN1 hb.size)).trans h0, hb.trans (hv.mono hb.size)⟩)
  have HC0 := Lib.hid (show ∀ u : World, (u.cell? ⟨w.heap.size, 0, none⟩ = some (.slice A L.length cap) ∧ Below w1.heap.size w1 u) → Calls Tryz.prog 180 #[.slice A r cap] u fun e w' => ∃ A' c', e = .returned (.slice A' r c') ∧ Below u.heap.size u w' ∧ Row w' u.heap.size 2 (.slice A' r c') r (itCells (L.take r)) from
    fun u hu => clonePart_any (L.take r) r A cap u HTL.out (by omega) (HTK.out.below hu.2))
  have HC1 := Lib.hid (show ∀ u : World, (u.cell? ⟨w.heap.size, 0, none⟩ = some (.slice A L.length cap) ∧ Below w1.heap.size w1 u) → Calls Tryz.prog 180 #[.slice B s c2] u fun e w' => ∃ A' c', e = .returned (.slice A' s c') ∧ Below u.heap.size u w' ∧ Row w' u.heap.size 2 (.slice A' s c') s (itCells (L.drop r)) from
    fun u hu => clonePart_any (L.drop r) s B c2 u HDL.out hsl (HDR.out.below hu.2))
  clear hb1 h0 h1 hto hfrom htk hdr hdl htl hse hc2 hcap
  have hto := HTO.out
  have hfrom := HFROM.out
  go_wp2_with fail
  go_region_held3 (fun w' => w'.cell? ⟨w.heap.size, 0, none⟩ = some (.slice A L.length cap) ∧ Below w1.heap.size w1 w')
    (first | exact HS0.out | (refine HKEEP.out _ _ ?_ (by assumption); first | exact HS0.out | assumption | exact ⟨by assumption, by assumption⟩))
    (first | (go_at_call 180; refine (HC0.out _ (by first | exact HS0.out | assumption)).mono ?_; rintro e w8 ⟨A3, c3, rfl, hb8, hi8⟩) | (go_at_call 180; refine (HC1.out _ (by first | exact HS0.out | assumption)).mono ?_; rintro e w9 ⟨A4, c4, rfl, hb9, hi9⟩))
  rename_i hheld
  have HB2 := Lib.hid (HB1.out.trans (hheld.2.mono HB1.out.size))
  have HI8 := Lib.hid ((hi8.belowAll hb9).mono HB1.out.size)
  have HI9 := Lib.hid (hi9.mono (Nat.le_trans HB1.out.size hb8.size))
  clear hheld hb8 hb9 hi8 hi9 hto hfrom
  go_wp2
  refine bodyPost_ret (results_tmp2 rfl _ _ _) rfl ?_
  refine ⟨A3, c3, A4, c4, ?_, HB2.out, ?_, ?_⟩
  · rw [H0.out, H1.out, HTL.out, HDL.out]; rfl
  · rw [H0.out, HTL.out]; exact HI8.out
  · rw [H1.out, HDL.out]; exact HI9.out
theorem Row.cap {w : World} {base size n c : Nat} {p : Option Addr} {xs : List Value} (h : Row w base size (.slice p n c) n xs) : n ≤ c := by
  obtain ⟨_, hr⟩ := h
  rcases hr with ⟨hr, rfl⟩ | ⟨g, cap', hv, _, _, hle, _⟩
  · exact Nat.zero_le _
  · injection hv with _ _ e3
    omega
theorem Row.items {w : World} {base n c : Nat} {p : Option Addr} {L : List It} (h : Row w base 2 (.slice p n c) n (itCells L)) : Itms w p L := by
  obtain ⟨_, A', c', hv, hit⟩ := h.itms
  injection hv with e1 _ _
  subst e1
  exact hit
theorem tHalves_any (L : List It) (A : Option Addr) (cap d : Nat) (w : World) (hl : L.length ≤ 1000000) (hcap : L.length ≤ cap) (hm : Itms w A L) (hs : L.Pairwise ltI) (hap : Apart L d) (hd : d < 128) :
    Calls Tryz.prog 127 #[.slice A L.length cap, .int .i64 (d : Int)] w fun e w' => ∃ A0 c0 A1 c1, e = .returned (.tuple #[.slice A0 (half L d 0).length c0, .slice A1 (half L d 1).length c1]) ∧ Below w.heap.size w w' ∧ Itms w' A0 (half L d 0) ∧ Itms w' A1 (half L d 1) ∧ (half L d 0).length ≤ c0 ∧ (half L d 1).length ≤ c1 :=
  (tHalves_row L A cap d w hl hcap hm hs hap hd).mono fun _ _ ⟨A0, c0, A1, c1, he, hb, h0, h1⟩ => ⟨A0, c0, A1, c1, he, hb, h0.items, h1.items, h0.cap, h1.cap⟩
end Go.Proofs.YtcfpmofmjnhonaaGreatDoor
/- The program's directory: its heads. -/
namespace Go.Proofs.YtcfpmofmjnhonaaGreatDoor
open Go.RowKit Go.Maps

/-- Signed heads in memory, their cells alone. -/
def SixAt (w : World) (A : Option Addr) (M : List SgM) : Prop := ∀ (i : Nat) m, M[i]? = some m → ∃ a, A = some a ∧ a.block < w.heap.size ∧ w.cell? (a.add (i * 6)) = some (.int .i64 m.s.head.epoch) ∧ w.cell? ((a.add (i * 6)).add 1) = some (.string m.s.head.root) ∧ w.cell? ((a.add (i * 6)).add 2) = some (.string m.s.head.prev) ∧
  w.cell? ((a.add (i * 6)).add 3) = some (.int .i64 m.s.key) ∧ w.cell? ((a.add (i * 6)).add 4) = some (.slice m.A m.s.sig.length m.ca) ∧ w.cell? ((a.add (i * 6)).add 5) = some (.slice m.B m.s.path.length m.cb)
theorem SixAt.below {w w' : World} {A : Option Addr} {M : List SgM} (h : SixAt w A M) (hb : Below w.heap.size w w') : SixAt w' A M := fun i m hm => by
  obtain ⟨a, ha, hl, c0, c1, c2, c3, c4, c5⟩ := h i m hm
  exact ⟨a, ha, Nat.lt_of_lt_of_le hl hb.size, (hb.cell (by rw [block_add]; exact hl)).trans c0, (hb.cell (by rw [block_add, block_add]; exact hl)).trans c1, (hb.cell (by rw [block_add, block_add]; exact hl)).trans c2, (hb.cell (by rw [block_add, block_add]; exact hl)).trans c3, (hb.cell (by rw [block_add, block_add]; exact hl)).trans c4, (hb.cell (by rw [block_add, block_add]; exact hl)).trans c5⟩
theorem Row.sixes {w : World} {base : Nat} {v : Value} {M : List SgM} (h : Row w base 6 v M.length (sgCells M)) : ∃ A cap, v = .slice A M.length cap ∧ M.length ≤ cap ∧ SixAt w A M := by
  obtain ⟨p, cap, rfl⟩ := h.any
  refine ⟨p, cap, rfl, h.cap, fun i x hi => ?_⟩
  have hil : i < M.length := (List.getElem?_eq_some_iff.1 hi).1
  obtain ⟨g, cap', hv, _, hg, _, hc, _⟩ := h.shape (by omega)
  injection hv with hv _ _
  have k : ∀ j, j < 6 → (sgCells M)[i * 6 + j]? = x.cells[j]? := fun j hj => sgCells_get M i x j hi hj
  refine ⟨⟨g, 0, none⟩, hv, hg, ?_, ?_, ?_, ?_, ?_, ?_⟩
  · rw [add_none, Nat.zero_add]; exact hc _ _ (k 0 (by omega))
  all_goals rw [add_add', add_none, Nat.zero_add]
  · exact hc _ _ (k 1 (by omega))
  · exact hc _ _ (k 2 (by omega))
  · exact hc _ _ (k 3 (by omega))
  · exact hc _ _ (k 4 (by omega))
  · exact hc _ _ (k 5 (by omega))
def fillL (cs : List Value) (z : Nat → Value) (i : Nat) : Value := cs.getD i (z i)
theorem fill_snoc (cs : List Value) (z : Nat → Value) (v : Value) (j i : Nat) (hj : cs.length = j) : upd (fillL cs z) j v i = fillL (cs ++ [v]) z i := by
  subst hj
  unfold upd fillL
  simp only [List.getD_eq_getElem?_getD]
  by_cases h : i = cs.length
  · subst h; simp
  · by_cases h2 : i < cs.length
    · rw [if_neg h, List.getElem?_append_left h2]
    · rw [if_neg h, List.getElem?_eq_none (by omega), List.getElem?_eq_none (by simp; omega)]
theorem Holds.fill {w : World} {b n : Nat} {cs : List Value} {z : Nat → Value} {t : TypeId} (h : Holds w b n (fillL cs z) t) (j : Nat) (hj : cs.length = j) (v : Value) : Holds (w.setCell ⟨b, j, none⟩ v) b n (fillL (cs ++ [v]) z) t :=
  (h.set j v).congr fun i _ => fill_snoc cs z v j i hj
def zHd (i : Nat) : Value := if i % 3 = 0 then .int .i64 0 else .string ⟨#[]⟩
theorem makeHds (n : Nat) (h : n ≤ 8) (w : World) : (Instr.makeSlice 84 (.int .i64 (n : Int)) (.int .i64 (n : Int))).run Tryz.prog w = .ok (.slice (some ⟨w.heap.size, 0, none⟩) n n) (w.alloc (.cells (arr (n * 3) zHd) 49)) := by
  rcases (by omega : n = 0 ∨ n = 1 ∨ n = 2 ∨ n = 3 ∨ n = 4 ∨ n = 5 ∨ n = 6 ∨ n = 7 ∨ n = 8) with rfl | rfl | rfl | rfl | rfl | rfl | rfl | rfl | rfl <;> kernel_rfl
set_option maxHeartbeats 1000000 in
set_option maxRecDepth 100000 in
theorem pDirHeads_any (p : Nat) (M : List SgM) (A : Option Addr) (cap : Nat) (w : World) (h8 : M.length ≤ 8) (hp : w.cell? ⟨p, 5, none⟩ = some (.slice A M.length cap)) (hm : SixAt w A M) :
    Calls Tryz.prog 118 #[.pointer (some ⟨p, 0, none⟩)] w fun e w' => ∃ A' c', e = .returned (.slice A' M.length c') ∧ Below w.heap.size w w' ∧ Hds w' A' (M.map (·.s.head)) ∧ M.length ≤ c' := by
  have HM := Lib.hid hm
  have HPL := Lib.hid (block_lt_of_cell hp)
  have HN := Lib.hid (Holds.new w (M.length * 3) zHd 49)
  have HB := Lib.hid (alloc_below w (.cells (arr (M.length * 3) zHd) 49))
  have hp1 : (w.alloc (.cells (arr (M.length * 3) zHd) 49)).cell? ⟨p, 5, none⟩ = some (.slice A M.length cap) := (HB.out.cell (p := ⟨p, 5, none⟩) HPL.out).trans hp
  have hmk := makeHds M.length h8
  clear hm
  go_enter Tryz.func118, Tryz.ntmps118
  go_wp2
  generalize w.alloc (.cells (arr (M.length * 3) zHd) 49) = w1 at HN HB hp1 ⊢
  clear hmk hp hp1
  go_loopw [17] (fun i wr => ∃ k : Nat, k ≤ M.length ∧ i = .int .i64 (k : Int) ∧ Hid (Below w.heap.size w wr ∧ Holds wr w.heap.size (M.length * 3) (fillL (hdCells ((M.take k).map (·.s.head))) zHd) 49)) (fun i _ => M.length - (intOf i).toNat)
  case atStart => exact ⟨0, by omega, rfl, Lib.hid ⟨HB.out, HN.out⟩⟩
  case round =>
    obtain ⟨k, hk, rfl, HU⟩ := hrel
    by_cases hlt : k < M.length
    · obtain ⟨m, hmk⟩ : ∃ m, M[k]? = some m := ⟨_, List.getElem?_eq_getElem hlt⟩
      obtain ⟨a, rfl, hal, c0, c1, c2, c3, c4, c5⟩ := (HM.out.below HU.out.1) k m hmk
      have hki : (k : Int) < (M.length : Int) := by omega
      have d1 : wr.cell? ⟨(a.add (k * 6)).block, (a.add (k * 6)).off + 1, none⟩ = some (.string m.s.head.root) := c1
      have d2 : wr.cell? ⟨(a.add (k * 6)).block, (a.add (k * 6)).off + 2, none⟩ = some (.string m.s.head.prev) := c2
      have d3 : wr.cell? ⟨(a.add (k * 6)).block, (a.add (k * 6)).off + 3, none⟩ = some (.int .i64 m.s.key) := c3
      have d4 : wr.cell? ⟨(a.add (k * 6)).block, (a.add (k * 6)).off + 4, none⟩ = some (.slice m.A m.s.sig.length m.ca) := c4
      have d5 : wr.cell? ⟨(a.add (k * 6)).block, (a.add (k * 6)).off + 5, none⟩ = some (.slice m.B m.s.path.length m.cb) := c5
      obtain ⟨cs, hcs⟩ : ∃ cs, hdCells ((M.take k).map (·.s.head)) = cs := ⟨_, rfl⟩
      have HCS := Lib.hid (show cs.length = k * 3 from by rw [← hcs, hdCells_length, List.length_map, List.length_take]; omega)
      have HNX := Lib.hid (show hdCells ((M.take (k + 1)).map (·.s.head)) = cs ++ [.int .i64 m.s.head.epoch] ++ [.string m.s.head.root] ++ [.string m.s.head.prev] from by
        rw [List.take_add_one, hmk, List.map_append, hdCells_append, hcs]
        simp [hdCells, Hd.cells])
      have HH0 := Lib.hid HU.out.2
      rw [hcs] at HH0
      have HB1 := Lib.hid (HU.out.1.alloc HU.out.1.size (.cells #[.int .i64 m.s.head.epoch, .string m.s.head.root, .string m.s.head.prev, .int .i64 m.s.key, .slice m.A m.s.sig.length m.ca, .slice m.B m.s.path.length m.cb] 54))
      have HH1 := Lib.hid (HH0.out.alloc (.cells #[.int .i64 m.s.head.epoch, .string m.s.head.root, .string m.s.head.prev, .int .i64 m.s.key, .slice m.A m.s.sig.length m.ca, .slice m.B m.s.path.length m.cb] 54))
      have z0 : fillL cs zHd (k * 3) = .int .i64 0 := by
        unfold fillL; rw [List.getD_eq_getElem?_getD, List.getElem?_eq_none (by rw [HCS.out]; omega)]; show zHd (k * 3) = _; unfold zHd; rw [if_pos (by omega)]
      have z1 : fillL cs zHd (k * 3 + 1) = .string ⟨#[]⟩ := by
        unfold fillL; rw [List.getD_eq_getElem?_getD, List.getElem?_eq_none (by rw [HCS.out]; omega)]; show zHd (k * 3 + 1) = _; unfold zHd; rw [if_neg (by omega)]
      have z2 : fillL cs zHd (k * 3 + 2) = .string ⟨#[]⟩ := by
        unfold fillL; rw [List.getD_eq_getElem?_getD, List.getElem?_eq_none (by rw [HCS.out]; omega)]; show zHd (k * 3 + 2) = _; unfold zHd; rw [if_neg (by omega)]
      have e0 := HH1.out.cell (k * 3) (by omega)
      have e1 := HH1.out.cell (k * 3 + 1) (by omega)
      have e2 := HH1.out.cell (k * 3 + 2) (by omega)
      rw [z0] at e0
      rw [z1] at e1
      rw [z2] at e2
      have g0 := HH1.out.free (k * 3)
      have g1 := HH1.out.free (k * 3 + 1)
      have g2 := HH1.out.free (k * 3 + 2)
      have HFIN := Lib.hid (((HH1.out.fill (k * 3) HCS.out (.int .i64 m.s.head.epoch)).fill (k * 3 + 1) (by simp [HCS.out]) (.string m.s.head.root)).fill (k * 3 + 2) (by simp [HCS.out]) (.string m.s.head.prev))
      have HFB := Lib.hid (((HB1.out.setCell (p := ⟨w.heap.size, k * 3, none⟩) (Nat.le_refl _) (.int .i64 m.s.head.epoch)).setCell (p := ⟨w.heap.size, k * 3 + 1, none⟩) (Nat.le_refl _) (.string m.s.head.root)).setCell (p := ⟨w.heap.size, k * 3 + 2, none⟩) (Nat.le_refl _) (.string m.s.head.prev))
      clear z0 z1 z2 hcs hmk c1 c2 c3 c4 c5 hal
      go_wp2
      go_roundw
      case rel => exact ⟨k + 1, by omega, by go_num, Lib.hid ⟨HFB.out, by rw [HNX.out]; exact HFIN.out⟩⟩
      case measure => simp [intOf]; omega
    · obtain rfl : k = M.length := by omega
      go_wp2
      go_ret
      refine ⟨some ⟨w.heap.size, 0, none⟩, M.length, rfl, HU.out.1, fun i x hx => ?_, Nat.le_refl _⟩
      have hh := HU.out.2
      rw [List.take_length] at hh
      have hil : i < M.length := by have := (List.getElem?_eq_some_iff.1 hx).1; simpa using this
      have hl : (hdCells (M.map (·.s.head))).length = M.length * 3 := by rw [hdCells_length, List.length_map]
      have hg : ∀ j, j < 3 → wr.cell? ⟨w.heap.size, i * 3 + j, none⟩ = x.cells[j]? := fun j hj => by
        rw [hh.cell (i * 3 + j) (by omega), ← hdCells_get _ i x j hx hj]
        unfold fillL
        rw [List.getD_eq_getElem?_getD, List.getElem?_eq_getElem (show i * 3 + j < (hdCells (M.map (·.s.head))).length by rw [hl]; omega)]
        rfl
      refine ⟨⟨w.heap.size, 0, none⟩, rfl, hh.lt, ?_, ?_, ?_⟩
      · rw [add_none, Nat.zero_add]; exact hg 0 (by omega)
      · rw [add_add', add_none, Nat.zero_add]; exact hg 1 (by omega)
      · rw [add_add', add_none, Nat.zero_add]; exact hg 2 (by omega)
end Go.Proofs.YtcfpmofmjnhonaaGreatDoor
/- The program's NODE and Root. -/
namespace Go.Proofs.YtcfpmofmjnhonaaGreatDoor
open Go.RowKit

set_option maxRecDepth 100000 in
theorem tNode_few (f d : Nat) (L : List It) (A : Option Addr) (cap : Nat) (w : World) (h2 : L.length < 2) (hap : Apart L d) (hcm : ∀ x ∈ L, x.2.size ≤ 1000000) (hk : HasK w) (hm : Itms w A L) :
    Calls Tryz.prog 129 #[.slice A L.length cap, .int .i64 (d : Int)] w fun e w' => e = .returned (.string (nodeOf f L d)) ∧ Below w.heap.size w w' := by
  have HK := Lib.hid hk
  have HM := Lib.hid hm
  have HAP := Lib.hid hap
  have HCM := Lib.hid hcm
  clear hk hm hap hcm
  rcases (show L.length = 0 ∨ L.length = 1 by omega) with h | h
  · have HT := Lib.hid (nodeOf_nil f L d h)
    have h0 : ((L.length : Int) == 0) = true := by rw [beq_iff_eq]; omega
    clear h h2
    go_enter Tryz.func129, Tryz.ntmps129
    go_wp2_with fail
    refine (tEmpty_any d _ HK.out).mono ?_
    rintro e w1 ⟨rfl, hb1⟩
    have HB1 := Lib.hid hb1
    clear hb1 h0
    go_wp2
    go_ret
    exact ⟨by rw [HT.out]; rfl, HB1.out⟩
  · have HT := Lib.hid (nodeOf_one f L d h)
    have h0 : ((L.length : Int) == 0) = false := by rw [beq_eq_false_iff_ne]; omega
    have h1 : ((L.length : Int) == 1) = true := by rw [beq_iff_eq]; omega
    have hlt : (0 : Int) < (L.length : Int) := by omega
    obtain ⟨a, rfl, hal, c0, c1⟩ := HM.out.at_ (show 0 < L.length by omega)
    have hx : itAt L 0 ∈ L := by rw [itAt_of (show 0 < L.length by omega)]; exact List.getElem_mem _
    have hx1 := HAP.out.1 _ hx
    have hx2 := HCM.out _ hx
    rw [Nat.zero_mul, add_zero'] at c0 c1
    have d2 : w.cell? ⟨a.block, a.off + 1, none⟩ = some (.string (itAt L 0).2) := c1
    generalize itAt L 0 = x at c0 d2 hx1 hx2 HT
    have HX1 := Lib.hid hx1
    have HX2 := Lib.hid hx2
    clear c1 hx1 hx2 hx h h2
    go_enter Tryz.func129, Tryz.ntmps129
    go_wp2_with fail
    refine (tLeaf_any x d _ HK.out (by have := HX1.out; omega) HX2.out).mono ?_
    rintro e w1 ⟨rfl, hb1⟩
    have HB1 := Lib.hid hb1
    clear hb1 h0 h1
    go_wp2
    go_ret
    exact ⟨by rw [HT.out]; rfl, HB1.out⟩
set_option maxRecDepth 100000 in
theorem tNode_any : ∀ (f d : Nat) (L : List It) (A : Option Addr) (cap : Nat) (w : World), d + f = 128 → Apart L d → L.Pairwise ltI → L.length ≤ 1000000 → L.length ≤ cap → (∀ x ∈ L, x.2.size ≤ 1000000) → HasK w → Itms w A L →
    Calls Tryz.prog 129 #[.slice A L.length cap, .int .i64 (d : Int)] w fun e w' => e = .returned (.string (nodeOf f L d)) ∧ Below w.heap.size w w' := by
  intro f
  induction f with
  | zero =>
    intro d L A cap w hdf hap hs hl hc hcm hk hm
    refine tNode_few 0 d L A cap w ?_ hap hcm hk hm
    rcases Nat.lt_or_ge L.length 2 with h | h
    · exact h
    · have := hap.lt h; omega
  | succ f ih =>
    intro d L A cap w hdf hap hs hl hc hcm hk hm
    rcases Nat.lt_or_ge L.length 2 with h | h
    · exact tNode_few (f + 1) d L A cap w h hap hcm hk hm
    · have IH := Lib.hid ih
      have HK := Lib.hid hk
      have HM := Lib.hid hm
      have HAP := Lib.hid hap
      have HS := Lib.hid hs
      have HCM := Lib.hid hcm
      have HDF := Lib.hid hdf
      have HCAP := Lib.hid hc
      clear ih hk hm hap hs hcm hdf hc
      have hd : d < 128 := HAP.out.lt h
      have HT := Lib.hid (nodeOf_two f L d h)
      have ED := Lib.hid (show ((d : Int) + 1) = ((d + 1 : Nat) : Int) by omega)
      have h0 : ((L.length : Int) == 0) = false := by rw [beq_eq_false_iff_ne]; omega
      have h1 : ((L.length : Int) == 1) = false := by rw [beq_eq_false_iff_ne]; omega
      go_enter Tryz.func129, Tryz.ntmps129
      go_wp2_with fail
      refine (tHalves_any L A cap d _ hl HCAP.out HM.out HS.out HAP.out hd).mono ?_
      rintro e w1 ⟨A0, c0, A1, c1, rfl, hb1, hi0, hi1, hc0, hc1⟩
      have HB1 := Lib.hid hb1
      have HI0 := Lib.hid hi0
      have HI1 := Lib.hid hi1
      have HC0 := Lib.hid hc0
      have HC1 := Lib.hid hc1
      clear hb1 hi0 hi1 hc0 hc1 h0 h1
      go_wp2_with fail
      rw [ED.out]
      refine (IH.out (d + 1) (half L d 0) A0 c0 _ (by have := HDF.out; omega) (HAP.out.half 0) (half_rise HS.out d 0) (Nat.le_trans (half_le _ _ _) hl) HC0.out (fun x hx => HCM.out x (List.mem_filter.1 hx).1) (HK.out.below HB1.out HK.out.lt) HI0.out).mono ?_
      rintro e w2 ⟨rfl, hb2⟩
      have HI1' := Lib.hid (HI1.out.below hb2)
      have HB2 := Lib.hid (HB1.out.trans (hb2.mono HB1.out.size))
      have hs1 := nodeOf_size f (half L d 0) (d + 1)
      generalize nodeOf f (half L d 0) (d + 1) = n0 at hs1 HT
      have HS1 := Lib.hid hs1
      clear hb2 hs1
      go_wp2_with fail
      rw [ED.out]
      refine (IH.out (d + 1) (half L d 1) A1 c1 _ (by have := HDF.out; omega) (HAP.out.half 1) (half_rise HS.out d 1) (Nat.le_trans (half_le _ _ _) hl) HC1.out (fun x hx => HCM.out x (List.mem_filter.1 hx).1) (HK.out.below HB2.out HK.out.lt) HI1'.out).mono ?_
      rintro e w3 ⟨rfl, hb3⟩
      have HB3 := Lib.hid (HB2.out.trans (hb3.mono HB2.out.size))
      have hs2 := nodeOf_size f (half L d 1) (d + 1)
      generalize nodeOf f (half L d 1) (d + 1) = n1 at hs2 HT
      have HS2 := Lib.hid hs2
      clear hb3 hs2
      go_wp2_with fail
      refine (tJoin_any n0 n1 _ (HK.out.below HB3.out HK.out.lt) (by have := HS1.out; omega) (by have := HS2.out; omega)).mono ?_
      rintro e w4 ⟨rfl, hb4⟩
      have HB4 := Lib.hid (HB3.out.trans (hb4.mono HB3.out.size))
      clear hb4
      go_wp2
      go_ret
      exact ⟨by rw [HT.out]; rfl, HB4.out⟩
set_option maxRecDepth 100000 in
theorem tRoot_is (L : List It) (A : Option Addr) (cap : Nat) (x : ByteArray) (n : Int) (w : World) (hk : HasK w) (hl : L.length ≤ 1000000) (hc : L.length ≤ cap) (hm : Itms w A L) (h : rootAns L = (x, n)) :
    Calls Tryz.prog 117 #[.slice A L.length cap] w fun e w' => e = .returned (.tuple #[.string x, errOf n]) ∧ Below w.heap.size w w' := by
  have HK := Lib.hid hk
  have HM := Lib.hid hm
  have HCAP := Lib.hid hc
  clear hk hm hc
  unfold rootAns at h
  by_cases hk : rightItems L = true
  · rw [if_pos hk] at h
    cases h
    have HAP := Lib.hid (right_apart hk)
    have HCM := Lib.hid (right_cm hk)
    have HS := Lib.hid (right_sorted hk)
    have HR := Lib.hid hk
    clear hk
    go_enter Tryz.func117, Tryz.ntmps117
    go_wp2_with fail
    refine (tRight_any L A cap _ hl HM.out).mono ?_
    rintro e w1 ⟨rfl, hb1⟩
    rw [HR.out]
    have HB1 := Lib.hid hb1
    have HM1 := Lib.hid (HM.out.below hb1)
    clear hb1
    go_wp2_with fail
    refine (tNode_any 128 0 L A cap _ rfl HAP.out HS.out hl HCAP.out HCM.out (HK.out.below HB1.out HK.out.lt) HM1.out).mono ?_
    rintro e w2 ⟨rfl, hb2⟩
    have HB2 := Lib.hid (HB1.out.trans (hb2.mono HB1.out.size))
    clear hb2
    go_wp2
    refine bodyPost_ret (results_tmp2 rfl _ _ _) rfl ?_
    exact ⟨rfl, HB2.out⟩
  · rw [if_neg hk] at h
    cases h
    have HR := Lib.hid (show rightItems L = false by simpa using hk)
    clear hk
    go_enter Tryz.func117, Tryz.ntmps117
    go_wp2_with fail
    refine (tRight_any L A cap _ hl HM.out).mono ?_
    rintro e w1 ⟨rfl, hb1⟩
    rw [HR.out]
    have HB1 := Lib.hid hb1
    clear hb1
    go_wp2
    refine bodyPost_ret (results_tmp2 rfl _ _ _) rfl ?_
    exact ⟨rfl, HB1.out⟩
end Go.Proofs.YtcfpmofmjnhonaaGreatDoor
