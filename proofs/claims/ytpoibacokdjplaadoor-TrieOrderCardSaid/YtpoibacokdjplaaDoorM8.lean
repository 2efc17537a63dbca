/- Parts of the proof, one behind the other: PHalves, Sorted, Gg, RSet, RSet2, Append. -/
import Derived.Test.YtpoibacokdjplaaDoorM6
import Derived.Test.YtpoibacokdjplaaDoorM7
import Derived.Deep.RegionHeld3
import Derived.Deep.DeepCutAuto
import Derived.Test.YtpoibacokdjplaaDoorM4
import Derived.Shelf.SlSortFuncK.WholeK
import Derived.Ground.GgsProg
import Derived.Shelf.GgSortFunc.Tiny
import Derived.Test.YtpoibacokdjplaaDoorProg
/- The program's Halves: the library's search, and two copies. -/
namespace Go.Proofs.YtpoibacokdjplaaDoor
open Go.RowKit

set_option maxRecDepth 100000 in
theorem tHalf1_any (L : List It) (A : Option Addr) (cap k d pb db : Nat) (w : World) (hk : k < L.length) (_hl : L.length ≤ 1000000) (hm : Itms w A L) (h16 : ∀ x ∈ L, x.1.size = 16) (hd : d < 128)
    (hp : w.cell? ⟨pb, 0, none⟩ = some (.slice A L.length cap)) (hi : w.cell? ⟨db, 0, none⟩ = some (.int .i64 (d : Int))) :
    Calls Tryd.prog 51 #[.int .i64 (k : Int), .pointer (some ⟨pb, 0, none⟩), .pointer (some ⟨db, 0, none⟩)] w fun e w' => e = .returned (.bool (decide (bitI (itAt L k) d = 1))) ∧ Below w.heap.size w w' := by
  obtain ⟨a, rfl, _, c0, _⟩ := hm.at_ hk
  have hx := h16 _ (itAt_mem hk)
  have hb2 := bitOf_lt (itAt L k).1.data.toList d
  have hkl : (k : Int) < (L.length : Int) := by omega
  have he : bitI (itAt L k) d = bitOf (itAt L k).1.data.toList d := rfl
  rw [he]
  clear he
  generalize itAt L k = x at c0 hx hb2
  obtain ⟨b, hb⟩ : ∃ b, bitOf x.1.data.toList d = b := ⟨_, rfl⟩
  rw [hb] at hb2 ⊢
  have HC := Lib.hid (show ∀ u, Calls Tryd.prog 52 #[.string x.1, .int .i64 (d : Int)] u fun e w' => e = .returned (.int .i64 (b : Int)) ∧ w' = u from fun u => by have := tBit_any x.1 d u hx hd; rwa [hb] at this)
  clear hm h16 hx hb
  go_enter Tryd.func51, Tryd.ntmps51
  go_wp2_with fail
  rcases (show b = 0 ∨ b = 1 by omega) with rfl | rfl
  all_goals
    clear hb2
    go_quiet ((go_at_call 52; exact Calls.quiet_of_same (HC.out _)))
    go_wp2
    go_ret
    exact ⟨rfl, below_drew (Below.refl _ _) _⟩
set_option maxRecDepth 100000 in
theorem tSearch_any (L : List It) (A : Option Addr) (cap d pb db : Nat) (w : World) (hl : L.length ≤ 1000000) (hm : Itms w A L) (hs : L.Pairwise ltI) (hap : Apart L d) (hd : d < 128)
    (hp : w.cell? ⟨pb, 0, none⟩ = some (.slice A L.length cap)) (hi : w.cell? ⟨db, 0, none⟩ = some (.int .i64 (d : Int))) :
    Calls Tryd.prog 50 #[.int .i64 (L.length : Int), .func (.func 51) #[] #[.pointer (some ⟨pb, 0, none⟩), .pointer (some ⟨db, 0, none⟩)]] w fun e w' => Below w.heap.size w w' ∧ ∃ r : Nat, r ≤ L.length ∧ e = .returned (.int .i64 (r : Int)) ∧ half L d 0 = L.take r ∧ half L d 1 = L.drop r := by
  have HM := Lib.hid hm
  have HS := Lib.hid hs
  have HAP := Lib.hid hap
  have HP := Lib.hid hp
  have HI := Lib.hid hi
  clear hm hs hap hp hi
  go_enter Tryd.func50, Tryd.ntmps50
  go_wp2
  go_loopw [5, 6] (fun i j wr => ∃ p q : Nat, p ≤ q ∧ q ≤ L.length ∧ i = .int .i64 (p : Int) ∧ j = .int .i64 (q : Int) ∧ (∀ m, m < p → m < L.length → bitI (itAt L m) d ≠ 1) ∧ (∀ m, q ≤ m → m < L.length → bitI (itAt L m) d = 1) ∧ Below w.heap.size w wr) (fun i j _ => (intOf j).toNat - (intOf i).toNat)
  case atStart => exact ⟨0, L.length, by omega, by omega, rfl, rfl, fun m hm => by omega, fun m h1 h2 => by omega, Below.refl _ _⟩
  case round =>
    obtain ⟨p, q, hpq, hq, rfl, rfl, h0, h1, hb⟩ := hrel
    have H0 := Lib.hid h0
    have H1 := Lib.hid h1
    have HB := Lib.hid hb
    clear h0 h1 hb
    by_cases hlt : p < q
    · obtain ⟨h, hh⟩ : ∃ h, (p + q) / 2 = h := ⟨_, rfl⟩
      have hph : p ≤ h := by omega
      have hhq : h < q := by omega
      have HV := Lib.hid (show ((p : Int) + (q : Int)) / 2 = (h : Int) by omega)
      clear hh
      go_wp2_with fail
      rw [HV.out]
      refine (tHalf1_any L A cap h d pb db _ (by omega) hl (HM.out.below HB.out) HAP.out.1 hd ((HB.out.cell (block_lt_of_cell HP.out)).trans HP.out) ((HB.out.cell (block_lt_of_cell HI.out)).trans HI.out)).mono ?_
      rintro e w1 ⟨rfl, hb1⟩
      have HB1 := Lib.hid (HB.out.trans (hb1.mono HB.out.size))
      clear hb1 HV
      by_cases hbit : bitI (itAt L h) d = 1
      · rw [decide_eq_true hbit]
        have HH := Lib.hid (show ∀ m, h ≤ m → m < L.length → bitI (itAt L m) d = 1 from fun m h1 h2 => bit_mono HS.out HAP.out hd h1 h2 hbit)
        clear hbit
        go_wp2
        go_roundw
        case rel => exact ⟨p, h, hph, by omega, rfl, rfl, H0.out, HH.out, HB1.out⟩
        case measure => simp [intOf]; omega
      · rw [decide_eq_false hbit]
        have HH := Lib.hid (show ∀ m, m < h + 1 → m < L.length → bitI (itAt L m) d ≠ 1 from fun m h1 h2 h3 => hbit (bit_mono HS.out HAP.out hd (show m ≤ h by omega) (by omega) h3))
        clear hbit
        go_wp2
        go_roundw
        case rel => exact ⟨h + 1, q, by omega, hq, by go_num, rfl, HH.out, H1.out, HB1.out⟩
        case measure => simp [intOf]; omega
    · have hpq' : p = q := by omega
      subst hpq'
      have HC := Lib.hid (half_cut H0.out H1.out)
      clear hlt
      go_wp2
      go_ret
      exact ⟨HB.out, p, hq, rfl, HC.out⟩
set_option maxRecDepth 100000 in
theorem tHalves_row (L : List It) (A : Option Addr) (cap d : Nat) (w : World) (hl : L.length ≤ 1000000) (hcap : L.length ≤ cap) (hm : Itms w A L) (hs : L.Pairwise ltI) (hap : Apart L d) (hd : d < 128) :
    Calls Tryd.prog 40 #[.slice A L.length cap, .int .i64 (d : Int)] w fun e w' => ∃ A0 c0 A1 c1, e = .returned (.tuple #[.slice A0 (half L d 0).length c0, .slice A1 (half L d 1).length c1]) ∧ Below w.heap.size w w' ∧ Row w' w.heap.size 2 (.slice A0 (half L d 0).length c0) (half L d 0).length (itCells (half L d 0)) ∧ Row w' w.heap.size 2 (.slice A1 (half L d 1).length c1) (half L d 1).length (itCells (half L d 1)) := by
  have HM := Lib.hid hm
  have HS := Lib.hid hs
  have HAP := Lib.hid hap
  clear hm hs hap
  go_enter Tryd.func40, Tryd.ntmps40
  go_wp2_with fail
  have hb0 : Below w.heap.size w ((w.alloc (.cells #[.slice A L.length cap] 22)).alloc (.cells #[.int .i64 (d : Int)] 3)) := (alloc_below w _).alloc (by simp) _
  have hp0 : ((w.alloc (.cells #[.slice A L.length cap] 22)).alloc (.cells #[.int .i64 (d : Int)] 3)).cell? ⟨w.heap.size, 0, none⟩ = some (.slice A L.length cap) :=
    ((alloc_below (w.alloc (.cells #[.slice A L.length cap] 22)) (.cells #[.int .i64 (d : Int)] 3)).cell (p := ⟨w.heap.size, 0, none⟩) (by show w.heap.size < _; simp)).trans (cell_of_row _ w.heap.size 0 _ 22 (0, 0) (heap_alloc_new _ _))
  have hi0 : ((w.alloc (.cells #[.slice A L.length cap] 22)).alloc (.cells #[.int .i64 (d : Int)] 3)).cell? ⟨w.heap.size + 1, 0, none⟩ = some (.int .i64 (d : Int)) := by
    have e : w.heap.size + 1 = (w.alloc (.cells #[.slice A L.length cap] 22)).heap.size := by simp
    rw [e]
    exact cell_of_row _ _ 0 _ 3 (0, 0) (heap_alloc_new _ _)
  have HB0 := Lib.hid hb0
  have HP0 := Lib.hid hp0
  have HI0 := Lib.hid hi0
  clear hb0 hp0 hi0
  generalize (w.alloc (.cells #[.slice A L.length cap] 22)).alloc (.cells #[.int .i64 (d : Int)] 3) = w0 at HB0 HP0 HI0
  refine (tSearch_any L A cap d w.heap.size (w.heap.size + 1) _ hl (HM.out.below HB0.out) HS.out HAP.out hd HP0.out HI0.out).mono ?_
  rintro e w1 ⟨hb1, r, hr, rfl, h0, h1⟩
  have HB1 := Lib.hid (HB0.out.trans (hb1.mono HB0.out.size))
  have hp1 : w1.cell? ⟨w.heap.size, 0, none⟩ = some (.slice A L.length cap) := (hb1.cell (block_lt_of_cell HP0.out)).trans HP0.out
  have hN1 : w.heap.size < w1.heap.size := block_lt_of_cell hp1
  have hto := it_to A L.length cap r (by omega)
  have hfrom := it_from A L.length cap r hr
  have hdr := (HM.out.below HB1.out).drop (r := r) hcap
  have htk := (HM.out.below HB1.out).take r
  have hdl : (L.drop r).length = L.length - r := List.length_drop
  have htl : (L.take r).length = r := by rw [List.length_take]; omega
  generalize partAt A cap r = B at hfrom hdr
  obtain ⟨s, hse⟩ : ∃ s, L.length - r = s := ⟨_, rfl⟩
  obtain ⟨c2, hc2⟩ : ∃ c2, cap - r = c2 := ⟨_, rfl⟩
  have hsl : s ≤ 1000000 := by omega
  rw [hse, hc2] at hfrom
  rw [hse] at hdl
  have H0 := Lib.hid h0
  have H1 := Lib.hid h1
  have HTL := Lib.hid htl
  have HDL := Lib.hid hdl
  have HTO := Lib.hid hto
  have HFROM := Lib.hid hfrom
  have HTK := Lib.hid htk
  have HDR := Lib.hid hdr
  have HS0 := Lib.hid (show w1.cell? ⟨w.heap.size, 0, none⟩ = some (.slice A L.length cap) ∧ Below w1.heap.size w1 w1.drew from ⟨hp1, (Below.refl _ _).drew⟩)
  have HKEEP := Lib.hid (show ∀ u v : World, (u.cell? ⟨w.heap.size, 0, none⟩ = some (.slice A L.length cap) ∧ Below w1.heap.size w1 u) → Below u.heap.size u v → (v.cell? ⟨w.heap.size, 0, none⟩ = some (.slice A L.length cap) ∧ Below w1.heap.size w1 v) from
    fun u v ⟨h0, hb⟩ hv => ⟨(hv.cell (Nat.lt_of_lt_of_le hN1 hb.size)).trans h0, hb.trans (hv.mono hb.size)⟩)
  have HC0 := Lib.hid (show ∀ u : World, (u.cell? ⟨w.heap.size, 0, none⟩ = some (.slice A L.length cap) ∧ Below w1.heap.size w1 u) → Calls Tryd.prog 9 #[.slice A r cap] u fun e w' => ∃ A' c', e = .returned (.slice A' r c') ∧ Below u.heap.size u w' ∧ Row w' u.heap.size 2 (.slice A' r c') r (itCells (L.take r)) from
    fun u hu => clonePart_any (L.take r) r A cap u HTL.out (by omega) (HTK.out.below hu.2))
  have HC1 := Lib.hid (show ∀ u : World, (u.cell? ⟨w.heap.size, 0, none⟩ = some (.slice A L.length cap) ∧ Below w1.heap.size w1 u) → Calls Tryd.prog 9 #[.slice B s c2] u fun e w' => ∃ A' c', e = .returned (.slice A' s c') ∧ Below u.heap.size u w' ∧ Row w' u.heap.size 2 (.slice A' s c') s (itCells (L.drop r)) from
    fun u hu => clonePart_any (L.drop r) s B c2 u HDL.out hsl (HDR.out.below hu.2))
  clear hb1 h0 h1 hto hfrom htk hdr hdl htl hse hc2 hcap
  have hto := HTO.out
  have hfrom := HFROM.out
  go_wp2_with fail
  go_region_held3 (fun w' => w'.cell? ⟨w.heap.size, 0, none⟩ = some (.slice A L.length cap) ∧ Below w1.heap.size w1 w')
    (first | exact HS0.out | (refine HKEEP.out _ _ ?_ (by assumption); first | exact HS0.out | assumption | exact ⟨by assumption, by assumption⟩))
    (first | (go_at_call 9; refine (HC0.out _ (by first | exact HS0.out | assumption)).mono ?_; rintro e w8 ⟨A3, c3, rfl, hb8, hi8⟩) | (go_at_call 9; refine (HC1.out _ (by first | exact HS0.out | assumption)).mono ?_; rintro e w9 ⟨A4, c4, rfl, hb9, hi9⟩))
  rename_i hheld
  have HB2 := Lib.hid (HB1.out.trans (hheld.2.mono HB1.out.size))
  have HI8 := Lib.hid ((hi8.belowAll hb9).mono HB1.out.size)
  have HI9 := Lib.hid (hi9.mono (Nat.le_trans HB1.out.size hb8.size))
  clear hheld hb8 hb9 hi8 hi9 hto hfrom
  go_wp2
  refine bodyPost_ret (results_tmp2 rfl _ _ _) rfl ?_
  refine ⟨A3, c3, A4, c4, ?_, HB2.out, ?_, ?_⟩
  · rw [H0.out, H1.out, HTL.out, HDL.out]; rfl
  · rw [H0.out, HTL.out]; exact HI8.out
  · rw [H1.out, HDL.out]; exact HI9.out
theorem Row.cap {w : World} {base size n c : Nat} {p : Option Addr} {xs : List Value} (h : Row w base size (.slice p n c) n xs) : n ≤ c := by
  obtain ⟨_, hr⟩ := h
  rcases hr with ⟨hr, rfl⟩ | ⟨g, cap', hv, _, _, hle, _⟩
  · exact Nat.zero_le _
  · injection hv with _ _ e3
    omega
theorem Row.items {w : World} {base n c : Nat} {p : Option Addr} {L : List It} (h : Row w base 2 (.slice p n c) n (itCells L)) : Itms w p L := by
  obtain ⟨_, A', c', hv, hit⟩ := h.itms
  injection hv with e1 _ _
  subst e1
  exact hit
theorem tHalves_any (L : List It) (A : Option Addr) (cap d : Nat) (w : World) (hl : L.length ≤ 1000000) (hcap : L.length ≤ cap) (hm : Itms w A L) (hs : L.Pairwise ltI) (hap : Apart L d) (hd : d < 128) :
    Calls Tryd.prog 40 #[.slice A L.length cap, .int .i64 (d : Int)] w fun e w' => ∃ A0 c0 A1 c1, e = .returned (.tuple #[.slice A0 (half L d 0).length c0, .slice A1 (half L d 1).length c1]) ∧ Below w.heap.size w w' ∧ Itms w' A0 (half L d 0) ∧ Itms w' A1 (half L d 1) ∧ (half L d 0).length ≤ c0 ∧ (half L d 1).length ≤ c1 :=
  (tHalves_row L A cap d w hl hcap hm hs hap hd).mono fun _ _ ⟨A0, c0, A1, c1, he, hb, h0, h1⟩ => ⟨A0, c0, A1, c1, he, hb, h0.items, h1.items, h0.cap, h1.cap⟩
end Go.Proofs.YtpoibacokdjplaaDoor
/- A row of items that the library's sort has ordered. -/
namespace Go.Proofs.YtpoibacokdjplaaDoor
open Go.RowKit Go.Sort

def encI (x : It) : List Value := [.string x.1, .string x.2]
theorem itCells_at (L : List It) (j : Nat) (h : j < L.length * 2) : (itCells L)[j]? = some ((encI L.toArray[j / 2]!)[j % 2]!) := by
  have hi : j / 2 < L.length := by omega
  obtain ⟨e0, e1⟩ := itCells_get L (j / 2) L[j / 2] (List.getElem?_eq_getElem hi)
  have eL : L.toArray[j / 2]! = L[j / 2] := by simp [hi]
  rw [eL]
  rcases Nat.mod_two_eq_zero_or_one j with hm | hm
  · have ej : j / 2 * 2 = j := by omega
    rw [ej] at e0
    rw [e0, hm]; rfl
  · have ej : j / 2 * 2 + 1 = j := by omega
    rw [ej] at e1
    rw [e1, hm]; rfl
theorem row_holdsK {w : World} {base g cap : Nat} {L : List It} (h : Row w base 2 (.slice (some ⟨g, 0, none⟩) L.length cap) L.length (itCells L)) (hn : 0 < L.length) : HoldsK encI 2 w g 0 L.toArray := by
  obtain ⟨g', cap', hv, _, _, hcap, hcell, hfree⟩ := h.shape hn
  injection hv with e1 e2 e3
  injection e1 with e1
  injection e1 with e1
  subst e1
  intro j hj
  rw [size_flatK] at hj
  have hj' : j < L.length * 2 := by simpa using hj
  refine ⟨?_, ?_⟩
  · rw [Nat.zero_add, hcell j _ (itCells_at L j hj'), get_flatK _ _ _ _ hj]; rfl
  · rw [Nat.zero_add]; exact hfree j hj'
theorem grow_block (w : World) (os : Array Obj) (k : Nat) (h : k < w.heap.size) : (grow w os).heap[k]? = w.heap[k]? := by
  unfold grow
  simp [Array.getElem?_append_left h]
/-- What the sort leaves is a row again, where it was; nothing else that was there has turned. -/
theorem row_sorted {w : World} {base g cap q : Nat} {os : Array Obj} {L M : List It} (h : Row w base 2 (.slice (some ⟨g, 0, none⟩) L.length cap) L.length (itCells L)) (hn : 0 < L.length) (hM : M.length = L.length) :
    Row (grow (putRowK encI 2 (Sort.ahead w q) g 0 M.toArray) os) base 2 (.slice (some ⟨g, 0, none⟩) M.length cap) M.length (itCells M) ∧ w.grownBy (grow (putRowK encI 2 (Sort.ahead w q) g 0 M.toArray) os) (some g) := by
  have hH := row_holdsK h hn
  have hHa : HoldsK encI 2 (Sort.ahead w q) g 0 L.toArray := hH
  obtain ⟨hl, hr⟩ := h
  rcases hr with ⟨hr, _⟩ | ⟨g', cap', hv, hgb, hgl, hcap, hcell, hspare⟩
  · cases hr
  · injection hv with e1 e2 e3
    injection e1 with e1
    injection e1 with e1
    subst e1 e3
    have hsz : (putRowK encI 2 (Sort.ahead w q) g 0 M.toArray).heap.size = w.heap.size := by rw [size_putRowK]; rfl
    have hput : ∀ j, (grow (putRowK encI 2 (Sort.ahead w q) g 0 M.toArray) os).cell? ⟨g, j, none⟩ = (putRowK encI 2 (Sort.ahead w q) g 0 M.toArray).cell? ⟨g, j, none⟩ := fun j => cell?_grow _ _ _ (by rw [hsz]; exact hgl)
    have hfr : ∀ j, (grow (putRowK encI 2 (Sort.ahead w q) g 0 M.toArray) os).frozen? ⟨g, j, none⟩ = w.frozen? ⟨g, j, none⟩ := fun j => by
      rw [World.frozen?_of_block (w := putRowK encI 2 (Sort.ahead w q) g 0 M.toArray) (a := ⟨g, j, none⟩) (grow_block _ _ _ (by rw [hsz]; exact hgl))]
      exact frozen?_putRow id (Sort.ahead w q) g 0 _ _
    refine ⟨⟨itCells_length M, .inr ⟨g, cap, rfl, hgb, ?_, by omega, ?_, ?_⟩⟩, rfl, rfl, rfl, ?_, ?_⟩
    · unfold grow; simp only [Array.size_append]; rw [hsz]; omega
    · intro j u hj
      have hjl : j < M.length * 2 := by have := (List.getElem?_eq_some_iff.1 hj).1; rwa [itCells_length] at this
      rw [itCells_at M j hjl] at hj
      rw [hput]
      have := cell?_putRow id (Sort.ahead w q) g 0 (flatK encI 2 L.toArray) (flatK encI 2 M.toArray) hHa (by simp [hM]) j (by simpa using hjl)
      rw [Nat.zero_add] at this
      unfold putRowK
      rw [this, get_flatK _ _ _ _ (by simpa using hjl)]
      exact hj
    · intro j hj
      rw [hput, hfr]
      refine ⟨?_, (hspare j hj).2⟩
      by_cases hjl : j < M.length * 2
      · have := cell?_putRow id (Sort.ahead w q) g 0 (flatK encI 2 L.toArray) (flatK encI 2 M.toArray) hHa (by simp [hM]) j (by simpa using hjl)
        rw [Nat.zero_add] at this
        unfold putRowK
        rw [this]; rfl
      · unfold putRowK
        rw [cell?_putRow_other id _ g 0 _ ⟨g, j, none⟩ (.inr (.inr (by simp; omega)))]
        exact (hspare j hj).1
    · show w.heap.size ≤ (grow _ os).heap.size
      unfold grow; simp only [Array.size_append]; rw [hsz]; omega
    · intro k hk hne
      rw [grow_block _ _ _ (by rw [hsz]; exact hk)]
      show (w.heap.modify g _)[k]? = _
      rw [Array.getElem?_modify, if_neg (fun e => hne (by rw [e]))]
theorem swo_ltIB : SWO ltIB where
  irrefl _ := swo_ltStr.irrefl _
  trans _ _ _ h1 h2 := swo_ltStr.trans _ _ _ h1 h2
  ntrans _ _ _ h1 h2 := swo_ltStr.ntrans _ _ _ h1 h2
/-- What is sorted, and holds no index twice, rises. -/
theorem rises_of_sorted {M : List It} (h : SortedIn ltIB 0 M.length M.toArray) (hd : M.Pairwise (fun x y => x.1 ≠ y.1)) : M.Pairwise ltI := by
  rw [List.pairwise_iff_getElem] at hd ⊢
  intro i j hi hj hij
  have h1 := h i j (Nat.zero_le _) hij hj
  have e1 : M.toArray[j]! = M[j] := by simp [hj]
  have e2 : M.toArray[i]! = M[i] := by simp [hi]
  rw [e1, e2] at h1
  unfold ltIB ltStr at h1
  have h2 : ¬ M[j].1.data.toList < M[i].1.data.toList := by simpa using h1
  exact ltI_total h2 (fun e => hd i j hi hj hij e.symm)
end Go.Proofs.YtpoibacokdjplaaDoor
/- The document's Set. -/
namespace Go.Proofs.YtpoibacokdjplaaDoor
open Go.RowKit Go.Sort Go.Shelf

noncomputable def svT : TypeInfo := (Tryd.prog.info? 22).get (by kernel_rfl)
noncomputable def svE : TypeInfo := (Tryd.prog.info? 28).get (by kernel_rfl)
theorem svK (n : Nat) (h2 : 2 ≤ n) : Lib.swapperK n svE 25 = 9 := by
  have a : svE.hasPointers = true := by kernel_rfl
  have b : svE.bytes = 32 := by kernel_rfl
  have c : (n == 0) = false := by rw [beq_eq_false_iff_ne]; omega
  have d : (n == 1) = false := by rw [beq_eq_false_iff_ne]; omega
  simp [Lib.swapperK, a, b, c, d]
end Go.Proofs.YtpoibacokdjplaaDoor
/- The document's Set: the walk. -/
namespace Go.Proofs.YtpoibacokdjplaaDoor
open Go.RowKit

theorem grow_grownBy (w : World) (os : Array Obj) (g : Option Nat) : w.grownBy (Go.Sort.grow w os) g :=
  ⟨rfl, rfl, rfl, by unfold Go.Sort.grow; simp, fun k hk _ => grow_block w os k hk⟩
theorem perm_of_in {d d' : Array It} (h : Go.Sort.PermIn 0 d.size d d') : d'.toList.Perm d.toList := by
  obtain ⟨hs, _, hp⟩ := h
  have e1 : d'.extract 0 d.size = d' := by rw [← hs]; simp
  have e2 : d.extract 0 d.size = d := by simp
  rwa [e1, e2] at hp
theorem pairwise_one {α : Type} {R : α → α → Prop} {L : List α} (h : L.length = 1) : L.Pairwise R := by
  obtain ⟨x, rfl⟩ := List.length_eq_one_iff.1 h
  simp
structure SetRel (ob : Nat) (w wr : World) (L : List It) (x : It) (k : Nat) (v : Value) : Prop where
  below : Below w.heap.size w wr
  lt : w.heap.size < ob
  box : Holds wr w.heap.size 2 (fun i => if i = 0 then .string x.1 else .string x.2) 28
  own : Holds wr ob 1 (fun _ => v) 22
  row : Row wr (ob + 1) 2 v (others (L.take k) x).length (itCells (others (L.take k) x))
theorem others_take (L : List It) (k : Nat) (x y : It) (h : L[k]? = some y) : others (L.take (k + 1)) x = others (L.take k) x ++ (if y.1 = x.1 then [] else [y]) := by
  rw [List.take_add_one, h]
  unfold others
  rw [List.filter_append]
  congr 1
  by_cases e : y.1 = x.1 <;> simp [e]
theorem others_le (L : List It) (x : It) : (others L x).length ≤ L.length := List.length_filter_le _ _
/-- The world behind an append to what the variable holds, and the store of it. -/
theorem SetRel.alloc {ob : Nat} {w wr : World} {L : List It} {x : It} {k : Nat} {v : Value} (h : SetRel ob w wr L x k v) (X : Obj) : SetRel ob w (wr.alloc X) L x k v :=
  ⟨h.below.alloc h.below.size _, h.lt, h.box.alloc _, h.own.alloc _, h.row.alloc _⟩
theorem SetRel.after {ob : Nat} {w w2 w3 : World} {L : List It} {x : It} {k : Nat} {v : Value} {X : Obj} (h : SetRel ob w w2 L x k v) (hg : (w2.alloc X).grownBy w3 v.ownBlock) : Holds w3 ob 1 (fun _ => v) 22 := by
  have hown := h.own
  have hob := hown.lt
  unfold Holds at hown ⊢
  rw [hg.block ob (by simp; omega) (fun e => by have := (h.row.lt ob e.symm).1; omega), Below.heap_alloc _ _ _ hob]
  exact hown
theorem SetRel.put {ob : Nat} {w w2 w3 : World} {L : List It} {x y : It} {k : Nat} {v v' : Value} {X : Obj} {K : List It} (h : SetRel ob w w2 L x k v) (hrow : Row w3 (ob + 1) 2 v' K.length (itCells K)) (hg : (w2.alloc X).grownBy w3 v.ownBlock) (_hy : y = y) :
    Below w.heap.size w (w3.setCell ⟨ob, 0, none⟩ v') ∧ Holds (w3.setCell ⟨ob, 0, none⟩ v') w.heap.size 2 (fun i => if i = 0 then .string x.1 else .string x.2) 28 ∧ Holds (w3.setCell ⟨ob, 0, none⟩ v') ob 1 (fun _ => v') 22 ∧
      Row (w3.setCell ⟨ob, 0, none⟩ v') (ob + 1) 2 v' K.length (itCells K) := by
  have hlt := h.lt
  have hb2 : Below w.heap.size w (w2.alloc X) := h.below.alloc h.below.size X
  have hob := h.own.lt
  have keep : ∀ c, c < w2.heap.size → c < ob + 1 → w3.heap[c]? = w2.heap[c]? := fun c hc hc2 =>
    (hg.block c (by simp; omega) (fun e => by have := (h.row.lt c e.symm).1; omega)).trans (Below.heap_alloc _ _ _ hc)
  have hbox := h.box
  have hown := h.own
  refine ⟨(hb2.grown hg (Nat.le_trans h.below.size (by simp)) (fun c hc => by have := (h.row.lt c hc).1; omega)).setCell (p := ⟨ob, 0, none⟩) (Nat.le_of_lt hlt) _, ?_, ?_, hrow.setOther (hrow.fresh (Nat.lt_succ_self _)) _⟩
  · refine Holds.other ?_ (a := ⟨ob, 0, none⟩) (by show w.heap.size ≠ ob; omega) v'
    have := hbox.lt
    unfold Holds at hbox ⊢; rw [keep _ this (by omega)]; exact hbox
  · have h4 : Holds w3 ob 1 (fun _ => v) 22 := by unfold Holds at hown ⊢; rw [keep _ hob (by omega)]; exact hown
    refine (h4.set 0 v').congr fun i hi => ?_
    have : i = 0 := by omega
    subst this; rfl
end Go.Proofs.YtpoibacokdjplaaDoor
/- append onto a row of items: many, that lie somewhere. -/
namespace Go.Proofs.YtpoibacokdjplaaDoor
open Go.RowKit

theorem grownBy_refl (w : World) (g : Option Nat) : w.grownBy w g := ⟨rfl, rfl, rfl, Nat.le_refl _, fun _ _ _ => rfl⟩
theorem wpList_append_items {P : Program} {ops : Array Oper} {rest : List Oper} {o : Oper} {a : Act} {w : World} {Q : Exit → Act → World → Prop} (hgd : o.guard = none) (s x : Operand) (T : TypeId)
    (ho : o.op = .call { callee := .builtin .append, args := #[s, x], argTypes := #[T, T] }) (e : TypeId) (ht : P.underlying T = some (.slice e)) (i : TypeInfo) (z : Value) (hi : P.info? e = some i) (hz : i.zero = some z) (hsz : i.size = 2) (hby : i.bytes = 32) (hzc : z.cells.size = 2)
    (base n : Nat) (M : List It) (hml : M.length = n) (b0 : Addr) (c0 : Nat) (hd : a.eval s = .slice (some b0) n c0) (hrow : Row w base 2 (.slice (some b0) n c0) n (itCells M)) (hbase : base ≤ w.heap.size) (hn : n ≤ 1000000)
    (K : List It) (k : Nat) (hk : K.length = k) (A : Option Addr) (cap : Nat) (hs : a.eval x = .slice A k cap) (hm : Itms w A K) (hkl : k ≤ 1000000)
    (hK : ∀ v' w', Hid (Row w' base 2 v' (n + k) (itCells (M ++ K))) → Hid (w.grownBy w' (Value.slice (some b0) n c0).ownBlock) → wpList P ops Q rest (a.put o.dst v') w') : wpList P ops Q (o :: rest) a w := by
  by_cases h0 : k = 0
  · subst h0
    obtain rfl := List.eq_nil_of_length_eq_zero hk
    have hnc : n ≤ c0 := by
      obtain ⟨_, hr⟩ := hrow
      rcases hr with ⟨hr, _⟩ | ⟨g, cap', hv, _, _, hle, _⟩
      · cases hr
      · injection hv with _ _ e3
        omega
    have hsrc : ∃ news, Src P i.size T (.slice A 0 cap) 0 news w := by
      cases A with
      | none => exact ⟨[], Src.ofNil w ht cap⟩
      | some x => exact ⟨[], Src.ofSlice w ht x 0 cap [] (by simp) (fun j u h => by simp at h) (fun u h => by cases h)⟩
    obtain ⟨news, hsrc⟩ := hsrc
    have hnl : news = [] := List.eq_nil_of_length_eq_zero (by simpa using hsrc.newsLen)
    subst hnl
    have hk1 : ∃ e', P.underlying T = some (.slice e') := ⟨e, ht⟩
    have hrun : (Builtin.append_ #[T, T] o.type #[.slice (some b0) n c0, .slice A 0 cap]).run P w = .ok (.slice (some b0) n c0) w := by
      have hst : ∀ a : Addr, (storeCells a []).run P w = .ok () w := fun a => by simp [storeCells]
      simp [Builtin.append_, run_underlying ht, sizeOf, typeInfo, hi, hsrc.len, hsrc.cells, hst, hnc]
    refine wpList_plain hgd fun K hK' => ?_
    unfold Oper.wp
    simp [execOp, ho, resolve, invoke, builtin, hd, hs, hrun, Result.andThen]
    exact hK' _ _ (hK _ _ (Lib.hid (by rw [List.append_nil]; exact hrow)) (Lib.hid (grownBy_refl _ _)))
  · obtain ⟨x, rfl, hc⟩ := hm.cells (by omega)
    refine wpList_append_row2 hgd s _ T ho e i z 2 32 ht hi hz hsz hby hzc (by decide) base _ n (itCells M) hd hrow hbase x k cap (itCells K) hs (by rw [itCells_length, hk]) hc (itCells_one' K) (by unfold maxLen; omega) (by omega) ?_
    intro v' w' hr hg _
    refine hK v' w' (Lib.hid ?_) hg
    rw [itCells_append]
    exact hr.out
end Go.Proofs.YtpoibacokdjplaaDoor
