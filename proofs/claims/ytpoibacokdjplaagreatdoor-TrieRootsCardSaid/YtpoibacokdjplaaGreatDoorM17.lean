/- Parts of the proof, one behind the other: Clone, PHalves, Append, PSet. -/
import Derived.Test.YtpoibacokdjplaaGreatDoorM14
import Derived.Test.YtpoibacokdjplaaGreatDoorM6
import Derived.Test.YtpoibacokdjplaaGreatDoorM16
import Derived.Deep.RegionHeld3
import Derived.Deep.DeepCutAuto
import Derived.Test.YtpoibacokdjplaaGreatDoorM7
/- slices.Clone of items. -/
namespace Go.Proofs.YtpoibacokdjplaaGreatDoor
open Go.RowKit

theorem cloneItems_any (L : List It) (A : Option Addr) (cap : Nat) (w : World) (hl : L.length ≤ 1000000) (hm : Itms w A L) :
    Calls Tryz.prog 41 #[.slice A L.length cap] w fun e w' => ∃ A' c', e = .returned (.slice A' L.length c') ∧ Below w.heap.size w w' ∧ Row w' w.heap.size 2 (.slice A' L.length c') L.length (itCells L) := by
  have HM := Lib.hid hm
  clear hm
  cases A with
  | none =>
    obtain rfl : L = [] := by
      match L, HM with
      | [], _ => rfl
      | x :: r, HM =>
        obtain ⟨a, h, _⟩ := HM.out.at_ (show 0 < (x :: r).length by simp)
        cases h
    have hnil : ∀ u : World, (binOp .eql 22 (.slice none 0 cap) (.slice none 0 0)).run Tryz.prog u = .ok (.bool true) u := fun u => by kernel_rfl
    go_enter Tryz.func41, Tryz.ntmps41
    go_wp2
    go_ret
    exact ⟨none, 0, rfl, Below.refl _ _, Row.nil _ _ _⟩
  | some x =>
    have hnil : ∀ u : World, (binOp .eql 22 (.slice (some x) L.length cap) (.slice none 0 0)).run Tryz.prog u = .ok (.bool false) u := fun u => by kernel_rfl
    go_enter Tryz.func41, Tryz.ntmps41
    obtain ⟨i0, hi0, hz0, hz1, hz2⟩ := info_parts infoItem
    have hb0 : Below w.heap.size w (w.alloc (.cells #[] 24)) := alloc_below w _
    go_wp2_with (at_builtin; refine wpList_append_copyr rfl (.tmp 5) (.tmp 6) 22 rfl 24 Tryz.underlying22 i0 _ hi0 hz0 hz1 hz2 rfl L (some x) cap w.heap.size (by simp) w.heap.size (Nat.le_refl _) rfl rfl (HM.out.below hb0) hl ?_; intro A2 cap2 w7 hb7 hi7)
    go_wp2
    go_ret
    exact ⟨A2, cap2, rfl, hb0.trans (hb7.out.mono hb0.size), hi7.out⟩
theorem clonePart_any (L : List It) (n : Nat) (A : Option Addr) (cap : Nat) (w : World) (hn : L.length = n) (hl : n ≤ 1000000) (hm : Itms w A L) :
    Calls Tryz.prog 41 #[.slice A n cap] w fun e w' => ∃ A' c', e = .returned (.slice A' n c') ∧ Below w.heap.size w w' ∧ Row w' w.heap.size 2 (.slice A' n c') n (itCells L) := by
  subst hn
  exact cloneItems_any L A cap w hl hm
end Go.Proofs.YtpoibacokdjplaaGreatDoor
/- The program's Halves: the library's search, and two copies. -/
namespace Go.Proofs.YtpoibacokdjplaaGreatDoor
open Go.RowKit

set_option maxRecDepth 100000 in
theorem tHalf1_any (L : List It) (A : Option Addr) (cap k d pb db : Nat) (w : World) (hk : k < L.length) (_hl : L.length ≤ 1000000) (hm : Itms w A L) (h16 : ∀ x ∈ L, x.1.size = 16) (hd : d < 128)
    (hp : w.cell? ⟨pb, 0, none⟩ = some (.slice A L.length cap)) (hi : w.cell? ⟨db, 0, none⟩ = some (.int .i64 (d : Int))) :
    Calls Tryz.prog 39 #[.int .i64 (k : Int), .pointer (some ⟨pb, 0, none⟩), .pointer (some ⟨db, 0, none⟩)] w fun e w' => e = .returned (.bool (decide (bitI (itAt L k) d = 1))) ∧ Below w.heap.size w w' := by
  obtain ⟨a, rfl, _, c0, _⟩ := hm.at_ hk
  have hx := h16 _ (itAt_mem hk)
  have hb2 := bitOf_lt (itAt L k).1.data.toList d
  have hkl : (k : Int) < (L.length : Int) := by omega
  have he : bitI (itAt L k) d = bitOf (itAt L k).1.data.toList d := rfl
  rw [he]
  clear he
  generalize itAt L k = x at c0 hx hb2
  obtain ⟨b, hb⟩ : ∃ b, bitOf x.1.data.toList d = b := ⟨_, rfl⟩
  rw [hb] at hb2 ⊢
  have HC := Lib.hid (show ∀ u, Calls Tryz.prog 40 #[.string x.1, .int .i64 (d : Int)] u fun e w' => e = .returned (.int .i64 (b : Int)) ∧ w' = u from fun u => by have := tBit_any x.1 d u hx hd; rwa [hb] at this)
  clear hm h16 hx hb
  go_enter Tryz.func39, Tryz.ntmps39
  go_wp2_with fail
  rcases (show b = 0 ∨ b = 1 by omega) with rfl | rfl
  all_goals
    clear hb2
    go_quiet ((go_at_call 40; exact Calls.quiet_of_same (HC.out _)))
    go_wp2
    go_ret
    exact ⟨rfl, below_drew (Below.refl _ _) _⟩
set_option maxRecDepth 100000 in
theorem tSearch_any (L : List It) (A : Option Addr) (cap d pb db : Nat) (w : World) (hl : L.length ≤ 1000000) (hm : Itms w A L) (hs : L.Pairwise ltI) (hap : Apart L d) (hd : d < 128)
    (hp : w.cell? ⟨pb, 0, none⟩ = some (.slice A L.length cap)) (hi : w.cell? ⟨db, 0, none⟩ = some (.int .i64 (d : Int))) :
    Calls Tryz.prog 38 #[.int .i64 (L.length : Int), .func (.func 39) #[] #[.pointer (some ⟨pb, 0, none⟩), .pointer (some ⟨db, 0, none⟩)]] w fun e w' => Below w.heap.size w w' ∧ ∃ r : Nat, r ≤ L.length ∧ e = .returned (.int .i64 (r : Int)) ∧ half L d 0 = L.take r ∧ half L d 1 = L.drop r := by
  have HM := Lib.hid hm
  have HS := Lib.hid hs
  have HAP := Lib.hid hap
  have HP := Lib.hid hp
  have HI := Lib.hid hi
  clear hm hs hap hp hi
  go_enter Tryz.func38, Tryz.ntmps38
  go_wp2
  go_loopw [5, 6] (fun i j wr => ∃ p q : Nat, p ≤ q ∧ q ≤ L.length ∧ i = .int .i64 (p : Int) ∧ j = .int .i64 (q : Int) ∧ (∀ m, m < p → m < L.length → bitI (itAt L m) d ≠ 1) ∧ (∀ m, q ≤ m → m < L.length → bitI (itAt L m) d = 1) ∧ Below w.heap.size w wr) (fun i j _ => (intOf j).toNat - (intOf i).toNat)
  case atStart => exact ⟨0, L.length, by omega, by omega, rfl, rfl, fun m hm => by omega, fun m h1 h2 => by omega, Below.refl _ _⟩
  case round =>
    obtain ⟨p, q, hpq, hq, rfl, rfl, h0, h1, hb⟩ := hrel
    have H0 := Lib.hid h0
    have H1 := Lib.hid h1
    have HB := Lib.hid hb
    clear h0 h1 hb
    by_cases hlt : p < q
    · obtain ⟨h, hh⟩ : ∃ h, (p + q) / 2 = h := ⟨_, rfl⟩
      have hph : p ≤ h := by omega
      have hhq : h < q := by omega
      have HV := Lib.hid (show ((p : Int) + (q : Int)) / 2 = (h : Int) by omega)
      clear hh
      go_wp2_with fail
      rw [HV.out]
      refine (tHalf1_any L A cap h d pb db _ (by omega) hl (HM.out.below HB.out) HAP.out.1 hd ((HB.out.cell (block_lt_of_cell HP.out)).trans HP.out) ((HB.out.cell (block_lt_of_cell HI.out)).trans HI.out)).mono ?_
      rintro e w1 ⟨rfl, hb1⟩
      have HB1 := Lib.hid (HB.out.trans (hb1.mono HB.out.size))
      clear hb1 HV
      by_cases hbit : bitI (itAt L h) d = 1
      · rw [decide_eq_true hbit]
        have HH := Lib.hid (show ∀ m, h ≤ m → m < L.length → bitI (itAt L m) d = 1 from fun m h1 h2 => bit_mono HS.out HAP.out hd h1 h2 hbit)
        clear hbit
        go_wp2
        go_roundw
        case rel => exact ⟨p, h, hph, by omega, rfl, rfl, H0.out, HH.out, HB1.out⟩
        case measure => simp [intOf]; omega
      · rw [decide_eq_false hbit]
        have HH := Lib.hid (show ∀ m, m < h + 1 → m < L.length → bitI (itAt L m) d ≠ 1 from fun m h1 h2 h3 => hbit (bit_mono HS.out HAP.out hd (show m ≤ h by omega) (by omega) h3))
        clear hbit
        go_wp2
        go_roundw
        case rel => exact ⟨h + 1, q, by omega, hq, by go_num, rfl, HH.out, H1.out, HB1.out⟩
        case measure => simp [intOf]; omega
    · have hpq' : p = q := by omega
      subst hpq'
      have HC := Lib.hid (half_cut H0.out H1.out)
      clear hlt
      go_wp2
      go_ret
      exact ⟨HB.out, p, hq, rfl, HC.out⟩
set_option maxRecDepth 100000 in
theorem tHalves_row (L : List It) (A : Option Addr) (cap d : Nat) (w : World) (hl : L.length ≤ 1000000) (hcap : L.length ≤ cap) (hm : Itms w A L) (hs : L.Pairwise ltI) (hap : Apart L d) (hd : d < 128) :
    Calls Tryz.prog 19 #[.slice A L.length cap, .int .i64 (d : Int)] w fun e w' => ∃ A0 c0 A1 c1, e = .returned (.tuple #[.slice A0 (half L d 0).length c0, .slice A1 (half L d 1).length c1]) ∧ Below w.heap.size w w' ∧ Row w' w.heap.size 2 (.slice A0 (half L d 0).length c0) (half L d 0).length (itCells (half L d 0)) ∧ Row w' w.heap.size 2 (.slice A1 (half L d 1).length c1) (half L d 1).length (itCells (half L d 1)) := by
  have HM := Lib.hid hm
  have HS := Lib.hid hs
  have HAP := Lib.hid hap
  clear hm hs hap
  go_enter Tryz.func19, Tryz.ntmps19
  go_wp2_with fail
  have hb0 : Below w.heap.size w ((w.alloc (.cells #[.slice A L.length cap] 22)).alloc (.cells #[.int .i64 (d : Int)] 3)) := (alloc_below w _).alloc (by simp) _
  have hp0 : ((w.alloc (.cells #[.slice A L.length cap] 22)).alloc (.cells #[.int .i64 (d : Int)] 3)).cell? ⟨w.heap.size, 0, none⟩ = some (.slice A L.length cap) :=
    ((alloc_below (w.alloc (.cells #[.slice A L.length cap] 22)) (.cells #[.int .i64 (d : Int)] 3)).cell (p := ⟨w.heap.size, 0, none⟩) (by show w.heap.size < _; simp)).trans (cell_of_row _ w.heap.size 0 _ 22 (0, 0) (heap_alloc_new _ _))
  have hi0 : ((w.alloc (.cells #[.slice A L.length cap] 22)).alloc (.cells #[.int .i64 (d : Int)] 3)).cell? ⟨w.heap.size + 1, 0, none⟩ = some (.int .i64 (d : Int)) := by
    have e : w.heap.size + 1 = (w.alloc (.cells #[.slice A L.length cap] 22)).heap.size := by simp
    rw [e]
    exact cell_of_row _ _ 0 _ 3 (0, 0) (heap_alloc_new _ _)
  have HB0 := Lib.hid hb0
  have HP0 := Lib.hid hp0
  have HI0 := Lib.hid hi0
  clear hb0 hp0 hi0
  generalize (w.alloc (.cells #[.slice A L.length cap] 22)).alloc (.cells #[.int .i64 (d : Int)] 3) = w0 at HB0 HP0 HI0
  refine (tSearch_any L A cap d w.heap.size (w.heap.size + 1) _ hl (HM.out.below HB0.out) HS.out HAP.out hd HP0.out HI0.out).mono ?_
  rintro e w1 ⟨hb1, r, hr, rfl, h0, h1⟩
  have HB1 := Lib.hid (HB0.out.trans (hb1.mono HB0.out.size))
  have hp1 : w1.cell? ⟨w.heap.size, 0, none⟩ = some (.slice A L.length cap) := (hb1.cell (block_lt_of_cell HP0.out)).trans HP0.out
  have hN1 : w.heap.size < w1.heap.size := block_lt_of_cell hp1
  have hto := it_to A L.length cap r (by omega)
  have hfrom := it_from A L.length cap r hr
  have hdr := (HM.out.below HB1.out).drop (r := r) hcap
  have htk := (HM.out.below HB1.out).take r
  have hdl : (L.drop r).length = L.length - r := List.length_drop
  have htl : (L.take r).length = r := by rw [List.length_take]; omega
  generalize partAt A cap r = B at hfrom hdr
  obtain ⟨s, hse⟩ : ∃ s, L.length - r = s := ⟨_, rfl⟩
  obtain ⟨c2, hc2⟩ : ∃ c2, cap - r = c2 := ⟨_, rfl⟩
  have hsl : s ≤ 1000000 := by omega
  rw [hse, hc2] at hfrom
  rw [hse] at hdl
  have H0 := Lib.hid h0
  have H1 := Lib.hid h1
  have HTL := Lib.hid htl
  have HDL := Lib.hid hdl
  have HTO := Lib.hid hto
  have HFROM := Lib.hid hfrom
  have HTK := Lib.hid htk
  have HDR := Lib.hid hdr
  have HS0 := Lib.hid (show w1.cell? ⟨w.heap.size, 0, none⟩ = some (.slice A L.length cap) ∧ Below w1.heap.size w1 w1.drew from ⟨hp1, (Below.refl _ _).drew⟩)
  have HKEEP := Lib.hid (show ∀ u v : World, (u.cell? ⟨w.heap.size, 0, none⟩ = some (.slice A L.length cap) ∧ Below w1.heap.size w1 u) → Below u.heap.size u v → (v.cell? ⟨w.heap.size, 0, none⟩ = some (.slice A L.length cap) ∧ Below w1.heap.size w1 v) from
    fun u v ⟨h0, hb⟩ hv => ⟨(hv.cell (Nat.lt_of_lt_of_le hN1 hb.size)).trans h0, hb.trans (hv.mono hb.size)⟩)
  have HC0 := Lib.hid (show ∀ u : World, (u.cell? ⟨w.heap.size, 0, none⟩ = some (.slice A L.length cap) ∧ Below w1.heap.size w1 u) → Calls Tryz.prog 41 #[.slice A r cap] u fun e w' => ∃ A' c', e = .returned (.slice A' r c') ∧ Below u.heap.size u w' ∧ Row w' u.heap.size 2 (.slice A' r c') r (itCells (L.take r)) from
    fun u hu => clonePart_any (L.take r) r A cap u HTL.out (by omega) (HTK.out.below hu.2))
  have HC1 := Lib.hid (show ∀ u : World, (u.cell? ⟨w.heap.size, 0, none⟩ = some (.slice A L.length cap) ∧ Below w1.heap.size w1 u) → Calls Tryz.prog 41 #[.slice B s c2] u fun e w' => ∃ A' c', e = .returned (.slice A' s c') ∧ Below u.heap.size u w' ∧ Row w' u.heap.size 2 (.slice A' s c') s (itCells (L.drop r)) from
    fun u hu => clonePart_any (L.drop r) s B c2 u HDL.out hsl (HDR.out.below hu.2))
  clear hb1 h0 h1 hto hfrom htk hdr hdl htl hse hc2 hcap
  have hto := HTO.out
  have hfrom := HFROM.out
  go_wp2_with fail
  go_region_held3 (fun w' => w'.cell? ⟨w.heap.size, 0, none⟩ = some (.slice A L.length cap) ∧ Below w1.heap.size w1 w')
    (first | exact HS0.out | (refine HKEEP.out _ _ ?_ (by assumption); first | exact HS0.out | assumption | exact ⟨by assumption, by assumption⟩))
    (first | (go_at_call 41; refine (HC0.out _ (by first | exact HS0.out | assumption)).mono ?_; rintro e w8 ⟨A3, c3, rfl, hb8, hi8⟩) | (go_at_call 41; refine (HC1.out _ (by first | exact HS0.out | assumption)).mono ?_; rintro e w9 ⟨A4, c4, rfl, hb9, hi9⟩))
  rename_i hheld
  have HB2 := Lib.hid (HB1.out.trans (hheld.2.mono HB1.out.size))
  have HI8 := Lib.hid ((hi8.belowAll hb9).mono HB1.out.size)
  have HI9 := Lib.hid (hi9.mono (Nat.le_trans HB1.out.size hb8.size))
  clear hheld hb8 hb9 hi8 hi9 hto hfrom
  go_wp2
  refine bodyPost_ret (results_tmp2 rfl _ _ _) rfl ?_
  refine ⟨A3, c3, A4, c4, ?_, HB2.out, ?_, ?_⟩
  · rw [H0.out, H1.out, HTL.out, HDL.out]; rfl
  · rw [H0.out, HTL.out]; exact HI8.out
  · rw [H1.out, HDL.out]; exact HI9.out
theorem Row.cap {w : World} {base size n c : Nat} {p : Option Addr} {xs : List Value} (h : Row w base size (.slice p n c) n xs) : n ≤ c := by
  obtain ⟨_, hr⟩ := h
  rcases hr with ⟨hr, rfl⟩ | ⟨g, cap', hv, _, _, hle, _⟩
  · exact Nat.zero_le _
  · injection hv with _ _ e3
    omega
theorem Row.items {w : World} {base n c : Nat} {p : Option Addr} {L : List It} (h : Row w base 2 (.slice p n c) n (itCells L)) : Itms w p L := by
  obtain ⟨_, A', c', hv, hit⟩ := h.itms
  injection hv with e1 _ _
  subst e1
  exact hit
theorem tHalves_any (L : List It) (A : Option Addr) (cap d : Nat) (w : World) (hl : L.length ≤ 1000000) (hcap : L.length ≤ cap) (hm : Itms w A L) (hs : L.Pairwise ltI) (hap : Apart L d) (hd : d < 128) :
    Calls Tryz.prog 19 #[.slice A L.length cap, .int .i64 (d : Int)] w fun e w' => ∃ A0 c0 A1 c1, e = .returned (.tuple #[.slice A0 (half L d 0).length c0, .slice A1 (half L d 1).length c1]) ∧ Below w.heap.size w w' ∧ Itms w' A0 (half L d 0) ∧ Itms w' A1 (half L d 1) ∧ (half L d 0).length ≤ c0 ∧ (half L d 1).length ≤ c1 :=
  (tHalves_row L A cap d w hl hcap hm hs hap hd).mono fun _ _ ⟨A0, c0, A1, c1, he, hb, h0, h1⟩ => ⟨A0, c0, A1, c1, he, hb, h0.items, h1.items, h0.cap, h1.cap⟩
end Go.Proofs.YtpoibacokdjplaaGreatDoor
/- append onto a row of items: many, that lie somewhere. -/
namespace Go.Proofs.YtpoibacokdjplaaGreatDoor
open Go.RowKit

theorem grownBy_refl (w : World) (g : Option Nat) : w.grownBy w g := ⟨rfl, rfl, rfl, Nat.le_refl _, fun _ _ _ => rfl⟩
theorem wpList_append_items {P : Program} {ops : Array Oper} {rest : List Oper} {o : Oper} {a : Act} {w : World} {Q : Exit → Act → World → Prop} (hgd : o.guard = none) (s x : Operand) (T : TypeId)
    (ho : o.op = .call { callee := .builtin .append, args := #[s, x], argTypes := #[T, T] }) (e : TypeId) (ht : P.underlying T = some (.slice e)) (i : TypeInfo) (z : Value) (hi : P.info? e = some i) (hz : i.zero = some z) (hsz : i.size = 2) (hby : i.bytes = 32) (hzc : z.cells.size = 2)
    (base n : Nat) (M : List It) (hml : M.length = n) (b0 : Addr) (c0 : Nat) (hd : a.eval s = .slice (some b0) n c0) (hrow : Row w base 2 (.slice (some b0) n c0) n (itCells M)) (hbase : base ≤ w.heap.size) (hn : n ≤ 1000000)
    (K : List It) (k : Nat) (hk : K.length = k) (A : Option Addr) (cap : Nat) (hs : a.eval x = .slice A k cap) (hm : Itms w A K) (hkl : k ≤ 1000000)
    (hK : ∀ v' w', Hid (Row w' base 2 v' (n + k) (itCells (M ++ K))) → Hid (w.grownBy w' (Value.slice (some b0) n c0).ownBlock) → wpList P ops Q rest (a.put o.dst v') w') : wpList P ops Q (o :: rest) a w := by
  by_cases h0 : k = 0
  · subst h0
    obtain rfl := List.eq_nil_of_length_eq_zero hk
    have hnc : n ≤ c0 := by
      obtain ⟨_, hr⟩ := hrow
      rcases hr with ⟨hr, _⟩ | ⟨g, cap', hv, _, _, hle, _⟩
      · cases hr
      · injection hv with _ _ e3
        omega
    have hsrc : ∃ news, Src P i.size T (.slice A 0 cap) 0 news w := by
      cases A with
      | none => exact ⟨[], Src.ofNil w ht cap⟩
      | some x => exact ⟨[], Src.ofSlice w ht x 0 cap [] (by simp) (fun j u h => by simp at h) (fun u h => by cases h)⟩
    obtain ⟨news, hsrc⟩ := hsrc
    have hnl : news = [] := List.eq_nil_of_length_eq_zero (by simpa using hsrc.newsLen)
    subst hnl
    have hk1 : ∃ e', P.underlying T = some (.slice e') := ⟨e, ht⟩
    have hrun : (Builtin.append_ #[T, T] o.type #[.slice (some b0) n c0, .slice A 0 cap]).run P w = .ok (.slice (some b0) n c0) w := by
      have hst : ∀ a : Addr, (storeCells a []).run P w = .ok () w := fun a => by simp [storeCells]
      simp [Builtin.append_, run_underlying ht, sizeOf, typeInfo, hi, hsrc.len, hsrc.cells, hst, hnc]
    refine wpList_plain hgd fun K hK' => ?_
    unfold Oper.wp
    simp [execOp, ho, resolve, invoke, builtin, hd, hs, hrun, Result.andThen]
    exact hK' _ _ (hK _ _ (Lib.hid (by rw [List.append_nil]; exact hrow)) (Lib.hid (grownBy_refl _ _)))
  · obtain ⟨x, rfl, hc⟩ := hm.cells (by omega)
    refine wpList_append_row2 hgd s _ T ho e i z 2 32 ht hi hz hsz hby hzc (by decide) base _ n (itCells M) hd hrow hbase x k cap (itCells K) hs (by rw [itCells_length, hk]) hc (itCells_one' K) (by unfold maxLen; omega) (by omega) ?_
    intro v' w' hr hg _
    refine hK v' w' (Lib.hid ?_) hg
    rw [itCells_append]
    exact hr.out
end Go.Proofs.YtpoibacokdjplaaGreatDoor
/- The program's Set. -/
namespace Go.Proofs.YtpoibacokdjplaaGreatDoor
open Go.RowKit

theorem row_one {w : World} {base p : Nat} {v : Value} {L : List It} {x : It} (h : Row w base 2 v (L.take p ++ [x]).length (itCells (L.take p ++ [x]))) (hp : p ≤ L.length) :
    ∃ g c, v = .slice (some ⟨g, 0, none⟩) (p + 1) c ∧ Hid (Row w base 2 (.slice (some ⟨g, 0, none⟩) (p + 1) c) (p + 1) (itCells (L.take p ++ [x]))) := by
  have e : (L.take p ++ [x]).length = p + 1 := by simp; omega
  rw [e] at h
  obtain ⟨g, c, rfl, _⟩ := h.shape (by omega)
  exact ⟨g, c, rfl, Lib.hid h⟩
set_option maxRecDepth 100000 in
theorem tSet_is (L : List It) (A : Option Addr) (cap : Nat) (x : It) (T : List It) (n : Int) (w : World) (hl : L.length ≤ 1000000) (hc : L.length ≤ cap) (hm : Itms w A L) (h : setOf L x = (T, n)) :
    Calls Tryz.prog 22 #[.slice A L.length cap, .agg #[.string x.1, .string x.2]] w fun e w' => ∃ A' c', e = .returned (.tuple #[.slice A' T.length c', errOf n]) ∧ Below w.heap.size w w' ∧ Itms w' A' T ∧ T.length ≤ c' := by
  have HM := Lib.hid hm
  have HCAP := Lib.hid hc
  clear hm hc
  unfold setOf at h
  have hb0 := alloc_below w (.cells #[.string x.1, .string x.2] 24)
  have HB0 := Lib.hid hb0
  have HX0 := Lib.hid (show Holds (w.alloc (.cells #[.string x.1, .string x.2] 24)) w.heap.size 2 (fun i => if i = 0 then .string x.1 else .string x.2) 24 from Holds.new w 2 (fun i => if i = 0 then .string x.1 else .string x.2) 24)
  clear hb0
  by_cases hk : rightItems L = true
  · have HK := Lib.hid hk
    by_cases hx : rightItems [x] = true
    · rw [if_pos ⟨hk, hx⟩] at h
      have HXR := Lib.hid hx
      have HRISE := Lib.hid (right_sorted hk)
      have hl60 := right_length hk
      clear hk hx
      have HSET := Lib.hid h
      clear h
      go_enter Tryz.func22, Tryz.ntmps22
      go_wp2_with fail
      refine (tRight_any L A cap _ hl (HM.out.below HB0.out)).mono ?_
      rintro e w1 ⟨rfl, hb1⟩
      rw [HK.out]
      have HB1 := Lib.hid (HB0.out.trans (hb1.mono HB0.out.size))
      have HX1 := Lib.hid (HX0.out.below hb1 HX0.out.lt)
      clear hb1
      have x0 : w1.cell? ⟨w.heap.size, 0, none⟩ = some (.string x.1) := HX1.out.cell 0 (by omega)
      have x1 : w1.cell? ⟨w.heap.size, 1, none⟩ = some (.string x.2) := HX1.out.cell 1 (by omega)
      go_wp2_with fail
      clear x0 x1
      refine (tRight_any [x] (some ⟨w1.heap.size, 0, none⟩) 1 _ (by simp) (one_item x w1 24)).mono ?_
      rintro e w2 ⟨rfl, hb2⟩
      rw [HXR.out]
      have HB2 := Lib.hid (HB1.out.trans ((alloc_below w1 (.cells #[.string x.1, .string x.2] 24)).mono HB1.out.size |>.trans (hb2.mono (Nat.le_trans HB1.out.size (by simp)))))
      have HX2 := Lib.hid ((HX1.out.alloc (.cells #[.string x.1, .string x.2] 24)).below hb2 (by have := HX1.out.lt; simp; omega))
      clear hb2
      have x0 : w2.cell? ⟨w.heap.size, 0, none⟩ = some (.string x.1) := HX2.out.cell 0 (by omega)
      have x1 : w2.cell? ⟨w.heap.size, 1, none⟩ = some (.string x.2) := HX2.out.cell 1 (by omega)
      go_wp2_with fail
      clear x0 x1
      refine (tSeek_any L A cap x _ hl (HM.out.below HB2.out) HRISE.out).mono ?_
      rintro e w3 ⟨hb3, ⟨p, b⟩, hof, rfl⟩
      have HB3 := Lib.hid (HB2.out.trans (hb3.mono HB2.out.size))
      have HX3 := Lib.hid (HX2.out.below hb3 HX2.out.lt)
      have HOF := Lib.hid hof
      have hpl : p ≤ L.length := hof.le
      clear hb3 hof
      cases b with
      | true =>
        obtain ⟨hpn, hpe⟩ := HOF.out.there rfl
        have hpn' : p < L.length := hpn
        obtain ⟨hol, hins⟩ := set_there HRISE.out hpn hpe
        have HINS := Lib.hid (show T = L.take p ++ x :: L.drop (p + 1) ∧ n = 0 by
          have h := HSET.out
          rw [if_neg (by omega)] at h
          cases h
          exact ⟨hins.symm, rfl⟩)
        clear hol hins HSET hpe hpn
        have hto := it_to A L.length cap p (by have := HCAP.out; omega)
        have hf1 := it_from A L.length cap p hpl
        have hdr := fun u (hu : Itms u A L) => hu.drop (r := p) HCAP.out
        have hpc : (L.drop p).length ≤ cap - p := by rw [List.length_drop]; have := HCAP.out; omega
        generalize partAt A cap p = B at hf1 hdr
        obtain ⟨s, hse⟩ : ∃ s, L.length - p = s := ⟨_, rfl⟩
        obtain ⟨c2, hc2⟩ : ∃ c2, cap - p = c2 := ⟨_, rfl⟩
        rw [hse, hc2] at hf1
        rw [hc2] at hpc
        have hf2 : ∀ u : World, (Instr.sliceAt 22 (.slice B s c2) (some (.int .i64 1)) none none).run Tryz.prog u = .ok (.slice (partAt B c2 1) (s - 1) (c2 - 1)) u := fun u => it_from B s c2 1 (by omega) u
        have HDR := Lib.hid (show ∀ u, Itms u A L → Itms u (partAt B c2 1) (L.drop (p + 1)) from fun u hu => by
          have := (hdr u hu).drop (r := 1) hpc
          rwa [List.drop_drop] at this)
        have HDL := Lib.hid (show (L.drop (p + 1)).length = s - 1 by rw [List.length_drop]; omega)
        have hsl : s - 1 ≤ 60 := by omega
        clear hdr hpc hse hc2
        generalize partAt B c2 1 = D at hf2 HDR
        generalize s - 1 = s2 at hf2 HDL hsl
        generalize c2 - 1 = c3 at hf2
        obtain ⟨i0, hi0, hz0, hz1, hz2⟩ := info_parts infoItem
        have HI0 := Lib.hid hi0
        clear hi0
        have hl60i : (L.length : Int) ≤ 60 := by omega
        have HBX := Lib.hid HX3.out.lt
        go_wp2_with (first
          | (at_make; refine wpList_make_own _ rfl (.const (.int .i64 0)) (.tmp 39) 22 rfl (w.heap.size + 1) 24 i0 (.agg #[.string ⟨#[]⟩, .string ⟨#[]⟩]) 2 Tryz.underlying22 HI0.out hz0 hz1 .i64 .i64 ((L.length : Int) + 1) (L.length + 1) rfl rfl (by omega) (by rw [hz2]; omega) (by unfold maxLen; omega) HBX.out ?_; intro w4 hown4 hg4; have R4 := Lib.hid (Row.of_owns hown4); have HX4 := Lib.hid (grownBy.holds hg4 HX3.out (fun h => by cases h)); have HB4 := Lib.hid (HB3.out.trans (grownBy.below hg4 HB3.out.size (fun k h => by cases h))); clear hown4 hg4)
          | (at_builtin; refine wpList_append_items rfl (.tmp 41) (.tmp 44) 22 rfl 24 Tryz.underlying22 i0 _ HI0.out hz0 hz1 hz2 rfl (w.heap.size + 1) 0 [] rfl _ _ rfl R4.out HX4.out.lt (by omega) (L.take p) p (by rw [List.length_take]; omega) A cap rfl ((HM.out.below HB4.out).take p) (by omega) ?_; intro v5 w5 hr5 hg5; obtain ⟨p5, c5, rfl⟩ := hr5.out.any; have R5 := Lib.hid (show Row w5 (w.heap.size + 1) 2 (.slice p5 p c5) (L.take p).length (itCells (L.take p)) by have := hr5.out; rw [List.nil_append, Nat.zero_add] at this; rw [List.length_take, Nat.min_eq_left hpl]; exact this); have HX5 := Lib.hid (grownBy.holds hg5.out HX4.out (R4.out.fresh (Nat.lt_succ_self _))); have HB5 := Lib.hid (grown_below HB4.out R4.out hg5.out (Nat.le_succ _) HB4.out.size); clear hr5 hg5; have x50 : w5.cell? ⟨w.heap.size, 0, none⟩ = some (.string x.1) := HX5.out.cell 0 (by omega); have x51 : w5.cell? ⟨w.heap.size, 1, none⟩ = some (.string x.2) := HX5.out.cell 1 (by omega))
          | (at_builtin; refine wpList_append_item rfl (.tmp 46) (.tmp 48) 22 rfl 24 Tryz.underlying22 _ 32 infoItem rfl (by decide) (w.heap.size + 1) (.slice p5 p c5) (L.take p) rfl (R5.out.alloc _) (by have := HX5.out.lt; simp; omega) (by have := List.length_take_le p L; omega) x w5.heap.size rfl 24 (heap_alloc_new _ _) ?_; intro v6 w6 hr6 hg6 _; obtain ⟨g6, c6, r6, R6⟩ := row_one hr6.out hpl; subst r6; have HZ6 := Lib.hid (show w.heap.size + 1 ≤ w6.heap.size from Nat.le_trans (Nat.le_trans (show w.heap.size + 1 ≤ w5.heap.size from HX5.out.lt) (by simp)) hg6.out.size); have HB6 := Lib.hid (grown_below (HB5.out.alloc HB5.out.size _) (R5.out.alloc _) hg6.out (Nat.le_succ _) (by have := HB5.out.size; simp; omega)); clear hr6 hg6 x50 x51)
          | (at_builtin; refine wpList_append_items rfl (.tmp 50) (.tmp 51) 22 rfl 24 Tryz.underlying22 i0 _ HI0.out hz0 hz1 hz2 rfl (w.heap.size + 1) (p + 1) (L.take p ++ [x]) (by simp; omega) _ _ rfl R6.out HZ6.out (by omega) (L.drop (p + 1)) s2 HDL.out D c3 rfl (HDR.out _ (HM.out.below HB6.out)) (by omega) ?_; intro v7 w7 hr7 hg7; obtain ⟨p7, c7, rfl⟩ := hr7.out.any; have HB7 := Lib.hid (grown_below HB6.out R6.out hg7.out (Nat.le_succ _) HB6.out.size); clear hg7))
        refine bodyPost_ret (results_tmp2 rfl _ _ _) rfl ?_
        obtain ⟨hT, rfl⟩ := HINS.out
        have hT2 : L.take p ++ [x] ++ L.drop (p + 1) = T := by rw [hT]; simp
        have r7 := hr7.out
        rw [hT2] at r7
        obtain ⟨ht, A', c', hv, hit⟩ := r7.itms
        have hcap := r7.cap
        injection hv with e1 _ e3
        subst e1 e3
        refine ⟨p7, c7, ?_, HB7.out, hit, ?_⟩
        · rw [← ht]; rfl
        · rw [← ht]; exact hcap
      | false =>
        have hnew := set_new HRISE.out HOF.out.low (HOF.out.high rfl)
        obtain ⟨hol, hins⟩ := hnew
        have hol' : (others L x).length = L.length := by rw [hol]
        by_cases h60 : L.length = 60
        · have HINS := Lib.hid (show T = [] ∧ n = 12 by
            have h := HSET.out
            rw [if_pos ⟨hol', by omega⟩] at h
            cases h
            exact ⟨rfl, rfl⟩)
          have h60i : ((L.length : Int) == 60) = true := by rw [beq_iff_eq]; omega
          clear hol hol' hins HSET
          have hf1 := it_from A L.length cap p hpl
          obtain ⟨B, hBe⟩ : ∃ B, partAt A cap p = B := ⟨_, rfl⟩
          rw [hBe] at hf1
          clear h60 hBe
          generalize L.length - p = s at hf1
          generalize cap - p = c2 at hf1
          go_wp2
          refine bodyPost_ret (results_tmp2 rfl _ _ _) rfl ?_
          obtain ⟨rfl, rfl⟩ := HINS.out
          exact ⟨none, 0, rfl, HB3.out, Itms.nil _ _, Nat.le_refl 0⟩
        · have HINS := Lib.hid (show T = L.take p ++ x :: L.drop p ∧ n = 0 by
            have h := HSET.out
            rw [if_neg (by omega)] at h
            cases h
            exact ⟨hins.symm, rfl⟩)
          have h60i : ((L.length : Int) == 60) = false := by rw [beq_eq_false_iff_ne]; omega
          clear hol hol' hins HSET
          have hto := it_to A L.length cap p (by have := HCAP.out; omega)
          have hf1 := it_from A L.length cap p hpl
          have hdr := fun u (hu : Itms u A L) => hu.drop (r := p) HCAP.out
          have hdl : (L.drop p).length = L.length - p := List.length_drop
          obtain ⟨B, hBe⟩ : ∃ B, partAt A cap p = B := ⟨_, rfl⟩
          rw [hBe] at hf1 hdr
          have hsl : L.length - p ≤ 60 := by omega
          have HDR := Lib.hid hdr
          have HDL := Lib.hid hdl
          clear hdr hdl hBe h60
          generalize L.length - p = s at hf1 HDL hsl
          generalize cap - p = c2 at hf1
          obtain ⟨i0, hi0, hz0, hz1, hz2⟩ := info_parts infoItem
          have HI0 := Lib.hid hi0
          clear hi0
          have hl60i : (L.length : Int) ≤ 60 := by omega
          have HBX := Lib.hid HX3.out.lt
          go_wp2_with (first
            | (at_make; refine wpList_make_own _ rfl (.const (.int .i64 0)) (.tmp 39) 22 rfl (w.heap.size + 1) 24 i0 (.agg #[.string ⟨#[]⟩, .string ⟨#[]⟩]) 2 Tryz.underlying22 HI0.out hz0 hz1 .i64 .i64 ((L.length : Int) + 1) (L.length + 1) rfl rfl (by omega) (by rw [hz2]; omega) (by unfold maxLen; omega) HBX.out ?_; intro w4 hown4 hg4; have R4 := Lib.hid (Row.of_owns hown4); have HX4 := Lib.hid (grownBy.holds hg4 HX3.out (fun h => by cases h)); have HB4 := Lib.hid (HB3.out.trans (grownBy.below hg4 HB3.out.size (fun k h => by cases h))); clear hown4 hg4)
            | (at_builtin; refine wpList_append_items rfl (.tmp 41) (.tmp 44) 22 rfl 24 Tryz.underlying22 i0 _ HI0.out hz0 hz1 hz2 rfl (w.heap.size + 1) 0 [] rfl _ _ rfl R4.out HX4.out.lt (by omega) (L.take p) p (by rw [List.length_take]; omega) A cap rfl ((HM.out.below HB4.out).take p) (by omega) ?_; intro v5 w5 hr5 hg5; obtain ⟨p5, c5, rfl⟩ := hr5.out.any; have R5 := Lib.hid (show Row w5 (w.heap.size + 1) 2 (.slice p5 p c5) (L.take p).length (itCells (L.take p)) by have := hr5.out; rw [List.nil_append, Nat.zero_add] at this; rw [List.length_take, Nat.min_eq_left hpl]; exact this); have HX5 := Lib.hid (grownBy.holds hg5.out HX4.out (R4.out.fresh (Nat.lt_succ_self _))); have HB5 := Lib.hid (grown_below HB4.out R4.out hg5.out (Nat.le_succ _) HB4.out.size); clear hr5 hg5; have x50 : w5.cell? ⟨w.heap.size, 0, none⟩ = some (.string x.1) := HX5.out.cell 0 (by omega); have x51 : w5.cell? ⟨w.heap.size, 1, none⟩ = some (.string x.2) := HX5.out.cell 1 (by omega))
            | (at_builtin; refine wpList_append_item rfl (.tmp 46) (.tmp 48) 22 rfl 24 Tryz.underlying22 _ 32 infoItem rfl (by decide) (w.heap.size + 1) (.slice p5 p c5) (L.take p) rfl (R5.out.alloc _) (by have := HX5.out.lt; simp; omega) (by have := List.length_take_le p L; omega) x w5.heap.size rfl 24 (heap_alloc_new _ _) ?_; intro v6 w6 hr6 hg6 _; obtain ⟨g6, c6, r6, R6⟩ := row_one hr6.out hpl; subst r6; have HZ6 := Lib.hid (show w.heap.size + 1 ≤ w6.heap.size from Nat.le_trans (Nat.le_trans (show w.heap.size + 1 ≤ w5.heap.size from HX5.out.lt) (by simp)) hg6.out.size); have HB6 := Lib.hid (grown_below (HB5.out.alloc HB5.out.size _) (R5.out.alloc _) hg6.out (Nat.le_succ _) (by have := HB5.out.size; simp; omega)); clear hr6 hg6 x50 x51)
            | (at_builtin; refine wpList_append_items rfl (.tmp 50) (.tmp 51) 22 rfl 24 Tryz.underlying22 i0 _ HI0.out hz0 hz1 hz2 rfl (w.heap.size + 1) (p + 1) (L.take p ++ [x]) (by simp; omega) _ _ rfl R6.out HZ6.out (by omega) (L.drop p) s HDL.out B c2 rfl (HDR.out _ (HM.out.below HB6.out)) (by omega) ?_; intro v7 w7 hr7 hg7; obtain ⟨p7, c7, rfl⟩ := hr7.out.any; have HB7 := Lib.hid (grown_below HB6.out R6.out hg7.out (Nat.le_succ _) HB6.out.size); clear hg7))
          refine bodyPost_ret (results_tmp2 rfl _ _ _) rfl ?_
          obtain ⟨hT, rfl⟩ := HINS.out
          have hT2 : L.take p ++ [x] ++ L.drop p = T := by rw [hT]; simp
          have r7 := hr7.out
          rw [hT2] at r7
          obtain ⟨ht, A', c', hv, hit⟩ := r7.itms
          have hcap := r7.cap
          injection hv with e1 _ e3
          subst e1 e3
          refine ⟨p7, c7, ?_, HB7.out, hit, ?_⟩
          · rw [← ht]; rfl
          · rw [← ht]; exact hcap
    · rw [if_neg (fun hh => hx hh.2)] at h
      cases h
      have HXR := Lib.hid (show rightItems [x] = false by simpa using hx)
      clear hk hx
      go_enter Tryz.func22, Tryz.ntmps22
      go_wp2_with fail
      refine (tRight_any L A cap _ hl (HM.out.below HB0.out)).mono ?_
      rintro e w1 ⟨rfl, hb1⟩
      rw [HK.out]
      have HB1 := Lib.hid (HB0.out.trans (hb1.mono HB0.out.size))
      have HX1 := Lib.hid (HX0.out.below hb1 HX0.out.lt)
      clear hb1
      have x0 : w1.cell? ⟨w.heap.size, 0, none⟩ = some (.string x.1) := HX1.out.cell 0 (by omega)
      have x1 : w1.cell? ⟨w.heap.size, 1, none⟩ = some (.string x.2) := HX1.out.cell 1 (by omega)
      go_wp2_with fail
      clear x0 x1
      refine (tRight_any [x] (some ⟨w1.heap.size, 0, none⟩) 1 _ (by simp) (one_item x w1 24)).mono ?_
      rintro e w2 ⟨rfl, hb2⟩
      rw [HXR.out]
      have HB2 := Lib.hid (HB1.out.trans ((alloc_below w1 (.cells #[.string x.1, .string x.2] 24)).mono HB1.out.size |>.trans (hb2.mono (Nat.le_trans HB1.out.size (by simp)))))
      clear hb2
      go_wp2
      refine bodyPost_ret (results_tmp2 rfl _ _ _) rfl ?_
      exact ⟨none, 0, rfl, HB2.out, Itms.nil _ _, Nat.le_refl 0⟩
  · rw [if_neg (fun hh => hk hh.1)] at h
    cases h
    have HK := Lib.hid (show rightItems L = false by simpa using hk)
    clear hk
    go_enter Tryz.func22, Tryz.ntmps22
    go_wp2_with fail
    refine (tRight_any L A cap _ hl (HM.out.below HB0.out)).mono ?_
    rintro e w1 ⟨rfl, hb1⟩
    rw [HK.out]
    have HB1 := Lib.hid (HB0.out.trans (hb1.mono HB0.out.size))
    clear hb1
    go_wp2
    refine bodyPost_ret (results_tmp2 rfl _ _ _) rfl ?_
    exact ⟨none, 0, rfl, HB1.out, Itms.nil _ _, Nat.le_refl 0⟩
end Go.Proofs.YtpoibacokdjplaaGreatDoor
