/- Parts of the proof, one behind the other: TrieLaw. -/
import Derived.Test.YtpoibacokdjplaaGreatDoorM5
import Derived.Test.YtpoibacokdjplaaGreatDoorM7
import Derived.Test.YtpoibacokdjplaaGreatDoorM11
import Derived.Test.YtpoibacokdjplaaGreatDoorM13
import Derived.Test.YtpoibacokdjplaaGreatDoorM14
import Derived.Deep.RegionHeld3
/- TrieRoots, the walk, over whatever contracts the program's trie keeps. -/
namespace Go.Proofs.YtpoibacokdjplaaGreatDoor
open Go.RowKit

/-- What the program's trie answers. -/
structure TrieFace : Prop where
  right : ∀ (L : List It) (A : Option Addr) (cap : Nat) (w : World), HasK w → L.length ≤ 1000000 → Itms w A L →
    Calls Tryz.prog 7 #[.slice A L.length cap] w fun e w' => e = .returned (.bool (rightItems L)) ∧ Below w.heap.size w w'
  empty : ∀ (d : Int) (w : World), HasK w → Calls Tryz.prog 9 #[.int .i64 d] w fun e w' => e = .returned (.string (emptyM d)) ∧ Below w.heap.size w w'
  leaf : ∀ (x : It) (d : Int) (w : World), HasK w → x.1.size ≤ 1000000 → x.2.size ≤ 1000000 →
    Calls Tryz.prog 11 #[.agg #[.string x.1, .string x.2], .int .i64 d] w fun e w' => e = .returned (.string (leafM x d)) ∧ Below w.heap.size w w'
  join : ∀ (a b : ByteArray) (w : World), HasK w → a.size ≤ 1000000 → b.size ≤ 1000000 →
    Calls Tryz.prog 13 #[.string a, .string b] w fun e w' => e = .returned (.string (joinM a b)) ∧ Below w.heap.size w w'
  root : ∀ (L : List It) (A : Option Addr) (cap : Nat) (x : ByteArray) (n : Int) (w : World), HasK w → L.length ≤ 1000000 → L.length ≤ cap → Itms w A L → rootAns L = (x, n) →
    Calls Tryz.prog 16 #[.slice A L.length cap] w fun e w' => e = .returned (.tuple #[.string x, errOf n]) ∧ Below w.heap.size w w'
  halves : ∀ (L : List It) (A : Option Addr) (cap : Nat) (w : World), HasK w → rightItems L = true → L.length ≤ cap → Itms w A L →
    Calls Tryz.prog 19 #[.slice A L.length cap, .int .i64 0] w fun e w' => ∃ A0 c0 A1 c1, e = .returned (.tuple #[.slice A0 (half L 0 0).length c0, .slice A1 (half L 0 1).length c1]) ∧ Below w.heap.size w w' ∧ Itms w' A0 (half L 0 0) ∧ Itms w' A1 (half L 0 1)
  set : ∀ (L : List It) (A : Option Addr) (cap : Nat) (x : It) (T : List It) (n : Int) (w : World), HasK w → L.length ≤ 1000000 → L.length ≤ cap → Itms w A L → setOf L x = (T, n) →
    Calls Tryz.prog 22 #[.slice A L.length cap, .agg #[.string x.1, .string x.2]] w fun e w' => ∃ A' c', e = .returned (.tuple #[.slice A' T.length c', errOf n]) ∧ Below w.heap.size w w' ∧ Itms w' A' T ∧ T.length ≤ c'
  prove : ∀ (L : List It) (A : Option Addr) (cap : Nat) (ix : ByteArray) (T : List ByteArray) (x : It) (n : Int) (w : World), HasK w → L.length ≤ 1000000 → L.length ≤ cap → Itms w A L → proveAns L ix = (T, x, n) →
    Calls Tryz.prog 24 #[.slice A L.length cap, .string ix] w fun e w' => ∃ A' c', e = .returned (.tuple #[.agg #[.slice A' T.length c', .string x.1, .string x.2], errOf n]) ∧ Below w.heap.size w w' ∧ Strs w' A' T

theorem setOf_le {L : List It} {x : It} {T : List It} {n : Int} (h : setOf L x = (T, n)) : T.length ≤ L.length + 1 := by
  unfold setOf at h
  have h1 := others_le L x
  split at h
  · split at h
    · obtain ⟨rfl, _⟩ := Prod.mk.inj h; simp
    · obtain ⟨rfl, _⟩ := Prod.mk.inj h
      have := (insIt_perm x (others L x)).length_eq
      rw [List.length_cons] at this
      omega
  · obtain ⟨rfl, _⟩ := Prod.mk.inj h; simp
theorem proveFrom_le (ix : ByteArray) : ∀ (f : Nat) (L : List It) (d : Nat), (proveFrom f L ix d).1.length ≤ f
  | 0, L, d => by simp [proveFrom]
  | f + 1, L, d => by
    rw [proveFrom]
    split
    · simp
    · have := proveFrom_le ix f (half L d (bitOf ix.data.toList d)) (d + 1)
      simp; omega
theorem prove_le {L : List It} {ix : ByteArray} {P : List ByteArray} {y : It} {m : Int} (h : proveAns L ix = (P, y, m)) : P.length ≤ 1000000 := by
  unfold proveAns at h
  split at h
  · obtain ⟨rfl, _⟩ := Prod.mk.inj h
    have := proveFrom_le ix 128 L 0
    omega
  · obtain ⟨rfl, _⟩ := Prod.mk.inj h; simp
set_option maxHeartbeats 1000000 in
set_option maxRecDepth 100000 in
theorem trieRoots_any (F : TrieFace) (L : List It) (A : Option Addr) (cap : Nat) (x : It) (ix : ByteArray) (d : Int) (w : World) (hk : HasK w) (hm : Itms w A L) (hcap : L.length ≤ cap) (hg : w.cell? ⟨2, 0, none⟩ = some (.iface 122 (.agg #[hand 36]))) :
    Calls Tryz.prog 3 #[.slice A L.length cap, .agg #[.string x.1, .string x.2], .string ix, .int .i64 d] w fun e w' => e = .returned (.bool true) ∧ Below w.heap.size w w' := by
  have HLT := Lib.hid (show (2 : Nat) < w.heap.size from block_lt_of_cell hg)
  have HK := Lib.hid hk
  have HM := Lib.hid hm
  have HCAP := Lib.hid hcap
  have HG := Lib.hid hg
  have HF := Lib.hid F
  have HB0 := Lib.hid (alloc_below w (.cells #[.string x.1, .string x.2] 24))
  clear hk hm hg hcap F
  go_enter Tryz.func3, Tryz.ntmps3
  go_wp2_with fail
  have HC0 := Lib.hid (show (w.alloc (.cells #[.string x.1, .string x.2] 24)).cell? ⟨w.heap.size, 0, none⟩ = some (.string x.1) ∧ (w.alloc (.cells #[.string x.1, .string x.2] 24)).cell? ⟨w.heap.size, 1, none⟩ = some (.string x.2) from ⟨cell_of_row _ w.heap.size 0 _ 24 (0, 0) (heap_alloc_new _ _), cell_of_row _ w.heap.size 1 _ 24 (0, 0) (heap_alloc_new _ _)⟩)
  have HN0 := Lib.hid (show w.heap.size < (w.alloc (.cells #[.string x.1, .string x.2] 24)).heap.size by simp)
  generalize w.alloc (.cells #[.string x.1, .string x.2] 24) = w0 at HB0 HC0 HN0
  refine (items_any L A cap _ (HM.out.below HB0.out)).mono ?_
  rintro e w1 ⟨b, rfl, rfl, hfew⟩
  cases b with
  | false =>
    go_wp2
    go_ret
    exact ⟨rfl, HB0.out⟩
  | true =>
    have HL := Lib.hid (hfew rfl)
    clear hfew
    obtain ⟨c0, c1⟩ := HC0.out
    go_wp2_with fail
    clear c0 c1
    have HB1 := Lib.hid (HB0.out.trans ((alloc_below w1 (.cells #[.string x.1, .string x.2] 24)).mono HB0.out.size))
    have HN1 := Lib.hid (show w.heap.size < (w1.alloc (.cells #[.string x.1, .string x.2] 24)).heap.size by have := HN0.out; simp; omega)
    have HC1 := Lib.hid (show (w1.alloc (.cells #[.string x.1, .string x.2] 24)).cell? ⟨w.heap.size, 0, none⟩ = some (.string x.1) ∧ (w1.alloc (.cells #[.string x.1, .string x.2] 24)).cell? ⟨w.heap.size, 1, none⟩ = some (.string x.2) from ⟨((alloc_below w1 _).cell HN0.out).trans HC0.out.1, ((alloc_below w1 _).cell HN0.out).trans HC0.out.2⟩)
    have HX1 := Lib.hid (one_item x w1 24)
    refine (items_any [x] (some ⟨w1.heap.size, 0, none⟩) 1 _ HX1.out).mono ?_
    rintro e w1 ⟨b, rfl, rfl, hfew⟩
    cases b with
    | false =>
      go_wp2
      go_ret
      exact ⟨rfl, HB1.out⟩
    | true =>
      have HXS := Lib.hid (show x.1.size ≤ 60 ∧ x.2.size ≤ 60 from (hfew rfl).2 0 (by simp))
      clear hfew
      by_cases hix : 60 < ix.size
      · have HIX := Lib.hid hix
        clear hix
        go_wp2_with fail
        refine (long_t _ _ HIX.out).mono ?_
        rintro e w1 ⟨rfl, rfl⟩
        go_wp2
        go_ret
        exact ⟨rfl, HB1.out⟩
      · have HIX := Lib.hid hix
        clear hix
        go_wp2_with fail
        refine (long_f _ _ HIX.out).mono ?_
        rintro e w1 ⟨rfl, rfl⟩
        go_wp2_with fail
        refine (new_any _).mono ?_
        rintro e w1 ⟨r, rfl, hrb, hb1, hh1⟩
        have HB2 := Lib.hid (HB1.out.trans (hb1.mono HB1.out.size))
        have HC2 := Lib.hid (show w1.cell? ⟨w.heap.size, 0, none⟩ = some (.string x.1) ∧ w1.cell? ⟨w.heap.size, 1, none⟩ = some (.string x.2) from ⟨(hb1.cell HN1.out).trans HC1.out.1, (hb1.cell HN1.out).trans HC1.out.2⟩)
        have HR := Lib.hid hh1
        clear hb1 hh1 hrb
        have HKZ := Lib.hid (show ∀ z : Later w1.heap.size w1, HasK z.at' from fun z => (HK.out.below HB2.out HK.out.lt).below z.below (Nat.lt_of_lt_of_le HK.out.lt HB2.out.size))
        have HMZ := Lib.hid (show ∀ z : Later w1.heap.size w1, Itms z.at' A L from fun z => (HM.out.below HB2.out).below z.below)
        have HRZ := Lib.hid (show ∀ z : Later w1.heap.size w1, Holds z.at' r 72 refCells 60 from fun z => HR.out.below z.below HR.out.lt)
        have HN2 := Lib.hid (show w.heap.size < w1.heap.size from block_lt_of_cell HC2.out.1)
        have HLL := Lib.hid (show L.length ≤ 1000000 by have := HL.out.1; omega)
        have HX1L := Lib.hid (show x.1.size ≤ 1000000 by have := HXS.out.1; omega)
        have HX2L := Lib.hid (show x.2.size ≤ 1000000 by have := HXS.out.2; omega)
        have HIXL := Lib.hid (show ix.size ≤ 1000000 by have := HIX.out; omega)
        have z0 : ∀ z : Later w1.heap.size w1, z.at'.cell? ⟨w.heap.size, 0, none⟩ = some (.string x.1) := fun z => (z.below.cell HN2.out).trans HC2.out.1
        have z1 : ∀ z : Later w1.heap.size w1, z.at'.cell? ⟨w.heap.size, 1, none⟩ = some (.string x.2) := fun z => (z.below.cell HN2.out).trans HC2.out.2
        obtain ⟨R, hR⟩ : ∃ R, rightItems L = R := ⟨_, rfl⟩
        have HRI := Lib.hid hR
        clear hR
        have HFR := Lib.hid (show ∀ z : Later w1.heap.size w1, Calls Tryz.prog 7 #[.slice A L.length cap] z.at' fun e w' => e = .returned (.bool R) ∧ Below z.at'.heap.size z.at' w' from fun z => by rw [← HRI.out]; exact HF.out.right L A cap _ (HKZ.out z) HLL.out (HMZ.out z))
        have HDR := Lib.hid (show ∀ z : Later w1.heap.size w1, Calls Tryz.prog 8 #[.slice A L.length cap] z.at' fun e w' => e = .returned (.bool R) ∧ Below z.at'.heap.size z.at' w' from fun z => by rw [← HRI.out]; exact refRight_any L A cap _ (HMZ.out z) HLL.out)
        go_wp2
        obtain ⟨u, n, hu⟩ : ∃ u n, rootAns L = (u, n) := ⟨_, _, rfl⟩
        have HU := Lib.hid hu
        unfold rootAns at hu
        cases R with
        | false =>
          rw [if_neg (by rw [HRI.out]; simp)] at hu
          obtain rfl : (1 : Int) = n := (Prod.mk.inj hu).2
          clear hu
          refine wp_region_later (by kernel_rfl) (by kernel_rfl) ?_
          repeat (go_big_quiet_step ((first
            | (go_at_call 7; refine later_of (HFR.out _))
            | (go_at_call 8; refine later_of (HDR.out _))
            | (go_at_call 9; refine later_of (HF.out.empty _ _ (HKZ.out _)))
            | (go_at_call 10; refine later_of (refEmpty_any _ _ _ (HRZ.out _)))
            | (go_at_call 11; refine later_of (HF.out.leaf x _ _ (HKZ.out _) HX1L.out HX2L.out))
            | (go_at_call 12; refine later_of (refLeaf_any _ x _ _ (HRZ.out _) HX1L.out HX2L.out))
            | (go_at_call 13; refine later_of (HF.out.join _ _ _ (HKZ.out _) HX1L.out HIXL.out))
            | (go_at_call 14; refine later_of (refJoin_any _ _ _ _ (HRZ.out _) HX1L.out HIXL.out)))))
          refine wpQuiet_nil ?_
          rintro w2 ⟨⟨w2, hb2⟩, rfl⟩
          have HB3 := Lib.hid (HB2.out.trans (hb2.mono HB2.out.size))
          have HR3 := Lib.hid (HR.out.below hb2 HR.out.lt)
          have HN3 := Lib.hid (show w.heap.size < w2.heap.size from Nat.lt_of_lt_of_le HN2.out hb2.size)
          have HC3 := Lib.hid (show w2.cell? ⟨w.heap.size, 0, none⟩ = some (.string x.1) ∧ w2.cell? ⟨w.heap.size, 1, none⟩ = some (.string x.2) from ⟨(hb2.cell HN2.out).trans HC2.out.1, (hb2.cell HN2.out).trans HC2.out.2⟩)
          clear z0 z1 hb2 HKZ HMZ HRZ HFR HDR
          go_wp2_with fail
          refine (refRoot_is r L A cap u _ _ HLL.out HR3.out (HM.out.below HB3.out) HU.out).mono ?_
          rintro e w3 ⟨rfl, hb3⟩
          have HB4 := Lib.hid (HB3.out.trans (hb3.mono HB3.out.size))
          have HS4 := Lib.hid hb3
          clear hb3
          go_wp2_with fail
          refine (HF.out.root L A cap u _ _ (HK.out.below HB4.out HK.out.lt) HLL.out HCAP.out (HM.out.below HB4.out) HU.out).mono ?_
          rintro e w4 ⟨rfl, hb4⟩
          have HB5 := Lib.hid (HB4.out.trans (hb4.mono HB4.out.size))
          have HS5 := Lib.hid (HS4.out.trans (hb4.mono HS4.out.size))
          clear hb4
          go_wp2_with fail
          refine (bare_same _ _ ((HB5.out.cell HLT.out).trans HG.out)).mono ?_
          rintro e w5 ⟨rfl, hb5⟩
          have HB6 := Lib.hid (HB5.out.trans (hb5.mono HB5.out.size))
          have HS6 := Lib.hid (HS5.out.trans (hb5.mono HS5.out.size))
          clear hb5
          obtain ⟨i0, hi0, hz0, hz1, hz2⟩ := info_parts infoItem
          obtain ⟨T, k, ht⟩ : ∃ T k, setOf L x = (T, k) := ⟨_, _, rfl⟩
          have HT := Lib.hid ht
          clear ht
          have c0 : w5.cell? ⟨w.heap.size, 0, none⟩ = some (.string x.1) := (HS6.out.cell HN3.out).trans HC3.out.1
          have c1 : w5.cell? ⟨w.heap.size, 1, none⟩ = some (.string x.2) := (HS6.out.cell HN3.out).trans HC3.out.2
          go_wp2_with fail
          clear c0 c1
          refine (refSet_is L A cap x T k _ HLL.out (HM.out.below HB6.out) HT.out).mono ?_
          rintro e w6 ⟨v, rfl, hb6, hrow⟩
          obtain ⟨-, TA, tc, rfl, hti⟩ := hrow.itms
          have HB7 := Lib.hid (HB6.out.trans (hb6.mono HB6.out.size))
          have HS7 := Lib.hid (HS6.out.trans (hb6.mono HS6.out.size))
          have HTI := Lib.hid hti
          clear hb6 hrow hti
          have HC7 := Lib.hid (show w6.cell? ⟨w.heap.size, 0, none⟩ = some (.string x.1) ∧ w6.cell? ⟨w.heap.size, 1, none⟩ = some (.string x.2) from ⟨(HS7.out.cell HN3.out).trans HC3.out.1, (HS7.out.cell HN3.out).trans HC3.out.2⟩)
          have HN7 := Lib.hid (show w.heap.size < w6.heap.size from Nat.lt_of_lt_of_le HN3.out HS7.out.size)
          have HS0 := Lib.hid (show w6.cell? ⟨w.heap.size, 0, none⟩ = some (.string x.1) ∧ w6.cell? ⟨w.heap.size, 1, none⟩ = some (.string x.2) ∧ Below w6.heap.size w6 w6.drew from ⟨HC7.out.1, HC7.out.2, (Below.refl _ _).drew⟩)
          have HSW := Lib.hid (show w6.cell? ⟨w.heap.size, 0, none⟩ = some (.string x.1) ∧ w6.cell? ⟨w.heap.size, 1, none⟩ = some (.string x.2) ∧ Below w6.heap.size w6 w6 from ⟨HC7.out.1, HC7.out.2, Below.refl _ _⟩)
          have HKEEP := Lib.hid (show ∀ u v : World, (u.cell? ⟨w.heap.size, 0, none⟩ = some (.string x.1) ∧ u.cell? ⟨w.heap.size, 1, none⟩ = some (.string x.2) ∧ Below w6.heap.size w6 u) → Below u.heap.size u v → (v.cell? ⟨w.heap.size, 0, none⟩ = some (.string x.1) ∧ v.cell? ⟨w.heap.size, 1, none⟩ = some (.string x.2) ∧ Below w6.heap.size w6 v) from
            fun u v ⟨h0, h1, hb⟩ hv => ⟨(hv.cell (Nat.lt_of_lt_of_le HN7.out hb.size)).trans h0, (hv.cell (Nat.lt_of_lt_of_le HN7.out hb.size)).trans h1, hb.trans (hv.mono hb.size)⟩)
          have HHM := Lib.hid (show ∀ u : World, (u.cell? ⟨w.heap.size, 0, none⟩ = some (.string x.1) ∧ u.cell? ⟨w.heap.size, 1, none⟩ = some (.string x.2) ∧ Below w6.heap.size w6 u) → Itms u A L from fun u hu => (HM.out.below HB7.out).below hu.2.2)
          have HHK := Lib.hid (show ∀ u : World, (u.cell? ⟨w.heap.size, 0, none⟩ = some (.string x.1) ∧ u.cell? ⟨w.heap.size, 1, none⟩ = some (.string x.2) ∧ Below w6.heap.size w6 u) → HasK u from fun u hu => (HK.out.below HB7.out HK.out.lt).below hu.2.2 (Nat.lt_of_lt_of_le HK.out.lt HB7.out.size))
          go_wp2_with fail
          go_region_held3 (fun w' => w'.cell? ⟨w.heap.size, 0, none⟩ = some (.string x.1) ∧ w'.cell? ⟨w.heap.size, 1, none⟩ = some (.string x.2) ∧ Below w6.heap.size w6 w')
            (first | exact HS0.out | exact HKEEP.out w6 _ HSW.out ((alloc_below _ _).drew) | (refine HKEEP.out _ _ ?_ (by assumption); first | exact HS0.out | assumption | exact ⟨by assumption, by assumption, by assumption⟩) | (refine HKEEP.out _ _ ?_ (Hid.out (by assumption)); first | exact HS0.out | assumption | exact ⟨by assumption, by assumption, by assumption⟩) | (refine HKEEP.out _ _ ?_ (alloc_below _ _); first | exact HS0.out | assumption | exact ⟨by assumption, by assumption, by assumption⟩))
            (first
              | (refine step_of_list rfl ?_; refine wpList_append_copyc rfl (.tmp 120) (.tmp 121) 22 rfl 24 Tryz.underlying22 i0 _ hi0 hz0 hz1 hz2 rfl L A cap _ rfl rfl (HHM.out _ (by assumption)) HLL.out ?_; intro A2 cap2 w7 hb7 hi7 hc7; refine then1 ?_)
              | (go_at_call 22; refine (HF.out.set L _ _ x T k _ (HHK.out _ (by assumption)) HLL.out (Hid.out (by assumption)) (Hid.out (by assumption)) HT.out).mono ?_; rintro e w8 ⟨A3, c3, rfl, hb8, hi8, _⟩))
          rename_i hheld
          have HB8 := Lib.hid (HB7.out.trans (hheld.2.2.mono HB7.out.size))
          have HS8 := Lib.hid (HS7.out.trans (hheld.2.2.mono HS7.out.size))
          have HI8 := Lib.hid hi8
          have HTI8 := Lib.hid (HTI.out.below hheld.2.2)
          have HTL := Lib.hid (show T.length ≤ 1000000 by have := setOf_le HT.out; have := HL.out.1; omega)
          clear hheld hb7 hi7 hc7 hb8 hi8
          go_wp2_with fail
          refine (bare_same k _ ((HB8.out.cell HLT.out).trans HG.out)).mono ?_
          rintro e w9 ⟨rfl, hb9⟩
          have HB9 := Lib.hid (HB8.out.trans (hb9.mono HB8.out.size))
          have HS9 := Lib.hid (HS8.out.trans (hb9.mono HS8.out.size))
          have HI9 := Lib.hid (HI8.out.below hb9)
          have HTI9 := Lib.hid (HTI8.out.below hb9)
          clear hb9
          go_wp2_with fail
          refine (sameItems_same T A3 TA c3 tc _ HTL.out HI9.out HTI9.out).mono ?_
          rintro e w10 ⟨rfl, q, rfl⟩
          have HB10 := Lib.hid (below_drew HB9.out q)
          have HS10 := Lib.hid (below_drew HS9.out q)
          generalize w9.drewN q = w10 at HB10 HS10
          obtain ⟨P, y, m, hp⟩ : ∃ P y m, proveAns L ix = (P, y, m) := ⟨_, _, _, rfl⟩
          have HP := Lib.hid hp
          clear hp
          go_wp2_with fail
          refine (refProve_is r L A cap ix P y m _ HLL.out (HR3.out.below HS10.out HR3.out.lt) (HM.out.below HB10.out) HP.out).mono ?_
          rintro e w11 ⟨v, rfl, hb11, hrow⟩
          obtain ⟨-, PA, pc, rfl, hpi⟩ := hrow.strs
          have HB11 := Lib.hid (HB10.out.trans (hb11.mono HB10.out.size))
          have HPI := Lib.hid hpi
          clear hb11 hrow hpi
          have HPL := Lib.hid (prove_le HP.out)
          go_wp2_with fail
          have HB12 := Lib.hid (HB11.out.trans ((alloc_below w11 (.cells #[.slice PA P.length pc, .string y.1, .string y.2] 49)).mono HB11.out.size))
          have HPI12 := Lib.hid (HPI.out.below (alloc_below w11 (.cells #[.slice PA P.length pc, .string y.1, .string y.2] 49)))
          have HH12 := Lib.hid (show Holds (w11.alloc (.cells #[.slice PA P.length pc, .string y.1, .string y.2] 49)) w11.heap.size 3 (pCells (.slice PA P.length pc) y) 49 from Holds.new w11 3 (pCells (.slice PA P.length pc) y) 49)
          generalize w11.alloc (.cells #[.slice PA P.length pc, .string y.1, .string y.2] 49) = w12 at HB12 HPI12 HH12
          refine (HF.out.prove L A cap ix P y m _ (HK.out.below HB12.out HK.out.lt) HLL.out HCAP.out (HM.out.below HB12.out) HP.out).mono ?_
          rintro e w13 ⟨QA, qc, rfl, hb13, hqi⟩
          have HB13 := Lib.hid (HB12.out.trans (hb13.mono HB12.out.size))
          have HPI13 := Lib.hid (HPI12.out.below hb13)
          have HH13 := Lib.hid (HH12.out.below hb13 HH12.out.lt)
          have HQI := Lib.hid hqi
          clear hb13 hqi
          go_wp2_with fail
          have HB14 := Lib.hid (HB13.out.trans ((alloc_below w13 (.cells #[.slice QA P.length qc, .string y.1, .string y.2] 49)).mono HB13.out.size))
          have HPI14 := Lib.hid (HPI13.out.below (alloc_below w13 (.cells #[.slice QA P.length qc, .string y.1, .string y.2] 49)))
          have HQI14 := Lib.hid (HQI.out.below (alloc_below w13 (.cells #[.slice QA P.length qc, .string y.1, .string y.2] 49)))
          have HH14 := Lib.hid (HH13.out.below (alloc_below w13 (.cells #[.slice QA P.length qc, .string y.1, .string y.2] 49)) HH13.out.lt)
          have HG14 := Lib.hid (show Holds (w13.alloc (.cells #[.slice QA P.length qc, .string y.1, .string y.2] 49)) w13.heap.size 3 (pCells (.slice QA P.length qc) y) 49 from Holds.new w13 3 (pCells (.slice QA P.length qc) y) 49)
          generalize w13.alloc (.cells #[.slice QA P.length qc, .string y.1, .string y.2] 49) = w14 at HB14 HPI14 HQI14 HH14 HG14
          refine (bare_same m _ ((HB14.out.cell HLT.out).trans HG.out)).mono ?_
          rintro e w15 ⟨rfl, hb15⟩
          have HB15 := Lib.hid (HB14.out.trans (hb15.mono HB14.out.size))
          have HPI15 := Lib.hid (HPI14.out.below hb15)
          have HQI15 := Lib.hid (HQI14.out.below hb15)
          have hh := HH14.out.below hb15 HH14.out.lt
          have hgg := HG14.out.below hb15 HG14.out.lt
          have p0 : w15.cell? ⟨w11.heap.size, 0, none⟩ = some (.slice PA P.length pc) := hh.cell 0 (by omega)
          have p1 : w15.cell? ⟨w11.heap.size, 1, none⟩ = some (.string y.1) := hh.cell 1 (by omega)
          have p2 : w15.cell? ⟨w11.heap.size, 2, none⟩ = some (.string y.2) := hh.cell 2 (by omega)
          have q0 : w15.cell? ⟨w13.heap.size, 0, none⟩ = some (.slice QA P.length qc) := hgg.cell 0 (by omega)
          have q1 : w15.cell? ⟨w13.heap.size, 1, none⟩ = some (.string y.1) := hgg.cell 1 (by omega)
          have q2 : w15.cell? ⟨w13.heap.size, 2, none⟩ = some (.string y.2) := hgg.cell 2 (by omega)
          clear hb15 hh hgg
          go_wp2_with fail
          clear p0 p1 p2 q0 q1 q2
          refine (sameProof_same P y QA PA qc pc _ HPL.out HQI15.out HPI15.out).mono ?_
          rintro e w16 ⟨rfl, hb16⟩
          have HB16 := Lib.hid (HB15.out.trans (hb16.mono HB15.out.size))
          clear hb16
          go_wp2
          go_ret
          exact ⟨rfl, HB16.out⟩
        | true =>
          rw [if_pos HRI.out] at hu
          obtain rfl : (0 : Int) = n := (Prod.mk.inj hu).2
          clear hu
          refine wp_region_later (by kernel_rfl) (by kernel_rfl) ?_
          repeat (go_big_quiet_step ((first
            | (go_at_call 7; refine later_of (HFR.out _))
            | (go_at_call 8; refine later_of (HDR.out _))
            | (go_at_call 9; refine later_of (HF.out.empty _ _ (HKZ.out _)))
            | (go_at_call 10; refine later_of (refEmpty_any _ _ _ (HRZ.out _)))
            | (go_at_call 11; refine later_of (HF.out.leaf x _ _ (HKZ.out _) HX1L.out HX2L.out))
            | (go_at_call 12; refine later_of (refLeaf_any _ x _ _ (HRZ.out _) HX1L.out HX2L.out))
            | (go_at_call 13; refine later_of (HF.out.join _ _ _ (HKZ.out _) HX1L.out HIXL.out))
            | (go_at_call 14; refine later_of (refJoin_any _ _ _ _ (HRZ.out _) HX1L.out HIXL.out)))))
          refine wpQuiet_nil ?_
          rintro w2 ⟨⟨w2, hb2⟩, rfl⟩
          have HB3 := Lib.hid (HB2.out.trans (hb2.mono HB2.out.size))
          have HR3 := Lib.hid (HR.out.below hb2 HR.out.lt)
          have HN3 := Lib.hid (show w.heap.size < w2.heap.size from Nat.lt_of_lt_of_le HN2.out hb2.size)
          have HC3 := Lib.hid (show w2.cell? ⟨w.heap.size, 0, none⟩ = some (.string x.1) ∧ w2.cell? ⟨w.heap.size, 1, none⟩ = some (.string x.2) from ⟨(hb2.cell HN2.out).trans HC2.out.1, (hb2.cell HN2.out).trans HC2.out.2⟩)
          clear z0 z1 hb2 HKZ HMZ HRZ HFR HDR
          go_wp2_with fail
          refine (refRoot_is r L A cap u _ _ HLL.out HR3.out (HM.out.below HB3.out) HU.out).mono ?_
          rintro e w3 ⟨rfl, hb3⟩
          have HB4 := Lib.hid (HB3.out.trans (hb3.mono HB3.out.size))
          have HS4 := Lib.hid hb3
          clear hb3
          go_wp2_with fail
          refine (HF.out.root L A cap u _ _ (HK.out.below HB4.out HK.out.lt) HLL.out HCAP.out (HM.out.below HB4.out) HU.out).mono ?_
          rintro e w4 ⟨rfl, hb4⟩
          have HB5 := Lib.hid (HB4.out.trans (hb4.mono HB4.out.size))
          have HS5 := Lib.hid (HS4.out.trans (hb4.mono HS4.out.size))
          clear hb4
          go_wp2_with fail
          refine (bare_same _ _ ((HB5.out.cell HLT.out).trans HG.out)).mono ?_
          rintro e w5 ⟨rfl, hb5⟩
          have HB6 := Lib.hid (HB5.out.trans (hb5.mono HB5.out.size))
          have HS6 := Lib.hid (HS5.out.trans (hb5.mono HS5.out.size))
          clear hb5
          obtain ⟨i0, hi0, hz0, hz1, hz2⟩ := info_parts infoItem
          have HR16 := Lib.hid (show ∀ y ∈ L, y.1.size = 16 from fun y hy => (right_sizes HRI.out y hy).1)
          go_wp2_with fail
          refine (refHalves_any L A cap 0 _ (HM.out.below HB6.out) HLL.out HR16.out (by decide)).mono ?_
          rintro e w6 ⟨v0, v1, rfl, hb6, hr0, hr1⟩
          obtain ⟨-, HA0, hc0, rfl, hi0⟩ := hr0.itms
          obtain ⟨-, HA1, hc1, rfl, hi1⟩ := hr1.itms
          have HB7 := Lib.hid (HB6.out.trans (hb6.mono HB6.out.size))
          have HS7 := Lib.hid (HS6.out.trans (hb6.mono HS6.out.size))
          have HI0 := Lib.hid hi0
          have HI1 := Lib.hid hi1
          clear hb6 hr0 hr1 hi0 hi1
          go_wp2_with fail
          refine (HF.out.halves L A cap _ (HK.out.below HB7.out HK.out.lt) HRI.out HCAP.out (HM.out.below HB7.out)).mono ?_
          rintro e w7 ⟨GA0, gc0, GA1, gc1, rfl, hb7, hi0, hi1⟩
          have HB8 := Lib.hid (HB7.out.trans (hb7.mono HB7.out.size))
          have HS8 := Lib.hid (HS7.out.trans (hb7.mono HS7.out.size))
          have HI0' := Lib.hid (HI0.out.below hb7)
          have HI1' := Lib.hid (HI1.out.below hb7)
          have HJ0 := Lib.hid hi0
          have HJ1 := Lib.hid hi1
          have HH0L := Lib.hid (show (half L 0 0).length ≤ 1000000 from Nat.le_trans (half_le _ _ _) HLL.out)
          have HH1L := Lib.hid (show (half L 0 1).length ≤ 1000000 from Nat.le_trans (half_le _ _ _) HLL.out)
          clear hb7 hi0 hi1
          generalize half L 0 0 = H0 at HI0 HI0' HJ0 HH0L
          generalize half L 0 1 = H1 at HI1 HI1' HJ1 HH1L
          go_wp2_with fail
          refine (sameItems_same H0 GA0 HA0 gc0 hc0 _ HH0L.out HJ0.out HI0'.out).mono ?_
          rintro e w8 ⟨rfl, q1, rfl⟩
          have hb8 := below_drew (Below.refl w7.heap.size w7) q1
          have HB9 := Lib.hid (below_drew HB8.out q1)
          have HS9 := Lib.hid (below_drew HS8.out q1)
          have HI1'' := Lib.hid (HI1'.out.below hb8)
          have HJ1'' := Lib.hid (HJ1.out.below hb8)
          clear hb8
          generalize w7.drewN q1 = w8 at HB9 HS9 HI1'' HJ1''
          go_wp2_with fail
          refine (sameItems_same H1 GA1 HA1 gc1 hc1 _ HH1L.out HJ1''.out HI1''.out).mono ?_
          rintro e w9 ⟨rfl, q2, rfl⟩
          have HB10 := Lib.hid (below_drew HB9.out q2)
          have HS10 := Lib.hid (below_drew HS9.out q2)
          generalize w8.drewN q2 = wh at HB10 HS10
          obtain ⟨T, k, ht⟩ : ∃ T k, setOf L x = (T, k) := ⟨_, _, rfl⟩
          have HT := Lib.hid ht
          clear ht
          have c0 : wh.cell? ⟨w.heap.size, 0, none⟩ = some (.string x.1) := (HS10.out.cell HN3.out).trans HC3.out.1
          have c1 : wh.cell? ⟨w.heap.size, 1, none⟩ = some (.string x.2) := (HS10.out.cell HN3.out).trans HC3.out.2
          go_wp2_with fail
          clear c0 c1
          refine (refSet_is L A cap x T k _ HLL.out (HM.out.below HB10.out) HT.out).mono ?_
          rintro e w6 ⟨v, rfl, hb6, hrow⟩
          obtain ⟨-, TA, tc, rfl, hti⟩ := hrow.itms
          have HB7 := Lib.hid (HB10.out.trans (hb6.mono HB10.out.size))
          have HS7 := Lib.hid (HS10.out.trans (hb6.mono HS10.out.size))
          have HTI := Lib.hid hti
          clear hb6 hrow hti
          have HC7 := Lib.hid (show w6.cell? ⟨w.heap.size, 0, none⟩ = some (.string x.1) ∧ w6.cell? ⟨w.heap.size, 1, none⟩ = some (.string x.2) from ⟨(HS7.out.cell HN3.out).trans HC3.out.1, (HS7.out.cell HN3.out).trans HC3.out.2⟩)
          have HN7 := Lib.hid (show w.heap.size < w6.heap.size from Nat.lt_of_lt_of_le HN3.out HS7.out.size)
          have HS0 := Lib.hid (show w6.cell? ⟨w.heap.size, 0, none⟩ = some (.string x.1) ∧ w6.cell? ⟨w.heap.size, 1, none⟩ = some (.string x.2) ∧ Below w6.heap.size w6 w6.drew from ⟨HC7.out.1, HC7.out.2, (Below.refl _ _).drew⟩)
          have HSW := Lib.hid (show w6.cell? ⟨w.heap.size, 0, none⟩ = some (.string x.1) ∧ w6.cell? ⟨w.heap.size, 1, none⟩ = some (.string x.2) ∧ Below w6.heap.size w6 w6 from ⟨HC7.out.1, HC7.out.2, Below.refl _ _⟩)
          have HKEEP := Lib.hid (show ∀ u v : World, (u.cell? ⟨w.heap.size, 0, none⟩ = some (.string x.1) ∧ u.cell? ⟨w.heap.size, 1, none⟩ = some (.string x.2) ∧ Below w6.heap.size w6 u) → Below u.heap.size u v → (v.cell? ⟨w.heap.size, 0, none⟩ = some (.string x.1) ∧ v.cell? ⟨w.heap.size, 1, none⟩ = some (.string x.2) ∧ Below w6.heap.size w6 v) from
            fun u v ⟨h0, h1, hb⟩ hv => ⟨(hv.cell (Nat.lt_of_lt_of_le HN7.out hb.size)).trans h0, (hv.cell (Nat.lt_of_lt_of_le HN7.out hb.size)).trans h1, hb.trans (hv.mono hb.size)⟩)
          have HHM := Lib.hid (show ∀ u : World, (u.cell? ⟨w.heap.size, 0, none⟩ = some (.string x.1) ∧ u.cell? ⟨w.heap.size, 1, none⟩ = some (.string x.2) ∧ Below w6.heap.size w6 u) → Itms u A L from fun u hu => (HM.out.below HB7.out).below hu.2.2)
          have HHK := Lib.hid (show ∀ u : World, (u.cell? ⟨w.heap.size, 0, none⟩ = some (.string x.1) ∧ u.cell? ⟨w.heap.size, 1, none⟩ = some (.string x.2) ∧ Below w6.heap.size w6 u) → HasK u from fun u hu => (HK.out.below HB7.out HK.out.lt).below hu.2.2 (Nat.lt_of_lt_of_le HK.out.lt HB7.out.size))
          go_wp2_with fail
          go_region_held3 (fun w' => w'.cell? ⟨w.heap.size, 0, none⟩ = some (.string x.1) ∧ w'.cell? ⟨w.heap.size, 1, none⟩ = some (.string x.2) ∧ Below w6.heap.size w6 w')
            (first | exact HS0.out | exact HKEEP.out w6 _ HSW.out ((alloc_below _ _).drew) | (refine HKEEP.out _ _ ?_ (by assumption); first | exact HS0.out | assumption | exact ⟨by assumption, by assumption, by assumption⟩) | (refine HKEEP.out _ _ ?_ (Hid.out (by assumption)); first | exact HS0.out | assumption | exact ⟨by assumption, by assumption, by assumption⟩) | (refine HKEEP.out _ _ ?_ (alloc_below _ _); first | exact HS0.out | assumption | exact ⟨by assumption, by assumption, by assumption⟩))
            (first
              | (refine step_of_list rfl ?_; refine wpList_append_copyc rfl (.tmp 120) (.tmp 121) 22 rfl 24 Tryz.underlying22 i0 _ hi0 hz0 hz1 hz2 rfl L A cap _ rfl rfl (HHM.out _ (by assumption)) HLL.out ?_; intro A2 cap2 w7 hb7 hi7 hc7; refine then1 ?_)
              | (go_at_call 22; refine (HF.out.set L _ _ x T k _ (HHK.out _ (by assumption)) HLL.out (Hid.out (by assumption)) (Hid.out (by assumption)) HT.out).mono ?_; rintro e w8 ⟨A3, c3, rfl, hb8, hi8, _⟩))
          rename_i hheld
          have HB8 := Lib.hid (HB7.out.trans (hheld.2.2.mono HB7.out.size))
          have HS8 := Lib.hid (HS7.out.trans (hheld.2.2.mono HS7.out.size))
          have HI8 := Lib.hid hi8
          have HTI8 := Lib.hid (HTI.out.below hheld.2.2)
          have HTL := Lib.hid (show T.length ≤ 1000000 by have := setOf_le HT.out; have := HL.out.1; omega)
          clear hheld hb7 hi7 hc7 hb8 hi8
          go_wp2_with fail
          refine (bare_same k _ ((HB8.out.cell HLT.out).trans HG.out)).mono ?_
          rintro e w9 ⟨rfl, hb9⟩
          have HB9 := Lib.hid (HB8.out.trans (hb9.mono HB8.out.size))
          have HS9 := Lib.hid (HS8.out.trans (hb9.mono HS8.out.size))
          have HI9 := Lib.hid (HI8.out.below hb9)
          have HTI9 := Lib.hid (HTI8.out.below hb9)
          clear hb9
          go_wp2_with fail
          refine (sameItems_same T A3 TA c3 tc _ HTL.out HI9.out HTI9.out).mono ?_
          rintro e w10 ⟨rfl, q, rfl⟩
          have HB10 := Lib.hid (below_drew HB9.out q)
          have HS10 := Lib.hid (below_drew HS9.out q)
          generalize w9.drewN q = w10 at HB10 HS10
          obtain ⟨P, y, m, hp⟩ : ∃ P y m, proveAns L ix = (P, y, m) := ⟨_, _, _, rfl⟩
          have HP := Lib.hid hp
          clear hp
          go_wp2_with fail
          refine (refProve_is r L A cap ix P y m _ HLL.out (HR3.out.below HS10.out HR3.out.lt) (HM.out.below HB10.out) HP.out).mono ?_
          rintro e w11 ⟨v, rfl, hb11, hrow⟩
          obtain ⟨-, PA, pc, rfl, hpi⟩ := hrow.strs
          have HB11 := Lib.hid (HB10.out.trans (hb11.mono HB10.out.size))
          have HPI := Lib.hid hpi
          clear hb11 hrow hpi
          have HPL := Lib.hid (prove_le HP.out)
          go_wp2_with fail
          have HB12 := Lib.hid (HB11.out.trans ((alloc_below w11 (.cells #[.slice PA P.length pc, .string y.1, .string y.2] 49)).mono HB11.out.size))
          have HPI12 := Lib.hid (HPI.out.below (alloc_below w11 (.cells #[.slice PA P.length pc, .string y.1, .string y.2] 49)))
          have HH12 := Lib.hid (show Holds (w11.alloc (.cells #[.slice PA P.length pc, .string y.1, .string y.2] 49)) w11.heap.size 3 (pCells (.slice PA P.length pc) y) 49 from Holds.new w11 3 (pCells (.slice PA P.length pc) y) 49)
          generalize w11.alloc (.cells #[.slice PA P.length pc, .string y.1, .string y.2] 49) = w12 at HB12 HPI12 HH12
          refine (HF.out.prove L A cap ix P y m _ (HK.out.below HB12.out HK.out.lt) HLL.out HCAP.out (HM.out.below HB12.out) HP.out).mono ?_
          rintro e w13 ⟨QA, qc, rfl, hb13, hqi⟩
          have HB13 := Lib.hid (HB12.out.trans (hb13.mono HB12.out.size))
          have HPI13 := Lib.hid (HPI12.out.below hb13)
          have HH13 := Lib.hid (HH12.out.below hb13 HH12.out.lt)
          have HQI := Lib.hid hqi
          clear hb13 hqi
          go_wp2_with fail
          have HB14 := Lib.hid (HB13.out.trans ((alloc_below w13 (.cells #[.slice QA P.length qc, .string y.1, .string y.2] 49)).mono HB13.out.size))
          have HPI14 := Lib.hid (HPI13.out.below (alloc_below w13 (.cells #[.slice QA P.length qc, .string y.1, .string y.2] 49)))
          have HQI14 := Lib.hid (HQI.out.below (alloc_below w13 (.cells #[.slice QA P.length qc, .string y.1, .string y.2] 49)))
          have HH14 := Lib.hid (HH13.out.below (alloc_below w13 (.cells #[.slice QA P.length qc, .string y.1, .string y.2] 49)) HH13.out.lt)
          have HG14 := Lib.hid (show Holds (w13.alloc (.cells #[.slice QA P.length qc, .string y.1, .string y.2] 49)) w13.heap.size 3 (pCells (.slice QA P.length qc) y) 49 from Holds.new w13 3 (pCells (.slice QA P.length qc) y) 49)
          generalize w13.alloc (.cells #[.slice QA P.length qc, .string y.1, .string y.2] 49) = w14 at HB14 HPI14 HQI14 HH14 HG14
          refine (bare_same m _ ((HB14.out.cell HLT.out).trans HG.out)).mono ?_
          rintro e w15 ⟨rfl, hb15⟩
          have HB15 := Lib.hid (HB14.out.trans (hb15.mono HB14.out.size))
          have HPI15 := Lib.hid (HPI14.out.below hb15)
          have HQI15 := Lib.hid (HQI14.out.below hb15)
          have hh := HH14.out.below hb15 HH14.out.lt
          have hgg := HG14.out.below hb15 HG14.out.lt
          have p0 : w15.cell? ⟨w11.heap.size, 0, none⟩ = some (.slice PA P.length pc) := hh.cell 0 (by omega)
          have p1 : w15.cell? ⟨w11.heap.size, 1, none⟩ = some (.string y.1) := hh.cell 1 (by omega)
          have p2 : w15.cell? ⟨w11.heap.size, 2, none⟩ = some (.string y.2) := hh.cell 2 (by omega)
          have q0 : w15.cell? ⟨w13.heap.size, 0, none⟩ = some (.slice QA P.length qc) := hgg.cell 0 (by omega)
          have q1 : w15.cell? ⟨w13.heap.size, 1, none⟩ = some (.string y.1) := hgg.cell 1 (by omega)
          have q2 : w15.cell? ⟨w13.heap.size, 2, none⟩ = some (.string y.2) := hgg.cell 2 (by omega)
          clear hb15 hh hgg
          go_wp2_with fail
          clear p0 p1 p2 q0 q1 q2
          refine (sameProof_same P y QA PA qc pc _ HPL.out HQI15.out HPI15.out).mono ?_
          rintro e w16 ⟨rfl, hb16⟩
          have HB16 := Lib.hid (HB15.out.trans (hb16.mono HB15.out.size))
          clear hb16
          go_wp2
          go_ret
          exact ⟨rfl, HB16.out⟩
end Go.Proofs.YtpoibacokdjplaaGreatDoor
