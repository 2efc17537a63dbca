/- Parts of the proof, one behind the other: ChainLaw, PChain, Open. -/
import Derived.Test.YtiaoolopbikfgaaDoorM11
import Derived.Test.YtiaoolopbikfgaaDoorM7
import Derived.Test.YtiaoolopbikfgaaDoorM9
import Derived.Test.YtiaoolopbikfgaaDoorM4
import Derived.Deep.Slices
import Derived.Deep.Fields
import Derived.ChangeSame
import Derived.Lib.SmallJoins
import Derived.SliceStrings
import Derived.OpenShut
/- ChainHeads, the walk, over whatever contracts the program's chain keeps. -/
namespace Go.Proofs.YtiaoolopbikfgaaDoor
open Go.RowKit

/-- What the program's chain answers. -/
structure ChainFace : Prop where
  right : ∀ (h : Hd) (w : World), Calls Tryd.prog 10 #[.agg #[.int .i64 h.epoch, .string h.root, .string h.prev]] w fun e w' => e = .returned (.bool (rightHead h)) ∧ Below w.heap.size w w'
  mark : ∀ (h : Hd) (s : ByteArray) (n : Int) (w : World), HasK w → headMarkAns h = (s, n) →
    Calls Tryd.prog 8 #[.agg #[.int .i64 h.epoch, .string h.root, .string h.prev]] w fun e w' => e = .returned (.tuple #[.string s, errOf n]) ∧ Below w.heap.size w w'
  next : ∀ (L : List Hd) (A : Option Addr) (cap : Nat) (root : ByteArray) (y : Hd) (n : Int) (w : World), HasK w → L.length ≤ 1000000 → L.length ≤ cap → Hds w A L → nextAns L root = (y, n) →
    Calls Tryd.prog 14 #[.slice A L.length cap, .string root] w fun e w' => e = .returned (.tuple #[.agg #[.int .i64 y.epoch, .string y.root, .string y.prev], errOf n]) ∧ Below w.heap.size w w'
  whole : ∀ (L : List Hd) (A : Option Addr) (cap : Nat) (w : World), HasK w → L.length ≤ 1000000 → L.length ≤ cap → Hds w A L →
    Calls Tryd.prog 16 #[.slice A L.length cap] w fun e w' => e = .returned (.tuple #[.int .i64 ((wholeAns L).1 : Int), .bool (wholeAns L).2]) ∧ Below w.heap.size w w'
  parts : ∀ (L M : List Hd) (A B : Option Addr) (cap cap' : Nat) (w : World), L.length ≤ 1000000 → M.length ≤ 1000000 → Hds w A L → Hds w B M →
    Calls Tryd.prog 17 #[.slice A L.length cap, .slice B M.length cap'] w fun e w' => e = .returned (.int .i64 ((partsAns L M : Nat) : Int)) ∧ Below w.heap.size w w'
  has : ∀ (L : List Hd) (A : Option Addr) (cap : Nat) (h : Hd) (w : World), L.length ≤ 1000000 → Hds w A L → h ∈ L →
    Calls Tryd.prog 12 #[.slice A L.length cap, .agg #[.int .i64 h.epoch, .string h.root, .string h.prev]] w fun e w' => e = .returned (.bool true) ∧ Below w.heap.size w w'

set_option maxRecDepth 100000 in
theorem heads_any (L : List Hd) (A : Option Addr) (cap : Nat) (w : World) (hm : Hds w A L) :
    Calls Tryd.prog 4 #[.slice A L.length cap] w fun e w' => ∃ b, e = .returned (.bool b) ∧ w' = w ∧ (b = true → L.length ≤ 12) := by
  have HM := Lib.hid hm
  clear hm
  by_cases hl : 12 < L.length
  · go_enter Tryd.func4, Tryd.ntmps4
    go_wp2
    go_ret
    exact ⟨false, rfl, rfl, fun h => by cases h⟩
  · go_enter Tryd.func4, Tryd.ntmps4
    go_wp2
    go_loopw [3] (fun i wr => ∃ k : Nat, k ≤ L.length ∧ i = .int .i64 (k : Int) ∧ wr = w) (fun i _ => L.length - (intOf i).toNat)
    case atStart => exact ⟨0, by omega, rfl, rfl⟩
    case round =>
      obtain ⟨k, hk, rfl, rfl⟩ := hrel
      by_cases hlt : k < L.length
      · obtain ⟨a, rfl, hal, -, c1, c2⟩ := HM.out.at_ hlt
        have d1 : wr.cell? ⟨(a.add (k * 3)).block, (a.add (k * 3)).off + 1, none⟩ = some (.string (hdAt L k).root) := c1
        have d2 : wr.cell? ⟨(a.add (k * 3)).block, (a.add (k * 3)).off + 2, none⟩ = some (.string (hdAt L k).prev) := c2
        generalize hdAt L k = x at d1 d2
        clear c1 c2
        go_wp2_with fail
        refine (long_any x.root _).mono ?_
        rintro e w1 ⟨rfl, rfl⟩
        by_cases m1 : 60 < x.root.size
        · rw [decide_eq_true m1]
          clear m1
          go_wp2
          go_ret
          exact ⟨false, rfl, rfl, fun h => by cases h⟩
        · rw [decide_eq_false m1]
          clear m1
          go_wp2_with fail
          refine (long_any x.prev _).mono ?_
          rintro e w1 ⟨rfl, rfl⟩
          by_cases m2 : 60 < x.prev.size
          · rw [decide_eq_true m2]
            clear m2
            go_wp2
            go_ret
            exact ⟨false, rfl, rfl, fun h => by cases h⟩
          · rw [decide_eq_false m2]
            clear m2
            go_wp2
            go_roundw
            case rel =>
              refine ⟨k + 1, by omega, by go_num, ?_⟩
              first | rfl | trivial
            case measure => simp [intOf]; omega
      · go_wp2
        go_ret
        exact ⟨true, rfl, rfl, fun _ => by omega⟩
set_option maxHeartbeats 2000000 in
set_option maxRecDepth 100000 in
theorem chainHeads_any (F : ChainFace) (L M : List Hd) (A B : Option Addr) (cap cap' : Nat) (root : ByteArray) (w : World) (hcap : L.length ≤ cap) (hk : HasK w) (ha : Hds w A L) (hb : Hds w B M) (hg : w.cell? ⟨1, 0, none⟩ = some (.iface 123 (.agg #[hand 33]))) :
    Calls Tryd.prog 3 #[.slice A L.length cap, .slice B M.length cap', .string root] w fun e w' => e = .returned (.bool true) ∧ Below w.heap.size w w' := by
  have HLT := Lib.hid (show (1 : Nat) < w.heap.size from block_lt_of_cell hg)
  have HK := Lib.hid hk
  have HA := Lib.hid ha
  have HBM := Lib.hid hb
  have HG := Lib.hid hg
  have HF := Lib.hid F
  have HCAP := Lib.hid hcap
  clear hk ha hb hg F hcap
  go_enter Tryd.func3, Tryd.ntmps3
  go_wp2_with fail
  refine (heads_any L A cap _ HA.out).mono ?_
  rintro e w1 ⟨b, rfl, rfl, h1⟩
  cases b
  case false =>
    go_wp2
    go_ret
    exact ⟨rfl, Below.refl _ _⟩
  have HL := Lib.hid (h1 rfl)
  clear h1
  go_wp2_with fail
  refine (heads_any M B cap' _ HBM.out).mono ?_
  rintro e w1 ⟨b, rfl, rfl, h1⟩
  cases b
  case false =>
    go_wp2
    go_ret
    exact ⟨rfl, Below.refl _ _⟩
  have HMl := Lib.hid (h1 rfl)
  clear h1
  go_wp2_with fail
  refine (long_any root _).mono ?_
  rintro e w1 ⟨rfl, rfl⟩
  by_cases hroot : 60 < root.size
  · rw [decide_eq_true hroot]
    go_wp2
    go_ret
    exact ⟨rfl, Below.refl _ _⟩
  rw [decide_eq_false hroot]
  clear hroot
  have hLl : L.length ≤ 1000000 := by have := HL.out; omega
  have HLL := Lib.hid hLl
  have HML := Lib.hid (show M.length ≤ 1000000 by have := HMl.out; omega)
  go_wp2_with fail
  refine (new_any _).mono ?_
  rintro e w2 ⟨r, rfl, hrb, hb2, hh2⟩
  have HB2 := Lib.hid hb2
  have HR2 := Lib.hid hh2
  clear hb2 hh2 hrb
  go_wp2
  go_loopw [8] (fun i wr => ∃ k : Nat, k ≤ L.length ∧ i = .int .i64 (k : Int) ∧ Hid (Below w1.heap.size w1 wr ∧ Holds wr r 72 refCells 52)) (fun i _ => L.length - (intOf i).toNat)
  case atStart => exact ⟨0, by omega, rfl, Lib.hid ⟨HB2.out, HR2.out⟩⟩
  case round =>
    obtain ⟨k, hkl, rfl, HU⟩ := hrel
    by_cases hlt : k < L.length
    · obtain ⟨a, rfl, hal, c0, c1, c2⟩ := (HA.out.below HU.out.1).at_ hlt
      have d1 : wr.cell? ⟨(a.add (k * 3)).block, (a.add (k * 3)).off + 1, none⟩ = some (.string (hdAt L k).root) := c1
      have d2 : wr.cell? ⟨(a.add (k * 3)).block, (a.add (k * 3)).off + 2, none⟩ = some (.string (hdAt L k).prev) := c2
      have HMEM := Lib.hid (show hdAt L k ∈ L by rw [hdAt_of hlt]; exact List.getElem_mem _)
      generalize hdAt L k = X at c0 d1 d2 HMEM
      have HC := Lib.hid (show wr.cell? (a.add (k * 3)) = some (.int .i64 X.epoch) ∧ wr.cell? ⟨(a.add (k * 3)).block, (a.add (k * 3)).off + 1, none⟩ = some (.string X.root) ∧ wr.cell? ⟨(a.add (k * 3)).block, (a.add (k * 3)).off + 2, none⟩ = some (.string X.prev) from ⟨c0, d1, d2⟩)
      have HAL := Lib.hid (show (a.add (k * 3)).block < wr.heap.size by rw [block_add]; exact hal)
      obtain ⟨s, m, hs⟩ : ∃ s m, headMarkAns X = (s, m) := ⟨_, _, rfl⟩
      have HS := Lib.hid hs
      obtain ⟨R, hR⟩ : ∃ R, rightHead X = R := ⟨_, rfl⟩
      have HRI := Lib.hid hR
      clear c1 c2 hs hR hal
      go_wp2_with fail
      clear c0 d1 d2
      refine (refHeadMark_is r X s m _ HU.out.2 HS.out).mono ?_
      rintro e w3 ⟨rfl, hb3⟩
      have HB3 := Lib.hid (HU.out.1.trans (hb3.mono HU.out.1.size))
      have HS3 := Lib.hid hb3
      have HR3 := Lib.hid (HU.out.2.below hb3 HU.out.2.lt)
      clear hb3
      have c0 : w3.cell? (a.add (k * 3)) = some (.int .i64 X.epoch) := (HS3.out.cell HAL.out).trans HC.out.1
      have d1 : w3.cell? ⟨(a.add (k * 3)).block, (a.add (k * 3)).off + 1, none⟩ = some (.string X.root) := (HS3.out.cell (p := ⟨(a.add (k * 3)).block, (a.add (k * 3)).off + 1, none⟩) HAL.out).trans HC.out.2.1
      have d2 : w3.cell? ⟨(a.add (k * 3)).block, (a.add (k * 3)).off + 2, none⟩ = some (.string X.prev) := (HS3.out.cell (p := ⟨(a.add (k * 3)).block, (a.add (k * 3)).off + 2, none⟩) HAL.out).trans HC.out.2.2
      go_wp2_with fail
      clear c0 d1 d2
      refine (HF.out.mark X s m _ (HK.out.below HB3.out HK.out.lt) HS.out).mono ?_
      rintro e w4 ⟨rfl, hb4⟩
      have HB4 := Lib.hid (HB3.out.trans (hb4.mono HB3.out.size))
      have HS4 := Lib.hid (HS3.out.trans (hb4.mono HS3.out.size))
      have HR4 := Lib.hid (HR3.out.below hb4 HR3.out.lt)
      clear hb4
      have HAZ := Lib.hid (show ∀ z : Later w4.heap.size w4, Hds z.at' (some a) L from fun z => (HA.out.below HB4.out).below z.below)
      have HGZ := Lib.hid (show ∀ z : Later w4.heap.size w4, z.at'.cell? ⟨1, 0, none⟩ = some (.iface 123 (.agg #[hand 33])) from fun z => (z.below.cell (Nat.lt_of_lt_of_le HLT.out HB4.out.size)).trans ((HB4.out.cell HLT.out).trans HG.out))
      have z0 : ∀ z : Later w4.heap.size w4, z.at'.cell? (a.add (k * 3)) = some (.int .i64 X.epoch) := fun z => (z.below.cell (Nat.lt_of_lt_of_le HAL.out HS4.out.size)).trans ((HS4.out.cell HAL.out).trans HC.out.1)
      have z1 : ∀ z : Later w4.heap.size w4, z.at'.cell? ⟨(a.add (k * 3)).block, (a.add (k * 3)).off + 1, none⟩ = some (.string X.root) := fun z => (z.below.cell (p := ⟨(a.add (k * 3)).block, (a.add (k * 3)).off + 1, none⟩) (Nat.lt_of_lt_of_le HAL.out HS4.out.size)).trans ((HS4.out.cell (p := ⟨(a.add (k * 3)).block, (a.add (k * 3)).off + 1, none⟩) HAL.out).trans HC.out.2.1)
      have z2 : ∀ z : Later w4.heap.size w4, z.at'.cell? ⟨(a.add (k * 3)).block, (a.add (k * 3)).off + 2, none⟩ = some (.string X.prev) := fun z => (z.below.cell (p := ⟨(a.add (k * 3)).block, (a.add (k * 3)).off + 2, none⟩) (Nat.lt_of_lt_of_le HAL.out HS4.out.size)).trans ((HS4.out.cell (p := ⟨(a.add (k * 3)).block, (a.add (k * 3)).off + 2, none⟩) HAL.out).trans HC.out.2.2)
      have HFR := Lib.hid (show ∀ z : Later w4.heap.size w4, Calls Tryd.prog 10 #[.agg #[.int .i64 X.epoch, .string X.root, .string X.prev]] z.at' fun e w' => e = .returned (.bool R) ∧ Below z.at'.heap.size z.at' w' from fun z => by rw [← HRI.out]; exact HF.out.right X _)
      have HDR := Lib.hid (show ∀ z : Later w4.heap.size w4, Calls Tryd.prog 11 #[.agg #[.int .i64 X.epoch, .string X.root, .string X.prev]] z.at' fun e w' => e = .returned (.bool R) ∧ Below z.at'.heap.size z.at' w' from fun z => by rw [← HRI.out]; exact refRightHead_any X _)
      have hk0 : (0 : Int) ≤ (k : Int) := by omega
      have hk1 : (k : Int) < (L.length : Int) := by omega
      go_wp2
      cases R
      all_goals
        refine wp_region_later (by kernel_rfl) (by kernel_rfl) ?_
        repeat (go_big_quiet_step ((first
          | (go_at_call 9; refine later_of (bare_same m _ (HGZ.out _)))
          | (go_at_call 10; refine later_of (HFR.out _))
          | (go_at_call 11; refine later_of (HDR.out _))
          | (go_at_call 12; refine later_of (HF.out.has L (some a) cap X _ HLL.out (HAZ.out _) HMEM.out)))))
        refine wpQuiet_nil ?_
        rintro w5 ⟨⟨w5, hb5⟩, rfl⟩
        have HV := Lib.hid (show Below w1.heap.size w1 w5 ∧ Holds w5 r 72 refCells 52 from ⟨HB4.out.trans (hb5.mono HB4.out.size), HR4.out.below hb5 HR4.out.lt⟩)
        clear z0 z1 z2 hb5 HAZ HGZ HFR HDR
        go_wp2
        go_roundw
        case rel => exact ⟨k + 1, by omega, by go_num, HV⟩
        case measure => simp [intOf]; omega
    · skip
      obtain ⟨y, n, hn⟩ : ∃ y n, nextAns L root = (y, n) := ⟨_, _, rfl⟩
      have HN := Lib.hid hn
      obtain ⟨wi, wt, hw⟩ : ∃ wi wt, wholeAns L = (wi, wt) := ⟨_, _, rfl⟩
      have HW := Lib.hid hw
      obtain ⟨pn, hp⟩ : ∃ pn, partsAns L M = pn := ⟨_, rfl⟩
      have HP := Lib.hid hp
      clear hn hw hp
      go_wp2_with fail
      refine (refNext_is r L A cap root y n _ HLL.out HU.out.2 (HA.out.below HU.out.1) HN.out).mono ?_
      rintro e w3 ⟨rfl, hb3⟩
      have HB3 := Lib.hid (HU.out.1.trans (hb3.mono HU.out.1.size))
      have HR3 := Lib.hid (HU.out.2.below hb3 HU.out.2.lt)
      clear hb3
      have HB4 := Lib.hid (HB3.out.trans ((alloc_below w3 (.cells #[.int .i64 y.epoch, .string y.root, .string y.prev] 31)).mono HB3.out.size))
      have HH4 := Lib.hid (show Holds (w3.alloc (.cells #[.int .i64 y.epoch, .string y.root, .string y.prev] 31)) w3.heap.size 3 (hdF y) 31 from Holds.new w3 3 (hdF y) 31)
      have HR4 := Lib.hid (HR3.out.alloc (.cells #[.int .i64 y.epoch, .string y.root, .string y.prev] 31))
      go_wp2_with fail
      generalize w3.alloc (.cells #[.int .i64 y.epoch, .string y.root, .string y.prev] 31) = w4 at HB4 HH4 HR4
      generalize w3.heap.size = b1 at HH4
      refine (HF.out.next L A cap root y n _ (HK.out.below HB4.out HK.out.lt) HLL.out HCAP.out (HA.out.below HB4.out) HN.out).mono ?_
      rintro e w5 ⟨rfl, hb5⟩
      have HB5 := Lib.hid (HB4.out.trans (hb5.mono HB4.out.size))
      have HH5 := Lib.hid (HH4.out.below hb5 HH4.out.lt)
      have HR5 := Lib.hid (HR4.out.below hb5 HR4.out.lt)
      clear hb5
      have HB6 := Lib.hid (HB5.out.trans ((alloc_below w5 (.cells #[.int .i64 y.epoch, .string y.root, .string y.prev] 31)).mono HB5.out.size))
      have HH6 := Lib.hid (HH5.out.alloc (.cells #[.int .i64 y.epoch, .string y.root, .string y.prev] 31))
      have HG6 := Lib.hid (show Holds (w5.alloc (.cells #[.int .i64 y.epoch, .string y.root, .string y.prev] 31)) w5.heap.size 3 (hdF y) 31 from Holds.new w5 3 (hdF y) 31)
      have HR6 := Lib.hid (HR5.out.alloc (.cells #[.int .i64 y.epoch, .string y.root, .string y.prev] 31))
      go_wp2_with fail
      generalize w5.alloc (.cells #[.int .i64 y.epoch, .string y.root, .string y.prev] 31) = w6 at HB6 HH6 HG6 HR6
      generalize w5.heap.size = b2 at HG6
      refine (refWhole_any r L A cap _ HLL.out HCAP.out HR6.out (HA.out.below HB6.out)).mono ?_
      rintro e w7 ⟨rfl, hb7⟩
      rw [HW.out]
      have HB7 := Lib.hid (HB6.out.trans (hb7.mono HB6.out.size))
      have HH7 := Lib.hid (HH6.out.below hb7 HH6.out.lt)
      have HG7 := Lib.hid (HG6.out.below hb7 HG6.out.lt)
      clear hb7
      go_wp2_with fail
      refine (HF.out.whole L A cap _ (HK.out.below HB7.out HK.out.lt) HLL.out HCAP.out (HA.out.below HB7.out)).mono ?_
      rintro e w8 ⟨rfl, hb8⟩
      rw [HW.out]
      have HB8 := Lib.hid (HB7.out.trans (hb8.mono HB7.out.size))
      have HH8 := Lib.hid (HH7.out.below hb8 HH7.out.lt)
      have HG8 := Lib.hid (HG7.out.below hb8 HG7.out.lt)
      clear hb8
      go_wp2_with fail
      refine (bare_same n _ ((HB8.out.cell HLT.out).trans HG.out)).mono ?_
      rintro e w9 ⟨rfl, hb9⟩
      have HB9 := Lib.hid (HB8.out.trans (hb9.mono HB8.out.size))
      have hh := HH8.out.below hb9 HH8.out.lt
      have hgg := HG8.out.below hb9 HG8.out.lt
      have p0 : w9.cell? ⟨b1, 0, none⟩ = some (.int .i64 y.epoch) := hh.cell 0 (by omega)
      have p1 : w9.cell? ⟨b1, 1, none⟩ = some (.string y.root) := hh.cell 1 (by omega)
      have p2 : w9.cell? ⟨b1, 2, none⟩ = some (.string y.prev) := hh.cell 2 (by omega)
      have q0 : w9.cell? ⟨b2, 0, none⟩ = some (.int .i64 y.epoch) := hgg.cell 0 (by omega)
      have q1 : w9.cell? ⟨b2, 1, none⟩ = some (.string y.root) := hgg.cell 1 (by omega)
      have q2 : w9.cell? ⟨b2, 2, none⟩ = some (.string y.prev) := hgg.cell 2 (by omega)
      clear hb9 hh hgg
      go_wp2_with fail
      clear p0 p1 p2 q0 q1 q2
      refine (HF.out.parts L M A B cap cap' _ HLL.out HML.out (HA.out.below HB9.out) (HBM.out.below HB9.out)).mono ?_
      rintro e w10 ⟨rfl, hb10⟩
      rw [HP.out]
      have HB10 := Lib.hid (HB9.out.trans (hb10.mono HB9.out.size))
      clear hb10
      go_wp2_with fail
      refine (refParts_any L M A B cap cap' _ HLL.out HML.out (HA.out.below HB10.out) (HBM.out.below HB10.out)).mono ?_
      rintro e w11 ⟨rfl, hb11⟩
      rw [HP.out]
      have HB11 := Lib.hid (HB10.out.trans (hb11.mono HB10.out.size))
      clear hb11
      go_wp2_with fail
      refine (refNum_any 0 _).mono ?_
      rintro e w12 ⟨rfl, hb12⟩
      have HB12 := Lib.hid (HB11.out.trans (hb12.mono HB11.out.size))
      clear hb12
      go_wp2_with fail
      refine (refNum_any 0 _).mono ?_
      rintro e w13 ⟨rfl, hb13⟩
      have HB13 := Lib.hid (HB12.out.trans (hb13.mono HB12.out.size))
      clear hb13
      have hnone : txt (num8 0) ++ txt (num8 0) = ⟨#[0, 0, 0, 0, 0, 0, 0, 0, 0, 0, 0, 0, 0, 0, 0, 0]⟩ := by rw [txt_append]; rfl
      go_wp2
      go_ret
      exact ⟨rfl, HB13.out⟩
end Go.Proofs.YtiaoolopbikfgaaDoor
/- The program's Whole, and all that its chain answers, as the document's. -/
namespace Go.Proofs.YtiaoolopbikfgaaDoor
open Go.RowKit

set_option maxHeartbeats 1000000 in
set_option maxRecDepth 100000 in
theorem pWhole_any (L : List Hd) (A : Option Addr) (cap : Nat) (w : World) (hk : HasK w) (hl : L.length ≤ 1000000) (hcap : L.length ≤ cap) (hm : Hds w A L) :
    Calls Tryd.prog 16 #[.slice A L.length cap] w fun e w' => e = .returned (.tuple #[.int .i64 ((wholeAns L).1 : Int), .bool (wholeAns L).2]) ∧ Below w.heap.size w w' := by
  have HK := Lib.hid hk
  have HM := Lib.hid hm
  clear hk hm
  obtain ⟨y, t, hy⟩ : ∃ y t, wholeAns L = (y, t) := ⟨_, _, rfl⟩
  rw [hy]
  have HY := Lib.hid hy
  clear hy
  go_enter Tryd.func16, Tryd.ntmps16
  go_wp2
  go_loopw [10] (fun i wr => ∃ k f : Nat, k + f = L.length ∧ i = .int .i64 (k : Int) ∧ Hid (wholeFrom L f k = (y, t) ∧ Below w.heap.size w wr)) (fun i _ => L.length - (intOf i).toNat)
  case atStart => exact ⟨0, L.length, by omega, rfl, Lib.hid ⟨HY.out, Below.refl _ _⟩⟩
  case round =>
    obtain ⟨k, f, hkf, rfl, HU⟩ := hrel
    by_cases hlt : k < L.length
    · obtain ⟨g, rfl⟩ : ∃ g, f = g + 1 := ⟨f - 1, by omega⟩
      obtain ⟨a, rfl, hal, c0, c1, c2⟩ := (HM.out.below HU.out.2).at_ hlt
      have d1 : wr.cell? ⟨(a.add (k * 3)).block, (a.add (k * 3)).off + 1, none⟩ = some (.string (hdAt L k).root) := c1
      have d2 : wr.cell? ⟨(a.add (k * 3)).block, (a.add (k * 3)).off + 2, none⟩ = some (.string (hdAt L k).prev) := c2
      obtain ⟨X, hX⟩ : ∃ X, hdAt L k = X := ⟨_, rfl⟩
      rw [hX] at c0 d1 d2
      have HX := Lib.hid hX
      obtain ⟨Y, m, hn⟩ : ∃ Y m, nextAns (L.take k) X.root = (Y, m) := ⟨_, _, rfl⟩
      have HNX := Lib.hid hn
      have HLK := Lib.hid (show linkOk L k = (decide (m = 0) && decide (Y = X)) by unfold linkOk; rw [HX.out, HNX.out])
      have hm01 : m = 0 ∨ m = 1 := by
        unfold nextAns at hn
        split at hn
        · exact .inr (Prod.mk.inj hn).2.symm
        · split at hn
          · exact .inl (Prod.mk.inj hn).2.symm
          · exact .inr (Prod.mk.inj hn).2.symm
      clear hX c1 hn
      have hkc : (k : Int) ≤ (cap : Int) := by omega
      have HTK := Lib.hid (show (L.take k).length = k by rw [List.length_take]; omega)
      have HB1 := Lib.hid (show Below w.heap.size w (wr.alloc (.cells #[.int .i64 X.epoch, .string X.root, .string X.prev] 31)) from HU.out.2.alloc HU.out.2.size _)
      have HN1 := Lib.hid (show Holds (wr.alloc (.cells #[.int .i64 X.epoch, .string X.root, .string X.prev] 31)) wr.heap.size 3 (hdF X) 31 from Holds.new wr 3 (hdF X) 31)
      go_wp2_with fail
      clear c0 d1 d2
      generalize wr.alloc (.cells #[.int .i64 X.epoch, .string X.root, .string X.prev] 31) = w1 at HB1 HN1 ⊢
      obtain ⟨E, hE⟩ : ∃ E, errOf m = E := ⟨_, rfl⟩
      have HE := Lib.hid hE
      clear hE
      have x1 : w1.cell? ⟨wr.heap.size, 1, none⟩ = some (.string X.root) := HN1.out.cell 1 (by omega)
      have HCALL := Lib.hid (show ∀ u : World, Below w.heap.size w u → Calls Tryd.prog 14 #[.slice (some a) k cap, .string X.root] u (fun e w' => e = .returned (.tuple #[.agg #[.int .i64 Y.epoch, .string Y.root, .string Y.prev], E]) ∧ Below u.heap.size u w') from fun u hu => by
        have := pNext_is (L.take k) (some a) cap X.root Y m u (HK.out.below hu HK.out.lt) (by rw [HTK.out]; omega) ((HM.out.below hu).take k) HNX.out
        rwa [HTK.out, HE.out] at this)
      have HS := Lib.hid (show ∀ u : World, Below w1.heap.size w1 u → (u.cell? ⟨wr.heap.size, 1, none⟩ = some (.string X.root) ∧ Below w1.heap.size w1 u) from
        fun u hu => ⟨(hu.cell (p := ⟨wr.heap.size, 1, none⟩) HN1.out.lt).trans (HN1.out.cell 1 (by omega)), hu⟩)
      go_region_held3 (fun w' => w'.cell? ⟨wr.heap.size, 1, none⟩ = some (.string X.root) ∧ Below w1.heap.size w1 w')
        (first
          | exact HS.out _ (Below.refl _ _).drew
          | exact HS.out _ ((Below.refl _ _).alloc (Nat.le_refl _) _).drew
          | exact HS.out _ ((Below.refl _ _).drew.trans (hb2.mono (Nat.le_refl _)))
          | exact HS.out _ (((Below.refl _ _).drew.trans (hb2.mono (Nat.le_refl _))).alloc hb2.size _)
          | exact HS.out _ (((Below.refl _ _).alloc (Nat.le_refl _) _).drew.trans (hb2.mono (by simp)))
          | exact HS.out _ ((((((Below.refl _ _).alloc (Nat.le_refl _) _).drew.trans (hb2.mono (by simp))).setCell (Nat.le_refl _) _).setCell (Nat.le_refl _) _).setCell (Nat.le_refl _) _))
        (first | (go_at_call 14; refine (HCALL.out _ (HB1.out.trans (Below.mono (And.right (by assumption)) HB1.out.size))).mono ?_; rintro e w2 ⟨rfl, hb2⟩; try (have hnew := newFacts hb2; obtain ⟨q0, q1, q2, f0, f1, f2⟩ := hnew)))
      all_goals
        first
          | (have HXB := Lib.hid (newHolds hb2 Y).1
             have HBW := Lib.hid (newHolds hb2 Y).2
             generalize (((w2.setCell ⟨w1.heap.size, 0, none⟩ (.int .i64 Y.epoch)).setCell ⟨w1.heap.size, 1, none⟩ (.string Y.root)).setCell ⟨w1.heap.size, 2, none⟩ (.string Y.prev)) = W at HXB HBW ⊢
             have y0 : W.cell? ⟨w1.heap.size, 0, none⟩ = some (.int .i64 Y.epoch) := HXB.out.cell 0 (by omega)
             have y1 : W.cell? ⟨w1.heap.size, 1, none⟩ = some (.string Y.root) := HXB.out.cell 1 (by omega)
             have y2 : W.cell? ⟨w1.heap.size, 2, none⟩ = some (.string Y.prev) := HXB.out.cell 2 (by omega)
             clear q0 q1 q2 f0 f1 f2)
          | (have HXB := Lib.hid (show Holds (w2.alloc (.cells #[.int .i64 Y.epoch, .string Y.root, .string Y.prev] 31)) w2.heap.size 3 (hdF Y) 31 from Holds.new w2 3 (hdF Y) 31)
             have HBW := Lib.hid (show Below w1.heap.size w1 (w2.alloc (.cells #[.int .i64 Y.epoch, .string Y.root, .string Y.prev] 31)) from ((Below.refl _ _).drew.trans (hb2.mono (Nat.le_refl _))).alloc hb2.size _)
             generalize (w2.alloc (.cells #[.int .i64 Y.epoch, .string Y.root, .string Y.prev] 31)) = W at HXB HBW ⊢
             have y0 : W.cell? ⟨w2.heap.size, 0, none⟩ = some (.int .i64 Y.epoch) := HXB.out.cell 0 (by omega)
             have y1 : W.cell? ⟨w2.heap.size, 1, none⟩ = some (.string Y.root) := HXB.out.cell 1 (by omega)
             have y2 : W.cell? ⟨w2.heap.size, 2, none⟩ = some (.string Y.prev) := HXB.out.cell 2 (by omega))
        rename_i hheld
        have HXW := Lib.hid (HN1.out.below HBW.out HN1.out.lt)
        have HBW' := Lib.hid (HB1.out.trans (HBW.out.mono HB1.out.size))
        clear hheld hb2 x1
        have l0 : W.cell? ⟨wr.heap.size, 0, none⟩ = some (.int .i64 X.epoch) := HXW.out.cell 0 (by omega)
        have l1 : W.cell? ⟨wr.heap.size, 1, none⟩ = some (.string X.root) := HXW.out.cell 1 (by omega)
        have l2 : W.cell? ⟨wr.heap.size, 2, none⟩ = some (.string X.prev) := HXW.out.cell 2 (by omega)
        rcases hm01 with rfl | rfl
        · have hEE : E = Value.nilIface := HE.out.symm.trans rfl
          subst hEE
          by_cases hyx : Y = X
          · have hne : ∀ u : World, (binOp .neq 31 (.agg #[.int .i64 Y.epoch, .string Y.root, .string Y.prev]) (.agg #[.int .i64 X.epoch, .string X.root, .string X.prev])).run Tryd.prog u = .ok (.bool false) u := fun u => by rw [run_neq_heads, decide_eq_true hyx]; rfl
            have HYX := Lib.hid hyx
            clear hyx
            go_wp2
            go_roundw
            case rel =>
              refine ⟨k + 1, g, by omega, by go_num, Lib.hid ⟨?_, HBW'.out⟩⟩
              have hw := HU.out.1
              rw [wholeFrom, HLK.out, if_pos (by simp [HYX.out])] at hw
              exact hw
            case measure => simp [intOf]; omega
          · have hne : ∀ u : World, (binOp .neq 31 (.agg #[.int .i64 Y.epoch, .string Y.root, .string Y.prev]) (.agg #[.int .i64 X.epoch, .string X.root, .string X.prev])).run Tryd.prog u = .ok (.bool true) u := fun u => by rw [run_neq_heads, decide_eq_false hyx]; rfl
            have HYX := Lib.hid hyx
            clear hyx
            go_wp2
            refine bodyPost_ret (results_tmp2 rfl _ _ _) rfl ?_
            have hw := HU.out.1
            rw [wholeFrom, HLK.out, if_neg (by simp [HYX.out])] at hw
            obtain ⟨rfl, rfl⟩ := Prod.mk.inj hw
            exact ⟨rfl, HBW'.out⟩
        · have hEE : E = Value.iface 27 (.int .i64 1) := HE.out.symm.trans rfl
          subst hEE
          go_wp2
          refine bodyPost_ret (results_tmp2 rfl _ _ _) rfl ?_
          have hw := HU.out.1
          rw [wholeFrom, HLK.out, if_neg (by simp)] at hw
          obtain ⟨rfl, rfl⟩ := Prod.mk.inj hw
          exact ⟨rfl, HBW'.out⟩
    · obtain rfl : f = 0 := by omega
      go_wp2
      refine bodyPost_ret (results_tmp2 rfl _ _ _) rfl ?_
      have hw := HU.out.1
      unfold wholeFrom at hw
      obtain ⟨rfl, rfl⟩ := Prod.mk.inj hw
      exact ⟨rfl, HU.out.2⟩

theorem chainFace : ChainFace where
  right h w := pHdRight_any h w
  mark h s n w hk hh := pHdMark_is h s n w hk hh
  next L A cap root y n w hk hl _ hm h := pNext_is L A cap root y n w hk hl hm h
  whole L A cap w hk hl hc hm := pWhole_any L A cap w hk hl hc hm
  parts L M A B cap cap' w hl hl' ha hb := pParts_any L M A B cap cap' w hl hl' ha hb
  has L A cap h w hl hm hx := pHas_in L A cap h w hl hm hx
end Go.Proofs.YtiaoolopbikfgaaDoor
/- Arguments opened: lists of items, of texts; an item. -/
namespace Go.Proofs.YtiaoolopbikfgaaDoor
open Go.ChangeShapes Go.WideShapes Go.Deep Go.RowKit

section
variable {H : Type} {enc : TypeId × Value → H} {P : Program} {w : World} {base : Nat} {spare : Nat → Bool} {held : Bool}
theorem open_slice_fields {t e : TypeId} {fs : Array Field} {fuel : Nat} {cs : List Value} {x : DataW H × List MemPlace} (ht : P.underlying t = some (.slice e)) (he : P.underlying e = some (.struct fs))
    (hone : oneCellFields P fs = true) (hC : P.cellsOf e = fs.size) (h : DataW.trod enc P w base spare held fuel t cs = some x) :
    (cs = [.slice none 0 0] ∧ x = (.nil, [])) ∨
    ∃ (a : Addr) (len cap m : Nat), cs = [.slice (some a) len cap] ∧ len ≤ cap ∧ m = (if spare a.block then cap else len) ∧
      ∀ i, i < m → ∃ (ys : List (DataW H × List MemPlace)) (n : Nat), ys.length = fs.size ∧
        ∀ (j : Nat) (f : Field), fs[j]? = some f → ∃ (v : Value) (y : DataW H × List MemPlace), w.cell? (a.add (i * fs.size + j)) = some v ∧ ys[j]? = some y ∧ DataW.trod enc P w base spare held n f.type [v] = some y := by
  rcases open_slice ht h with h0 | ⟨a, len, cap, m, n, D, Pl, hcs, hb, hl, hm, hmm, hx, hi⟩
  · exact .inl h0
  · refine .inr ⟨a, len, cap, m, hcs, hl, hmm, fun i him => ?_⟩
    obtain ⟨cs', hc, ht'⟩ := hi i him
    rw [hC] at hc
    obtain ⟨ys, n', hn', hy, hlen, hyl, hf⟩ := DataW.trod_struct he ht'
    obtain ⟨_, hcl, hat⟩ := World.cells?_some hc
    refine ⟨ys, n', hyl, fun j f hj => ?_⟩
    obtain ⟨ho, hk⟩ := hone_of hone j f hj
    have hjl : j < fs.size := (Array.getElem?_eq_some_iff.1 hj).1
    have hcell := hat j hjl
    have hv : cs'[j]? = some (cs'[j]'(by omega)) := List.getElem?_eq_getElem (by omega)
    have h1 := hf j f hj
    rw [ho, hk] at h1
    have hone' : (cs'.drop j).take 1 = [cs'[j]'(by omega)] := by
      rw [List.drop_eq_getElem_cons (by omega)]
      rfl
    rw [hone'] at h1
    have hys : ys[j]? = some (ys[j]'(by omega)) := List.getElem?_eq_getElem (by omega)
    refine ⟨_, _, ?_, hys, h1.trans hys⟩
    rw [← Go.Deep.add_add, hcell, hv]
/-- A list of structs of two texts, as items. -/
theorem open_items {t e : TypeId} {f0 f1 : Field} {a0 : Option Addr} {len cap : Nat} {d : DataW H} {p : List MemPlace} (ht : P.underlying t = some (.slice e)) (he : P.underlying e = some (.struct #[f0, f1]))
    (hone : oneCellFields P #[f0, f1] = true) (hC : P.cellsOf e = 2) (h0 : P.underlying f0.type = some .string) (h1 : P.underlying f1.type = some .string) (h : DataW.Trod enc P w base spare held t (.slice a0 len cap) d p) :
    ∃ L : List It, L.length = len ∧ len ≤ cap ∧ Itms w a0 L := by
  obtain ⟨fuel, hf⟩ := h
  rcases open_slice_fields ht he hone hC hf with ⟨hcs, _⟩ | ⟨a, len', cap', m, hcs, hl, hm, hi⟩
  · simp [Value.cells] at hcs
    obtain ⟨rfl, rfl, rfl⟩ := hcs
    exact ⟨[], rfl, Nat.le_refl 0, Itms.nil _ _⟩
  · simp [Value.cells] at hcs
    obtain ⟨rfl, rfl, rfl⟩ := hcs
    have hlm : len ≤ m := by rw [hm]; split <;> omega
    have key : ∀ i, i < len → ∃ x : It, w.cell? (a.add (i * 2)) = some (.string x.1) ∧ w.cell? ((a.add (i * 2)).add 1) = some (.string x.2) := by
      intro i hil
      obtain ⟨ys, n, _, hj⟩ := hi i (by omega)
      obtain ⟨v, y, hc, _, hy⟩ := hj 0 f0 rfl
      obtain ⟨v', y', hc', _, hy'⟩ := hj 1 f1 rfl
      obtain ⟨s, e0, _, _⟩ := DataW.trod_string h0 hy
      obtain ⟨s', e1, _, _⟩ := DataW.trod_string h1 hy'
      obtain rfl := List.singleton_inj.1 e0
      obtain rfl := List.singleton_inj.1 e1
      exact ⟨(s, s'), hc, by rw [add_add']; exact hc'⟩
    refine ⟨(List.range len).map fun i => if hi : i < len then (key i hi).choose else (⟨#[]⟩, ⟨#[]⟩), by simp, hl, ?_⟩
    intro i x hx
    have hil : i < len := by have := (List.getElem?_eq_some_iff.1 hx).1; simpa using this
    have hk := (key i hil).choose_spec
    rw [List.getElem?_map, List.getElem?_range hil, Option.map_some, dif_pos hil] at hx
    rw [Option.some.inj hx] at hk
    exact ⟨a, rfl, by have := block_lt_of_cell hk.1; rwa [block_add] at this, hk.1, hk.2⟩
theorem open_texts {t e : TypeId} {a0 : Option Addr} {len cap : Nat} {d : DataW H} {p : List MemPlace} (ht : P.underlying t = some (.slice e)) (he : P.underlying e = some .string) (hc : P.cellsOf e = 1)
    (h : DataW.Trod enc P w base spare held t (.slice a0 len cap) d p) : ∃ L : List ByteArray, L.length = len ∧ Strs w a0 L := by
  obtain ⟨fuel, hf⟩ := h
  rcases open_strings ht he hc hf with ⟨hcs, hx⟩ | ⟨a, len', cap', ss, hcs, _, hl, hm, hz, hx, hcell, hws⟩
  · simp [Value.cells] at hcs
    obtain ⟨rfl, rfl, rfl⟩ := hcs
    exact ⟨[], rfl, Strs.nil _ _⟩
  · simp [Value.cells] at hcs
    obtain ⟨rfl, rfl, rfl⟩ := hcs
    have hle : len ≤ ss.length := by rw [hz]; split <;> omega
    refine ⟨ss.take len, by rw [List.length_take]; omega, fun i p hp => ?_⟩
    have hi : i < len := by have := (List.getElem?_eq_some_iff.1 hp).1; rw [List.length_take] at this; omega
    have hcl := hcell i (by omega)
    have hp' : ss.getD i ByteArray.empty = p := by
      rw [List.getElem?_take_of_lt hi] at hp
      rw [List.getD_eq_getElem?_getD, hp]; rfl
    rw [hp'] at hcl
    exact ⟨a, rfl, by have := block_lt_of_cell hcl; rwa [block_add] at this, hcl⟩
/-- A struct of two texts. -/
theorem open_item {r : Reach} {b0 : Nat} {t : TypeId} {f0 f1 : Field} {v : Value} {d : DataW H} {p : List MemPlace} (hs : P.underlying t = some (.struct #[f0, f1])) (hone : oneCellFields P #[f0, f1] = true) (hC : P.cellsOf t = 2) (h0 : P.underlying f0.type = some .string) (h1 : P.underlying f1.type = some .string)
    (hv : Value.okWide P w r b0 t v) (h : DataW.Trod enc P w base spare held t v d p) : ∃ x : It, v = .agg #[.string x.1, .string x.2] := by
  obtain ⟨v0, v1, y0, y1, n, rfl, _, _, hy0, hy1⟩ := Go.Joins.open_agg2 hs hone hC hv h
  obtain ⟨s, e0, _, _⟩ := DataW.trod_string h0 hy0
  obtain ⟨s', e1, _, _⟩ := DataW.trod_string h1 hy1
  simp at e0 e1
  subst e0 e1
  exact ⟨(s, s'), rfl⟩
theorem open_texts_cell {t e : TypeId} {fuel : Nat} {v : Value} {x : DataW H × List MemPlace} (ht : P.underlying t = some (.slice e)) (he : P.underlying e = some .string) (hc : P.cellsOf e = 1)
    (h : DataW.trod enc P w base spare held fuel t [v] = some x) : ∃ A cap, ∃ L : List ByteArray, v = .slice A L.length cap ∧ Strs w A L := by
  rcases open_strings ht he hc h with ⟨hcs, _⟩ | ⟨a, len, cap, ss, hcs, hb, hl, hm, hz, hx, hcell, hws⟩
  · obtain rfl := List.singleton_inj.1 hcs
    exact ⟨none, 0, [], rfl, Strs.nil _ _⟩
  · obtain rfl := List.singleton_inj.1 hcs
    have h' : DataW.Trod enc P w base spare held t (.slice (some a) len cap) x.1 x.2 := ⟨fuel, by simpa [Value.cells] using h⟩
    obtain ⟨L, rfl, hL⟩ := open_texts ht he hc h'
    exact ⟨some a, cap, L, rfl, hL⟩
/-- A proof: a list of texts and an item. -/
theorem open_proof {r : Reach} {b0 : Nat} {t ts te ti : TypeId} {f0 f1 g0 g1 : Field} {v : Value} {d : DataW H} {p : List MemPlace} (hs : P.underlying t = some (.struct #[f0, f1])) (hC : P.cellsOf t = 3)
    (o0 : f0.offset = 0) (o1 : f1.offset = 1) (e0 : f0.type = ts) (e1 : f1.type = ti) (hts : P.underlying ts = some (.slice te)) (hte : P.underlying te = some .string) (hce : P.cellsOf te = 1) (hcs : P.cellsOf ts = 1)
    (hti : P.underlying ti = some (.struct #[g0, g1])) (hone : oneCellFields P #[g0, g1] = true) (hci : P.cellsOf ti = 2) (k0 : P.underlying g0.type = some .string) (k1 : P.underlying g1.type = some .string)
    (hv : Value.okWide P w r b0 t v) (h : DataW.Trod enc P w base spare held t v d p) : ∃ A cap, ∃ L : List ByteArray, ∃ x : It, v = .agg #[.slice A L.length cap, .string x.1, .string x.2] ∧ Strs w A L := by
  obtain ⟨cs, rfl, hsz⟩ := okWide_struct hs hv
  obtain ⟨l⟩ := cs
  match l, hsz.trans hC with
  | [c0, c1, c2], _ =>
    obtain ⟨fuel, hf⟩ := h
    obtain ⟨y0, y1, n, hx, _, h0, h1⟩ := trod_struct2 hs hf
    subst e0 e1
    rw [o0, hcs] at h0
    rw [o1, hci] at h1
    obtain ⟨A, cap, L, rfl, hL⟩ := open_texts_cell hts hte hce (by simpa [Value.cells] using h0)
    obtain ⟨z0, z1, m, hz, _, i0, i1⟩ := trod_struct2 hti h1
    obtain ⟨p0, q0⟩ := hone_of hone 0 g0 rfl
    obtain ⟨p1, q1⟩ := hone_of hone 1 g1 rfl
    rw [p0, q0] at i0
    rw [p1, q1] at i1
    obtain ⟨s, es, _, _⟩ := DataW.trod_string k0 (show DataW.trod enc P w base spare held m g0.type [c1] = some z0 by simpa [Value.cells] using i0)
    obtain ⟨s', es', _, _⟩ := DataW.trod_string k1 (show DataW.trod enc P w base spare held m g1.type [c2] = some z1 by simpa [Value.cells] using i1)
    obtain rfl := List.singleton_inj.1 es
    obtain rfl := List.singleton_inj.1 es'
    exact ⟨A, cap, L, (s, s'), rfl, hL⟩
end
end Go.Proofs.YtiaoolopbikfgaaDoor
