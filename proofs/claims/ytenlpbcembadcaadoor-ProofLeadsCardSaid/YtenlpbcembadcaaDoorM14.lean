/- Parts of the proof, one behind the other: ProofLaw, PProof, Open, Laid. -/
import Derived.Test.YtenlpbcembadcaaDoorM10
import Derived.Test.YtenlpbcembadcaaDoorM13
import Derived.Test.YtenlpbcembadcaaDoorM12
import Derived.Test.YtenlpbcembadcaaDoorM5
import Derived.Deep.Slices
import Derived.Deep.Fields
import Derived.ChangeSame
import Derived.Lib.SmallJoins
import Derived.SliceStrings
import Derived.OpenShut
import Derived.Test.YtenlpbcembadcaaDoorRows
import Derived.Test.YtenlpbcembadcaaDoorM11
import Derived.Test.YtenlpbcembadcaaDoorM3
import Derived.Test.YtenlpbcembadcaaDoorM8
import Derived.WalkKit
import Derived.ProofKit
import Derived.Deep.DeepHandedRow
import Derived.Lib.LaidTab
import Derived.LaidHandle
/- ProofLeads, the walk, over whatever contracts the program's proofs keep. -/
namespace Go.Proofs.YtenlpbcembadcaaDoor
open Go.RowKit

/-- What the program answers of proofs. -/
structure ProofFace : Prop where
  right : ∀ (ix : ByteArray) (P : List ByteArray) (A : Option Addr) (cap : Nat) (x : It) (w : World), HasK w → P.length ≤ 1000000 → Strs w A P → ix.size ≤ 1000000 → x.1.size ≤ 1000000 → x.2.size ≤ 1000000 →
    Calls Tryd.prog 11 #[.string ix, .agg #[.slice A P.length cap, .string x.1, .string x.2]] w fun e w' => e = .returned (.bool (rightProof ix P x)) ∧ Below w.heap.size w w'
  root : ∀ (ix : ByteArray) (P : List ByteArray) (A : Option Addr) (cap : Nat) (x : It) (s : ByteArray) (n : Int) (w : World), HasK w → P.length ≤ 1000000 → Strs w A P → ix.size ≤ 1000000 → x.1.size ≤ 1000000 → x.2.size ≤ 1000000 → proofRootAns ix P x = (s, n) →
    Calls Tryd.prog 9 #[.string ix, .agg #[.slice A P.length cap, .string x.1, .string x.2]] w fun e w' => e = .returned (.tuple #[.string s, errOf n]) ∧ Below w.heap.size w w'
  verify : ∀ (root ix : ByteArray) (P : List ByteArray) (A : Option Addr) (cap : Nat) (x : It) (c : ByteArray) (t : Bool) (n : Int) (w : World), HasK w → P.length ≤ 1000000 → Strs w A P → ix.size ≤ 1000000 → x.1.size ≤ 1000000 → x.2.size ≤ 1000000 → verifyAns root ix P x = (c, t, n) →
    Calls Tryd.prog 14 #[.string root, .string ix, .agg #[.slice A P.length cap, .string x.1, .string x.2]] w fun e w' => e = .returned (.tuple #[.string c, .bool t, errOf n]) ∧ Below w.heap.size w w'
  commit : ∀ (o v c : ByteArray) (n : Int) (w : World), HasK w → o.size ≤ 1000000 → v.size ≤ 1000000 → commitAns o v = (c, n) →
    Calls Tryd.prog 16 #[.string o, .string v] w fun e w' => e = .returned (.tuple #[.string c, errOf n]) ∧ Below w.heap.size w w'

set_option maxHeartbeats 1000000 in
set_option maxRecDepth 100000 in
theorem proofLeads_any (F : ProofFace) (root ix : ByteArray) (P : List ByteArray) (A : Option Addr) (cap : Nat) (x : It) (o v : ByteArray) (w : World) (hk : HasK w) (hm : Strs w A P) (hg : w.cell? ⟨0, 0, none⟩ = some (.iface 157 (.agg #[hand 35]))) :
    Calls Tryd.prog 3 #[.string root, .string ix, .agg #[.slice A P.length cap, .string x.1, .string x.2], .string o, .string v] w fun e w' => e = .returned (.bool true) ∧ Below w.heap.size w w' := by
  have HLT := Lib.hid (show (0 : Nat) < w.heap.size from block_lt_of_cell hg)
  have HK := Lib.hid hk
  have HM := Lib.hid hm
  have HG := Lib.hid hg
  have HF := Lib.hid F
  have HB0 := Lib.hid (alloc_below w (.cells #[.slice A P.length cap, .string x.1, .string x.2] 26))
  have HH0 := Lib.hid (show Holds (w.alloc (.cells #[.slice A P.length cap, .string x.1, .string x.2] 26)) w.heap.size 3 (pCells (.slice A P.length cap) x) 26 from Holds.new w 3 (pCells (.slice A P.length cap) x) 26)
  clear hk hm hg F
  go_enter Tryd.func3, Tryd.ntmps3
  go_wp2_with fail
  generalize w.alloc (.cells #[.slice A P.length cap, .string x.1, .string x.2] 26) = w0 at HB0 HH0
  have p0 : w0.cell? ⟨w.heap.size, 0, none⟩ = some (.slice A P.length cap) := HH0.out.cell 0 (by omega)
  have p1 : w0.cell? ⟨w.heap.size, 1, none⟩ = some (.string x.1) := HH0.out.cell 1 (by omega)
  have p2 : w0.cell? ⟨w.heap.size, 2, none⟩ = some (.string x.2) := HH0.out.cell 2 (by omega)
  refine (long_e root _).mono ?_
  rintro e w1 ⟨b, rfl, rfl, h1⟩
  cases b
  case true =>
    go_wp2
    go_ret
    exact ⟨rfl, HB0.out⟩
  replace h1 := h1 rfl
  go_wp2_with fail
  refine (long_e ix _).mono ?_
  rintro e w1 ⟨b, rfl, rfl, h2⟩
  cases b
  case true =>
    go_wp2
    go_ret
    exact ⟨rfl, HB0.out⟩
  replace h2 := h2 rfl
  go_wp2_with fail
  refine (longs_any P A cap _ (HM.out.below HB0.out)).mono ?_
  rintro e w1 ⟨b, rfl, rfl, h3⟩
  cases b
  case true =>
    go_wp2
    go_ret
    exact ⟨rfl, HB0.out⟩
  replace h3 := (h3 rfl).1
  go_wp2_with fail
  refine (long_e x.1 _).mono ?_
  rintro e w1 ⟨b, rfl, rfl, h4⟩
  cases b
  case true =>
    go_wp2
    go_ret
    exact ⟨rfl, HB0.out⟩
  replace h4 := h4 rfl
  go_wp2_with fail
  refine (long_e x.2 _).mono ?_
  rintro e w1 ⟨b, rfl, rfl, h5⟩
  cases b
  case true =>
    go_wp2
    go_ret
    exact ⟨rfl, HB0.out⟩
  replace h5 := h5 rfl
  go_wp2_with fail
  refine (long_e o _).mono ?_
  rintro e w1 ⟨b, rfl, rfl, h6⟩
  cases b
  case true =>
    go_wp2
    go_ret
    exact ⟨rfl, HB0.out⟩
  replace h6 := h6 rfl
  go_wp2_with fail
  refine (long_e v _).mono ?_
  rintro e w1 ⟨b, rfl, rfl, h7⟩
  cases b
  case true =>
    go_wp2
    go_ret
    exact ⟨rfl, HB0.out⟩
  replace h7 := h7 rfl
  have HPL := Lib.hid (show P.length ≤ 1000000 by omega)
  have HIX := Lib.hid (show ix.size ≤ 1000000 by omega)
  have HX1 := Lib.hid (show x.1.size ≤ 1000000 by omega)
  have HX2 := Lib.hid (show x.2.size ≤ 1000000 by omega)
  have HO := Lib.hid (show o.size ≤ 1000000 by omega)
  have HV := Lib.hid (show v.size ≤ 1000000 by omega)
  clear h1 h2 h3 h4 h5 h6 h7 p0 p1 p2
  obtain ⟨s, n, hs⟩ : ∃ s n, proofRootAns ix P x = (s, n) := ⟨_, _, rfl⟩
  have HS := Lib.hid hs
  obtain ⟨R, hR⟩ : ∃ R, rightProof ix P x = R := ⟨_, rfl⟩
  have HRI := Lib.hid hR
  obtain ⟨c, m, hc⟩ : ∃ c m, commitAns o v = (c, m) := ⟨_, _, rfl⟩
  have HC := Lib.hid hc
  clear hs hR hc
  go_wp2_with fail
  refine (new_any _).mono ?_
  rintro e w1 ⟨r, rfl, hrb, hb1, hh1⟩
  have HB1 := Lib.hid (HB0.out.trans (hb1.mono HB0.out.size))
  have HH1 := Lib.hid (HH0.out.below hb1 HH0.out.lt)
  have HR := Lib.hid hh1
  clear hb1 hh1 hrb
  have p0 : w1.cell? ⟨w.heap.size, 0, none⟩ = some (.slice A P.length cap) := HH1.out.cell 0 (by omega)
  have p1 : w1.cell? ⟨w.heap.size, 1, none⟩ = some (.string x.1) := HH1.out.cell 1 (by omega)
  have p2 : w1.cell? ⟨w.heap.size, 2, none⟩ = some (.string x.2) := HH1.out.cell 2 (by omega)
  go_wp2_with fail
  clear p0 p1 p2
  refine (refProofRoot_is r ix P A cap x s n _ HR.out (HM.out.below HB1.out) HPL.out HS.out).mono ?_
  rintro e w2 ⟨rfl, hb2⟩
  have HB2 := Lib.hid (HB1.out.trans (hb2.mono HB1.out.size))
  have HH2 := Lib.hid (HH1.out.below hb2 HH1.out.lt)
  have HR2 := Lib.hid (HR.out.below hb2 HR.out.lt)
  clear hb2
  have p0 : w2.cell? ⟨w.heap.size, 0, none⟩ = some (.slice A P.length cap) := HH2.out.cell 0 (by omega)
  have p1 : w2.cell? ⟨w.heap.size, 1, none⟩ = some (.string x.1) := HH2.out.cell 1 (by omega)
  have p2 : w2.cell? ⟨w.heap.size, 2, none⟩ = some (.string x.2) := HH2.out.cell 2 (by omega)
  go_wp2_with fail
  clear p0 p1 p2
  refine (HF.out.root ix P A cap x s n _ (HK.out.below HB2.out HK.out.lt) HPL.out (HM.out.below HB2.out) HIX.out HX1.out HX2.out HS.out).mono ?_
  rintro e w3 ⟨rfl, hb3⟩
  have HB3 := Lib.hid (HB2.out.trans (hb3.mono HB2.out.size))
  have HH3 := Lib.hid (HH2.out.below hb3 HH2.out.lt)
  have HR3 := Lib.hid (HR2.out.below hb3 HR2.out.lt)
  clear hb3
  have HN3 := Lib.hid HH3.out.lt
  have HKZ := Lib.hid (show ∀ z : Later w3.heap.size w3, HasK z.at' from fun z => (HK.out.below HB3.out HK.out.lt).below z.below (Nat.lt_of_lt_of_le HK.out.lt HB3.out.size))
  have HMZ := Lib.hid (show ∀ z : Later w3.heap.size w3, Strs z.at' A P from fun z => (HM.out.below HB3.out).below z.below)
  have HGZ := Lib.hid (show ∀ z : Later w3.heap.size w3, z.at'.cell? ⟨0, 0, none⟩ = some (.iface 157 (.agg #[hand 35])) from fun z => (z.below.cell (Nat.lt_of_lt_of_le HLT.out HB3.out.size)).trans ((HB3.out.cell HLT.out).trans HG.out))
  have z0 : ∀ z : Later w3.heap.size w3, z.at'.cell? ⟨w.heap.size, 0, none⟩ = some (.slice A P.length cap) := fun z => (z.below.cell HN3.out).trans (HH3.out.cell 0 (by omega))
  have z1 : ∀ z : Later w3.heap.size w3, z.at'.cell? ⟨w.heap.size, 1, none⟩ = some (.string x.1) := fun z => (z.below.cell HN3.out).trans (HH3.out.cell 1 (by omega))
  have z2 : ∀ z : Later w3.heap.size w3, z.at'.cell? ⟨w.heap.size, 2, none⟩ = some (.string x.2) := fun z => (z.below.cell HN3.out).trans (HH3.out.cell 2 (by omega))
  have HFR := Lib.hid (show ∀ z : Later w3.heap.size w3, Calls Tryd.prog 11 #[.string ix, .agg #[.slice A P.length cap, .string x.1, .string x.2]] z.at' fun e w' => e = .returned (.bool R) ∧ Below z.at'.heap.size z.at' w' from fun z => by rw [← HRI.out]; exact HF.out.right ix P A cap x _ (HKZ.out z) HPL.out (HMZ.out z) HIX.out HX1.out HX2.out)
  have HDR := Lib.hid (show ∀ z : Later w3.heap.size w3, Calls Tryd.prog 12 #[.string ix, .agg #[.slice A P.length cap, .string x.1, .string x.2]] z.at' fun e w' => e = .returned (.bool R) ∧ Below z.at'.heap.size z.at' w' from fun z => by rw [← HRI.out]; exact refRightProof_any ix P A cap x _ (HMZ.out z) HPL.out)
  go_wp2
  cases R
  all_goals
    refine wp_region_later (by kernel_rfl) (by kernel_rfl) ?_
    repeat (go_big_quiet_step ((first
      | (go_at_call 10; refine later_of (bare_same n _ (HGZ.out _)))
      | (go_at_call 11; refine later_of (HFR.out _))
      | (go_at_call 12; refine later_of (HDR.out _)))))
    refine wpQuiet_nil ?_
    rintro w4 ⟨⟨w4, hb4⟩, rfl⟩
    have HB4 := Lib.hid (HB3.out.trans (hb4.mono HB3.out.size))
    have HH4 := Lib.hid (HH3.out.below hb4 HH3.out.lt)
    have HR4 := Lib.hid (HR3.out.below hb4 HR3.out.lt)
    clear z0 z1 z2 hb4 HKZ HMZ HGZ HFR HDR
    have HB5 := Lib.hid (HB4.out.trans ((alloc_below w4 (.cells #[.string root, .string s] 9)).mono HB4.out.size))
    have HH5 := Lib.hid (HH4.out.below (alloc_below w4 (.cells #[.string root, .string s] 9)) HH4.out.lt)
    have HR5 := Lib.hid (HR4.out.below (alloc_below w4 (.cells #[.string root, .string s] 9)) HR4.out.lt)
    have HT5 := Lib.hid (strs_new w4 [root, s] 9)
    go_wp2
    change Hid (Strs (w4.alloc (.cells #[.string root, .string s] 9)) (some ⟨w4.heap.size, 0, none⟩) [root, s]) at HT5
    generalize w4.alloc (.cells #[.string root, .string s] 9) = w5 at HB5 HH5 HR5 HT5
    generalize w4.heap.size = tb at HT5
    go_loopw [91] (fun i wr => ∃ k : Nat, k ≤ 2 ∧ i = .int .i64 (k : Int) ∧ Hid (Below w.heap.size w wr ∧ Holds wr w.heap.size 3 (pCells (.slice A P.length cap) x) 26 ∧ Holds wr r 72 refCells 63 ∧ Strs wr (some ⟨tb, 0, none⟩) [root, s])) (fun i _ => 2 - (intOf i).toNat)
    case atStart => exact ⟨0, by omega, rfl, Lib.hid ⟨HB5.out, HH5.out, HR5.out, HT5.out⟩⟩
    case round =>
      obtain ⟨k, hk, rfl, HU⟩ := hrel
      by_cases hlt : k < 2
      · obtain ⟨q, hq⟩ : ∃ q, [root, s][k]? = some q := ⟨_, List.getElem?_eq_getElem hlt⟩
        obtain ⟨a0, ha0, -, t0⟩ := HU.out.2.2.2 k q hq
        obtain rfl := Option.some.inj ha0
        rw [add_none, Nat.zero_add] at t0
        obtain ⟨c1, t1, n1, hv⟩ : ∃ c1 t1 n1, verifyAns q ix P x = (c1, t1, n1) := ⟨_, _, _, rfl⟩
        have HVE := Lib.hid hv
        clear hv hq
        have p0 : wr.cell? ⟨w.heap.size, 0, none⟩ = some (.slice A P.length cap) := HU.out.2.1.cell 0 (by omega)
        have p1 : wr.cell? ⟨w.heap.size, 1, none⟩ = some (.string x.1) := HU.out.2.1.cell 1 (by omega)
        have p2 : wr.cell? ⟨w.heap.size, 2, none⟩ = some (.string x.2) := HU.out.2.1.cell 2 (by omega)
        go_wp2_with fail
        clear p0 p1 p2 t0
        refine (refVerify_is r q ix P A cap x c1 t1 n1 _ HU.out.2.2.1 (HM.out.below HU.out.1) HPL.out HVE.out).mono ?_
        rintro e w6 ⟨rfl, hb6⟩
        have HV6 := Lib.hid (show Below w.heap.size w w6 ∧ Holds w6 w.heap.size 3 (pCells (.slice A P.length cap) x) 26 ∧ Holds w6 r 72 refCells 63 ∧ Strs w6 (some ⟨tb, 0, none⟩) [root, s] from
          ⟨HU.out.1.trans (hb6.mono HU.out.1.size), HU.out.2.1.below hb6 HU.out.2.1.lt, HU.out.2.2.1.below hb6 HU.out.2.2.1.lt, HU.out.2.2.2.below hb6⟩)
        clear hb6
        have p0 : w6.cell? ⟨w.heap.size, 0, none⟩ = some (.slice A P.length cap) := HV6.out.2.1.cell 0 (by omega)
        have p1 : w6.cell? ⟨w.heap.size, 1, none⟩ = some (.string x.1) := HV6.out.2.1.cell 1 (by omega)
        have p2 : w6.cell? ⟨w.heap.size, 2, none⟩ = some (.string x.2) := HV6.out.2.1.cell 2 (by omega)
        go_wp2_with fail
        clear p0 p1 p2
        refine (HF.out.verify q ix P A cap x c1 t1 n1 _ (HK.out.below HV6.out.1 HK.out.lt) HPL.out (HM.out.below HV6.out.1) HIX.out HX1.out HX2.out HVE.out).mono ?_
        rintro e w7 ⟨rfl, hb7⟩
        have HV7 := Lib.hid (show Below w.heap.size w w7 ∧ Holds w7 w.heap.size 3 (pCells (.slice A P.length cap) x) 26 ∧ Holds w7 r 72 refCells 63 ∧ Strs w7 (some ⟨tb, 0, none⟩) [root, s] from
          ⟨HV6.out.1.trans (hb7.mono HV6.out.1.size), HV6.out.2.1.below hb7 HV6.out.2.1.lt, HV6.out.2.2.1.below hb7 HV6.out.2.2.1.lt, HV6.out.2.2.2.below hb7⟩)
        clear hb7
        go_wp2_with fail
        refine (bare_same n1 _ ((HV7.out.1.cell HLT.out).trans HG.out)).mono ?_
        rintro e w8 ⟨rfl, hb8⟩
        have HV8 := Lib.hid (show Below w.heap.size w w8 ∧ Holds w8 w.heap.size 3 (pCells (.slice A P.length cap) x) 26 ∧ Holds w8 r 72 refCells 63 ∧ Strs w8 (some ⟨tb, 0, none⟩) [root, s] from
          ⟨HV7.out.1.trans (hb8.mono HV7.out.1.size), HV7.out.2.1.below hb8 HV7.out.2.1.lt, HV7.out.2.2.1.below hb8 HV7.out.2.2.1.lt, HV7.out.2.2.2.below hb8⟩)
        clear hb8
        go_wp2
        go_roundw
        case rel => exact ⟨k + 1, by omega, by go_num, HV8⟩
        case measure => simp [intOf]; omega
      · go_wp2_with fail
        refine (refCommit_is r o v c m _ HU.out.2.2.1 HC.out).mono ?_
        rintro e w6 ⟨rfl, hb6⟩
        have HB6 := Lib.hid (HU.out.1.trans (hb6.mono HU.out.1.size))
        clear hb6
        go_wp2_with fail
        refine (HF.out.commit o v c m _ (HK.out.below HB6.out HK.out.lt) HO.out HV.out HC.out).mono ?_
        rintro e w7 ⟨rfl, hb7⟩
        have HB7 := Lib.hid (HB6.out.trans (hb7.mono HB6.out.size))
        clear hb7
        go_wp2_with fail
        refine (bare_same m _ ((HB7.out.cell HLT.out).trans HG.out)).mono ?_
        rintro e w8 ⟨rfl, hb8⟩
        have HB8 := Lib.hid (HB7.out.trans (hb8.mono HB7.out.size))
        clear hb8
        go_wp2
        go_ret
        exact ⟨rfl, HB8.out⟩
end Go.Proofs.YtenlpbcembadcaaDoor
/- The program's Commit, and all four of its answers, as the document's. -/
namespace Go.Proofs.YtenlpbcembadcaaDoor
open Go.RowKit

set_option maxRecDepth 100000 in
theorem pCommit_is (o v c : ByteArray) (n : Int) (w : World) (hk : HasK w) (h : commitAns o v = (c, n)) :
    Calls Tryd.prog 16 #[.string o, .string v] w fun e w' => e = .returned (.tuple #[.string c, errOf n]) ∧ Below w.heap.size w w' := by
  have HK := Lib.hid hk
  have HBW := Lib.hid (alloc_below w (.cells #[.string o] 9))
  have HS1 := Lib.hid (show Strs (w.alloc (.cells #[.string o] 9)) (some ⟨w.heap.size, 0, none⟩) [o] from strs_new w [o] 9)
  clear hk
  unfold commitAns at h
  by_cases h16 : o.size = 16
  · have H16D := Lib.hid (decide_eq_true h16)
    by_cases hv0 : v.size = 0
    · rw [if_neg (by omega)] at h
      obtain ⟨rfl, rfl⟩ := Prod.mk.inj h
      have hv1 : (v.size : Int) < 1 := by omega
      clear h h16 hv0
      go_enter Tryd.func16, Tryd.ntmps16
      go_wp2_with fail
      refine (pAreOne_any o _ _ HS1.out).mono ?_
      rintro e w1 ⟨rfl, rfl⟩
      rw [H16D.out]
      go_wp2
      refine bodyPost_ret (results_tmp2 rfl _ _ _) rfl ?_
      exact ⟨rfl, HBW.out⟩
    · have hv1 : ¬ (v.size : Int) < 1 := by omega
      by_cases hv : 24 < v.size
      · rw [if_neg (by omega)] at h
        obtain ⟨rfl, rfl⟩ := Prod.mk.inj h
        have hv2 : (24 : Int) < (v.size : Int) := by omega
        clear h h16 hv0
        go_enter Tryd.func16, Tryd.ntmps16
        go_wp2_with fail
        refine (pAreOne_any o _ _ HS1.out).mono ?_
        rintro e w1 ⟨rfl, rfl⟩
        rw [H16D.out]
        go_wp2
        refine bodyPost_ret (results_tmp2 rfl _ _ _) rfl ?_
        exact ⟨rfl, HBW.out⟩
      · rw [if_pos ⟨h16, by omega, by omega⟩] at h
        obtain ⟨rfl, rfl⟩ := Prod.mk.inj h
        have HTOT := Lib.hid (show total [o, v] ≤ 1073741800 by simp [total]; omega)
        have hv2 : ¬ (24 : Int) < (v.size : Int) := by omega
        clear h h16 hv0 hv
        go_enter Tryd.func16, Tryd.ntmps16
        go_wp2_with fail
        refine (pAreOne_any o _ _ HS1.out).mono ?_
        rintro e w1 ⟨rfl, rfl⟩
        rw [H16D.out]
        generalize w.alloc (.cells #[.string o] 9) = w1 at HBW
        go_wp2_with fail
        refine (mark_any 99 [o, v] (some ⟨w1.heap.size, 0, none⟩) 2 _ ((HK.out.below HBW.out HK.out.lt).alloc _) HTOT.out (by simp) (strs_new w1 [o, v] 9)).mono ?_
        rintro e w2 ⟨rfl, hb2⟩
        have HB2 := Lib.hid ((HBW.out.alloc HBW.out.size (.cells #[.string o, .string v] 9)).trans (hb2.mono (by have := HBW.out.size; simp; omega)))
        clear hb2
        go_wp2
        refine bodyPost_ret (results_tmp2 rfl _ _ _) rfl ?_
        exact ⟨rfl, HB2.out⟩
  · rw [if_neg (fun e => h16 e.1)] at h
    obtain ⟨rfl, rfl⟩ := Prod.mk.inj h
    have H16D := Lib.hid (decide_eq_false h16)
    clear h h16
    go_enter Tryd.func16, Tryd.ntmps16
    go_wp2_with fail
    refine (pAreOne_any o _ _ HS1.out).mono ?_
    rintro e w1 ⟨rfl, rfl⟩
    rw [H16D.out]
    go_wp2
    refine bodyPost_ret (results_tmp2 rfl _ _ _) rfl ?_
    exact ⟨rfl, HBW.out⟩

theorem proofFace : ProofFace where
  right ix P A cap x w _ hl hm _ _ _ := pRight_any ix P A cap x w hl hm
  root ix P A cap x s n w hk hl hm hi hx hy h := pRoot_is ix P A cap x s n w hk hl hm hi hx hy h
  verify root ix P A cap x c t n w hk hl hm hi hx hy h := pVerify_is root ix P A cap x c t n w hk hl hm hi hx hy h
  commit o v c n w hk _ _ h := pCommit_is o v c n w hk h
end Go.Proofs.YtenlpbcembadcaaDoor
/- Arguments opened: lists of items, of texts; an item. -/
namespace Go.Proofs.YtenlpbcembadcaaDoor
open Go.ChangeShapes Go.WideShapes Go.Deep Go.RowKit

section
variable {H : Type} {enc : TypeId × Value → H} {P : Program} {w : World} {base : Nat} {spare : Nat → Bool} {held : Bool}
theorem open_slice_fields {t e : TypeId} {fs : Array Field} {fuel : Nat} {cs : List Value} {x : DataW H × List MemPlace} (ht : P.underlying t = some (.slice e)) (he : P.underlying e = some (.struct fs))
    (hone : oneCellFields P fs = true) (hC : P.cellsOf e = fs.size) (h : DataW.trod enc P w base spare held fuel t cs = some x) :
    (cs = [.slice none 0 0] ∧ x = (.nil, [])) ∨
    ∃ (a : Addr) (len cap m : Nat), cs = [.slice (some a) len cap] ∧ len ≤ cap ∧ m = (if spare a.block then cap else len) ∧
      ∀ i, i < m → ∃ (ys : List (DataW H × List MemPlace)) (n : Nat), ys.length = fs.size ∧
        ∀ (j : Nat) (f : Field), fs[j]? = some f → ∃ (v : Value) (y : DataW H × List MemPlace), w.cell? (a.add (i * fs.size + j)) = some v ∧ ys[j]? = some y ∧ DataW.trod enc P w base spare held n f.type [v] = some y := by
  rcases open_slice ht h with h0 | ⟨a, len, cap, m, n, D, Pl, hcs, hb, hl, hm, hmm, hx, hi⟩
  · exact .inl h0
  · refine .inr ⟨a, len, cap, m, hcs, hl, hmm, fun i him => ?_⟩
    obtain ⟨cs', hc, ht'⟩ := hi i him
    rw [hC] at hc
    obtain ⟨ys, n', hn', hy, hlen, hyl, hf⟩ := DataW.trod_struct he ht'
    obtain ⟨_, hcl, hat⟩ := World.cells?_some hc
    refine ⟨ys, n', hyl, fun j f hj => ?_⟩
    obtain ⟨ho, hk⟩ := hone_of hone j f hj
    have hjl : j < fs.size := (Array.getElem?_eq_some_iff.1 hj).1
    have hcell := hat j hjl
    have hv : cs'[j]? = some (cs'[j]'(by omega)) := List.getElem?_eq_getElem (by omega)
    have h1 := hf j f hj
    rw [ho, hk] at h1
    have hone' : (cs'.drop j).take 1 = [cs'[j]'(by omega)] := by
      rw [List.drop_eq_getElem_cons (by omega)]
      rfl
    rw [hone'] at h1
    have hys : ys[j]? = some (ys[j]'(by omega)) := List.getElem?_eq_getElem (by omega)
    refine ⟨_, _, ?_, hys, h1.trans hys⟩
    rw [← Go.Deep.add_add, hcell, hv]
/-- A list of structs of two texts, as items. -/
theorem open_items {t e : TypeId} {f0 f1 : Field} {a0 : Option Addr} {len cap : Nat} {d : DataW H} {p : List MemPlace} (ht : P.underlying t = some (.slice e)) (he : P.underlying e = some (.struct #[f0, f1]))
    (hone : oneCellFields P #[f0, f1] = true) (hC : P.cellsOf e = 2) (h0 : P.underlying f0.type = some .string) (h1 : P.underlying f1.type = some .string) (h : DataW.Trod enc P w base spare held t (.slice a0 len cap) d p) :
    ∃ L : List It, L.length = len ∧ len ≤ cap ∧ Itms w a0 L := by
  obtain ⟨fuel, hf⟩ := h
  rcases open_slice_fields ht he hone hC hf with ⟨hcs, _⟩ | ⟨a, len', cap', m, hcs, hl, hm, hi⟩
  · simp [Value.cells] at hcs
    obtain ⟨rfl, rfl, rfl⟩ := hcs
    exact ⟨[], rfl, Nat.le_refl 0, Itms.nil _ _⟩
  · simp [Value.cells] at hcs
    obtain ⟨rfl, rfl, rfl⟩ := hcs
    have hlm : len ≤ m := by rw [hm]; split <;> omega
    have key : ∀ i, i < len → ∃ x : It, w.cell? (a.add (i * 2)) = some (.string x.1) ∧ w.cell? ((a.add (i * 2)).add 1) = some (.string x.2) := by
      intro i hil
      obtain ⟨ys, n, _, hj⟩ := hi i (by omega)
      obtain ⟨v, y, hc, _, hy⟩ := hj 0 f0 rfl
      obtain ⟨v', y', hc', _, hy'⟩ := hj 1 f1 rfl
      obtain ⟨s, e0, _, _⟩ := DataW.trod_string h0 hy
      obtain ⟨s', e1, _, _⟩ := DataW.trod_string h1 hy'
      obtain rfl := List.singleton_inj.1 e0
      obtain rfl := List.singleton_inj.1 e1
      exact ⟨(s, s'), hc, by rw [add_add']; exact hc'⟩
    refine ⟨(List.range len).map fun i => if hi : i < len then (key i hi).choose else (⟨#[]⟩, ⟨#[]⟩), by simp, hl, ?_⟩
    intro i x hx
    have hil : i < len := by have := (List.getElem?_eq_some_iff.1 hx).1; simpa using this
    have hk := (key i hil).choose_spec
    rw [List.getElem?_map, List.getElem?_range hil, Option.map_some, dif_pos hil] at hx
    rw [Option.some.inj hx] at hk
    exact ⟨a, rfl, by have := block_lt_of_cell hk.1; rwa [block_add] at this, hk.1, hk.2⟩
theorem open_texts {t e : TypeId} {a0 : Option Addr} {len cap : Nat} {d : DataW H} {p : List MemPlace} (ht : P.underlying t = some (.slice e)) (he : P.underlying e = some .string) (hc : P.cellsOf e = 1)
    (h : DataW.Trod enc P w base spare held t (.slice a0 len cap) d p) : ∃ L : List ByteArray, L.length = len ∧ Strs w a0 L := by
  obtain ⟨fuel, hf⟩ := h
  rcases open_strings ht he hc hf with ⟨hcs, hx⟩ | ⟨a, len', cap', ss, hcs, _, hl, hm, hz, hx, hcell, hws⟩
  · simp [Value.cells] at hcs
    obtain ⟨rfl, rfl, rfl⟩ := hcs
    exact ⟨[], rfl, Strs.nil _ _⟩
  · simp [Value.cells] at hcs
    obtain ⟨rfl, rfl, rfl⟩ := hcs
    have hle : len ≤ ss.length := by rw [hz]; split <;> omega
    refine ⟨ss.take len, by rw [List.length_take]; omega, fun i p hp => ?_⟩
    have hi : i < len := by have := (List.getElem?_eq_some_iff.1 hp).1; rw [List.length_take] at this; omega
    have hcl := hcell i (by omega)
    have hp' : ss.getD i ByteArray.empty = p := by
      rw [List.getElem?_take_of_lt hi] at hp
      rw [List.getD_eq_getElem?_getD, hp]; rfl
    rw [hp'] at hcl
    exact ⟨a, rfl, by have := block_lt_of_cell hcl; rwa [block_add] at this, hcl⟩
/-- A struct of two texts. -/
theorem open_item {r : Reach} {b0 : Nat} {t : TypeId} {f0 f1 : Field} {v : Value} {d : DataW H} {p : List MemPlace} (hs : P.underlying t = some (.struct #[f0, f1])) (hone : oneCellFields P #[f0, f1] = true) (hC : P.cellsOf t = 2) (h0 : P.underlying f0.type = some .string) (h1 : P.underlying f1.type = some .string)
    (hv : Value.okWide P w r b0 t v) (h : DataW.Trod enc P w base spare held t v d p) : ∃ x : It, v = .agg #[.string x.1, .string x.2] := by
  obtain ⟨v0, v1, y0, y1, n, rfl, _, _, hy0, hy1⟩ := Go.Joins.open_agg2 hs hone hC hv h
  obtain ⟨s, e0, _, _⟩ := DataW.trod_string h0 hy0
  obtain ⟨s', e1, _, _⟩ := DataW.trod_string h1 hy1
  simp at e0 e1
  subst e0 e1
  exact ⟨(s, s'), rfl⟩
theorem open_texts_cell {t e : TypeId} {fuel : Nat} {v : Value} {x : DataW H × List MemPlace} (ht : P.underlying t = some (.slice e)) (he : P.underlying e = some .string) (hc : P.cellsOf e = 1)
    (h : DataW.trod enc P w base spare held fuel t [v] = some x) : ∃ A cap, ∃ L : List ByteArray, v = .slice A L.length cap ∧ Strs w A L := by
  rcases open_strings ht he hc h with ⟨hcs, _⟩ | ⟨a, len, cap, ss, hcs, hb, hl, hm, hz, hx, hcell, hws⟩
  · obtain rfl := List.singleton_inj.1 hcs
    exact ⟨none, 0, [], rfl, Strs.nil _ _⟩
  · obtain rfl := List.singleton_inj.1 hcs
    have h' : DataW.Trod enc P w base spare held t (.slice (some a) len cap) x.1 x.2 := ⟨fuel, by simpa [Value.cells] using h⟩
    obtain ⟨L, rfl, hL⟩ := open_texts ht he hc h'
    exact ⟨some a, cap, L, rfl, hL⟩
/-- A proof: a list of texts and an item. -/
theorem open_proof {r : Reach} {b0 : Nat} {t ts te ti : TypeId} {f0 f1 g0 g1 : Field} {v : Value} {d : DataW H} {p : List MemPlace} (hs : P.underlying t = some (.struct #[f0, f1])) (hC : P.cellsOf t = 3)
    (o0 : f0.offset = 0) (o1 : f1.offset = 1) (e0 : f0.type = ts) (e1 : f1.type = ti) (hts : P.underlying ts = some (.slice te)) (hte : P.underlying te = some .string) (hce : P.cellsOf te = 1) (hcs : P.cellsOf ts = 1)
    (hti : P.underlying ti = some (.struct #[g0, g1])) (hone : oneCellFields P #[g0, g1] = true) (hci : P.cellsOf ti = 2) (k0 : P.underlying g0.type = some .string) (k1 : P.underlying g1.type = some .string)
    (hv : Value.okWide P w r b0 t v) (h : DataW.Trod enc P w base spare held t v d p) : ∃ A cap, ∃ L : List ByteArray, ∃ x : It, v = .agg #[.slice A L.length cap, .string x.1, .string x.2] ∧ Strs w A L := by
  obtain ⟨cs, rfl, hsz⟩ := okWide_struct hs hv
  obtain ⟨l⟩ := cs
  match l, hsz.trans hC with
  | [c0, c1, c2], _ =>
    obtain ⟨fuel, hf⟩ := h
    obtain ⟨y0, y1, n, hx, _, h0, h1⟩ := trod_struct2 hs hf
    subst e0 e1
    rw [o0, hcs] at h0
    rw [o1, hci] at h1
    obtain ⟨A, cap, L, rfl, hL⟩ := open_texts_cell hts hte hce (by simpa [Value.cells] using h0)
    obtain ⟨z0, z1, m, hz, _, i0, i1⟩ := trod_struct2 hti h1
    obtain ⟨p0, q0⟩ := hone_of hone 0 g0 rfl
    obtain ⟨p1, q1⟩ := hone_of hone 1 g1 rfl
    rw [p0, q0] at i0
    rw [p1, q1] at i1
    obtain ⟨s, es, _, _⟩ := DataW.trod_string k0 (show DataW.trod enc P w base spare held m g0.type [c1] = some z0 by simpa [Value.cells] using i0)
    obtain ⟨s', es', _, _⟩ := DataW.trod_string k1 (show DataW.trod enc P w base spare held m g1.type [c2] = some z1 by simpa [Value.cells] using i1)
    obtain rfl := List.singleton_inj.1 es
    obtain rfl := List.singleton_inj.1 es'
    exact ⟨A, cap, L, (s, s'), rfl, hL⟩
end
end Go.Proofs.YtenlpbcembadcaaDoor
/- What a row's listed variables give a walk: the round numbers, the handle of errors.errorType, any table on the list; a world for the witness. -/
namespace Go.Proofs.YtenlpbcembadcaaDoor
open Go.ChangeShapes Go.WideShapes Go.ChangeAt Go.RowKit

theorem sumOwn : ownKnob Tryd.prog.godebug = none := by kernel_rfl
theorem sumLaidOut : laidOutB Tryd.prog = true := by kernel_rfl
theorem gK : Tryd.prog.globalNamed "rollkeeper/sum.roundNumbers" = some 1 := by kernel_rfl
theorem gKType : (Tryd.prog.globals[1]?).map (·.type) = some 61 := by kernel_rfl
theorem cellsA32 : Tryd.prog.cellsOf 61 = 64 := by kernel_rfl
theorem cellsU32 : Tryd.prog.cellsOf 59 = 1 := by kernel_rfl
theorem cellsStr : Tryd.prog.cellsOf 9 = 1 := by kernel_rfl

/-- A table that stands somewhere on the row's list. -/
theorem tab_of_vars {P : Program} {W : World} {name : String} {k : IntKind} {zs : List Int} {rest : List (String × DataW Unit)} {ps : List MemPlace} {g : Nat} {t e : TypeId} {n : Nat}
    (hg : P.globalNamed name = some g) (hty : (P.globals[g]?).map (·.type) = some t) (ht : P.underlying t = some (.array n e)) (he : P.underlying e = some (.int k)) (hce : P.cellsOf e = 1) (hct : P.cellsOf t = n)
    (h : DataW.LaidVars P W ((name, Lib.tabData k zs) :: rest) ps) : Lib.TabIs P W name k zs := by
  obtain ⟨g', t', cs, fuel, p, q, hg', ht', hvar, hd, _, _⟩ := h
  obtain rfl := Option.some.inj (hg.symm.trans hg')
  obtain rfl := Option.some.inj (hty.symm.trans ht')
  unfold Lib.TabIs
  rw [hvar, ← Lib.cells_of_tab ht he hce hct hd]
theorem vars_tail {P : Program} {W : World} {x : String × DataW Unit} {rest : List (String × DataW Unit)} {ps : List MemPlace} (h : DataW.LaidVars P W (x :: rest) ps) : ∃ q, DataW.LaidVars P W rest q := by
  obtain ⟨n, d⟩ := x
  obtain ⟨_, _, _, _, _, q, _, _, _, _, h, _⟩ := h
  exact ⟨q, h⟩
/-- The round numbers as a row lists them. -/
def kData : DataW Unit := Lib.tabData .u32 (kTab.map fun n : Nat => (n : Int))
theorem hasK_of_vars {W : World} {rest : List (String × DataW Unit)} {ps : List MemPlace} (h : DataW.LaidVars Tryd.prog W (("rollkeeper/sum.roundNumbers", kData) :: rest) ps) : HasK W := by
  have t0 := tab_of_vars gK gKType Tryd.underlying61 Tryd.underlying59 cellsU32 cellsA32 h
  intro i hi
  rw [t0.cell gK i (by rw [List.length_map]; exact hi)]
  have hlt : kTab.getD i 0 < 4294967296 := by rw [← k_root i hi]; exact Nat.mod_lt _ (by decide)
  have e1 : (kTab.map fun n : Nat => (n : Int)).getD i 0 = ((kTab.getD i 0 : Nat) : Int) := by
    rw [List.getD_eq_getElem?_getD, List.getD_eq_getElem?_getD, List.getElem?_map]
    cases kTab[i]? <;> rfl
  rw [e1]
  unfold W32 kOf
  rw [BitVec.toNat_ofNat, Nat.mod_eq_of_lt (by omega)]

theorem gErrType : Tryd.prog.globalNamed "errors.errorType" = some 0 := by kernel_rfl
theorem rtErr : (Tryd.prog.cutTypes.find? (·.1 == "internal/reflectlite.rtype")).map (·.2) = some 157 := by kernel_rfl
theorem oneRowErr : ((List.range Tryd.prog.types.size).filter fun t => Tryd.prog.rowNamed t [101, 114, 114, 111, 114]) = [35] := by kernel_rfl
def errData : DataW Unit := .iface "internal/reflectlite.rtype" (.agg [.ptr (.lit (.string [101, 114, 114, 111, 114]))])
theorem handle_of_laid {W : World} {l : List (String × DataW Unit)} (h : handlesMet Tryd.prog l W) (hm : ("errors.errorType", errData) ∈ l) :
    W.cell? ⟨0, 0, none⟩ = some (.iface 157 (.agg #[hand 35])) := by
  obtain ⟨name, u, ty, e1, e2, e3, e4, e5⟩ := h _ hm
  have en : name = [101, 114, 114, 111, 114] := (Option.some.inj e1).symm
  subst en
  obtain rfl := Option.some.inj (rtErr.symm.trans e2)
  have hm : ty ∈ (List.range Tryd.prog.types.size).filter fun t => Tryd.prog.rowNamed t [101, 114, 114, 111, 114] := List.mem_filter.2 ⟨List.mem_range.2 e3, e4⟩
  rw [oneRowErr] at hm
  obtain rfl := List.mem_singleton.1 hm
  have hh : typeHandle Tryd.prog 35 = hand 35 := by kernel_rfl
  rw [hh] at e5
  simpa using World.var?_cell gErrType e5 0

/-- A world for the witness: variables laid, one after the other. -/
def laidCells : DataW Unit → Array Value
  | .agg l => (l.map fun
    | .lit (.int k z) => Value.int k z
    | _ => .bool false).toArray
  | _ => #[]
noncomputable def laidBy (g : Nat) (cs : Array Value) (w : World) : World :=
  { w with heap := w.heap.modify g fun
      | .cells _ t frozen => .cells cs t frozen
      | o => o }
noncomputable def laidAt (g : Nat) (d : DataW Unit) (w : World) : World := laidBy g (laidCells d) w
noncomputable def laidErr (w : World) : World := laidBy 0 #[.iface 157 (.agg #[hand 35])] w
noncomputable def laidK (w : World) : World := laidAt 1 kData w
end Go.Proofs.YtenlpbcembadcaaDoor
