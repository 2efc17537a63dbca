/- Parts of the proof, one behind the other: SealLaw, Chunk. -/
import Derived.Test.YtedmgfompaoeoaaDoorM12
import Derived.Test.YtedmgfompaoeoaaDoorM13
import Derived.Test.YtedmgfompaoeoaaDoorM9
import Derived.RangeFuncNested
import Derived.RangeFuncBound
import Derived.RangeFuncCalls
import Derived.RangeFuncLeaves
import Derived.Shelf.Abstract
import Derived.Shelf.RegionOpen
import Derived.WalkKit
import Derived.OwnWalkIn
import Derived.TacticsInMore
import Derived.LoopNIn
import Derived.LoopIn
import Derived.Test.YtedmgfompaoeoaaDoorM4
/- SealSigns, the walk, over whatever contracts the program's seal keeps. -/
namespace Go.Proofs.YtedmgfompaoeoaaDoor
open Go.RowKit

/-- What the program's seals answer; what a box is in memory is the program's. -/
structure SealFace where
  Is : World → Addr → ByteArray → Prop
  keep : ∀ (w w' : World) (p : Addr) (seed : ByteArray), Is w p seed → Below w.heap.size w w' → Is w' p seed
  new_t : ∀ (seed : ByteArray) (w : World), HasK w → seed.size = 16 →
    Calls Tryd.prog 8 #[.string seed] w fun e w' => ∃ p, e = .returned (.tuple #[.pointer (some p), .nilIface]) ∧ Below w.heap.size w w' ∧ Is w' p seed
  new_f : ∀ (seed : ByteArray) (w : World), HasK w → seed.size ≤ 1000000 → ¬ seed.size = 16 →
    Calls Tryd.prog 8 #[.string seed] w fun e w' => e = .returned (.tuple #[.pointer none, errOf 1]) ∧ Below w.heap.size w w'
  pub : ∀ (p : Addr) (seed : ByteArray) (w : World), Is w p seed → Calls Tryd.prog 10 #[.pointer (some p)] w fun e w' => e = .returned (.string (boxPub seed)) ∧ Below w.heap.size w w'
  sign : ∀ (p : Addr) (seed : ByteArray) (key : Int) (m : ByteArray) (kk : Int) (S P : List ByteArray) (n : Int) (w : World), HasK w → Is w p seed → m.size ≤ 1000000 → sealAns seed key m = (kk, S, P, n) →
    Calls Tryd.prog 13 #[.pointer (some p), .int .i64 key, .string m] w fun e w' => ∃ A ca B cb, e = .returned (.tuple #[.agg #[.int .i64 kk, .slice A S.length ca, .slice B P.length cb], errOf n]) ∧ Below w.heap.size w w' ∧ Strs w' A S ∧ Strs w' B P
  verify : ∀ (pub m : ByteArray) (key : Int) (S P : List ByteArray) (A B : Option Addr) (ca cb : Nat) (w : World), HasK w → m.size ≤ 1000000 → S.length ≤ 1000000 → P.length ≤ 1000000 → Strs w A S → Strs w B P →
    Calls Tryd.prog 15 #[.string pub, .string m, .agg #[.int .i64 key, .slice A S.length ca, .slice B P.length cb]] w fun e w' => e = .returned (.bool (sealOk pub m key S P)) ∧ Below w.heap.size w w'

set_option maxRecDepth 100000 in
theorem longSeal_any (key : Int) (S P : List ByteArray) (A B : Option Addr) (ca cb : Nat) (w : World) (hs : Strs w A S) (hp : Strs w B P) :
    Calls Tryd.prog 5 #[.agg #[.int .i64 key, .slice A S.length ca, .slice B P.length cb]] w fun e w' => ∃ b, e = .returned (.bool b) ∧ Below w.heap.size w w' ∧ (b = false → S.length ≤ 140 ∧ P.length ≤ 140) := by
  have HB := Lib.hid (alloc_below w (.cells #[.int .i64 key, .slice A S.length ca, .slice B P.length cb] 24))
  have HS := Lib.hid (hs.below HB.out)
  have HP := Lib.hid (hp.below HB.out)
  clear hs hp
  go_enter Tryd.func5, Tryd.ntmps5
  go_wp2_with fail
  refine (longs_any S A ca _ HS.out).mono ?_
  rintro e w1 ⟨b, rfl, rfl, h1⟩
  cases b
  case true =>
    go_wp2
    go_ret
    exact ⟨true, rfl, HB.out, fun h => by cases h⟩
  have H1 := Lib.hid (h1 rfl).1
  clear h1
  go_wp2_with fail
  refine (longs_any P B cb _ HP.out).mono ?_
  rintro e w1 ⟨b, rfl, rfl, h2⟩
  have H2 := Lib.hid h2
  clear h2
  go_wp2
  go_ret
  exact ⟨b, rfl, HB.out, fun h => ⟨H1.out, (H2.out h).1⟩⟩
set_option maxRecDepth 100000 in
theorem sameSeal_same (key : Int) (S P : List ByteArray) (A B A' B' : Option Addr) (ca cb ca' cb' : Nat) (w : World) (hls : S.length ≤ 1000000) (hlp : P.length ≤ 1000000) (hs : Strs w A S) (hp : Strs w B P) (hs' : Strs w A' S) (hp' : Strs w B' P) :
    Calls Tryd.prog 14 #[.agg #[.int .i64 key, .slice A S.length ca, .slice B P.length cb], .agg #[.int .i64 key, .slice A' S.length ca', .slice B' P.length cb']] w fun e w' => e = .returned (.bool true) ∧ Below w.heap.size w w' := by
  have HB := Lib.hid (show Below w.heap.size w ((w.alloc (.cells #[.int .i64 key, .slice A S.length ca, .slice B P.length cb] 24)).alloc (.cells #[.int .i64 key, .slice A' S.length ca', .slice B' P.length cb'] 24)) from (alloc_below w _).alloc (by simp) _)
  have HS := Lib.hid (hs.below HB.out)
  have HP := Lib.hid (hp.below HB.out)
  have HS' := Lib.hid (hs'.below HB.out)
  have HP' := Lib.hid (hp'.below HB.out)
  clear hs hp hs' hp'
  have c2 : ((w.alloc (.cells #[.int .i64 key, .slice A S.length ca, .slice B P.length cb] 24)).alloc (.cells #[.int .i64 key, .slice A' S.length ca', .slice B' P.length cb'] 24)).cell? ⟨w.heap.size, 2, none⟩ = some (.slice B P.length cb) := ((Holds.new w 3 (slF key (.slice A S.length ca) (.slice B P.length cb)) 24).alloc _).cell 2 (by omega)
  have d2 : ((w.alloc (.cells #[.int .i64 key, .slice A S.length ca, .slice B P.length cb] 24)).alloc (.cells #[.int .i64 key, .slice A' S.length ca', .slice B' P.length cb'] 24)).cell? ⟨w.heap.size + 1, 2, none⟩ = some (.slice B' P.length cb') := by
    have := (Holds.new (w.alloc (.cells #[.int .i64 key, .slice A S.length ca, .slice B P.length cb] 24)) 3 (slF key (.slice A' S.length ca') (.slice B' P.length cb')) 24).cell 2 (by omega)
    rwa [show (w.alloc (.cells #[.int .i64 key, .slice A S.length ca, .slice B P.length cb] 24)).heap.size = w.heap.size + 1 by simp] at this
  go_enter Tryd.func14, Tryd.ntmps14
  go_wp2_with fail
  generalize (w.alloc (.cells #[.int .i64 key, .slice A S.length ca, .slice B P.length cb] 24)).alloc (.cells #[.int .i64 key, .slice A' S.length ca', .slice B' P.length cb'] 24) = w0 at HB HS HP HS' HP' c2 d2
  refine (sameTexts_same S A A' ca ca' _ hls HS.out HS'.out).mono ?_
  rintro e w1 ⟨rfl, q, rfl⟩
  have e2 : (w0.drewN q).cell? ⟨w.heap.size, 2, none⟩ = some (.slice B P.length cb) := c2
  have g2 : (w0.drewN q).cell? ⟨w.heap.size + 1, 2, none⟩ = some (.slice B' P.length cb') := d2
  have HB1 := Lib.hid (below_drew HB.out q)
  have HP1 := Lib.hid (HP.out.below (below_drew (Below.refl w0.heap.size w0) q))
  have HP1' := Lib.hid (HP'.out.below (below_drew (Below.refl w0.heap.size w0) q))
  generalize w0.drewN q = w1 at e2 g2 HB1 HP1 HP1'
  clear c2 d2
  go_wp2_with fail
  refine (sameTexts_same P B B' cb cb' _ hlp HP1.out HP1'.out).mono ?_
  rintro e w2 ⟨rfl, q2, rfl⟩
  have HB2 := Lib.hid (below_drew HB1.out q2)
  clear e2 g2
  go_wp2
  go_ret
  exact ⟨rfl, HB2.out⟩
theorem sign_lenS (seed : ByteArray) (key : Int) (m : ByteArray) : (signAns seed key m).1.length ≤ 1000000 := by
  unfold signAns
  split
  · rw [show (signChains seed key m 35).length = 35 from chains_len _ _]; omega
  · simp
/-- Three seals, one behind the other. -/
def slF3 (a b c : Nat → Value) : Nat → Value := fun i => if i < 3 then a i else if i < 6 then b (i - 3) else c (i - 6)
theorem seal_lens {seed : ByteArray} {key : Int} {m : ByteArray} {kk : Int} {S P : List ByteArray} {n : Int} (h : sealAns seed key m = (kk, S, P, n)) : S.length ≤ 1000000 ∧ P.length ≤ 1000000 := by
  unfold sealAns at h
  split at h
  · split at h
    · simp only [Prod.mk.injEq] at h
      obtain ⟨_, rfl, rfl, _⟩ := h
      refine ⟨sign_lenS _ _ _, ?_⟩
      rw [sealPath_length]; omega
    · simp only [Prod.mk.injEq] at h
      obtain ⟨_, rfl, rfl, _⟩ := h
      simp
  · simp only [Prod.mk.injEq] at h
    obtain ⟨_, rfl, rfl, _⟩ := h
    simp
set_option maxHeartbeats 2000000 in
set_option maxRecDepth 100000 in
theorem sealSigns_any (F : SealFace) (seed : ByteArray) (key : Int) (m : ByteArray) (k0 : Int) (S0 P0 : List ByteArray) (A0 B0 : Option Addr) (ca0 cb0 : Nat) (w : World) (hk : HasK w) (hs0 : Strs w A0 S0) (hp0 : Strs w B0 P0) (hg : w.cell? ⟨0, 0, none⟩ = some (.iface 138 (.agg #[hand 35]))) :
    Calls Tryd.prog 3 #[.string seed, .int .i64 key, .string m, .agg #[.int .i64 k0, .slice A0 S0.length ca0, .slice B0 P0.length cb0]] w fun e w' => e = .returned (.bool true) ∧ Below w.heap.size w w' := by
  have HLT := Lib.hid (show (0 : Nat) < w.heap.size from block_lt_of_cell hg)
  have HK := Lib.hid hk
  have HSS := Lib.hid hs0
  have HPP := Lib.hid hp0
  have HG := Lib.hid hg
  have HB0 := Lib.hid (alloc_below w (.cells #[.int .i64 k0, .slice A0 S0.length ca0, .slice B0 P0.length cb0] 24))
  have HH0 := Lib.hid (show Holds (w.alloc (.cells #[.int .i64 k0, .slice A0 S0.length ca0, .slice B0 P0.length cb0] 24)) w.heap.size 3 (slF k0 (.slice A0 S0.length ca0) (.slice B0 P0.length cb0)) 24 from Holds.new w 3 (slF k0 (.slice A0 S0.length ca0) (.slice B0 P0.length cb0)) 24)
  clear hk hs0 hp0 hg
  go_enter Tryd.func3, Tryd.ntmps3
  go_wp2_with fail
  generalize w.alloc (.cells #[.int .i64 k0, .slice A0 S0.length ca0, .slice B0 P0.length cb0] 24) = w0 at HB0 HH0
  refine (long_e seed _).mono ?_
  rintro e w1 ⟨b, rfl, rfl, h1⟩
  cases b
  case true =>
    go_wp2
    go_ret
    exact ⟨rfl, HB0.out⟩
  replace h1 := h1 rfl
  go_wp2_with fail
  refine (long_e m _).mono ?_
  rintro e w1 ⟨b, rfl, rfl, h2⟩
  cases b
  case true =>
    go_wp2
    go_ret
    exact ⟨rfl, HB0.out⟩
  replace h2 := h2 rfl
  have p0 : w1.cell? ⟨w.heap.size, 0, none⟩ = some (.int .i64 k0) := HH0.out.cell 0 (by omega)
  have p1 : w1.cell? ⟨w.heap.size, 1, none⟩ = some (.slice A0 S0.length ca0) := HH0.out.cell 1 (by omega)
  have p2 : w1.cell? ⟨w.heap.size, 2, none⟩ = some (.slice B0 P0.length cb0) := HH0.out.cell 2 (by omega)
  go_wp2_with fail
  clear p0 p1 p2
  refine (longSeal_any k0 S0 P0 A0 B0 ca0 cb0 _ (HSS.out.below HB0.out) (HPP.out.below HB0.out)).mono ?_
  rintro e w2 ⟨b, rfl, hb2, h3⟩
  have HB2 := Lib.hid (HB0.out.trans (hb2.mono HB0.out.size))
  have HH2 := Lib.hid (HH0.out.below hb2 HH0.out.lt)
  clear hb2
  cases b
  case true =>
    go_wp2
    go_ret
    exact ⟨rfl, HB2.out⟩
  replace h3 := h3 rfl
  have HSE := Lib.hid (show seed.size ≤ 1000000 by omega)
  have HMS := Lib.hid (show m.size ≤ 1000000 by omega)
  have HSL := Lib.hid (show S0.length ≤ 1000000 by omega)
  have HPL := Lib.hid (show P0.length ≤ 1000000 by omega)
  clear h1 h2 h3
  go_wp2_with fail
  refine (new_any _).mono ?_
  rintro e w3 ⟨r, rfl, hrb, hb3, hh3⟩
  have HB3 := Lib.hid (HB2.out.trans (hb3.mono HB2.out.size))
  have HH3 := Lib.hid (HH2.out.below hb3 HH2.out.lt)
  have HR3 := Lib.hid hh3
  clear hb3 hh3 hrb
  by_cases h16 : seed.size = 16
  · have H16 := Lib.hid h16
    clear h16
    go_wp2_with fail
    refine (refNewBox_t r seed _ HR3.out H16.out).mono ?_
    rintro e w4 ⟨bb, bv, rfl, hbx⟩
    have HBX4 := Lib.hid hbx.is
    have hb4 := hbx.below
    have HB4 := Lib.hid (HB3.out.trans (hb4.mono HB3.out.size))
    have HH4 := Lib.hid (HH3.out.below hb4 HH3.out.lt)
    have HR4 := Lib.hid (HR3.out.below hb4 HR3.out.lt)
    clear hbx hb4
    go_wp2_with fail
    refine (F.new_t seed _ (HK.out.below HB4.out HK.out.lt) H16.out).mono ?_
    rintro e w5 ⟨p, rfl, hb5, hbp⟩
    have HB5 := Lib.hid (HB4.out.trans (hb5.mono HB4.out.size))
    have HH5 := Lib.hid (HH4.out.below hb5 HH4.out.lt)
    have HR5 := Lib.hid (HR4.out.below hb5 HR4.out.lt)
    have HBX5 := Lib.hid (HBX4.out.below hb5)
    have HBP5 := Lib.hid hbp
    clear hb5 hbp
    go_wp2_with fail
    refine (show Calls Tryd.prog 9 #[.nilIface, .int .i64 0] w5 (fun e w' => e = .returned (.bool true) ∧ Below w5.heap.size w5 w') from bare_same 0 _ ((HB5.out.cell HLT.out).trans HG.out)).mono ?_
    rintro e w6 ⟨rfl, hb6⟩
    have HB6 := Lib.hid (HB5.out.trans (hb6.mono HB5.out.size))
    have HH6 := Lib.hid (HH5.out.below hb6 HH5.out.lt)
    have HR6 := Lib.hid (HR5.out.below hb6 HR5.out.lt)
    have HBX6 := Lib.hid (HBX5.out.below hb6)
    have HBP6 := Lib.hid (F.keep _ _ _ _ HBP5.out hb6)
    clear hb6
    go_wp2_with fail
    refine (F.pub p seed _ HBP6.out).mono ?_
    rintro e w7 ⟨rfl, hb7⟩
    have HB7 := Lib.hid (HB6.out.trans (hb7.mono HB6.out.size))
    have HH7 := Lib.hid (HH6.out.below hb7 HH6.out.lt)
    have HR7 := Lib.hid (HR6.out.below hb7 HR6.out.lt)
    have HBX7 := Lib.hid (HBX6.out.below hb7)
    have HBP7 := Lib.hid (F.keep _ _ _ _ HBP6.out hb7)
    clear hb7
    go_wp2_with fail
    refine (refPublic_any bb seed _ HBX7.out).mono ?_
    rintro e w8 ⟨rfl, rfl⟩
    obtain ⟨kk, S1, P1, n, hsa⟩ : ∃ kk S1 P1 n, sealAns seed key m = (kk, S1, P1, n) := ⟨_, _, _, _, rfl⟩
    have HSA := Lib.hid hsa
    have HLS := Lib.hid (seal_lens hsa)
    clear hsa
    go_wp2_with fail
    refine (refSealSign_is r bb seed key m kk S1 P1 n _ HR7.out HBX7.out HSA.out).mono ?_
    rintro e w9 ⟨A1, ca1, B1, cb1, rfl, hb9, hs1, hp1⟩
    have HB9 := Lib.hid (HB7.out.trans (hb9.mono HB7.out.size))
    have HH9 := Lib.hid (HH7.out.below hb9 HH7.out.lt)
    have HR9 := Lib.hid (HR7.out.below hb9 HR7.out.lt)
    have HBX9 := Lib.hid (HBX7.out.below hb9)
    have HBP9 := Lib.hid (F.keep _ _ _ _ HBP7.out hb9)
    have HS9 := Lib.hid hs1
    have HP9 := Lib.hid hp1
    clear hb9 hs1 hp1
    go_wp2_with fail
    have c0 := Lib.hid (show Holds (w9.alloc (.cells #[.int .i64 kk, .slice A1 S1.length ca1, .slice B1 P1.length cb1] 24)) w9.heap.size 3 (slF kk (.slice A1 S1.length ca1) (.slice B1 P1.length cb1)) 24 from Holds.new w9 3 (slF kk (.slice A1 S1.length ca1) (.slice B1 P1.length cb1)) 24)
    have hbA := alloc_below w9 (.cells #[.int .i64 kk, .slice A1 S1.length ca1, .slice B1 P1.length cb1] 24)
    have HB10 := Lib.hid (HB9.out.trans (hbA.mono HB9.out.size))
    have HH10 := Lib.hid (HH9.out.below hbA HH9.out.lt)
    have HR10 := Lib.hid (HR9.out.below hbA HR9.out.lt)
    have HBX10 := Lib.hid (HBX9.out.below hbA)
    have HBP10 := Lib.hid (F.keep _ _ _ _ HBP9.out hbA)
    have HS10 := Lib.hid (HS9.out.below hbA)
    have HP10 := Lib.hid (HP9.out.below hbA)
    clear hbA
    generalize w9.alloc (.cells #[.int .i64 kk, .slice A1 S1.length ca1, .slice B1 P1.length cb1] 24) = w10 at c0 HB10 HH10 HR10 HBX10 HBP10 HS10 HP10
    generalize w9.heap.size = b14 at c0
    refine (F.sign p seed key m kk S1 P1 n _ (HK.out.below HB10.out HK.out.lt) HBP10.out HMS.out HSA.out).mono ?_
    rintro e w11 ⟨A2, ca2, B2, cb2, rfl, hb11, hs2, hp2⟩
    have HB11 := Lib.hid (HB10.out.trans (hb11.mono HB10.out.size))
    have HH11 := Lib.hid (HH10.out.below hb11 HH10.out.lt)
    have HR11 := Lib.hid (HR10.out.below hb11 HR10.out.lt)
    have HBX11 := Lib.hid (HBX10.out.below hb11)
    have HS11 := Lib.hid (HS10.out.below hb11)
    have HP11 := Lib.hid (HP10.out.below hb11)
    have HQS11 := Lib.hid hs2
    have HQP11 := Lib.hid hp2
    have c11 := Lib.hid (c0.out.below hb11 c0.out.lt)
    clear hb11 hs2 hp2 c0
    go_wp2_with fail
    have d0 := Lib.hid (show Holds (w11.alloc (.cells #[.int .i64 kk, .slice A2 S1.length ca2, .slice B2 P1.length cb2] 24)) w11.heap.size 3 (slF kk (.slice A2 S1.length ca2) (.slice B2 P1.length cb2)) 24 from Holds.new w11 3 (slF kk (.slice A2 S1.length ca2) (.slice B2 P1.length cb2)) 24)
    have hbA := alloc_below w11 (.cells #[.int .i64 kk, .slice A2 S1.length ca2, .slice B2 P1.length cb2] 24)
    have HB12 := Lib.hid (HB11.out.trans (hbA.mono HB11.out.size))
    have HH12 := Lib.hid (HH11.out.below hbA HH11.out.lt)
    have HR12 := Lib.hid (HR11.out.below hbA HR11.out.lt)
    have HBX12 := Lib.hid (HBX11.out.below hbA)
    have HS12 := Lib.hid (HS11.out.below hbA)
    have HP12 := Lib.hid (HP11.out.below hbA)
    have HQS12 := Lib.hid (HQS11.out.below hbA)
    have HQP12 := Lib.hid (HQP11.out.below hbA)
    have c12 := Lib.hid (c11.out.below hbA c11.out.lt)
    clear hbA
    generalize w11.alloc (.cells #[.int .i64 kk, .slice A2 S1.length ca2, .slice B2 P1.length cb2] 24) = w12 at d0 HB12 HH12 HR12 HBX12 HS12 HP12 HQS12 HQP12 c12
    generalize w11.heap.size = b15 at d0
    refine (bare_same n _ ((HB12.out.cell HLT.out).trans HG.out)).mono ?_
    rintro e w13 ⟨rfl, hb13⟩
    have HB13 := Lib.hid (HB12.out.trans (hb13.mono HB12.out.size))
    have HH13 := Lib.hid (HH12.out.below hb13 HH12.out.lt)
    have HR13 := Lib.hid (HR12.out.below hb13 HR12.out.lt)
    have HBX13 := Lib.hid (HBX12.out.below hb13)
    have HS13 := Lib.hid (HS12.out.below hb13)
    have HP13 := Lib.hid (HP12.out.below hb13)
    have HQS13 := Lib.hid (HQS12.out.below hb13)
    have HQP13 := Lib.hid (HQP12.out.below hb13)
    have c13 := Lib.hid (c12.out.below hb13 c12.out.lt)
    have d13 := Lib.hid (d0.out.below hb13 d0.out.lt)
    clear hb13 d0
    have x0 : w13.cell? ⟨b14, 0, none⟩ = some (.int .i64 kk) := c13.out.cell 0 (by omega)
    have x1 : w13.cell? ⟨b14, 1, none⟩ = some (.slice A1 S1.length ca1) := c13.out.cell 1 (by omega)
    have x2 : w13.cell? ⟨b14, 2, none⟩ = some (.slice B1 P1.length cb1) := c13.out.cell 2 (by omega)
    have y0 : w13.cell? ⟨b15, 0, none⟩ = some (.int .i64 kk) := d13.out.cell 0 (by omega)
    have y1 : w13.cell? ⟨b15, 1, none⟩ = some (.slice A2 S1.length ca2) := d13.out.cell 1 (by omega)
    have y2 : w13.cell? ⟨b15, 2, none⟩ = some (.slice B2 P1.length cb2) := d13.out.cell 2 (by omega)
    go_wp2_with fail
    clear x0 x1 x2 y0 y1 y2
    refine (sameSeal_same kk S1 P1 A2 B2 A1 B1 ca2 cb2 ca1 cb1 _ HLS.out.1 HLS.out.2 HQS13.out HQP13.out HS13.out HP13.out).mono ?_
    rintro e w14 ⟨rfl, hb14⟩
    have HB14 := Lib.hid (HB13.out.trans (hb14.mono HB13.out.size))
    have HH14 := Lib.hid (HH13.out.below hb14 HH13.out.lt)
    have HR14 := Lib.hid (HR13.out.below hb14 HR13.out.lt)
    have HBX14 := Lib.hid (HBX13.out.below hb14)
    have HS14 := Lib.hid (HS13.out.below hb14)
    have HP14 := Lib.hid (HP13.out.below hb14)
    have c14 := Lib.hid (c13.out.below hb14 c13.out.lt)
    clear hb14
    have x0 : w14.cell? ⟨b14, 0, none⟩ = some (.int .i64 kk) := c14.out.cell 0 (by omega)
    have x1 : w14.cell? ⟨b14, 1, none⟩ = some (.slice A1 S1.length ca1) := c14.out.cell 1 (by omega)
    have x2 : w14.cell? ⟨b14, 2, none⟩ = some (.slice B1 P1.length cb1) := c14.out.cell 2 (by omega)
    have y0 : w14.cell? ⟨w.heap.size, 0, none⟩ = some (.int .i64 k0) := HH14.out.cell 0 (by omega)
    have y1 : w14.cell? ⟨w.heap.size, 1, none⟩ = some (.slice A0 S0.length ca0) := HH14.out.cell 1 (by omega)
    have y2 : w14.cell? ⟨w.heap.size, 2, none⟩ = some (.slice B0 P0.length cb0) := HH14.out.cell 2 (by omega)
    have lx : b14 < w14.heap.size := c14.out.lt
    have ly : w.heap.size < w14.heap.size := HH14.out.lt
    go_wp2
    have HB15 := Lib.hid (show Below w14.heap.size w14 ((w14.alloc (.cells #[.int .i64 kk, .slice A1 S1.length ca1, .slice B0 P0.length cb0] 24)).alloc (.cells #[.int .i64 k0, .slice A0 S0.length ca0, .slice B0 P0.length cb0, .int .i64 kk, .slice A1 S1.length ca1, .slice B1 P1.length cb1, .int .i64 kk, .slice A1 S1.length ca1, .slice B0 P0.length cb0] 24)) from (alloc_below w14 _).alloc (by simp) _)
    have HN15 := Lib.hid (show Holds ((w14.alloc (.cells #[.int .i64 kk, .slice A1 S1.length ca1, .slice B0 P0.length cb0] 24)).alloc (.cells #[.int .i64 k0, .slice A0 S0.length ca0, .slice B0 P0.length cb0, .int .i64 kk, .slice A1 S1.length ca1, .slice B1 P1.length cb1, .int .i64 kk, .slice A1 S1.length ca1, .slice B0 P0.length cb0] 24)) (w14.heap.size + 1) 9 (slF3 (slF k0 (.slice A0 S0.length ca0) (.slice B0 P0.length cb0)) (slF kk (.slice A1 S1.length ca1) (.slice B1 P1.length cb1)) (slF kk (.slice A1 S1.length ca1) (.slice B0 P0.length cb0))) 24 by
      have := Holds.new (w14.alloc (.cells #[.int .i64 kk, .slice A1 S1.length ca1, .slice B0 P0.length cb0] 24)) 9 (slF3 (slF k0 (.slice A0 S0.length ca0) (.slice B0 P0.length cb0)) (slF kk (.slice A1 S1.length ca1) (.slice B1 P1.length cb1)) (slF kk (.slice A1 S1.length ca1) (.slice B0 P0.length cb0))) 24
      rwa [show (w14.alloc (.cells #[.int .i64 kk, .slice A1 S1.length ca1, .slice B0 P0.length cb0] 24)).heap.size = w14.heap.size + 1 by simp] at this)
    clear x0 x1 x2 y0 y1 y2 lx ly
    generalize (w14.alloc (.cells #[.int .i64 kk, .slice A1 S1.length ca1, .slice B0 P0.length cb0] 24)).alloc (.cells #[.int .i64 k0, .slice A0 S0.length ca0, .slice B0 P0.length cb0, .int .i64 kk, .slice A1 S1.length ca1, .slice B1 P1.length cb1, .int .i64 kk, .slice A1 S1.length ca1, .slice B0 P0.length cb0] 24) = w15 at HB15 HN15 ⊢
    have HBW := Lib.hid (HB14.out.trans (HB15.out.mono HB14.out.size))
    have HR15 := Lib.hid (HR14.out.below HB15.out HR14.out.lt)
    have HBX15 := Lib.hid (HBX14.out.below HB15.out)
    have HS15 := Lib.hid (HS14.out.below HB15.out)
    have HP15 := Lib.hid (HP14.out.below HB15.out)
    generalize w14.heap.size + 1 = tb at HN15
    go_loopw [95] (fun i wr => ∃ j : Nat, j ≤ 3 ∧ i = .int .i64 (j : Int) ∧ Hid (Below w15.heap.size w15 wr)) (fun i _ => 3 - (intOf i).toNat)
    case atStart => exact ⟨0, by omega, rfl, Lib.hid (Below.refl _ _)⟩
    case round =>
      obtain ⟨j, hj, rfl, HU⟩ := hrel
      by_cases hlt : j < 3
      · have HWR := Lib.hid (HBW.out.trans (HU.out.mono HBW.out.size))
        obtain ⟨kj, Aj, Sj, caj, Bj, Pj, cbj, t0, t1, t2, hsj, hpj, hlsj, hlpj⟩ : ∃ kj Aj, ∃ Sj : List ByteArray, ∃ caj Bj, ∃ Pj : List ByteArray, ∃ cbj, wr.cell? ⟨tb, j * 3, none⟩ = some (.int .i64 kj) ∧ wr.cell? ⟨tb, j * 3 + 1, none⟩ = some (.slice Aj Sj.length caj) ∧ wr.cell? ⟨tb, j * 3 + 2, none⟩ = some (.slice Bj Pj.length cbj) ∧ Strs wr Aj Sj ∧ Strs wr Bj Pj ∧ Sj.length ≤ 1000000 ∧ Pj.length ≤ 1000000 := by
          have hh := HN15.out.below HU.out HN15.out.lt
          have sA := HSS.out.below HWR.out
          have pA := HPP.out.below HWR.out
          have sB := HS15.out.below HU.out
          have pB := HP15.out.below HU.out
          rcases (show j = 0 ∨ j = 1 ∨ j = 2 by omega) with rfl | rfl | rfl
          · exact ⟨k0, A0, S0, ca0, B0, P0, cb0, hh.cell 0 (by omega), hh.cell 1 (by omega), hh.cell 2 (by omega), sA, pA, HSL.out, HPL.out⟩
          · exact ⟨kk, A1, S1, ca1, B1, P1, cb1, hh.cell 3 (by omega), hh.cell 4 (by omega), hh.cell 5 (by omega), sB, pB, HLS.out.1, HLS.out.2⟩
          · exact ⟨kk, A1, S1, ca1, B0, P0, cb0, hh.cell 6 (by omega), hh.cell 7 (by omega), hh.cell 8 (by omega), sB, pA, HLS.out.1, HPL.out⟩
        have HSJ := Lib.hid hsj
        have HPJ := Lib.hid hpj
        have HBV := Lib.hid (HU.out.alloc HU.out.size (.cells #[.int .i64 kj, .slice Aj Sj.length caj, .slice Bj Pj.length cbj] 24))
        have HNV := Lib.hid (show Holds (wr.alloc (.cells #[.int .i64 kj, .slice Aj Sj.length caj, .slice Bj Pj.length cbj] 24)) wr.heap.size 3 (slF kj (.slice Aj Sj.length caj) (.slice Bj Pj.length cbj)) 24 from Holds.new wr 3 (slF kj (.slice Aj Sj.length caj) (.slice Bj Pj.length cbj)) 24)
        have HSV := Lib.hid (hsj.below (alloc_below wr (.cells #[.int .i64 kj, .slice Aj Sj.length caj, .slice Bj Pj.length cbj] 24)))
        have HPV := Lib.hid (hpj.below (alloc_below wr (.cells #[.int .i64 kj, .slice Aj Sj.length caj, .slice Bj Pj.length cbj] 24)))
        clear hsj hpj
        obtain ⟨R, hR⟩ : ∃ R, sealOk (boxPub seed) m kj Sj Pj = R := ⟨_, rfl⟩
        have HRI := Lib.hid hR
        clear hR
        have hlj := hlsj
        go_wp2
        clear t0 t1 t2
        generalize wr.alloc (.cells #[.int .i64 kj, .slice Aj Sj.length caj, .slice Bj Pj.length cbj] 24) = wv at HBV HNV HSV HPV ⊢
        generalize wr.heap.size = vb at HNV ⊢
        have z0 : ∀ z : Later wv.heap.size wv, z.at'.cell? ⟨vb, 0, none⟩ = some (.int .i64 kj) := fun z => (z.below.cell (p := ⟨vb, 0, none⟩) HNV.out.lt).trans (HNV.out.cell 0 (by omega))
        have z1 : ∀ z : Later wv.heap.size wv, z.at'.cell? ⟨vb, 1, none⟩ = some (.slice Aj Sj.length caj) := fun z => (z.below.cell (p := ⟨vb, 1, none⟩) HNV.out.lt).trans (HNV.out.cell 1 (by omega))
        have z2 : ∀ z : Later wv.heap.size wv, z.at'.cell? ⟨vb, 2, none⟩ = some (.slice Bj Pj.length cbj) := fun z => (z.below.cell (p := ⟨vb, 2, none⟩) HNV.out.lt).trans (HNV.out.cell 2 (by omega))
        have HFR := Lib.hid (show ∀ z : Later wv.heap.size wv, Calls Tryd.prog 15 #[.string (boxPub seed), .string m, .agg #[.int .i64 kj, .slice Aj Sj.length caj, .slice Bj Pj.length cbj]] z.at' fun e w' => e = .returned (.bool R) ∧ Below z.at'.heap.size z.at' w' from fun z => by
          rw [← HRI.out]
          exact F.verify (boxPub seed) m kj Sj Pj Aj Bj caj cbj _ (HK.out.below ((HBW.out.trans (HBV.out.mono HBW.out.size)).trans (z.below.mono (Nat.le_trans HBW.out.size HBV.out.size))) HK.out.lt) HMS.out hlsj hlpj (HSV.out.below z.below) (HPV.out.below z.below))
        have HDR := Lib.hid (show ∀ z : Later wv.heap.size wv, Calls Tryd.prog 16 #[.pointer (some ⟨r, 0, none⟩), .string (boxPub seed), .string m, .agg #[.int .i64 kj, .slice Aj Sj.length caj, .slice Bj Pj.length cbj]] z.at' fun e w' => e = .returned (.bool R) ∧ Below z.at'.heap.size z.at' w' from fun z => by
          rw [← HRI.out]
          exact refSealVerify_any r (boxPub seed) m kj Sj Pj Aj Bj caj cbj _ hlsj hlpj ((HR15.out.below HBV.out HR15.out.lt).below z.below (Nat.lt_of_lt_of_le HR15.out.lt HBV.out.size)) (HSV.out.below z.below) (HPV.out.below z.below))
        have HPB := Lib.hid (show ∀ z : Later wv.heap.size wv, Calls Tryd.prog 11 #[.pointer (some ⟨bb, 0, none⟩)] z.at' fun e w' => e = .returned (.string (boxPub seed)) ∧ Below z.at'.heap.size z.at' w' from fun z =>
          (refPublic_any bb seed _ ((HBX15.out.below HBV.out).below z.below)).mono fun _ _ ⟨he, hw⟩ => ⟨he, by rw [hw]; exact Below.refl _ _⟩)
        cases R
        all_goals
          refine wp_region_later (by kernel_rfl) (by kernel_rfl) ?_
          repeat (go_big_quiet_step ((first
            | (go_at_call 15; refine later_of (HFR.out _))
            | (go_at_call 16; refine later_of (HDR.out _))
            | (go_at_call 11; refine later_of (HPB.out _)))))
          refine wpQuiet_nil ?_
          rintro w20 ⟨⟨w20, hb20⟩, rfl⟩
          have HV := Lib.hid (HBV.out.trans (hb20.mono HBV.out.size))
          clear z0 z1 z2 hb20 HFR HDR HPB
          go_wp2
          go_roundw
          case rel => exact ⟨j + 1, by omega, by go_num, HV⟩
          case measure => simp [intOf]; omega
      · go_wp2
        go_ret
        exact ⟨rfl, HBW.out.trans (HU.out.mono HBW.out.size)⟩
  · have H16 := Lib.hid h16
    clear h16
    go_wp2_with fail
    refine (refNewBox_f r seed _ H16.out).mono ?_
    rintro e w4 ⟨rfl, rfl⟩
    go_wp2_with fail
    refine (F.new_f seed _ (HK.out.below HB3.out HK.out.lt) HSE.out H16.out).mono ?_
    rintro e w5 ⟨rfl, hb5⟩
    have HB5 := Lib.hid (HB3.out.trans (hb5.mono HB3.out.size))
    clear hb5
    go_wp2_with fail
    refine (bare_same 1 _ ((HB5.out.cell HLT.out).trans HG.out)).mono ?_
    rintro e w6 ⟨rfl, hb6⟩
    have HB6 := Lib.hid (HB5.out.trans (hb6.mono HB5.out.size))
    clear hb6
    go_wp2_with fail
    refine (bare_same 1 _ ((HB6.out.cell HLT.out).trans HG.out)).mono ?_
    rintro e w7 ⟨rfl, hb7⟩
    have HB7 := Lib.hid (HB6.out.trans (hb7.mono HB6.out.size))
    clear hb7
    go_wp2
    go_ret
    exact ⟨rfl, HB7.out⟩
end Go.Proofs.YtedmgfompaoeoaaDoor
/- slices.Chunk over strings, two and two: what its rounds are handed. -/
namespace Go.Proofs.YtedmgfompaoeoaaDoor
open Go.RowKit Go.Shelf
attribute [local go_sem] Oper.semAt_some

/-- What has come when k rounds are over. -/
def twos {m : Nat} (ys : List (Fin m)) (k : Nat) : Prop := ys.map (·.val) = List.range k
theorem twos_snoc {m : Nat} {ys : List (Fin m)} {k : Nat} (h : twos ys k) (x : Fin m) (hx : x.val = k) : twos (ys ++ [x]) (k + 1) := by
  unfold twos at h ⊢
  rw [List.range_succ, List.map_append, h, List.map_singleton, hx]
theorem twos_len {m : Nat} {ys : List (Fin m)} {k : Nat} (h : twos ys k) : ys.length = k := by
  have := congrArg List.length h
  rwa [List.length_map, List.length_range] at this
/-- What a round is handed. -/
def duo {m : Nat} (g : Nat) (x : Fin m) : Value := .slice (some ⟨g, 2 * x.val, none⟩) 2 2

/-- What a round that goes on keeps: what lies below n₀, and the two boxes. -/
def KeepTwo (n₀ B1 B2 : Nat) (v1 v2 : Value) (W W' : World) : Prop := Below n₀ W W' ∧ (W.cell? ⟨B1, 0, none⟩ = some v1 → W'.cell? ⟨B1, 0, none⟩ = some v1) ∧ (W.cell? ⟨B2, 0, none⟩ = some v2 → W'.cell? ⟨B2, 0, none⟩ = some v2)
theorem keepTwo_t {n₀ B1 B2 : Nat} {v1 v2 : Value} {A B C : World} (h : KeepTwo n₀ B1 B2 v1 v2 A B) (k : KeepTwo n₀ B1 B2 v1 v2 B C) : KeepTwo n₀ B1 B2 v1 v2 A C := ⟨h.1.trans k.1, fun e => k.2.1 (h.2.1 e), fun e => k.2.2 (h.2.2 e)⟩
theorem keepTwo_b {n₀ B1 B2 : Nat} {v1 v2 : Value} {w : World} (hn : n₀ ≤ w.heap.size) (W : World) (l : Nat) (o o' : Obj) (hl : w.heap.size ≤ l) (h : W.heap[l]? = some o) (hc : o.isCells = false) (hw : o.isWalk = false) : KeepTwo n₀ B1 B2 v1 v2 W (W.putObj l o') :=
  ⟨belowK_b hn W l o o' hl h hc hw, fun e => cell_kept e (grownBy_putObj' W l o') (fun r e => by cases e; exact ⟨_, h, hc⟩), fun e => cell_kept e (grownBy_putObj' W l o') (fun r e => by cases e; exact ⟨_, h, hc⟩)⟩

set_option maxRecDepth 100000 in
set_option maxHeartbeats 2000000 in
theorem chunk1_in (F : Fence) (n : Nat) (h8 : F.fn 57) (hro : F.round = none) (hn : 1 ≤ n) (l B1 B2 n₀ g cap m : Nat) (hm : m ≤ 1000000) (hcap : 2 * m ≤ cap) (J Jx : List (Fin m) → World → Prop)
    (hY : ∀ pre x W, J pre W → pre.length < m → YieldAt F (n - 1) Tryd.prog l #[duo g x] W fun e W' =>
      (e = .returned (.bool true) ∧ J (pre ++ [x]) W' ∧ KeepTwo n₀ B1 B2 (.slice (some ⟨g, 0, none⟩) (2 * m) cap) (.int .i64 2) W W') ∨ (e = .returned (.bool false) ∧ Jx (pre ++ [x]) W'))
    (hJd : ∀ pre W, J pre W → J pre W.drew)
    (W : World) (hB1 : W.cell? ⟨B1, 0, none⟩ = some (.slice (some ⟨g, 0, none⟩) (2 * m) cap)) (hB2 : W.cell? ⟨B2, 0, none⟩ = some (.int .i64 2)) (h0 : J [] W) :
    CallsIn F n Tryd.prog 57 #[.func (.yield l) #[] #[], .pointer (some ⟨B1, 0, none⟩), .pointer (some ⟨B2, 0, none⟩)] W fun e W' => (∃ v, e = .returned v) ∧
      ((∃ ys, twos ys m ∧ J ys W') ∨ (∃ pre, (∃ k, k ≤ m ∧ twos pre k) ∧ Jx pre W')) := by
  refine callsIn_of_wp Tryd.func57 rfl h8 ?_ hro
  simp only [Tryd.ntmps57, List.size_toArray, List.length_cons, List.length_nil, Nat.reduceAdd, Nat.reduceSub, Array.replicate_succ, Array.replicate_zero, List.push_toArray, List.append_toArray, List.nil_append, List.cons_append]
  gi_wp2
  gi_loopw [4] (fun i wr => ∃ k : Nat, k ≤ m ∧ i = .int .i64 ((2 * k : Nat) : Int) ∧ (∃ ys, twos ys k ∧ J ys wr) ∧ wr.cell? ⟨B1, 0, none⟩ = some (.slice (some ⟨g, 0, none⟩) (2 * m) cap) ∧ wr.cell? ⟨B2, 0, none⟩ = some (.int .i64 2))
    (fun i _ => 2 * m - (intOf i).toNat)
  case atStart => exact ⟨0, Nat.zero_le _, by simp, ⟨[], rfl, h0⟩, hB1, hB2⟩
  case round =>
    obtain ⟨k, hk, rfl, ⟨ys, hys, hJs⟩, hc1, hc2⟩ := hrel
    by_cases hlt : k < m
    · obtain ⟨i2, hi2⟩ : ∃ i2 : Nat, 2 * k = i2 := ⟨_, rfl⟩
      obtain ⟨m2, hm2⟩ : ∃ m2 : Nat, 2 * m = m2 := ⟨_, rfl⟩
      obtain ⟨fn, tmps, assign, body, hy, hR⟩ := hY ys ⟨k, hlt⟩ wr.drew (hJd _ _ hJs) (by rw [twos_len hys]; exact hlt)
      have hd1 : wr.drew.cell? ⟨B1, 0, none⟩ = some (.slice (some ⟨g, 0, none⟩) (2 * m) cap) := hc1
      have hd2 : wr.drew.cell? ⟨B2, 0, none⟩ = some (.int .i64 2) := hc2
      dsimp only [duo] at hy
      have hbs := twos_snoc hys ⟨k, hlt⟩ rfl
      rw [hi2] at hy ⊢
      rw [hm2] at hc1 hd1 hcap
      have b1 : i2 + 2 ≤ m2 := by omega
      have b2 : m2 ≤ 2000000 := by omega
      have t1 : (i2 : Int) < (m2 : Int) := by omega
      gi_wp2
      gi_region
      all_goals
        first
          | rw [if_neg (show ¬ ((m2 - i2 : Nat) : Int) < 2 by omega)]
          | rw [show min (2 : Int) ((m2 - i2 : Nat) : Int) = 2 by omega]
        have w2 : IntKind.i64.wrap ((i2 : Int) + 2) = (i2 : Int) + 2 := IntWalk.i64_in _ (by omega)
        have w3 : ((i2 : Int) + 2).toNat = i2 + 2 := by omega
        have w4 : i2 + 2 - i2 = 2 := by omega
        have w5 : ¬ cap - i2 = 0 := by omega
        gi_wp2
        refine hR.mono ?_
        rintro e W3 (⟨rfl, hJ3, hk3⟩ | ⟨rfl, hJx3⟩)
        · rw [hm2] at hk3
          have hc1' := hk3.2.1 hd1
          have hc2' := hk3.2.2 hd2
          gi_wp2
          go_roundw
          case rel => exact ⟨k + 1, by omega, by congr 1; omega, ⟨_, hbs, hJ3⟩, by rw [hm2]; exact hc1', hc2'⟩
          case measure => simp only [intOf]; omega
        · gi_wp2
          refine bodyPost_ret (results_none rfl _ _ _) rfl ?_
          exact ⟨⟨_, rfl⟩, .inr ⟨_, ⟨k + 1, by omega, hbs⟩, hJx3⟩⟩
    · obtain rfl : k = m := by omega
      gi_wp2
      go_end0
      exact ⟨⟨_, rfl⟩, .inl ⟨_, hys, hJs⟩⟩

set_option maxHeartbeats 1000000 in
theorem chunk_in (F : Fence) (n : Nat) (h6 : F.fn 43) (hro : F.round = none) (a : Option Addr) (len cap : Nat) (w : World) :
    CallsIn F n Tryd.prog 43 #[.slice a len cap, .int .i64 2] w fun e w' => e = .returned (.func (.func 57) #[] #[.pointer (some ⟨w.heap.size, 0, none⟩), .pointer (some ⟨w.heap.size + 1, 0, none⟩)]) ∧
      w' = (w.alloc (.cells #[.slice a len cap] 22)).alloc (.cells #[.int .i64 2] 3) := by
  refine callsIn_of_wp Tryd.func43 rfl h6 ?_ hro
  simp only [Tryd.ntmps43, List.size_toArray, List.length_cons, List.length_nil, Nat.reduceAdd, Nat.reduceSub, Array.replicate_succ, Array.replicate_zero, List.push_toArray, List.append_toArray, List.nil_append, List.cons_append]
  have hb := Boxed.new (w.alloc (.cells #[.slice a len cap] 22)) 3 (.int .i64 2)
  rw [World.size_alloc] at hb
  have hb1 := hb.cell
  gi_wp2
  go_ret
  exact ⟨rfl, rfl⟩

/-- What slices.Chunk hands back stops after all the pairs; or a round said no more. -/
theorem chunk_stops (F : Fence) (n : Nat) (h8 : F.fn 57) (hro : F.round = none) (hn : 1 ≤ n) (B1 B2 n₀ g cap m : Nat) (hm : m ≤ 1000000) (hcap : 2 * m ≤ cap) (w : World) (hB1 : B1 < w.heap.size) (hB2 : B2 < w.heap.size)
    (h1 : w.cell? ⟨B1, 0, none⟩ = some (.slice (some ⟨g, 0, none⟩) (2 * m) cap)) (h2 : w.cell? ⟨B2, 0, none⟩ = some (.int .i64 2)) :
    SeqStopsK F n Tryd.prog 57 #[.pointer (some ⟨B1, 0, none⟩), .pointer (some ⟨B2, 0, none⟩)] (fun x : Fin m => #[duo g x]) (KeepTwo n₀ B1 B2 (.slice (some ⟨g, 0, none⟩) (2 * m) cap) (.int .i64 2)) (fun ys => twos ys m)
      (fun pre => ∃ k, k ≤ m ∧ twos pre k) m w := fun l J Jx W hW hJ _ hY h0 =>
  chunk1_in F n h8 hro hn l B1 B2 n₀ g cap m hm hcap J Jx hY
    (fun pre W' h => hJ pre W' W'.drew none h ⟨rfl, rfl, rfl, Nat.le_refl _, fun _ _ _ => rfl⟩ (fun r e => by cases e)) W ((hW.cell (p := ⟨B1, 0, none⟩) hB1).trans h1) ((hW.cell (p := ⟨B2, 0, none⟩) hB2).trans h2) h0
end Go.Proofs.YtedmgfompaoeoaaDoor
