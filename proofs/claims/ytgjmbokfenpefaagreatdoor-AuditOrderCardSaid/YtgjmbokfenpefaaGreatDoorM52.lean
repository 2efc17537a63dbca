/- Parts of the proof, one behind the other: TurnLaw. -/
import Derived.WalkKit
import Derived.Lib.Hide
import Derived.WalkLawsBesides
import Derived.Deep.QuietTactic
import Derived.Deep.WholeRow
import Derived.ArgAppend
import Derived.Laws.AppendOwnNone
import Derived.Laws.CopyRow
import Derived.Deep.RegionLaw
import Derived.Laws.BytesString
import Derived.Laws.IdiomStrings
import Derived.Test.YtgjmbokfenpefaaGreatDoorProg
import Derived.StringKeys
import Derived.Maps.Own
import Derived.Maps.Views
import Derived.Maps.OwnSet
import Derived.Maps.OwnOps
import Derived.Maps.RangeWalk
import Derived.Sort.KeysCollected
import Derived.Laws.BitsAllLaws
import Derived.Outline
import Derived.BigQuiet
import Derived.Laws.CopyOwn
import Derived.RegionTactic
import Derived.StillTail
import Derived.Deep.Quiet
import Derived.Deep.RegionHeld3
import Derived.Deep.DeepCutAuto
import Derived.Laws.ResultCell
import Derived.IntWalk
import Derived.Sort.Walk0
import Derived.Tactics
import Derived.Orders
import Derived.LaidEql
import Derived.Stop.Asserts
import Derived.RowKitTokens
import Derived.OrdersHeld
import Derived.Sort.LotA
import Derived.Lib.SortBridge
import Derived.Deep.AppendSrc
import Derived.Shelf.SlSortFuncK.WholeK
import Derived.Ground.GgsProg
import Derived.Shelf.GgSortFunc.Tiny
import Derived.Shelf.Strings.Repeat
import Derived.KernelRfl
import Derived.Laws.StructEq
import Derived.WideKeyEntry
import Derived.Deep.CutRange
import Derived.Test.YtgjmbokfenpefaaGreatDoorM1
import Derived.Test.YtgjmbokfenpefaaGreatDoorM2
import Derived.Test.YtgjmbokfenpefaaGreatDoorM3
import Derived.Test.YtgjmbokfenpefaaGreatDoorM4
import Derived.Test.YtgjmbokfenpefaaGreatDoorM5
import Derived.Test.YtgjmbokfenpefaaGreatDoorM6
import Derived.Test.YtgjmbokfenpefaaGreatDoorM7
import Derived.Test.YtgjmbokfenpefaaGreatDoorM8
import Derived.Test.YtgjmbokfenpefaaGreatDoorM9
import Derived.Test.YtgjmbokfenpefaaGreatDoorM11
import Derived.Test.YtgjmbokfenpefaaGreatDoorM12
import Derived.Test.YtgjmbokfenpefaaGreatDoorM13
import Derived.Test.YtgjmbokfenpefaaGreatDoorM14
import Derived.Test.YtgjmbokfenpefaaGreatDoorM15
import Derived.Test.YtgjmbokfenpefaaGreatDoorM17
import Derived.Test.YtgjmbokfenpefaaGreatDoorM18
import Derived.Test.YtgjmbokfenpefaaGreatDoorM19
import Derived.Test.YtgjmbokfenpefaaGreatDoorM21
import Derived.Test.YtgjmbokfenpefaaGreatDoorM24
import Derived.Test.YtgjmbokfenpefaaGreatDoorM26
import Derived.Test.YtgjmbokfenpefaaGreatDoorM27
import Derived.Test.YtgjmbokfenpefaaGreatDoorM31
import Derived.Test.YtgjmbokfenpefaaGreatDoorM32
import Derived.Test.YtgjmbokfenpefaaGreatDoorM51
/- AuditOrder, the walk, over whatever contracts the program's directory and auditor keep, where Publish tells right items only. -/
namespace Go.Proofs.YtgjmbokfenpefaaGreatDoor
open Go.RowKit Go.Maps

/-- Truths that lie at A. -/
def Bits (w : World) (A : Option Addr) (L : List Bool) : Prop := ∀ (i : Nat) x, L[i]? = some x → ∃ a, A = some a ∧ a.block < w.heap.size ∧ w.cell? (a.add i) = some (.bool x)
theorem Bits.below {w w' : World} {A : Option Addr} {L : List Bool} {B : Nat} (h : Bits w A L) (hb : Below B w w') (hB : ∀ a, A = some a → 0 < L.length → a.block < B) : Bits w' A L := fun i p hp => by
  obtain ⟨a, ha, hl, c⟩ := h i p hp
  exact ⟨a, ha, Nat.lt_of_lt_of_le hl hb.size, (hb.cell (by rw [block_add]; exact hB a ha (by have := (List.getElem?_eq_some_iff.1 hp).1; omega))).trans c⟩
theorem Bits.lt {w : World} {A : Option Addr} {L : List Bool} (h : Bits w A L) : ∀ a, A = some a → 0 < L.length → a.block < w.heap.size := fun a ha hl => by
  obtain ⟨a', e, hlt, _⟩ := h 0 _ (List.getElem?_eq_getElem hl)
  rw [ha] at e
  obtain rfl := Option.some.inj e
  exact hlt
/-- Where AuditOrder stands: two auditors, each apart from the other. -/
structure TuAt (FA : AuditFace) (w wr : World) (pv pw : Nat) (V U : Nat → Prop) (av aw : Au) (AE : Option Addr) (ME : List SgM) (AF : Option Addr) (MF : List SgM) : Prop where
  v : HoAt FA w wr pv V av AE ME AF MF
  u : HoAt FA w wr pw U aw AE ME AF MF
  ap : ∀ k, V k → ¬ U k
theorem TuAt.calm {FA : AuditFace} {w wr w' : World} {pv pw : Nat} {V U : Nat → Prop} {av aw : Au} {AE AF : Option Addr} {ME MF : List SgM} (h : TuAt FA w wr pv pw V U av aw AE ME AF MF) (hb : Below wr.heap.size wr w') : TuAt FA w w' pv pw V U av aw AE ME AF MF := ⟨h.v.calm hb, h.u.calm hb, h.ap⟩
theorem HoAt.beside {FA : AuditFace} {w wr w' : World} {pv pw : Nat} {V U : Nat → Prop} {av' aw : Au} {AE AF : Option Addr} {ME MF : List SgM} (h : HoAt FA w wr pw U aw AE ME AF MF) (ho : Off V wr w') (hv : ∀ k, U k → ¬ V k) {V' : Nat → Prop} (g : HoAt FA w w' pv V' av' AE ME AF MF) : HoAt FA w w' pw U aw AE ME AF MF :=
  ⟨g.below, FA.same h.ci (ho.same (FA.lt h.ci) hv), h.gb, g.sg, h.ae, h.tx, g.sf, h.af, h.tf⟩
theorem TuAt.progV {FA : AuditFace} {w wr w' : World} {pv pw : Nat} {V V' U : Nat → Prop} {av av' aw : Au} {AE AF : Option Addr} {ME MF : List SgM} (h : TuAt FA w wr pv pw V U av aw AE ME AF MF) (ho : Off V wr w') (hg : Grew wr V V') (hi : FA.Is V' w' pv av') : TuAt FA w w' pv pw V' U av' aw AE ME AF MF :=
  ⟨h.v.prog ho hg hi, h.u.beside ho (fun k hu hv => h.ap k hv hu) (h.v.prog ho hg hi), fun k hv hu => hg.apart (FA.lt h.u.ci) (fun k hu hv => h.ap k hv hu) k hu hv⟩
theorem TuAt.progU {FA : AuditFace} {w wr w' : World} {pv pw : Nat} {V U U' : Nat → Prop} {av aw aw' : Au} {AE AF : Option Addr} {ME MF : List SgM} (h : TuAt FA w wr pv pw V U av aw AE ME AF MF) (ho : Off U wr w') (hg : Grew wr U U') (hi : FA.Is U' w' pw aw') : TuAt FA w w' pv pw V U' av aw' AE ME AF MF :=
  ⟨h.v.beside ho h.ap (h.u.prog ho hg hi), h.u.prog ho hg hi, hg.apart (FA.lt h.v.ci) h.ap⟩

set_option maxHeartbeats 16000000 in
set_option maxRecDepth 100000 in
theorem auditOrder_any (DF : DirFace) (FC : ClientFace) (FA : AuditFace) (L M N : List Hd) (A B C : Option Addr) (ca cb cc : Nat) (T : List Bool) (AT : Option Addr) (ct : Nat) (w : World) (hk : HasK w) (ha : Hds w A L) (hb : Hds w B M) (hc : Hds w C N) (ht : Bits w AT T) :
    Calls Tryz.prog 4 #[.slice A L.length ca, .slice B M.length cb, .slice C N.length cc, .slice AT T.length ct] w fun e w' => e = .returned (.bool true) ∧ Below w.heap.size w w' := by
  have HK := Lib.hid hk
  have HA := Lib.hid ha
  have HB := Lib.hid hb
  have HC := Lib.hid hc
  have HT := Lib.hid ht
  have HE0 := Lib.hid (show errOf 0 = Value.nilIface from rfl)
  clear hk ha hb hc ht
  go_enter Tryz.func4, Tryz.ntmps4
  go_wp2_with fail
  refine (few_any L A ca _ HA.out).mono ?_
  rintro e w1 ⟨hb1, b, rfl, hf⟩
  have HB1 := Lib.hid hb1
  clear hb1
  cases b
  case false =>
    go_wp2
    go_ret
    exact ⟨rfl, HB1.out⟩
  have HL := Lib.hid (hf rfl)
  clear hf
  go_wp2_with fail
  refine (few_any M B cb _ (HB.out.below HB1.out)).mono ?_
  rintro e w2 ⟨hb2, b, rfl, hf⟩
  have HB2 := Lib.hid (HB1.out.trans (hb2.mono HB1.out.size))
  clear hb2
  cases b
  case false =>
    go_wp2
    go_ret
    exact ⟨rfl, HB2.out⟩
  have HM := Lib.hid (hf rfl)
  clear hf
  go_wp2_with fail
  refine (few_any N C cc _ (HC.out.below HB2.out)).mono ?_
  rintro e w3 ⟨hb3, b, rfl, hf⟩
  have HB3 := Lib.hid (HB2.out.trans (hb3.mono HB2.out.size))
  clear hb3
  cases b
  case false =>
    go_wp2
    go_ret
    exact ⟨rfl, HB3.out⟩
  have HN := Lib.hid (hf rfl)
  clear hf
  by_cases htl : 40 < T.length
  · have htl2 : (40 : Int) < (T.length : Int) := by omega
    go_wp2
    go_ret
    exact ⟨rfl, HB3.out⟩
  have htl2 : ¬ (40 : Int) < (T.length : Int) := by omega
  have HTL := Lib.hid (show T.length ≤ 40 by omega)
  go_wp2_with fail
  clear htl htl2
  refine (told_any DF FC _ (HK.out.below HB3.out HK.out.lt)).mono ?_
  rintro e w4 ⟨rfl, hb4⟩
  have HB4 := Lib.hid (HB3.out.trans (hb4.mono HB3.out.size))
  clear hb4
  have hll := HL.out.1
  have hml := HM.out.1
  have hnl := HN.out.1
  obtain ⟨i0, hi0, hz0, hz1, hz2⟩ := info_parts infoActK
  go_wp2_with fail
  refine (cloneActs_any L A ca _ (by omega) (HA.out.below HB4.out)).mono ?_
  rintro e w5 ⟨v5, rfl, hb5, hr5⟩
  have HB5 := Lib.hid (HB4.out.trans (hb5.mono HB4.out.size))
  have HR5 := Lib.hid hr5
  have HS5 := Lib.hid hb5.size
  clear hb5 hr5
  go_wp2_with (at_builtin; refine wpList_append_hds rfl (.tmp 45) (.tmp 46) 76 rfl 86 Tryz.underlying76 i0 _ hi0 hz0 hz1 hz2 rfl w4.heap.size L.length L _ rfl HR5.out HS5.out (by omega) M M.length rfl B cb rfl (HB.out.below HB5.out) (by omega) ?_; intro v6 w6 hr6 hg6)
  have hb6 : Below w4.heap.size w5 w6 := (Below.refl w4.heap.size w5).grown hg6.out HS5.out (fun k e => (HR5.out.lt k e).1)
  have HB6 := Lib.hid (show Below w.heap.size w w6 from HB5.out.trans (hb6.mono HB4.out.size))
  have hr : Row w6 w4.heap.size 3 v6 (L ++ M).length (hdCells (L ++ M)) := by rw [List.length_append]; exact hr6.out
  obtain ⟨-, A6, c6, rfl, hm6⟩ := hr.hds
  have HM6 := Lib.hid hm6
  have HLM := Lib.hid (show (L ++ M).length ≤ 40 ∧ ∀ x ∈ L ++ M, x.root.size ≤ 60 ∧ x.prev.size ≤ 60 from ⟨by rw [List.length_append]; omega, fun x hx => by
    rcases List.mem_append.1 hx with h | h
    · have := HL.out.2 x h; omega
    · have := HM.out.2 x h; omega⟩)
  have HLN := Lib.hid (show (L ++ N).length ≤ 40 ∧ ∀ x ∈ L ++ N, x.root.size ≤ 60 ∧ x.prev.size ≤ 60 from ⟨by rw [List.length_append]; omega, fun x hx => by
    rcases List.mem_append.1 hx with h | h
    · have := HL.out.2 x h; omega
    · have := HN.out.2 x h; omega⟩)
  clear hb6 hr6 hg6 hr hm6 HR5
  go_wp2_with fail
  refine (play_any DF (L ++ M) A6 c6 _ (HK.out.below HB6.out HK.out.lt) HM6.out HLM.out.1 HLM.out.2).mono ?_
  rintro e w7 ⟨p, F, v, rfl, hb7, hd7, hf7, -⟩
  have HB7 := Lib.hid (HB6.out.trans (hb7.mono HB6.out.size))
  have HD7 := Lib.hid hd7
  have HF7 := Lib.hid (show ∀ k, F k → k < w7.heap.size from DF.lt hd7)
  clear hb7 hd7 hf7
  go_wp2_with fail
  refine (cloneActs_any L A ca _ (by omega) (HA.out.below HB7.out)).mono ?_
  rintro e w8 ⟨v8, rfl, hb8, hr8⟩
  have HB8 := Lib.hid (HB7.out.trans (hb8.mono HB7.out.size))
  have HD8 := Lib.hid (DF.same HD7.out (same_of_below hb8 HF7.out))
  have HR8 := Lib.hid hr8
  have HS8 := Lib.hid hb8.size
  clear hb8 hr8 HD7
  go_wp2_with (at_builtin; refine wpList_append_hds rfl (.tmp 53) (.tmp 54) 76 rfl 86 Tryz.underlying76 i0 _ hi0 hz0 hz1 hz2 rfl w7.heap.size L.length L _ rfl HR8.out HS8.out (by omega) N N.length rfl C cc rfl (HC.out.below HB8.out) (by omega) ?_; intro v9 w9 hr9 hg9)
  have hb9 : Below w7.heap.size w8 w9 := (Below.refl w7.heap.size w8).grown hg9.out HS8.out (fun k e => (HR8.out.lt k e).1)
  have HB9 := Lib.hid (show Below w.heap.size w w9 from HB8.out.trans (hb9.mono HB7.out.size))
  have HD9 := Lib.hid (DF.same HD8.out ⟨hb9.size, fun k hk => hb9.block k (HF7.out k hk)⟩)
  have hr : Row w9 w7.heap.size 3 v9 (L ++ N).length (hdCells (L ++ N)) := by rw [List.length_append]; exact hr9.out
  obtain ⟨-, A9, c9, rfl, hm9⟩ := hr.hds
  have HM9 := Lib.hid hm9
  clear hb9 hr9 hg9 hr hm9 HR8 HD8
  go_wp2_with fail
  refine (play_any DF (L ++ N) A9 c9 _ (HK.out.below HB9.out HK.out.lt) HM9.out HLN.out.1 HLN.out.2).mono ?_
  rintro e w10 ⟨p2, F2, v2, rfl, hb10, hd10, hf10, -⟩
  have HB10 := Lib.hid (HB9.out.trans (hb10.mono HB9.out.size))
  have HD10 := Lib.hid (DF.same HD9.out (same_of_below hb10 (DF.lt HD9.out)))
  have HE10 := Lib.hid hd10
  have HOK := Lib.hid (show DOk (playK DF.pa (newDst sec16) (L ++ M)) ∧ DOk (playK DF.pa (newDst sec16) (L ++ N)) from ⟨playK_ok (newDst_ok sec16_size) _, playK_ok (newDst_ok sec16_size) _⟩)
  have HDI := Lib.hid (show EpsDim (playK DF.pa (newDst sec16) (L ++ M)) ∧ EpsDim (playK DF.pa (newDst sec16) (L ++ N)) from ⟨playK_dim DF.pa (fun s hs => by cases hs) _, playK_dim DF.pa (fun s hs => by cases hs) _⟩)
  have HSC := Lib.hid (show (playK DF.pa (newDst sec16) (L ++ M)).secret = sec16 ∧ (playK DF.pa (newDst sec16) (L ++ N)).secret = sec16 from ⟨(playK_eps _ _ _).2, (playK_eps _ _ _).2⟩)
  have HCH := Lib.hid (show Chained (playK DF.pa (newDst sec16) (L ++ M)) ∧ Chained (playK DF.pa (newDst sec16) (L ++ N)) from ⟨playK_linked _ (newDst_chained sec16), playK_linked _ (newDst_chained sec16)⟩)
  clear hb10 hd10 hf10 HD9
  generalize playK DF.pa (newDst sec16) (L ++ M) = d1 at HD10 HOK HDI HSC HCH
  generalize playK DF.pa (newDst sec16) (L ++ N) = d2 at HE10 HOK HDI HSC HCH
  go_wp2_with fail
  refine (DF.pub F p d1 _ HD10.out HOK.out.1 (HK.out.below HB10.out HK.out.lt)).mono ?_
  rintro e w11 ⟨rfl, hb11⟩
  obtain ⟨pub, hpub⟩ : ∃ pub, boxPub (dirSeed d1.secret) = pub := ⟨_, rfl⟩
  have HPUB := Lib.hid (show dirPub d1.secret = pub from hpub)
  rw [hpub]
  have HP16 := Lib.hid (show pub.size = 16 from by rw [← hpub]; exact rowsOf_size _ _ (by omega))
  have HB11 := Lib.hid (HB10.out.trans (hb11.mono HB10.out.size))
  have HD11 := Lib.hid (DF.same HD10.out (same_of_below hb11 (DF.lt HD10.out)))
  have HE11 := Lib.hid (DF.same HE10.out (same_of_below hb11 (DF.lt HE10.out)))
  clear hb11 hpub HD10 HE10
  go_wp2_with fail
  refine (FA.new pub _ HP16.out (HK.out.below HB11.out HK.out.lt)).mono ?_
  rintro e w12 ⟨pv, V0, rfl, hb12, hc12, hgf⟩
  have HB12 := Lib.hid (HB11.out.trans (hb12.mono HB11.out.size))
  have HD12 := Lib.hid (DF.same HD11.out (same_of_below hb12 (DF.lt HD11.out)))
  have HE12 := Lib.hid (DF.same HE11.out (same_of_below hb12 (DF.lt HE11.out)))
  have HC12 := Lib.hid hc12
  have HGF := Lib.hid (show (∀ k, F k → ¬ V0 k) ∧ (∀ k, F2 k → ¬ V0 k) ∧ (∀ k, V0 k → w.heap.size ≤ k) ∧ ∀ k, V0 k → k < w12.heap.size from ⟨fun k h1 h2 => by have := DF.lt HD11.out k h1; have := hgf k h2; omega, fun k h1 h2 => by have := DF.lt HE11.out k h1; have := hgf k h2; omega, fun k h => Nat.le_trans HB11.out.size (hgf k h), FA.lt hc12⟩)
  clear hb12 hc12 hgf HD11 HE11
  go_wp2_with fail
  refine (DF.pub F p d1 _ HD12.out HOK.out.1 (HK.out.below HB12.out HK.out.lt)).mono ?_
  rintro e w13 ⟨rfl, hb13⟩
  rw [show boxPub (dirSeed d1.secret) = pub from HPUB.out]
  have HB13 := Lib.hid (HB12.out.trans (hb13.mono HB12.out.size))
  have HD13 := Lib.hid (DF.same HD12.out (same_of_below hb13 (DF.lt HD12.out)))
  have HE13 := Lib.hid (DF.same HE12.out (same_of_below hb13 (DF.lt HE12.out)))
  have HC13 := Lib.hid (FA.same HC12.out (same_of_below hb13 (FA.lt HC12.out)))
  have HZ13 := Lib.hid hb13.size
  clear hb13 HD12 HE12 HC12
  go_wp2_with fail
  refine (FA.new pub _ HP16.out (HK.out.below HB13.out HK.out.lt)).mono ?_
  rintro e w14 ⟨pw, U0, rfl, hb14, hc14, hgf⟩
  have HB14 := Lib.hid (HB13.out.trans (hb14.mono HB13.out.size))
  have HD14 := Lib.hid (DF.same HD13.out (same_of_below hb14 (DF.lt HD13.out)))
  have HE14 := Lib.hid (DF.same HE13.out (same_of_below hb14 (DF.lt HE13.out)))
  have HC14 := Lib.hid (FA.same HC13.out (same_of_below hb14 (FA.lt HC13.out)))
  have HU14 := Lib.hid hc14
  have HGU := Lib.hid (show (∀ k, F k → ¬ U0 k) ∧ (∀ k, F2 k → ¬ U0 k) ∧ (∀ k, U0 k → w.heap.size ≤ k) ∧ (∀ k, U0 k → k < w14.heap.size) ∧ ∀ k, V0 k → ¬ U0 k from ⟨fun k h1 h2 => by have := DF.lt HD13.out k h1; have := hgf k h2; omega, fun k h1 h2 => by have := DF.lt HE13.out k h1; have := hgf k h2; omega, fun k h => Nat.le_trans HB13.out.size (hgf k h), FA.lt hc14, fun k h1 h2 => by have := FA.lt HC13.out k h1; have := hgf k h2; omega⟩)
  have HGV := Lib.hid (show ∀ k, V0 k → k < w14.heap.size from FA.lt HC14.out)
  clear hb14 hc14 hgf HD13 HE13 HC13
  go_wp2_with fail
  refine (DF.epochs F p d1 _ HD14.out HOK.out.1 (HK.out.below HB14.out HK.out.lt)).mono ?_
  rintro e w15 ⟨AE, ce, ME, rfl, hme, hmc, hb15, hsg15, hna, hnt⟩
  have HB15 := Lib.hid (HB14.out.trans (hb15.mono HB14.out.size))
  have HE15 := Lib.hid (DF.same HE14.out (same_of_below hb15 (DF.lt HE14.out)))
  have HC15 := Lib.hid (FA.same HC14.out (same_of_below hb15 (FA.lt HC14.out)))
  have HU15 := Lib.hid (FA.same HU14.out (same_of_below hb15 (FA.lt HU14.out)))
  have HZ15 := Lib.hid hb15.size
  have HGA := Lib.hid (hna)
  have HGT := Lib.hid (hnt)
  have HME := Lib.hid hme
  have HSG := Lib.hid hsg15
  clear hme hmc hb15 hsg15 hna hnt HC14 HU14 HD14 HE14
  go_wp2_with fail
  refine (DF.epochs F2 p2 d2 _ HE15.out HOK.out.2 (HK.out.below HB15.out HK.out.lt)).mono ?_
  rintro e w16 ⟨AF, cf, MF, rfl, hmf, hmc, hb16, hsg16, hna, hnt⟩
  have HMF := Lib.hid hmf
  have HLE := Lib.hid (show ME.length = d1.eps.length by rw [← HME.out, List.length_map])
  have HLF := Lib.hid (show MF.length = d2.eps.length by rw [← hmf, List.length_map])
  have hm8 : ME.length ≤ 8 := by rw [HLE.out]; exact HOK.out.1.few
  have hf8 : MF.length ≤ 8 := by rw [HLF.out]; exact HOK.out.2.few
  have HTU := Lib.hid (show TuAt FA w w16 pv pw V0 U0 ⟨pub, []⟩ ⟨pub, []⟩ AE ME AF MF from by
    have v15 : ∀ k, V0 k → k < w15.heap.size := fun k h => Nat.lt_of_lt_of_le (HGV.out k h) HZ15.out
    have u15 : ∀ k, U0 k → k < w15.heap.size := fun k h => Nat.lt_of_lt_of_le (HGU.out.2.2.2.1 k h) HZ15.out
    exact ⟨⟨HB15.out.trans (hb16.mono HB15.out.size), FA.same HC15.out (same_of_below hb16 (FA.lt HC15.out)), HGF.out.2.2.1, HSG.out.below hb16, HGA.out.apart HGF.out.1 HGV.out, fun m hm => ⟨(HGT.out m hm).1.apart HGF.out.1 HGV.out, (HGT.out m hm).2.apart HGF.out.1 HGV.out⟩, hsg16, hna.apart HGF.out.2.1 v15, fun m hm => ⟨(hnt m hm).1.apart HGF.out.2.1 v15, (hnt m hm).2.apart HGF.out.2.1 v15⟩⟩,
      ⟨HB15.out.trans (hb16.mono HB15.out.size), FA.same HU15.out (same_of_below hb16 (FA.lt HU15.out)), HGU.out.2.2.1, HSG.out.below hb16, HGA.out.apart HGU.out.1 HGU.out.2.2.2.1, fun m hm => ⟨(HGT.out m hm).1.apart HGU.out.1 HGU.out.2.2.2.1, (HGT.out m hm).2.apart HGU.out.1 HGU.out.2.2.2.1⟩, hsg16, hna.apart HGU.out.2.1 u15, fun m hm => ⟨(hnt m hm).1.apart HGU.out.2.1 u15, (hnt m hm).2.apart HGU.out.2.1 u15⟩⟩, HGU.out.2.2.2.2⟩)
  have HDM := Lib.hid (show (∀ m ∈ ME, SgnDim m.s) ∧ ∀ m ∈ MF, SgnDim m.s from ⟨fun m hm => HDI.out.1 m.s (by rw [← HME.out]; exact List.mem_map_of_mem hm), fun m hm => HDI.out.2 m.s (by rw [← HMF.out]; exact List.mem_map_of_mem hm)⟩)
  have HPUB2 := Lib.hid (show dirPub d2.secret = pub from by rw [HSC.out.2, ← HSC.out.1]; exact HPUB.out)
  clear hmf hmc hb16 hsg16 hna hnt HC15 HU15 HE15 HSG HGA HGT
  go_wp2
  go_loopw [19] (fun i wr => ∃ n : Nat, n ≤ ME.length + MF.length ∧ i = .int .i64 (n : Int) ∧ Hid (∃ V av, TuAt FA w wr pv pw V U0 av ⟨pub, []⟩ AE ME AF MF ∧ AbIs pub (headsOf d1) (headsOf d2) (min n ME.length) (n - ME.length) av)) (fun i _ => ME.length + MF.length - (intOf i).toNat)
  case atStart => exact ⟨0, by omega, rfl, Lib.hid ⟨V0, _, HTU.out, by rw [Nat.zero_min, Nat.zero_sub]; exact abNew HP16.out _ _⟩⟩
  case round =>
    clear HTU
    obtain ⟨n, hn, rfl, HU⟩ := hrel
    obtain ⟨V, av, htu, hab⟩ := HU.out
    have HTU := Lib.hid htu
    have HAB := Lib.hid hab
    clear htu hab HU
    by_cases hlt : n < ME.length
    · obtain ⟨m, hm⟩ : ∃ m, ME[n]? = some m := ⟨_, List.getElem?_eq_getElem hlt⟩
      have hab := HAB.out
      rw [Nat.min_eq_left (by omega : n ≤ ME.length), show n - ME.length = 0 by omega, ← HPUB.out] at hab
      obtain ⟨av', hte, hab'⟩ := hab.tellAnn HOK.out.1 HCH.out.1 (s := m.s) (by rw [← HME.out, List.getElem?_map, hm]; rfl)
      have HTE := Lib.hid (show tellAns av annT ⟨m.s.head, m.s.key, m.s.sig, m.s.path⟩ = (av', 0) from hte)
      have HAB' := Lib.hid (show AbIs pub (headsOf d1) (headsOf d2) (min (n + 1) ME.length) (n + 1 - ME.length) av' from by rw [Nat.min_eq_left (by omega : n + 1 ≤ ME.length), show n + 1 - ME.length = 0 by omega, ← HPUB.out]; exact hab')
      have HMM := Lib.hid (List.mem_of_getElem? hm)
      obtain ⟨a, rfl, hal, c0, c1, c2, c3, c4, c5, hs, hp⟩ := HTU.out.v.sg.six' hm
      have HSS := Lib.hid hs
      have HPP := Lib.hid hp
      have hk0 : (0 : Int) ≤ (n : Int) := by omega
      have hk1 : (n : Int) < (ME.length : Int) := by omega
      have hk2 : (n : Int) < (ME.length : Int) + (MF.length : Int) := by omega
      clear hm hs hp hal hab hte hab'
      go_wp2_with fail
      clear c0 c1 c2 c3 c4 c5
      refine (FA.tell V pv av av' (min n ME.length + (n - ME.length)) annT m.s.head m.s.key m.s.sig m.s.path m.A m.B m.ca m.cb 0 _ HTU.out.v.ci (HK.out.below HTU.out.v.below HK.out.lt) HAB.out.ok (by omega) (by decide) (by have := (HDM.out.1 m HMM.out).sig; omega) (by have := (HDM.out.1 m HMM.out).path; omega) (HDM.out.1 m HMM.out).ep HSS.out HPP.out (HTU.out.v.tx m HMM.out).1 (HTU.out.v.tx m HMM.out).2 HTE.out).mono ?_
      rintro e w17 ⟨rfl, V2, ho17, hg17, hc17⟩
      rw [HE0.out]
      have HTU2 := Lib.hid (HTU.out.progV ho17 hg17 hc17)
      clear ho17 hg17 hc17 HTU HSS HPP HAB
      go_wp2
      go_roundw
      case rel => exact ⟨n + 1, by omega, by go_num, Lib.hid ⟨V2, av', HTU2.out, HAB'.out⟩⟩
      case measure => simp [intOf]; omega
    · by_cases hlt2 : n < ME.length + MF.length
      · obtain ⟨j, rfl⟩ : ∃ j, n = ME.length + j := ⟨n - ME.length, by omega⟩
        have hj : j < MF.length := by omega
        obtain ⟨m, hm⟩ : ∃ m, MF[j]? = some m := ⟨_, List.getElem?_eq_getElem hj⟩
        have hab := HAB.out
        rw [Nat.min_eq_right (by omega : ME.length ≤ ME.length + j), show ME.length + j - ME.length = j by omega, ← HPUB2.out] at hab
        obtain ⟨av', hte, hab'⟩ := hab.tellBob HOK.out.2 HCH.out.2 (s := m.s) (by rw [← HMF.out, List.getElem?_map, hm]; rfl)
        have HTE := Lib.hid (show tellAns av bobT ⟨m.s.head, m.s.key, m.s.sig, m.s.path⟩ = (av', 0) from hte)
        have HAB' := Lib.hid (show AbIs pub (headsOf d1) (headsOf d2) (min (ME.length + j + 1) ME.length) (ME.length + j + 1 - ME.length) av' from by rw [Nat.min_eq_right (by omega : ME.length ≤ ME.length + j + 1), show ME.length + j + 1 - ME.length = j + 1 by omega, ← HPUB2.out]; exact hab')
        have HMM := Lib.hid (List.mem_of_getElem? hm)
        obtain ⟨a, rfl, hal, c0, c1, c2, c3, c4, c5, hs, hp⟩ := HTU.out.v.sf.six' hm
        have HSS := Lib.hid hs
        have HPP := Lib.hid hp
        have hk0 : (0 : Int) ≤ (j : Int) := by omega
        have hk1 : ¬ ((ME.length + j : Nat) : Int) < (ME.length : Int) := by omega
        have hk2 : ((ME.length + j : Nat) : Int) < (ME.length : Int) + (MF.length : Int) := by omega
        have hk3 : (j : Int) < (MF.length : Int) := by omega
        clear hm hs hp hal hab hte hab'
        go_wp2_with fail
        clear c0 c1 c2 c3 c4 c5
        refine (FA.tell V pv av av' (min (ME.length + j) ME.length + (ME.length + j - ME.length)) bobT m.s.head m.s.key m.s.sig m.s.path m.A m.B m.ca m.cb 0 _ HTU.out.v.ci (HK.out.below HTU.out.v.below HK.out.lt) HAB.out.ok (by omega) (by decide) (by have := (HDM.out.2 m HMM.out).sig; omega) (by have := (HDM.out.2 m HMM.out).path; omega) (HDM.out.2 m HMM.out).ep HSS.out HPP.out (HTU.out.v.tf m HMM.out).1 (HTU.out.v.tf m HMM.out).2 HTE.out).mono ?_
        rintro e w17 ⟨rfl, V2, ho17, hg17, hc17⟩
        rw [HE0.out]
        have HTU2 := Lib.hid (HTU.out.progV ho17 hg17 hc17)
        clear ho17 hg17 hc17 HTU HSS HPP HAB
        go_wp2
        go_roundw
        case rel => exact ⟨ME.length + j + 1, by omega, by go_num, Lib.hid ⟨V2, av', HTU2.out, HAB'.out⟩⟩
        case measure => simp [intOf]; omega
      · have HAV := Lib.hid (show AbIs pub (headsOf d1) (headsOf d2) ME.length MF.length av from by
          have h := HAB.out
          rwa [Nat.min_eq_right (by omega : ME.length ≤ n), show n - ME.length = MF.length by omega] at h)
        have hx : ¬ (n : Int) < (ME.length : Int) + (MF.length : Int) := by omega
        have HTU' := HTU
        clear HAB HTU
        go_wp2
        clear hx hlt hlt2 hn
        go_loopw [20, 21] (fun i k wr => ∃ n j : Nat, n ≤ ME.length ∧ j ≤ MF.length ∧ i = .int .i64 (n : Int) ∧ k = .int .i64 (j : Int) ∧ Hid (∃ U aw, TuAt FA w wr pv pw V U av aw AE ME AF MF ∧ AbIs pub (headsOf d1) (headsOf d2) n j aw)) (fun i k _ => ME.length + MF.length - (intOf i).toNat - (intOf k).toNat)
        case atStart => exact ⟨0, 0, by omega, by omega, rfl, rfl, Lib.hid ⟨U0, _, HTU'.out, abNew HP16.out _ _⟩⟩
        case round =>
          clear HTU'
          obtain ⟨n, j, hn, hj, rfl, rfl, HU⟩ := hrel
          obtain ⟨U, aw, htu, hab⟩ := HU.out
          have HTU := Lib.hid htu
          have HAB := Lib.hid hab
          clear htu hab HU
          have htn : ((n : Int) + (j : Int)).toNat = n + j := by omega
          have hnj0 : (0 : Int) ≤ (n : Int) + (j : Int) := by omega
          by_cases hend : n < ME.length ∨ j < MF.length
          · by_cases ht : n + j < T.length
            · obtain ⟨b, hb⟩ : ∃ b, T[n + j]? = some b := ⟨_, List.getElem?_eq_getElem ht⟩
              obtain ⟨qt, rfl, -, t0⟩ := (HT.out.below HTU.out.v.below HT.out.lt) (n + j) b hb
              have ht1 : (n : Int) + (j : Int) < (T.length : Int) := by omega
              clear hb
              cases b
              case false =>
                by_cases h1 : n < ME.length
                · have g1 : (n : Int) < (ME.length : Int) := by omega
                  by_cases h2 : j < MF.length
                  · have g2 : (j : Int) < (MF.length : Int) := by omega
                    have e2 : ((j : Int) == (MF.length : Int)) = false := by rw [beq_eq_false_iff_ne]; omega
                    obtain ⟨m, hm⟩ : ∃ m, MF[j]? = some m := ⟨_, List.getElem?_eq_getElem h2⟩
                    have hab := HAB.out
                    rw [← HPUB2.out] at hab
                    obtain ⟨aw', hte, hab'⟩ := hab.tellBob HOK.out.2 HCH.out.2 (s := m.s) (by rw [← HMF.out, List.getElem?_map, hm]; rfl)
                    rw [HPUB2.out] at hab'
                    have HTE := Lib.hid (show tellAns aw bobT ⟨m.s.head, m.s.key, m.s.sig, m.s.path⟩ = (aw', 0) from hte)
                    have HAB' := Lib.hid hab'
                    have HMM := Lib.hid (List.mem_of_getElem? hm)
                    obtain ⟨a, rfl, hal, c0, c1, c2, c3, c4, c5, hs, hp⟩ := HTU.out.u.sf.six' hm
                    have HSS := Lib.hid hs
                    have HPP := Lib.hid hp
                    have hk0 : (0 : Int) ≤ (j : Int) := by omega
                    clear hm hs hp hal hab hte hab'
                    go_wp2_with fail
                    clear c0 c1 c2 c3 c4 c5
                    refine (FA.tell U pw aw aw' (n + j) bobT m.s.head m.s.key m.s.sig m.s.path m.A m.B m.ca m.cb 0 _ HTU.out.u.ci (HK.out.below HTU.out.u.below HK.out.lt) HAB.out.ok (by omega) (by decide) (by have := (HDM.out.2 m HMM.out).sig; omega) (by have := (HDM.out.2 m HMM.out).path; omega) (HDM.out.2 m HMM.out).ep HSS.out HPP.out (HTU.out.u.tf m HMM.out).1 (HTU.out.u.tf m HMM.out).2 HTE.out).mono ?_
                    rintro e w17 ⟨rfl, U2, ho17, hg17, hc17⟩
                    rw [HE0.out]
                    have HTU2 := Lib.hid (HTU.out.progU ho17 hg17 hc17)
                    clear ho17 hg17 hc17 HTU HSS HPP HAB
                    go_wp2
                    go_roundw
                    case rel => exact ⟨n, j + 1, by omega, by omega, rfl, by go_num, Lib.hid ⟨U2, aw', HTU2.out, HAB'.out⟩⟩
                    case measure => simp [intOf]; omega
                  · have g2 : ¬ (j : Int) < (MF.length : Int) := by omega
                    have e2 : ((j : Int) == (MF.length : Int)) = true := by rw [beq_iff_eq]; omega
                    obtain ⟨m, hm⟩ : ∃ m, ME[n]? = some m := ⟨_, List.getElem?_eq_getElem h1⟩
                    have hab := HAB.out
                    rw [← HPUB.out] at hab
                    obtain ⟨aw', hte, hab'⟩ := hab.tellAnn HOK.out.1 HCH.out.1 (s := m.s) (by rw [← HME.out, List.getElem?_map, hm]; rfl)
                    rw [HPUB.out] at hab'
                    have HTE := Lib.hid (show tellAns aw annT ⟨m.s.head, m.s.key, m.s.sig, m.s.path⟩ = (aw', 0) from hte)
                    have HAB' := Lib.hid hab'
                    have HMM := Lib.hid (List.mem_of_getElem? hm)
                    obtain ⟨a, rfl, hal, c0, c1, c2, c3, c4, c5, hs, hp⟩ := HTU.out.u.sg.six' hm
                    have HSS := Lib.hid hs
                    have HPP := Lib.hid hp
                    have hk0 : (0 : Int) ≤ (n : Int) := by omega
                    clear hm hs hp hal hab hte hab'
                    go_wp2_with fail
                    clear c0 c1 c2 c3 c4 c5
                    refine (FA.tell U pw aw aw' (n + j) annT m.s.head m.s.key m.s.sig m.s.path m.A m.B m.ca m.cb 0 _ HTU.out.u.ci (HK.out.below HTU.out.u.below HK.out.lt) HAB.out.ok (by omega) (by decide) (by have := (HDM.out.1 m HMM.out).sig; omega) (by have := (HDM.out.1 m HMM.out).path; omega) (HDM.out.1 m HMM.out).ep HSS.out HPP.out (HTU.out.u.tx m HMM.out).1 (HTU.out.u.tx m HMM.out).2 HTE.out).mono ?_
                    rintro e w17 ⟨rfl, U2, ho17, hg17, hc17⟩
                    rw [HE0.out]
                    have HTU2 := Lib.hid (HTU.out.progU ho17 hg17 hc17)
                    clear ho17 hg17 hc17 HTU HSS HPP HAB
                    go_wp2
                    go_roundw
                    case rel => exact ⟨n + 1, j, by omega, by omega, by go_num, rfl, Lib.hid ⟨U2, aw', HTU2.out, HAB'.out⟩⟩
                    case measure => simp [intOf]; omega
                · have g1 : ¬ (n : Int) < (ME.length : Int) := by omega
                  have h2 : j < MF.length := by omega
                  have g2 : (j : Int) < (MF.length : Int) := by omega
                  have e2 : ((j : Int) == (MF.length : Int)) = false := by rw [beq_eq_false_iff_ne]; omega
                  obtain ⟨m, hm⟩ : ∃ m, MF[j]? = some m := ⟨_, List.getElem?_eq_getElem h2⟩
                  have hab := HAB.out
                  rw [← HPUB2.out] at hab
                  obtain ⟨aw', hte, hab'⟩ := hab.tellBob HOK.out.2 HCH.out.2 (s := m.s) (by rw [← HMF.out, List.getElem?_map, hm]; rfl)
                  rw [HPUB2.out] at hab'
                  have HTE := Lib.hid (show tellAns aw bobT ⟨m.s.head, m.s.key, m.s.sig, m.s.path⟩ = (aw', 0) from hte)
                  have HAB' := Lib.hid hab'
                  have HMM := Lib.hid (List.mem_of_getElem? hm)
                  obtain ⟨a, rfl, hal, c0, c1, c2, c3, c4, c5, hs, hp⟩ := HTU.out.u.sf.six' hm
                  have HSS := Lib.hid hs
                  have HPP := Lib.hid hp
                  have hk0 : (0 : Int) ≤ (j : Int) := by omega
                  clear hm hs hp hal hab hte hab'
                  go_wp2_with fail
                  clear c0 c1 c2 c3 c4 c5
                  refine (FA.tell U pw aw aw' (n + j) bobT m.s.head m.s.key m.s.sig m.s.path m.A m.B m.ca m.cb 0 _ HTU.out.u.ci (HK.out.below HTU.out.u.below HK.out.lt) HAB.out.ok (by omega) (by decide) (by have := (HDM.out.2 m HMM.out).sig; omega) (by have := (HDM.out.2 m HMM.out).path; omega) (HDM.out.2 m HMM.out).ep HSS.out HPP.out (HTU.out.u.tf m HMM.out).1 (HTU.out.u.tf m HMM.out).2 HTE.out).mono ?_
                  rintro e w17 ⟨rfl, U2, ho17, hg17, hc17⟩
                  rw [HE0.out]
                  have HTU2 := Lib.hid (HTU.out.progU ho17 hg17 hc17)
                  clear ho17 hg17 hc17 HTU HSS HPP HAB
                  go_wp2
                  go_roundw
                  case rel => exact ⟨n, j + 1, by omega, by omega, rfl, by go_num, Lib.hid ⟨U2, aw', HTU2.out, HAB'.out⟩⟩
                  case measure => simp [intOf]; omega
              case true =>
                by_cases h1 : n < ME.length
                · have g1 : (n : Int) < (ME.length : Int) := by omega
                  by_cases h2 : j < MF.length
                  · have g2 : (j : Int) < (MF.length : Int) := by omega
                    have e2 : ((j : Int) == (MF.length : Int)) = false := by rw [beq_eq_false_iff_ne]; omega
                    obtain ⟨m, hm⟩ : ∃ m, ME[n]? = some m := ⟨_, List.getElem?_eq_getElem h1⟩
                    have hab := HAB.out
                    rw [← HPUB.out] at hab
                    obtain ⟨aw', hte, hab'⟩ := hab.tellAnn HOK.out.1 HCH.out.1 (s := m.s) (by rw [← HME.out, List.getElem?_map, hm]; rfl)
                    rw [HPUB.out] at hab'
                    have HTE := Lib.hid (show tellAns aw annT ⟨m.s.head, m.s.key, m.s.sig, m.s.path⟩ = (aw', 0) from hte)
                    have HAB' := Lib.hid hab'
                    have HMM := Lib.hid (List.mem_of_getElem? hm)
                    obtain ⟨a, rfl, hal, c0, c1, c2, c3, c4, c5, hs, hp⟩ := HTU.out.u.sg.six' hm
                    have HSS := Lib.hid hs
                    have HPP := Lib.hid hp
                    have hk0 : (0 : Int) ≤ (n : Int) := by omega
                    clear hm hs hp hal hab hte hab'
                    go_wp2_with fail
                    clear c0 c1 c2 c3 c4 c5
                    refine (FA.tell U pw aw aw' (n + j) annT m.s.head m.s.key m.s.sig m.s.path m.A m.B m.ca m.cb 0 _ HTU.out.u.ci (HK.out.below HTU.out.u.below HK.out.lt) HAB.out.ok (by omega) (by decide) (by have := (HDM.out.1 m HMM.out).sig; omega) (by have := (HDM.out.1 m HMM.out).path; omega) (HDM.out.1 m HMM.out).ep HSS.out HPP.out (HTU.out.u.tx m HMM.out).1 (HTU.out.u.tx m HMM.out).2 HTE.out).mono ?_
                    rintro e w17 ⟨rfl, U2, ho17, hg17, hc17⟩
                    rw [HE0.out]
                    have HTU2 := Lib.hid (HTU.out.progU ho17 hg17 hc17)
                    clear ho17 hg17 hc17 HTU HSS HPP HAB
                    go_wp2
                    go_roundw
                    case rel => exact ⟨n + 1, j, by omega, by omega, by go_num, rfl, Lib.hid ⟨U2, aw', HTU2.out, HAB'.out⟩⟩
                    case measure => simp [intOf]; omega
                  · have g2 : ¬ (j : Int) < (MF.length : Int) := by omega
                    have e2 : ((j : Int) == (MF.length : Int)) = true := by rw [beq_iff_eq]; omega
                    obtain ⟨m, hm⟩ : ∃ m, ME[n]? = some m := ⟨_, List.getElem?_eq_getElem h1⟩
                    have hab := HAB.out
                    rw [← HPUB.out] at hab
                    obtain ⟨aw', hte, hab'⟩ := hab.tellAnn HOK.out.1 HCH.out.1 (s := m.s) (by rw [← HME.out, List.getElem?_map, hm]; rfl)
                    rw [HPUB.out] at hab'
                    have HTE := Lib.hid (show tellAns aw annT ⟨m.s.head, m.s.key, m.s.sig, m.s.path⟩ = (aw', 0) from hte)
                    have HAB' := Lib.hid hab'
                    have HMM := Lib.hid (List.mem_of_getElem? hm)
                    obtain ⟨a, rfl, hal, c0, c1, c2, c3, c4, c5, hs, hp⟩ := HTU.out.u.sg.six' hm
                    have HSS := Lib.hid hs
                    have HPP := Lib.hid hp
                    have hk0 : (0 : Int) ≤ (n : Int) := by omega
                    clear hm hs hp hal hab hte hab'
                    go_wp2_with fail
                    clear c0 c1 c2 c3 c4 c5
                    refine (FA.tell U pw aw aw' (n + j) annT m.s.head m.s.key m.s.sig m.s.path m.A m.B m.ca m.cb 0 _ HTU.out.u.ci (HK.out.below HTU.out.u.below HK.out.lt) HAB.out.ok (by omega) (by decide) (by have := (HDM.out.1 m HMM.out).sig; omega) (by have := (HDM.out.1 m HMM.out).path; omega) (HDM.out.1 m HMM.out).ep HSS.out HPP.out (HTU.out.u.tx m HMM.out).1 (HTU.out.u.tx m HMM.out).2 HTE.out).mono ?_
                    rintro e w17 ⟨rfl, U2, ho17, hg17, hc17⟩
                    rw [HE0.out]
                    have HTU2 := Lib.hid (HTU.out.progU ho17 hg17 hc17)
                    clear ho17 hg17 hc17 HTU HSS HPP HAB
                    go_wp2
                    go_roundw
                    case rel => exact ⟨n + 1, j, by omega, by omega, by go_num, rfl, Lib.hid ⟨U2, aw', HTU2.out, HAB'.out⟩⟩
                    case measure => simp [intOf]; omega
                · have g1 : ¬ (n : Int) < (ME.length : Int) := by omega
                  have h2 : j < MF.length := by omega
                  have g2 : (j : Int) < (MF.length : Int) := by omega
                  have e2 : ((j : Int) == (MF.length : Int)) = false := by rw [beq_eq_false_iff_ne]; omega
                  obtain ⟨m, hm⟩ : ∃ m, MF[j]? = some m := ⟨_, List.getElem?_eq_getElem h2⟩
                  have hab := HAB.out
                  rw [← HPUB2.out] at hab
                  obtain ⟨aw', hte, hab'⟩ := hab.tellBob HOK.out.2 HCH.out.2 (s := m.s) (by rw [← HMF.out, List.getElem?_map, hm]; rfl)
                  rw [HPUB2.out] at hab'
                  have HTE := Lib.hid (show tellAns aw bobT ⟨m.s.head, m.s.key, m.s.sig, m.s.path⟩ = (aw', 0) from hte)
                  have HAB' := Lib.hid hab'
                  have HMM := Lib.hid (List.mem_of_getElem? hm)
                  obtain ⟨a, rfl, hal, c0, c1, c2, c3, c4, c5, hs, hp⟩ := HTU.out.u.sf.six' hm
                  have HSS := Lib.hid hs
                  have HPP := Lib.hid hp
                  have hk0 : (0 : Int) ≤ (j : Int) := by omega
                  clear hm hs hp hal hab hte hab'
                  go_wp2_with fail
                  clear c0 c1 c2 c3 c4 c5
                  refine (FA.tell U pw aw aw' (n + j) bobT m.s.head m.s.key m.s.sig m.s.path m.A m.B m.ca m.cb 0 _ HTU.out.u.ci (HK.out.below HTU.out.u.below HK.out.lt) HAB.out.ok (by omega) (by decide) (by have := (HDM.out.2 m HMM.out).sig; omega) (by have := (HDM.out.2 m HMM.out).path; omega) (HDM.out.2 m HMM.out).ep HSS.out HPP.out (HTU.out.u.tf m HMM.out).1 (HTU.out.u.tf m HMM.out).2 HTE.out).mono ?_
                  rintro e w17 ⟨rfl, U2, ho17, hg17, hc17⟩
                  rw [HE0.out]
                  have HTU2 := Lib.hid (HTU.out.progU ho17 hg17 hc17)
                  clear ho17 hg17 hc17 HTU HSS HPP HAB
                  go_wp2
                  go_roundw
                  case rel => exact ⟨n, j + 1, by omega, by omega, rfl, by go_num, Lib.hid ⟨U2, aw', HTU2.out, HAB'.out⟩⟩
                  case measure => simp [intOf]; omega
            · have ht1 : ¬ (n : Int) + (j : Int) < (T.length : Int) := by omega
              by_cases h1 : n < ME.length
              · have g1 : (n : Int) < (ME.length : Int) := by omega
                by_cases h2 : j < MF.length
                · have g2 : (j : Int) < (MF.length : Int) := by omega
                  have e2 : ((j : Int) == (MF.length : Int)) = false := by rw [beq_eq_false_iff_ne]; omega
                  obtain ⟨m, hm⟩ : ∃ m, MF[j]? = some m := ⟨_, List.getElem?_eq_getElem h2⟩
                  have hab := HAB.out
                  rw [← HPUB2.out] at hab
                  obtain ⟨aw', hte, hab'⟩ := hab.tellBob HOK.out.2 HCH.out.2 (s := m.s) (by rw [← HMF.out, List.getElem?_map, hm]; rfl)
                  rw [HPUB2.out] at hab'
                  have HTE := Lib.hid (show tellAns aw bobT ⟨m.s.head, m.s.key, m.s.sig, m.s.path⟩ = (aw', 0) from hte)
                  have HAB' := Lib.hid hab'
                  have HMM := Lib.hid (List.mem_of_getElem? hm)
                  obtain ⟨a, rfl, hal, c0, c1, c2, c3, c4, c5, hs, hp⟩ := HTU.out.u.sf.six' hm
                  have HSS := Lib.hid hs
                  have HPP := Lib.hid hp
                  have hk0 : (0 : Int) ≤ (j : Int) := by omega
                  clear hm hs hp hal hab hte hab'
                  go_wp2_with fail
                  clear c0 c1 c2 c3 c4 c5
                  refine (FA.tell U pw aw aw' (n + j) bobT m.s.head m.s.key m.s.sig m.s.path m.A m.B m.ca m.cb 0 _ HTU.out.u.ci (HK.out.below HTU.out.u.below HK.out.lt) HAB.out.ok (by omega) (by decide) (by have := (HDM.out.2 m HMM.out).sig; omega) (by have := (HDM.out.2 m HMM.out).path; omega) (HDM.out.2 m HMM.out).ep HSS.out HPP.out (HTU.out.u.tf m HMM.out).1 (HTU.out.u.tf m HMM.out).2 HTE.out).mono ?_
                  rintro e w17 ⟨rfl, U2, ho17, hg17, hc17⟩
                  rw [HE0.out]
                  have HTU2 := Lib.hid (HTU.out.progU ho17 hg17 hc17)
                  clear ho17 hg17 hc17 HTU HSS HPP HAB
                  go_wp2
                  go_roundw
                  case rel => exact ⟨n, j + 1, by omega, by omega, rfl, by go_num, Lib.hid ⟨U2, aw', HTU2.out, HAB'.out⟩⟩
                  case measure => simp [intOf]; omega
                · have g2 : ¬ (j : Int) < (MF.length : Int) := by omega
                  have e2 : ((j : Int) == (MF.length : Int)) = true := by rw [beq_iff_eq]; omega
                  obtain ⟨m, hm⟩ : ∃ m, ME[n]? = some m := ⟨_, List.getElem?_eq_getElem h1⟩
                  have hab := HAB.out
                  rw [← HPUB.out] at hab
                  obtain ⟨aw', hte, hab'⟩ := hab.tellAnn HOK.out.1 HCH.out.1 (s := m.s) (by rw [← HME.out, List.getElem?_map, hm]; rfl)
                  rw [HPUB.out] at hab'
                  have HTE := Lib.hid (show tellAns aw annT ⟨m.s.head, m.s.key, m.s.sig, m.s.path⟩ = (aw', 0) from hte)
                  have HAB' := Lib.hid hab'
                  have HMM := Lib.hid (List.mem_of_getElem? hm)
                  obtain ⟨a, rfl, hal, c0, c1, c2, c3, c4, c5, hs, hp⟩ := HTU.out.u.sg.six' hm
                  have HSS := Lib.hid hs
                  have HPP := Lib.hid hp
                  have hk0 : (0 : Int) ≤ (n : Int) := by omega
                  clear hm hs hp hal hab hte hab'
                  go_wp2_with fail
                  clear c0 c1 c2 c3 c4 c5
                  refine (FA.tell U pw aw aw' (n + j) annT m.s.head m.s.key m.s.sig m.s.path m.A m.B m.ca m.cb 0 _ HTU.out.u.ci (HK.out.below HTU.out.u.below HK.out.lt) HAB.out.ok (by omega) (by decide) (by have := (HDM.out.1 m HMM.out).sig; omega) (by have := (HDM.out.1 m HMM.out).path; omega) (HDM.out.1 m HMM.out).ep HSS.out HPP.out (HTU.out.u.tx m HMM.out).1 (HTU.out.u.tx m HMM.out).2 HTE.out).mono ?_
                  rintro e w17 ⟨rfl, U2, ho17, hg17, hc17⟩
                  rw [HE0.out]
                  have HTU2 := Lib.hid (HTU.out.progU ho17 hg17 hc17)
                  clear ho17 hg17 hc17 HTU HSS HPP HAB
                  go_wp2
                  go_roundw
                  case rel => exact ⟨n + 1, j, by omega, by omega, by go_num, rfl, Lib.hid ⟨U2, aw', HTU2.out, HAB'.out⟩⟩
                  case measure => simp [intOf]; omega
              · have g1 : ¬ (n : Int) < (ME.length : Int) := by omega
                have h2 : j < MF.length := by omega
                have g2 : (j : Int) < (MF.length : Int) := by omega
                have e2 : ((j : Int) == (MF.length : Int)) = false := by rw [beq_eq_false_iff_ne]; omega
                obtain ⟨m, hm⟩ : ∃ m, MF[j]? = some m := ⟨_, List.getElem?_eq_getElem h2⟩
                have hab := HAB.out
                rw [← HPUB2.out] at hab
                obtain ⟨aw', hte, hab'⟩ := hab.tellBob HOK.out.2 HCH.out.2 (s := m.s) (by rw [← HMF.out, List.getElem?_map, hm]; rfl)
                rw [HPUB2.out] at hab'
                have HTE := Lib.hid (show tellAns aw bobT ⟨m.s.head, m.s.key, m.s.sig, m.s.path⟩ = (aw', 0) from hte)
                have HAB' := Lib.hid hab'
                have HMM := Lib.hid (List.mem_of_getElem? hm)
                obtain ⟨a, rfl, hal, c0, c1, c2, c3, c4, c5, hs, hp⟩ := HTU.out.u.sf.six' hm
                have HSS := Lib.hid hs
                have HPP := Lib.hid hp
                have hk0 : (0 : Int) ≤ (j : Int) := by omega
                clear hm hs hp hal hab hte hab'
                go_wp2_with fail
                clear c0 c1 c2 c3 c4 c5
                refine (FA.tell U pw aw aw' (n + j) bobT m.s.head m.s.key m.s.sig m.s.path m.A m.B m.ca m.cb 0 _ HTU.out.u.ci (HK.out.below HTU.out.u.below HK.out.lt) HAB.out.ok (by omega) (by decide) (by have := (HDM.out.2 m HMM.out).sig; omega) (by have := (HDM.out.2 m HMM.out).path; omega) (HDM.out.2 m HMM.out).ep HSS.out HPP.out (HTU.out.u.tf m HMM.out).1 (HTU.out.u.tf m HMM.out).2 HTE.out).mono ?_
                rintro e w17 ⟨rfl, U2, ho17, hg17, hc17⟩
                rw [HE0.out]
                have HTU2 := Lib.hid (HTU.out.progU ho17 hg17 hc17)
                clear ho17 hg17 hc17 HTU HSS HPP HAB
                go_wp2
                go_roundw
                case rel => exact ⟨n, j + 1, by omega, by omega, rfl, by go_num, Lib.hid ⟨U2, aw', HTU2.out, HAB'.out⟩⟩
                case measure => simp [intOf]; omega
          · have g1 : ¬ (n : Int) < (ME.length : Int) := by omega
            have g2 : ¬ (j : Int) < (MF.length : Int) := by omega
            have HSM := Lib.hid (HAV.out.same (b := aw) (by have h := HAB.out; rwa [show n = ME.length by omega, show j = MF.length by omega] at h))
            have HNJ := Lib.hid (show n + j ≤ 500 by omega)
            clear hend hn hj hnj0 htn
            go_wp2_with fail
            clear g1 g2
            refine (FA.forks V pv av (ME.length + MF.length) _ HTU.out.v.ci (HK.out.below HTU.out.v.below HK.out.lt) HAV.out.ok (by omega)).mono ?_
            rintro e w17 ⟨P1, cp1, L1, rfl, hf1, hll, hfk1, hb17⟩
            have HF1 := Lib.hid hf1
            have HLL := Lib.hid hll
            have HFK1 := Lib.hid hfk1
            have HTU2 := Lib.hid (HTU.out.calm hb17)
            clear hf1 hll hfk1 hb17 HTU
            go_wp2_with fail
            refine (FA.forks U pw aw (n + j) _ HTU2.out.u.ci (HK.out.below HTU2.out.u.below HK.out.lt) HAB.out.ok (by have := HNJ.out; omega)).mono ?_
            rintro e w18 ⟨P2, cp2, L2, rfl, hf2, -, hfk2, hb18⟩
            obtain rfl := forks_same HSM.out HF1.out hf2
            have HFK2 := Lib.hid hfk2
            have HFK3 := Lib.hid (HFK1.out.below hb18)
            have HTU3 := Lib.hid (HTU2.out.calm hb18)
            clear hf2 hfk2 hb18 HTU2 HFK1 HF1
            go_wp2_with fail
            refine (equalForks_same L1 P1 P2 cp1 cp2 _ HLL.out HFK3.out HFK2.out).mono ?_
            rintro e w19 ⟨rfl, hb19⟩
            have HTU4 := Lib.hid (HTU3.out.calm hb19)
            clear hb19 HTU3 HFK2 HFK3
            go_wp2_with fail
            refine (FA.last V pv av (ME.length + MF.length) _ HTU4.out.v.ci (HK.out.below HTU4.out.v.below HK.out.lt) HAV.out.ok (by omega)).mono ?_
            rintro e w20 ⟨x1, rfl, hx1, hb20⟩
            have HX1 := Lib.hid hx1
            have HTU5 := Lib.hid (HTU4.out.calm hb20)
            clear hx1 hb20 HTU4
            go_wp2_with fail
            refine (FA.last U pw aw (n + j) _ HTU5.out.u.ci (HK.out.below HTU5.out.u.below HK.out.lt) HAB.out.ok (by have := HNJ.out; omega)).mono ?_
            rintro e w21 ⟨x2, rfl, hx2, hb21⟩
            obtain rfl := last_same HSM.out HX1.out hx2
            have HTU6 := Lib.hid (HTU5.out.calm hb21)
            clear hx2 hb21 HTU5 HX1
            go_wp2
            go_ret
            exact ⟨rfl, HTU6.out.v.below⟩
end Go.Proofs.YtgjmbokfenpefaaGreatDoor
