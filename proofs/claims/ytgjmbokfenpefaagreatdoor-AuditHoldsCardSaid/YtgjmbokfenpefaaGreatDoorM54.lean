/- Parts of the proof, one behind the other: HoldP, HoldLaw. -/
import Derived.WalkKit
import Derived.Lib.Hide
import Derived.WalkLawsBesides
import Derived.Deep.QuietTactic
import Derived.Deep.WholeRow
import Derived.ArgAppend
import Derived.Laws.AppendOwnNone
import Derived.Laws.CopyRow
import Derived.Deep.RegionLaw
import Derived.Laws.BytesString
import Derived.Laws.IdiomStrings
import Derived.Test.YtgjmbokfenpefaaGreatDoorProg
import Derived.StringKeys
import Derived.Maps.Own
import Derived.Maps.Views
import Derived.Maps.OwnSet
import Derived.Maps.OwnOps
import Derived.Maps.RangeWalk
import Derived.Sort.KeysCollected
import Derived.Laws.BitsAllLaws
import Derived.Outline
import Derived.BigQuiet
import Derived.Laws.CopyOwn
import Derived.RegionTactic
import Derived.StillTail
import Derived.Deep.Quiet
import Derived.Deep.RegionHeld3
import Derived.Deep.DeepCutAuto
import Derived.Laws.ResultCell
import Derived.IntWalk
import Derived.Sort.Walk0
import Derived.Tactics
import Derived.Orders
import Derived.LaidEql
import Derived.Stop.Asserts
import Derived.RowKitTokens
import Derived.OrdersHeld
import Derived.Sort.LotA
import Derived.Lib.SortBridge
import Derived.Deep.AppendSrc
import Derived.Shelf.SlSortFuncK.WholeK
import Derived.Ground.GgsProg
import Derived.Shelf.GgSortFunc.Tiny
import Derived.Shelf.Strings.Repeat
import Derived.KernelRfl
import Derived.Laws.StructEq
import Derived.WideKeyEntry
import Derived.Deep.CutRange
import Derived.Test.YtgjmbokfenpefaaGreatDoorM1
import Derived.Test.YtgjmbokfenpefaaGreatDoorM2
import Derived.Test.YtgjmbokfenpefaaGreatDoorM3
import Derived.Test.YtgjmbokfenpefaaGreatDoorM4
import Derived.Test.YtgjmbokfenpefaaGreatDoorM5
import Derived.Test.YtgjmbokfenpefaaGreatDoorM6
import Derived.Test.YtgjmbokfenpefaaGreatDoorM7
import Derived.Test.YtgjmbokfenpefaaGreatDoorM8
import Derived.Test.YtgjmbokfenpefaaGreatDoorM9
import Derived.Test.YtgjmbokfenpefaaGreatDoorM11
import Derived.Test.YtgjmbokfenpefaaGreatDoorM12
import Derived.Test.YtgjmbokfenpefaaGreatDoorM13
import Derived.Test.YtgjmbokfenpefaaGreatDoorM14
import Derived.Test.YtgjmbokfenpefaaGreatDoorM16
import Derived.Test.YtgjmbokfenpefaaGreatDoorM17
import Derived.Test.YtgjmbokfenpefaaGreatDoorM18
import Derived.Test.YtgjmbokfenpefaaGreatDoorM19
import Derived.Test.YtgjmbokfenpefaaGreatDoorM21
import Derived.Test.YtgjmbokfenpefaaGreatDoorM24
import Derived.Test.YtgjmbokfenpefaaGreatDoorM26
import Derived.Test.YtgjmbokfenpefaaGreatDoorM27
import Derived.Test.YtgjmbokfenpefaaGreatDoorM31
import Derived.Test.YtgjmbokfenpefaaGreatDoorM32
/- Who was told one thing is not told another: plain facts for AuditHolds. -/
namespace Go.Proofs.YtgjmbokfenpefaaGreatDoor
open Go.RowKit

/-- An auditor that told one name the first n heads. -/
def auN (pub name : ByteArray) (H : List Hd) (n : Nat) : Au := ⟨pub, if n = 0 then [] else [(name, ⟨pub, H.take n⟩)]⟩
theorem auN_cl (pub name : ByteArray) (H : List Hd) (n : Nat) : auCl (auN pub name H n) name = ⟨pub, H.take n⟩ := by
  unfold auCl auN
  by_cases h : n = 0
  · rw [if_pos h, h]; rfl
  · rw [if_neg h, look_cons, if_pos rfl]; rfl
theorem ups_one {α : Type} (s : ByteArray) (x y : α) : ups [(s, x)] s y = [(s, y)] := by
  unfold ups
  rw [show look [(s, x)] s = some x by rw [look_cons, if_pos rfl]]
  simp
theorem auN_ok {pub name : ByteArray} {H : List Hd} {n : Nat} (h : pub.size = 16) (hn : name.size ≤ 1000000) (h8 : n ≤ 500) : AuOk (auN pub name H n) 500 := by
  unfold auN
  by_cases h0 : n = 0
  · rw [if_pos h0]
    exact ⟨h, List.nodup_nil, (fun p hp => by cases hp), by show 0 ≤ 500; omega, (fun s c hc => by simp [look_nil] at hc)⟩
  · rw [if_neg h0]
    refine ⟨h, by simp [keysL], fun p hp => ?_, by show 1 ≤ 500; omega, fun s c hc => ?_⟩
    · rw [List.mem_singleton.1 hp]; exact hn
    · rw [look_cons] at hc
      split at hc
      · obtain rfl := Option.some.inj hc
        exact ⟨rfl, by show (H.take n).length ≤ 500; rw [List.length_take]; omega⟩
      · cases hc
/-- It is told the next epoch. -/
theorem tell_next {d : Dst} (h : DOk d) (hc : Chained d) {name : ByteArray} {i : Nat} {s : Sgn} (hs : d.eps[i]? = some s) :
    tellAns (auN (dirPub d.secret) name (headsOf d) i) name s = (auN (dirPub d.secret) name (headsOf d) (i + 1), 0) := by
  have hi : i < d.eps.length := (List.getElem?_eq_some_iff.1 hs).1
  have h1 := see_eps h hc hs (n := i) (by omega)
  rw [if_neg (Nat.lt_irrefl i), if_pos rfl] at h1
  unfold tellAns
  rw [auN_cl, h1, if_pos rfl]
  unfold auN
  rw [if_neg (Nat.succ_ne_zero i)]
  by_cases h0 : i = 0
  · rw [if_pos h0]; rfl
  · rw [if_neg h0]
    show (({ pub := dirPub d.secret, who := ups [(name, _)] name _ } : Au), (0 : Int)) = _
    rw [ups_one]
/-- Another directory's epoch, of one that it was told, is taken if it is the same, else refused. -/
theorem tell_again {d f : Dst} (hf : DOk f) (hcf : Chained f) (hsec : f.secret = d.secret) {name : ByteArray} {i : Nat} {s t : Sgn} (hs : d.eps[i]? = some s) (ht : f.eps[i]? = some t) :
    tellAns (auN (dirPub d.secret) name (headsOf d) d.eps.length) name t = (auN (dirPub d.secret) name (headsOf d) d.eps.length, if s.head = t.head then 0 else 13) := by
  have hi : i < d.eps.length := (List.getElem?_eq_some_iff.1 hs).1
  have hl : ((headsOf d).take d.eps.length) = headsOf d := List.take_of_length_le (by unfold headsOf; rw [List.length_map]; omega)
  have hln : (headsOf d).length = d.eps.length := by unfold headsOf; rw [List.length_map]
  obtain ⟨_, h2, _, _⟩ := hcf.link i t ht
  have hfit := ep_fits hf hcf ht
  rw [hsec] at hfit
  have hsee : seeAns ⟨dirPub d.secret, headsOf d⟩ t = (⟨dirPub d.secret, headsOf d⟩, if s.head = t.head then 0 else 13) := by
    unfold seeAns
    rw [if_pos hfit]
    simp only [h2, hln]
    rw [if_neg (by omega), if_pos (by omega), show ((i : Int) + 1 - 1).toNat = i by omega, hdAt_get (headsOf_get hs)]
    split <;> rfl
  unfold tellAns
  rw [auN_cl, hl, hsee]
  by_cases e : s.head = t.head
  · simp only [if_pos e]
    rw [if_pos trivial]
    unfold auN
    rw [if_neg (by omega : ¬ d.eps.length = 0), hl]
    show (({ pub := dirPub d.secret, who := ups [(name, _)] name _ } : Au), (0 : Int)) = _
    rw [ups_one]
  · simp only [if_neg e]
    rw [if_neg (by decide)]
theorem auN_last {pub name : ByteArray} {H : List Hd} {m : Int} (h : LastIs (auN pub name H H.length) m) : m = (H.length : Int) := by
  refine h.one ⟨fun s c hc => ?_, ?_⟩
  · unfold auN at hc
    split at hc
    · simp [look_nil] at hc
    · rw [look_cons] at hc
      split at hc
      · obtain rfl := Option.some.inj hc
        show ((H.take H.length).length : Int) ≤ _
        rw [List.length_take]; omega
      · cases hc
  · by_cases h0 : H.length = 0
    · exact .inl (by omega)
    · refine .inr ⟨name, ⟨pub, H.take H.length⟩, ?_, ?_⟩
      · unfold auN; rw [if_neg h0, look_cons, if_pos rfl]
      · show (H.length : Int) = ((H.take H.length).length : Int)
        rw [List.take_length]
theorem auN_forks {pub name : ByteArray} {H : List Hd} {n : Nat} {L : List Fk} (h : ForksIs (auN pub name H n) L) : L = [] := by
  cases L with
  | nil => rfl
  | cons f L =>
    exfalso
    obtain ⟨c, d, i, h1, h2, h3, _⟩ := (h.2 f).1 (List.mem_cons_self ..)
    have one : ∀ {s : ByteArray} {c : Cl}, look (auN pub name H n).who s = some c → s = name := fun {s c} hc => by
      unfold auN at hc
      split at hc
      · simp [look_nil] at hc
      · rw [look_cons] at hc
        split at hc
        · rename_i e; exact e.symm
        · cases hc
    rw [one h1, one h2] at h3
    exact List.lt_irrefl _ h3
end Go.Proofs.YtgjmbokfenpefaaGreatDoor
/- AuditHolds, the walk, over whatever contracts the program's directory and auditor keep, where Publish tells right items only. -/
namespace Go.Proofs.YtgjmbokfenpefaaGreatDoor
open Go.RowKit Go.Maps

set_option maxHeartbeats 8000000 in
set_option maxRecDepth 100000 in
theorem auditHolds_any (DF : DirFace) (FC : ClientFace) (FA : AuditFace) (L M N : List Hd) (A B C : Option Addr) (ca cb cc : Nat) (w : World) (hk : HasK w) (ha : Hds w A L) (hb : Hds w B M) (hc : Hds w C N) (hg : w.cell? ⟨0, 0, none⟩ = some (.iface 247 (.agg #[hand 44]))) :
    Calls Tryz.prog 5 #[.slice A L.length ca, .slice B M.length cb, .slice C N.length cc] w fun e w' => e = .returned (.bool true) ∧ Below w.heap.size w w' := by
  have HK := Lib.hid hk
  have HA := Lib.hid ha
  have HB := Lib.hid hb
  have HC := Lib.hid hc
  have HG := Lib.hid hg
  have HGL := Lib.hid (show (0 : Nat) < w.heap.size from block_lt_of_cell hg)
  have HE0 := Lib.hid (show errOf 0 = Value.nilIface from rfl)
  clear hk ha hb hc hg
  go_enter Tryz.func5, Tryz.ntmps5
  go_wp2_with fail
  refine (few_any L A ca _ HA.out).mono ?_
  rintro e w1 ⟨hb1, b, rfl, hf⟩
  have HB1 := Lib.hid hb1
  clear hb1
  cases b
  case false =>
    go_wp2
    go_ret
    exact ⟨rfl, HB1.out⟩
  have HL := Lib.hid (hf rfl)
  clear hf
  go_wp2_with fail
  refine (few_any M B cb _ (HB.out.below HB1.out)).mono ?_
  rintro e w2 ⟨hb2, b, rfl, hf⟩
  have HB2 := Lib.hid (HB1.out.trans (hb2.mono HB1.out.size))
  clear hb2
  cases b
  case false =>
    go_wp2
    go_ret
    exact ⟨rfl, HB2.out⟩
  have HM := Lib.hid (hf rfl)
  clear hf
  go_wp2_with fail
  refine (few_any N C cc _ (HC.out.below HB2.out)).mono ?_
  rintro e w3 ⟨hb3, b, rfl, hf⟩
  have HB3 := Lib.hid (HB2.out.trans (hb3.mono HB2.out.size))
  clear hb3
  cases b
  case false =>
    go_wp2
    go_ret
    exact ⟨rfl, HB3.out⟩
  have HN := Lib.hid (hf rfl)
  clear hf
  go_wp2_with fail
  refine (told_any DF FC _ (HK.out.below HB3.out HK.out.lt)).mono ?_
  rintro e w4 ⟨rfl, hb4⟩
  have HB4 := Lib.hid (HB3.out.trans (hb4.mono HB3.out.size))
  clear hb4
  have hll := HL.out.1
  have hml := HM.out.1
  have hnl := HN.out.1
  obtain ⟨i0, hi0, hz0, hz1, hz2⟩ := info_parts infoActK
  go_wp2_with fail
  refine (cloneActs_any L A ca _ (by omega) (HA.out.below HB4.out)).mono ?_
  rintro e w5 ⟨v5, rfl, hb5, hr5⟩
  have HB5 := Lib.hid (HB4.out.trans (hb5.mono HB4.out.size))
  have HR5 := Lib.hid hr5
  have HS5 := Lib.hid hb5.size
  clear hb5 hr5
  go_wp2_with (at_builtin; refine wpList_append_hds rfl (.tmp 35) (.tmp 36) 76 rfl 86 Tryz.underlying76 i0 _ hi0 hz0 hz1 hz2 rfl w4.heap.size L.length L _ rfl HR5.out HS5.out (by omega) M M.length rfl B cb rfl (HB.out.below HB5.out) (by omega) ?_; intro v6 w6 hr6 hg6)
  have hb6 : Below w4.heap.size w5 w6 := (Below.refl w4.heap.size w5).grown hg6.out HS5.out (fun k e => (HR5.out.lt k e).1)
  have HB6 := Lib.hid (show Below w.heap.size w w6 from HB5.out.trans (hb6.mono HB4.out.size))
  have hr : Row w6 w4.heap.size 3 v6 (L ++ M).length (hdCells (L ++ M)) := by rw [List.length_append]; exact hr6.out
  obtain ⟨-, A6, c6, rfl, hm6⟩ := hr.hds
  have HM6 := Lib.hid hm6
  have HLM := Lib.hid (show (L ++ M).length ≤ 40 ∧ ∀ x ∈ L ++ M, x.root.size ≤ 60 ∧ x.prev.size ≤ 60 from ⟨by rw [List.length_append]; omega, fun x hx => by
    rcases List.mem_append.1 hx with h | h
    · have := HL.out.2 x h; omega
    · have := HM.out.2 x h; omega⟩)
  have HLN := Lib.hid (show (L ++ N).length ≤ 40 ∧ ∀ x ∈ L ++ N, x.root.size ≤ 60 ∧ x.prev.size ≤ 60 from ⟨by rw [List.length_append]; omega, fun x hx => by
    rcases List.mem_append.1 hx with h | h
    · have := HL.out.2 x h; omega
    · have := HN.out.2 x h; omega⟩)
  clear hb6 hr6 hg6 hr hm6 HR5
  go_wp2_with fail
  refine (play_any DF (L ++ M) A6 c6 _ (HK.out.below HB6.out HK.out.lt) HM6.out HLM.out.1 HLM.out.2).mono ?_
  rintro e w7 ⟨p, F, v, rfl, hb7, hd7, hf7, -⟩
  have HB7 := Lib.hid (HB6.out.trans (hb7.mono HB6.out.size))
  have HD7 := Lib.hid hd7
  have HF7 := Lib.hid (show ∀ k, F k → k < w7.heap.size from DF.lt hd7)
  clear hb7 hd7 hf7
  go_wp2_with fail
  refine (cloneActs_any L A ca _ (by omega) (HA.out.below HB7.out)).mono ?_
  rintro e w8 ⟨v8, rfl, hb8, hr8⟩
  have HB8 := Lib.hid (HB7.out.trans (hb8.mono HB7.out.size))
  have HD8 := Lib.hid (DF.same HD7.out (same_of_below hb8 HF7.out))
  have HR8 := Lib.hid hr8
  have HS8 := Lib.hid hb8.size
  clear hb8 hr8 HD7
  go_wp2_with (at_builtin; refine wpList_append_hds rfl (.tmp 43) (.tmp 44) 76 rfl 86 Tryz.underlying76 i0 _ hi0 hz0 hz1 hz2 rfl w7.heap.size L.length L _ rfl HR8.out HS8.out (by omega) N N.length rfl C cc rfl (HC.out.below HB8.out) (by omega) ?_; intro v9 w9 hr9 hg9)
  have hb9 : Below w7.heap.size w8 w9 := (Below.refl w7.heap.size w8).grown hg9.out HS8.out (fun k e => (HR8.out.lt k e).1)
  have HB9 := Lib.hid (show Below w.heap.size w w9 from HB8.out.trans (hb9.mono HB7.out.size))
  have HD9 := Lib.hid (DF.same HD8.out ⟨hb9.size, fun k hk => hb9.block k (HF7.out k hk)⟩)
  have hr : Row w9 w7.heap.size 3 v9 (L ++ N).length (hdCells (L ++ N)) := by rw [List.length_append]; exact hr9.out
  obtain ⟨-, A9, c9, rfl, hm9⟩ := hr.hds
  have HM9 := Lib.hid hm9
  clear hb9 hr9 hg9 hr hm9 HR8 HD8
  go_wp2_with fail
  refine (play_any DF (L ++ N) A9 c9 _ (HK.out.below HB9.out HK.out.lt) HM9.out HLN.out.1 HLN.out.2).mono ?_
  rintro e w10 ⟨p2, F2, v2, rfl, hb10, hd10, hf10, -⟩
  have HB10 := Lib.hid (HB9.out.trans (hb10.mono HB9.out.size))
  have HD10 := Lib.hid (DF.same HD9.out (same_of_below hb10 (DF.lt HD9.out)))
  have HE10 := Lib.hid hd10
  have HOK := Lib.hid (show DOk (playK DF.pa (newDst sec16) (L ++ M)) ∧ DOk (playK DF.pa (newDst sec16) (L ++ N)) from ⟨playK_ok (newDst_ok sec16_size) _, playK_ok (newDst_ok sec16_size) _⟩)
  have HDI := Lib.hid (show EpsDim (playK DF.pa (newDst sec16) (L ++ M)) ∧ EpsDim (playK DF.pa (newDst sec16) (L ++ N)) from ⟨playK_dim DF.pa (fun s hs => by cases hs) _, playK_dim DF.pa (fun s hs => by cases hs) _⟩)
  have HSC := Lib.hid (show (playK DF.pa (newDst sec16) (L ++ M)).secret = sec16 ∧ (playK DF.pa (newDst sec16) (L ++ N)).secret = sec16 from ⟨(playK_eps _ _ _).2, (playK_eps _ _ _).2⟩)
  have HCH := Lib.hid (show Chained (playK DF.pa (newDst sec16) (L ++ M)) ∧ Chained (playK DF.pa (newDst sec16) (L ++ N)) from ⟨playK_linked _ (newDst_chained sec16), playK_linked _ (newDst_chained sec16)⟩)
  clear hb10 hd10 hf10 HD9
  generalize playK DF.pa (newDst sec16) (L ++ M) = d1 at HD10 HOK HDI HSC HCH
  generalize playK DF.pa (newDst sec16) (L ++ N) = d2 at HE10 HOK HDI HSC HCH
  go_wp2_with fail
  refine (DF.pub F p d1 _ HD10.out HOK.out.1 (HK.out.below HB10.out HK.out.lt)).mono ?_
  rintro e w11 ⟨rfl, hb11⟩
  obtain ⟨pub, hpub⟩ : ∃ pub, boxPub (dirSeed d1.secret) = pub := ⟨_, rfl⟩
  have HPUB := Lib.hid (show dirPub d1.secret = pub from hpub)
  rw [hpub]
  have HP16 := Lib.hid (show pub.size = 16 from by rw [← hpub]; exact rowsOf_size _ _ (by omega))
  have HB11 := Lib.hid (HB10.out.trans (hb11.mono HB10.out.size))
  have HD11 := Lib.hid (DF.same HD10.out (same_of_below hb11 (DF.lt HD10.out)))
  have HE11 := Lib.hid (DF.same HE10.out (same_of_below hb11 (DF.lt HE10.out)))
  clear hb11 hpub HD10 HE10
  go_wp2_with fail
  refine (FA.new pub _ HP16.out (HK.out.below HB11.out HK.out.lt)).mono ?_
  rintro e w12 ⟨pc, G0, rfl, hb12, hc12, hgf⟩
  have HB12 := Lib.hid (HB11.out.trans (hb12.mono HB11.out.size))
  have HD12 := Lib.hid (DF.same HD11.out (same_of_below hb12 (DF.lt HD11.out)))
  have HE12 := Lib.hid (DF.same HE11.out (same_of_below hb12 (DF.lt HE11.out)))
  have HC12 := Lib.hid hc12
  have HGF := Lib.hid (show (∀ k, F k → ¬ G0 k) ∧ (∀ k, F2 k → ¬ G0 k) ∧ (∀ k, G0 k → w.heap.size ≤ k) ∧ ∀ k, G0 k → k < w12.heap.size from ⟨fun k h1 h2 => by have := DF.lt HD11.out k h1; have := hgf k h2; omega, fun k h1 h2 => by have := DF.lt HE11.out k h1; have := hgf k h2; omega, fun k h => Nat.le_trans HB11.out.size (hgf k h), FA.lt hc12⟩)
  clear hb12 hc12 hgf HD11 HE11
  go_wp2_with fail
  refine (DF.epochs F p d1 _ HD12.out HOK.out.1 (HK.out.below HB12.out HK.out.lt)).mono ?_
  rintro e w13 ⟨AE, ce, ME, rfl, hme, hmc, hb13, hsg13, hna, hnt⟩
  have HB13 := Lib.hid (HB12.out.trans (hb13.mono HB12.out.size))
  have HE13 := Lib.hid (DF.same HE12.out (same_of_below hb13 (DF.lt HE12.out)))
  have HC13 := Lib.hid (FA.same HC12.out (same_of_below hb13 (FA.lt HC12.out)))
  have HZ13 := Lib.hid hb13.size
  have HGA := Lib.hid (hna.apart HGF.out.1 HGF.out.2.2.2)
  have HGT := Lib.hid (show ∀ m ∈ ME, (∀ a, m.A = some a → 0 < m.s.sig.length → ¬ G0 a.block) ∧ (∀ a, m.B = some a → 0 < m.s.path.length → ¬ G0 a.block) from fun m hm => ⟨(hnt m hm).1.apart HGF.out.1 HGF.out.2.2.2, (hnt m hm).2.apart HGF.out.1 HGF.out.2.2.2⟩)
  have HME := Lib.hid hme
  have HSG := Lib.hid hsg13
  clear hme hmc hb13 hsg13 hna hnt HC12 HD12 HE12
  go_wp2_with fail
  refine (DF.epochs F2 p2 d2 _ HE13.out HOK.out.2 (HK.out.below HB13.out HK.out.lt)).mono ?_
  rintro e w14 ⟨AF, cf, MF, rfl, hmf, hmc, hb14, hsg14, hna, hnt⟩
  have HMF := Lib.hid hmf
  have HLE := Lib.hid (show ME.length = d1.eps.length by rw [← HME.out, List.length_map])
  have HLF := Lib.hid (show MF.length = d2.eps.length by rw [← hmf, List.length_map])
  have hm8 : ME.length ≤ 8 := by rw [HLE.out]; exact HOK.out.1.few
  have hf8 : MF.length ≤ 8 := by rw [HLF.out]; exact HOK.out.2.few
  have hg13 : ∀ k, G0 k → k < w13.heap.size := fun k h => Nat.lt_of_lt_of_le (HGF.out.2.2.2 k h) HZ13.out
  have HHO := Lib.hid (show HoAt FA w w14 pc G0 (auN pub annT (headsOf d1) 0) AE ME AF MF from
    ⟨HB13.out.trans (hb14.mono HB13.out.size), FA.same HC13.out (same_of_below hb14 (FA.lt HC13.out)), HGF.out.2.2.1, HSG.out.below hb14, HGA.out, HGT.out, hsg14, hna.apart HGF.out.2.1 hg13, fun m hm => ⟨(hnt m hm).1.apart HGF.out.2.1 hg13, (hnt m hm).2.apart HGF.out.2.1 hg13⟩⟩)
  have HDM := Lib.hid (show (∀ m ∈ ME, SgnDim m.s) ∧ ∀ m ∈ MF, SgnDim m.s from ⟨fun m hm => HDI.out.1 m.s (by rw [← HME.out]; exact List.mem_map_of_mem hm), fun m hm => HDI.out.2 m.s (by rw [← HMF.out]; exact List.mem_map_of_mem hm)⟩)
  clear hmf hmc hb14 hsg14 hna hnt HC13 HE13 hg13 HSG HGA HGT
  go_wp2
  go_loopw [15] (fun i wr => ∃ k : Nat, k ≤ ME.length ∧ i = .int .i64 (k : Int) ∧ Hid (∃ G, HoAt FA w wr pc G (auN pub annT (headsOf d1) k) AE ME AF MF)) (fun i _ => ME.length - (intOf i).toNat)
  case atStart => exact ⟨0, by omega, rfl, Lib.hid ⟨G0, HHO.out⟩⟩
  case round =>
    clear HHO
    obtain ⟨k, hk, rfl, HU⟩ := hrel
    obtain ⟨G, hho⟩ := HU.out
    have HHO := Lib.hid hho
    clear hho HU
    by_cases hlt : k < ME.length
    · obtain ⟨m, hm⟩ : ∃ m, ME[k]? = some m := ⟨_, List.getElem?_eq_getElem hlt⟩
      have HTE := Lib.hid (show tellAns (auN pub annT (headsOf d1) k) annT ⟨m.s.head, m.s.key, m.s.sig, m.s.path⟩ = (auN pub annT (headsOf d1) (k + 1), 0) from by
        have h := tell_next HOK.out.1 HCH.out.1 (name := annT) (i := k) (s := m.s) (by rw [← HME.out, List.getElem?_map, hm]; rfl)
        rwa [HPUB.out] at h)
      have HMM := Lib.hid (List.mem_of_getElem? hm)
      obtain ⟨a, rfl, hal, c0, c1, c2, c3, c4, c5, hs, hp⟩ := HHO.out.sg.six' hm
      have HSS := Lib.hid hs
      have HPP := Lib.hid hp
      have hk0 : (0 : Int) ≤ (k : Int) := by omega
      have hk1 : (k : Int) < (ME.length : Int) := by omega
      clear hm hs hp hal
      go_wp2_with fail
      clear c0 c1 c2 c3 c4 c5
      refine (FA.tell G pc _ (auN pub annT (headsOf d1) (k + 1)) 500 annT m.s.head m.s.key m.s.sig m.s.path m.A m.B m.ca m.cb 0 _ HHO.out.ci (HK.out.below HHO.out.below HK.out.lt) (auN_ok HP16.out (by decide) (by omega)) (by omega) (by decide) (by have := (HDM.out.1 m HMM.out).sig; omega) (by have := (HDM.out.1 m HMM.out).path; omega) (HDM.out.1 m HMM.out).ep HSS.out HPP.out (HHO.out.tx m HMM.out).1 (HHO.out.tx m HMM.out).2 HTE.out).mono ?_
      rintro e w15 ⟨rfl, G2, ho15, hg15, hc15⟩
      rw [HE0.out]
      have HHO2 := Lib.hid (HHO.out.prog ho15 hg15 hc15)
      clear ho15 hg15 hc15 HHO HSS HPP
      go_wp2
      go_roundw
      case rel => exact ⟨k + 1, by omega, by go_num, Lib.hid ⟨G2, HHO2.out⟩⟩
      case measure => simp [intOf]; omega
    · obtain rfl : k = ME.length := by omega
      have HHO' := HHO
      clear HHO
      go_wp2
      go_loopw [16] (fun i wr => ∃ k : Nat, k ≤ ME.length ∧ i = .int .i64 (k : Int) ∧ Hid (∃ G, HoAt FA w wr pc G (auN pub annT (headsOf d1) ME.length) AE ME AF MF)) (fun i _ => ME.length - (intOf i).toNat)
      case atStart => exact ⟨0, by omega, rfl, Lib.hid ⟨G, HHO'.out⟩⟩
      case round =>
        clear HHO'
        obtain ⟨k, hk, rfl, HU⟩ := hrel
        obtain ⟨G, hho⟩ := HU.out
        have HHO := Lib.hid hho
        clear hho HU
        by_cases hlt : k < ME.length ∧ k < MF.length
        · obtain ⟨hlt, hlf⟩ := hlt
          obtain ⟨m, hm⟩ : ∃ m, ME[k]? = some m := ⟨_, List.getElem?_eq_getElem hlt⟩
          obtain ⟨m2, hm2⟩ : ∃ m, MF[k]? = some m := ⟨_, List.getElem?_eq_getElem hlf⟩
          have HTE := Lib.hid (show tellAns (auN pub annT (headsOf d1) ME.length) annT ⟨m2.s.head, m2.s.key, m2.s.sig, m2.s.path⟩ = (auN pub annT (headsOf d1) ME.length, if m.s.head = m2.s.head then 0 else 13) from by
            have h := tell_again (d := d1) (f := d2) HOK.out.2 HCH.out.2 (by rw [HSC.out.1, HSC.out.2]) (name := annT) (i := k) (s := m.s) (t := m2.s) (by rw [← HME.out, List.getElem?_map, hm]; rfl) (by rw [← HMF.out, List.getElem?_map, hm2]; rfl)
            rw [HPUB.out, ← HLE.out] at h
            exact h)
          have HMM := Lib.hid (show m2 ∈ MF from List.mem_of_getElem? hm2)
          have HM1 := Lib.hid hm
          have HM2 := Lib.hid hm2
          obtain ⟨a, rfl, hal, c0, c1, c2, c3, c4, c5, hs, hp⟩ := HHO.out.sf.six' hm2
          have HSS := Lib.hid hs
          have HPP := Lib.hid hp
          have hk0 : (0 : Int) ≤ (k : Int) := by omega
          have hk1 : (k : Int) < (ME.length : Int) := by omega
          have hk2 : (k : Int) < (MF.length : Int) := by omega
          clear hm hm2 hs hp hal
          go_wp2_with fail
          clear c0 c1 c2 c3 c4 c5
          by_cases heq : m.s.head = m2.s.head
          · have HTE := Lib.hid (show tellAns (auN pub annT (headsOf d1) ME.length) annT ⟨m2.s.head, m2.s.key, m2.s.sig, m2.s.path⟩ = (auN pub annT (headsOf d1) ME.length, 0) from by have h := HTE.out; rwa [if_pos heq] at h)
            have hcmp : ∀ u, (binOp .eql 52 (.agg #[.int .i64 m.s.head.epoch, .string m.s.head.root, .string m.s.head.prev]) (.agg #[.int .i64 m2.s.head.epoch, .string m2.s.head.root, .string m2.s.head.prev])).run Tryz.prog u = .ok (.bool true) u := fun u => by rw [run_eql_heads, decide_eq_true heq]
            clear heq
            refine (FA.tell G pc _ (auN pub annT (headsOf d1) ME.length) 500 annT m2.s.head m2.s.key m2.s.sig m2.s.path m2.A m2.B m2.ca m2.cb 0 _ HHO.out.ci (HK.out.below HHO.out.below HK.out.lt) (auN_ok HP16.out (by decide) (by omega)) (by omega) (by decide) (by have := (HDM.out.2 m2 HMM.out).sig; omega) (by have := (HDM.out.2 m2 HMM.out).path; omega) (HDM.out.2 m2 HMM.out).ep HSS.out HPP.out (HHO.out.tf m2 HMM.out).1 (HHO.out.tf m2 HMM.out).2 HTE.out).mono ?_
            rintro e w15 ⟨rfl, G2, ho15, hg15, hc15⟩
            rw [HE0.out]
            have HHO2 := Lib.hid (HHO.out.prog ho15 hg15 hc15)
            clear ho15 hg15 hc15 HHO HSS HPP
            go_wp2_with fail
            refine (tell_nil _).mono ?_
            rintro e w16 ⟨rfl, hw16⟩
            subst hw16
            obtain ⟨a1, rfl, -, c0, c1, c2, -, -, -, -, -⟩ := HHO2.out.sg.six' HM1.out
            obtain ⟨a2, ea2, -, e0, e1, e2, -, -, -, -, -⟩ := HHO2.out.sf.six' HM2.out
            obtain rfl := Option.some.inj ea2
            clear ea2
            go_wp2
            go_quiet (fail)
            go_wp2
            go_roundw
            case rel => exact ⟨k + 1, by omega, by go_num, Lib.hid ⟨G2, HHO2.out.calm (below_drewP (Below.refl _ _) _)⟩⟩
            case measure => simp [intOf]; omega
          · have HTE := Lib.hid (show tellAns (auN pub annT (headsOf d1) ME.length) annT ⟨m2.s.head, m2.s.key, m2.s.sig, m2.s.path⟩ = (auN pub annT (headsOf d1) ME.length, 13) from by have h := HTE.out; rwa [if_neg heq] at h)
            have hcmp : ∀ u, (binOp .eql 52 (.agg #[.int .i64 m.s.head.epoch, .string m.s.head.root, .string m.s.head.prev]) (.agg #[.int .i64 m2.s.head.epoch, .string m2.s.head.root, .string m2.s.head.prev])).run Tryz.prog u = .ok (.bool false) u := fun u => by rw [run_eql_heads, decide_eq_false heq]
            clear heq
            refine (FA.tell G pc _ (auN pub annT (headsOf d1) ME.length) 500 annT m2.s.head m2.s.key m2.s.sig m2.s.path m2.A m2.B m2.ca m2.cb 13 _ HHO.out.ci (HK.out.below HHO.out.below HK.out.lt) (auN_ok HP16.out (by decide) (by omega)) (by omega) (by decide) (by have := (HDM.out.2 m2 HMM.out).sig; omega) (by have := (HDM.out.2 m2 HMM.out).path; omega) (HDM.out.2 m2 HMM.out).ep HSS.out HPP.out (HHO.out.tf m2 HMM.out).1 (HHO.out.tf m2 HMM.out).2 HTE.out).mono ?_
            rintro e w15 ⟨rfl, G2, ho15, hg15, hc15⟩
            have H13 := Lib.hid (show errOf 13 = .iface 28 (.int .i64 13) from by unfold errOf; rw [if_neg (by decide)])
            rw [H13.out]
            have HHO1 := Lib.hid (HHO.out.prog ho15 hg15 hc15)
            clear ho15 hg15 hc15 HHO HSS HPP
            go_wp2_with fail
            refine (tell_errno 13 _ ((HHO1.out.below.cell HGL.out).trans HG.out)).mono ?_
            rintro e w16 ⟨rfl, hb16⟩
            have HHO2 := Lib.hid (HHO1.out.calm hb16)
            clear hb16 HHO1
            obtain ⟨a1, rfl, -, c0, c1, c2, -, -, -, -, -⟩ := HHO2.out.sg.six' HM1.out
            obtain ⟨a2, ea2, -, e0, e1, e2, -, -, -, -, -⟩ := HHO2.out.sf.six' HM2.out
            obtain rfl := Option.some.inj ea2
            clear ea2
            go_wp2
            go_quiet (fail)
            go_wp2
            go_roundw
            case rel => exact ⟨k + 1, by omega, by go_num, Lib.hid ⟨G2, HHO2.out.calm (below_drewP (Below.refl _ _) _)⟩⟩
            case measure => simp [intOf]; omega
        · have hln : (headsOf d1).length = ME.length := by unfold headsOf; rw [List.length_map, HLE.out]
          have HLN2 := Lib.hid hln
          have HHX := Lib.hid (show HoAt FA w wr pc G (auN pub annT (headsOf d1) (headsOf d1).length) AE ME AF MF from by rw [hln]; exact HHO.out)
          clear hln HHO
          by_cases hk1 : k < ME.length
          case' pos =>
            have g1 : (k : Int) < (ME.length : Int) := by omega
            have g2 : ¬ (k : Int) < (MF.length : Int) := by omega
          case' neg =>
            have g1 : ¬ (k : Int) < (ME.length : Int) := by omega
          all_goals
            clear hlt hk1 hk
            go_wp2_with fail
            clear g1
            try clear g2
            refine (FA.last G pc _ 500 _ HHX.out.ci (HK.out.below HHX.out.below HK.out.lt) (auN_ok HP16.out (by decide) (by rw [HLN2.out]; omega)) (by omega)).mono ?_
            rintro e w15 ⟨n, rfl, hn, hb15⟩
            have hn2 : n = (ME.length : Int) := by rw [auN_last hn, HLN2.out]
            subst hn2
            have HHO2 := Lib.hid (HHX.out.calm hb15)
            clear hb15 HHX hn
            go_wp2_with fail
            refine (FA.forks G pc _ 500 _ HHO2.out.ci (HK.out.below HHO2.out.below HK.out.lt) (auN_ok HP16.out (by decide) (by rw [HLN2.out]; omega)) (by omega)).mono ?_
            rintro e w16 ⟨AK, ck, K, rfl, hfk, -, -, hb16⟩
            obtain rfl := auN_forks hfk
            have HHO3 := Lib.hid (HHO2.out.calm hb16)
            clear hb16 HHO2 hfk
            go_wp2
            go_ret
            exact ⟨rfl, HHO3.out.below⟩
end Go.Proofs.YtgjmbokfenpefaaGreatDoor
