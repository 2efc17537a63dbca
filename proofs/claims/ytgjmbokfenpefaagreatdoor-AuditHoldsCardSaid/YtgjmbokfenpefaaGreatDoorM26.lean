/- Parts of the proof, one behind the other: POpen, PMaps, ToldP. -/
import Derived.WalkKit
import Derived.Lib.Hide
import Derived.WalkLawsBesides
import Derived.Deep.QuietTactic
import Derived.Deep.WholeRow
import Derived.ArgAppend
import Derived.Laws.AppendOwnNone
import Derived.Laws.CopyRow
import Derived.Deep.RegionLaw
import Derived.Laws.BytesString
import Derived.Laws.IdiomStrings
import Derived.Test.YtgjmbokfenpefaaGreatDoorProg
import Derived.StringKeys
import Derived.Maps.Own
import Derived.Maps.Views
import Derived.Maps.OwnSet
import Derived.Maps.OwnOps
import Derived.Maps.RangeWalk
import Derived.Sort.KeysCollected
import Derived.Laws.BitsAllLaws
import Derived.Outline
import Derived.BigQuiet
import Derived.Laws.CopyOwn
import Derived.RegionTactic
import Derived.StillTail
import Derived.Deep.Quiet
import Derived.Deep.RegionHeld3
import Derived.Deep.DeepCutAuto
import Derived.Laws.ResultCell
import Derived.IntWalk
import Derived.Sort.Walk0
import Derived.Tactics
import Derived.Orders
import Derived.LaidEql
import Derived.Stop.Asserts
import Derived.RowKitTokens
import Derived.OrdersHeld
import Derived.Sort.LotA
import Derived.Lib.SortBridge
import Derived.Deep.AppendSrc
import Derived.Shelf.SlSortFuncK.WholeK
import Derived.Ground.GgsProg
import Derived.Shelf.GgSortFunc.Tiny
import Derived.Shelf.Strings.Repeat
import Derived.KernelRfl
import Derived.WideKeyEntry
import Derived.Deep.CutRange
import Derived.Shelf.SlGeneric
import Derived.Shelf.SlIter.Nil
import Derived.Shelf.SortM.Plain
import Derived.Shelf.SortM.SortNone
import Derived.Ground.GgzProg
import Derived.Ground.SlgmProg
import Derived.Laws.StructEq
import Derived.RangeFuncNested
import Derived.RangeFuncBound
import Derived.RangeFuncCalls
import Derived.RangeFuncLeaves
import Derived.Shelf.Abstract
import Derived.Shelf.RegionOpen
import Derived.OwnWalkIn
import Derived.TacticsInMore
import Derived.LoopNIn
import Derived.LoopIn
import Derived.OrdersIn
import Derived.TacticsIn
import Derived.Shelf.Small.Strs
import Derived.Test.YtgjmbokfenpefaaGreatDoorM1
import Derived.Test.YtgjmbokfenpefaaGreatDoorM2
import Derived.Test.YtgjmbokfenpefaaGreatDoorM3
import Derived.Test.YtgjmbokfenpefaaGreatDoorM4
import Derived.Test.YtgjmbokfenpefaaGreatDoorM5
import Derived.Test.YtgjmbokfenpefaaGreatDoorM6
import Derived.Test.YtgjmbokfenpefaaGreatDoorM7
import Derived.Test.YtgjmbokfenpefaaGreatDoorM8
import Derived.Test.YtgjmbokfenpefaaGreatDoorM9
import Derived.Test.YtgjmbokfenpefaaGreatDoorM10
import Derived.Test.YtgjmbokfenpefaaGreatDoorM12
import Derived.Test.YtgjmbokfenpefaaGreatDoorM13
import Derived.Test.YtgjmbokfenpefaaGreatDoorM17
import Derived.Test.YtgjmbokfenpefaaGreatDoorM18
import Derived.Test.YtgjmbokfenpefaaGreatDoorM19
import Derived.Test.YtgjmbokfenpefaaGreatDoorM20
import Derived.Test.YtgjmbokfenpefaaGreatDoorM21
import Derived.Test.YtgjmbokfenpefaaGreatDoorM22
import Derived.Test.YtgjmbokfenpefaaGreatDoorM23
import Derived.Test.YtgjmbokfenpefaaGreatDoorM24
import Derived.Test.YtgjmbokfenpefaaGreatDoorM25
/- The program's directory: what waits, with its openings. -/
namespace Go.Proofs.YtgjmbokfenpefaaGreatDoor
open Go.RowKit Go.Maps

theorem makeMapHint {P : Program} {t k e : TypeId} (hu : P.underlying t = some (.map k e)) (n : Int) (w : World) : (Instr.makeMap t (some (.int .i64 n))).run P w = .ok (.map (some w.heap.size)) (w.alloc (.map #[] 0)) := by
  simp [Instr.makeMap, run_underlying hu, asInt, Result.andThen]
  rfl
structure OpZ (p : Nat) (v : Value) where
  at' : World
  h0 : at'.cell? ⟨p, 0, none⟩ = some v
def openAt (secret : ByteArray) (n : Int) (s v : ByteArray) : ByteArray × ByteArray := (markOf 111 [secret, s, txt (num8 n)], v)
/-- Those of S are open. -/
def OpenTo (secret : ByteArray) (n : Int) (W : List (ByteArray × ByteArray)) (S : List ByteArray) (Fr : List (ByteArray × (ByteArray × ByteArray))) : Prop := ∀ t, (t ∈ S → look Fr t = (look W t).map (openAt secret n t)) ∧ (t ∉ S → look Fr t = none)
theorem openTo_snoc {secret : ByteArray} {n : Int} {W : List (ByteArray × ByteArray)} {S : List ByteArray} {Fr : List (ByteArray × (ByteArray × ByteArray))} (h : OpenTo secret n W S Fr) {s x : ByteArray} (hx : look W s = some x) : OpenTo secret n W (S ++ [s]) (ups Fr s (openAt secret n s x)) := fun t => by
  by_cases e : t = s
  · subst e
    exact ⟨fun _ => by rw [look_ups_same, hx]; rfl, fun hn => absurd (by simp) hn⟩
  · refine ⟨fun ht => ?_, fun ht => ?_⟩
    · rw [look_ups_other _ _ _ _ e]
      refine (h t).1 ?_
      rcases List.mem_append.1 ht with h1 | h1
      · exact h1
      · exact absurd (List.mem_singleton.1 h1) e
    · rw [look_ups_other _ _ _ _ e]
      exact (h t).2 (fun h1 => ht (List.mem_append.2 (.inl h1)))
theorem openTo_done {secret : ByteArray} {n : Int} {W : List (ByteArray × ByteArray)} {S : List ByteArray} {Fr : List (ByteArray × (ByteArray × ByteArray))} (h : OpenTo secret n W S Fr) (hp : S.Perm (keysL W)) : ∀ t, look Fr t = (look W t).map (openAt secret n t) := fun t => by
  by_cases ht : t ∈ S
  · exact (h t).1 ht
  · rw [(h t).2 ht, look_none.2 fun hk => ht (hp.mem_iff.2 hk)]; rfl
set_option maxHeartbeats 2000000 in
set_option maxRecDepth 100000 in
theorem pOpen_is {F : Nat → Prop} {p : Nat} {secret : ByteArray} {bb : Addr} {mh mw : Nat} {vi ve : Value} {H : List (ByteArray × (ByteArray × ByteArray))} {W : List (ByteArray × ByteArray)} {I : List It} {M : List SgM} (n : Int) (w : World)
    (h : DMem F w p secret bb mh mw vi ve H W I M) (hk : HasK w) (h16 : secret.size ≤ 1000) (hw : W.length ≤ 100000) :
    Calls Tryz.prog 91 #[.pointer (some ⟨p, 0, none⟩), .int .i64 n] w fun e w' => ∃ (mf : Nat) (Fr : List (ByteArray × (ByteArray × ByteArray))), e = .returned (.map (some mf)) ∧ Below w.heap.size w w' ∧ w.heap.size ≤ mf ∧ MapIs kH w' mf Fr ∧ Fr.length ≤ W.length ∧ ∀ t, look Fr t = (look W t).map (openAt secret n t) := by
  have HD := Lib.hid h
  have HK := Lib.hid hk
  have H16 := Lib.hid h16
  have HWL := Lib.hid hw
  have hlen : ∀ ty, (Builtin.len_ #[36] ty #[.map (some mw)]).run Tryz.prog w = .ok (.int .i64 (W.length : Int)) w := fun ty => h.wait.len ty
  have c3 : w.cell? ⟨p, 3, none⟩ = some (.map (some mw)) := h.own.cell 3 (by omega)
  have hb1 := alloc_below w (.map #[] 0)
  have c3' : (w.alloc (.map #[] 0)).cell? ⟨p, 3, none⟩ = some (.map (some mw)) := (hb1.cell (p := ⟨p, 3, none⟩) h.own.lt).trans c3
  have HWW := Lib.hid (h.wait.block (hb1.block _ h.wait.lt))
  have HM1 := Lib.hid (MapIs.made kH w)
  have HB1 := Lib.hid hb1
  have hmk := makeMapHint (P := Tryz.prog) Tryz.underlying154
  clear h hk h16 hw hb1
  go_enter Tryz.func91, Tryz.ntmps91
  go_wp2_with (first | (at_range; refine wpList_mapRange kS rfl (.tmp 17) rfl mw W rfl HWW.out ?_; intro w2 hrg2 hg2 hs2))
  go_frame
  have HB2 := Lib.hid (HB1.out.trans ((grownBy.below hg2.out (Nat.le_refl _) (fun k hk => by cases hk)).mono HB1.out.size))
  have HM2 := Lib.hid (HM1.out.block (hg2.out.block _ HM1.out.lt (by simp)))
  have HRG := Lib.hid hrg2.out
  have HPL := Lib.hid (show p < w.heap.size ∧ mw < w.heap.size from ⟨HD.out.own.lt, HD.out.wait.lt⟩)
  obtain ⟨r, hr⟩ : ∃ r, (w.alloc (.map #[] 0)).heap.size = r := ⟨_, rfl⟩
  have HRE := Lib.hid (show r = w.heap.size + 1 from by rw [← hr]; simp)
  rw [hr] at HRG ⊢
  clear c3 c3' hlen hrg2 hg2 hs2 HWW hmk hr HM1
  go_loopw [6] (fun _ wr => ∃ S cnt Fr, Rng kS wr mw r W S cnt ∧ Hid (Below w.heap.size w wr ∧ MapIs kH wr w.heap.size Fr ∧ OpenTo secret n W S Fr ∧ Fr.length ≤ S.length)) (fun _ wr => wr.rangeLeft mw r)
  case atStart => exact ⟨[], _, [], HRG.out, Lib.hid ⟨HB2.out, HM2.out, fun t => ⟨(fun h => by cases h), fun _ => rfl⟩, Nat.le_refl 0⟩⟩
  case round =>
    clear HRG HB2 HM2
    obtain ⟨S, cnt, Fr, hrg, HU⟩ := hrel
    have HRG := Lib.hid hrg
    clear hrg
    go_wp2_with (first | (at_next; refine wpList_mapNext kS rfl (.tmp 18) rfl mw r W S cnt rfl HRG.out ?_ ?_))
    · intro hperm
      have HDN := Lib.hid (openTo_done HU.out.2.2.1 hperm)
      have HPL2 := Lib.hid (show Fr.length ≤ W.length from by have := hperm.length_eq; rw [keysL_length] at this; have := HU.out.2.2.2; omega)
      clear hperm
      go_wp2
      go_ret
      exact ⟨w.heap.size, Fr, rfl, HU.out.1, Nat.le_refl _, HU.out.2.1, HPL2.out, HDN.out⟩
    · intro s x w3 cnt' hlk hns hgood HR3 HC3 HG3 HS3 hen
      have hen' : (Instr.entry (.pointer (some ⟨r, 0, none⟩))).run Tryz.prog w3 = .ok (.tuple #[.string s, .string x]) w3 := hen
      have HSS := Lib.hid (show s.size ≤ 1000000 from HRG.out.short _ (look_mem hlk))
      have HB3 := Lib.hid (HU.out.1.grown HG3.out HU.out.1.size (fun k hk => by cases hk; have := HRE.out; omega))
      have HM3 := Lib.hid (HU.out.2.1.block (HG3.out.block _ HU.out.2.1.lt (fun e => by have := HRE.out; have := Option.some.inj e; omega)))
      have HD3 := Lib.hid (HD.out.same (same_of_below HB3.out HD.out.lt))
      have HK3 := Lib.hid (HK.out.below HB3.out HK.out.lt)
      have HNX := Lib.hid (openTo_snoc HU.out.2.2.1 hlk)
      have HLN := Lib.hid (show Fr.length ≤ 100000 ∧ Fr.length ≤ S.length from ⟨by have := HU.out.2.2.2; have := HRG.out.room; have := HWL.out; omega, HU.out.2.2.2⟩)
      have HLE := Lib.hid HRG.out.left_eq
      have HTOT := Lib.hid (show total [secret, s, txt (num8 n)] ≤ 1073741800 from by have := H16.out; have := HSS.out; simp [total, num_size]; omega)
      have HLTS := Lib.hid (show p < w3.heap.size from HD3.out.own.lt)
      clear hlk hns hgood HS3 hen HU HG3 HRG
      have c0 : w3.cell? ⟨p, 0, none⟩ = some (.string secret) := HD3.out.own.cell 0 (by omega)
      have z0 : ∀ z : OpZ p (.string secret), z.at'.cell? ⟨p, 0, none⟩ = some (.string secret) := fun z => z.h0
      have zn : Nonempty (OpZ p (.string secret)) := ⟨⟨w3.drew, c0⟩⟩
      go_wp2
      refine wp_region_taken (fun u => ∃ z : OpZ p (.string secret), u = z.at') [0, 1, 2, 3, 4, 5, 6, 7, 11] [8, 9, 10, 12, 13] (by kernel_rfl) (by kernel_rfl) (by intro c d v a w h; cases d <;> exact h) ⟨⟨w3.drew, c0⟩, rfl⟩ ?_
      simp only [pickOps, List.filterMap_cons, List.filterMap_nil, List.getElem?_cons_zero, List.getElem?_cons_succ]
      repeat (first | go_big_quiet_step (fail) | quiet_step (fail))
      refine wpQuiet_nil ?_
      have HZZ := Lib.hid (show ∀ u : World, Below w3.heap.size w3 u → ∃ z : OpZ p (.string secret), u = z.at' from fun u hu => ⟨⟨u, (hu.cell (p := ⟨p, 0, none⟩) HLTS.out).trans c0⟩, rfl⟩)
      clear z0 zn c0 hen'
      refine wpSeq_one rfl (fun K' hK => ?_)
      go_wp2_with fail
      refine (num_any n _).mono ?_
      rintro e w4 ⟨rfl, hb4⟩
      have HB4 := Lib.hid (show Below w3.heap.size w3 w4 from (Below.refl _ _).drew.trans (hb4.mono (Nat.le_refl _)))
      clear hb4
      go_wp2
      refine hK _ _ (HZZ.out _ HB4.out) ?_
      clear hK K'
      refine wpSeq_one rfl (fun K' hK => ?_)
      go_wp2
      have HB5 := Lib.hid (HB4.out.alloc HB4.out.size (.cells #[.string secret, .string s, .string (txt (num8 n))] 9))
      refine hK _ _ (HZZ.out _ HB5.out) ?_
      clear hK K'
      refine wpSeq_one rfl (fun K' hK => ?_)
      go_wp2_with fail
      refine (mark_any 111 [secret, s, txt (num8 n)] (some ⟨w4.heap.size, 0, none⟩) 3 _ (HK3.out.below HB5.out HK3.out.lt) HTOT.out (by simp) (strs_new w4 [secret, s, txt (num8 n)] 9)).mono ?_
      rintro e w6 ⟨rfl, hb6⟩
      have HB6 := Lib.hid (HB5.out.trans (hb6.mono HB5.out.size))
      clear hb6
      go_wp2
      refine hK _ _ (HZZ.out _ HB6.out) ?_
      clear hK K'
      refine wpSeq_one rfl (fun K' hK => ?_)
      go_wp2
      refine hK _ _ (HZZ.out _ HB6.out) ?_
      clear hK K'
      have HM6 := Lib.hid (HM3.out.block (HB6.out.block _ HM3.out.lt))
      refine wpSeq_last rfl (fun K' hK => ?_)
      refine wpList_mapPut kH rfl (.tmp 24) (.tmp 25) (.tmp 36) rfl w.heap.size Fr rfl HM6.out (by have := HLN.out.1; omega) s HSS.out rfl (openAt secret n s x) trivial rfl ?_
      intro w7 hm7 hg7
      have HR7 := Lib.hid (HR3.out.block ((hg7.out.block _ (Nat.lt_of_lt_of_le HR3.out.map.lt HB6.out.size) (fun e => by have := HPL.out.2; have := Option.some.inj e; omega)).trans (HB6.out.block _ HR3.out.map.lt)) ((hg7.out.block _ (Nat.lt_of_lt_of_le HR3.out.lt HB6.out.size) (fun e => by have := HRE.out; have := Option.some.inj e; omega)).trans (HB6.out.block _ HR3.out.lt)))
      have HB7 := Lib.hid ((HB3.out.trans (HB6.out.mono HB3.out.size)).grown hg7.out (Nat.le_trans HB3.out.size HB6.out.size) (fun k hk => by cases hk; exact Nat.le_refl _))
      have HM7 := Lib.hid hm7.out
      clear hm7 hg7
      go_wp2
      refine hK _ _ ?_
      clear hK K'
      go_wp2
      go_roundw
      case rel => exact ⟨S ++ [s], cnt', _, HR7.out, Lib.hid ⟨HB7.out, HM7.out, HNX.out, by have h1 := ups_length Fr s (openAt secret n s x); have := HLN.out.2; rw [List.length_append, List.length_singleton]; split at h1 <;> omega⟩⟩
      case measure => rw [HR7.out.left_eq, HLE.out]; exact HC3.out
end Go.Proofs.YtgjmbokfenpefaaGreatDoor
/- maps.Copy: what names have is overlaid. -/
namespace Go.Proofs.YtgjmbokfenpefaaGreatDoor
open Go.RowKit Go.Maps

def OverTo (H Fr : List (ByteArray × (ByteArray × ByteArray))) (S : List ByteArray) (N : List (ByteArray × (ByteArray × ByteArray))) : Prop := ∀ t, (t ∈ S → look N t = look Fr t) ∧ (t ∉ S → look N t = look H t)
theorem overTo_snoc {H Fr N : List (ByteArray × (ByteArray × ByteArray))} {S : List ByteArray} (h : OverTo H Fr S N) {s : ByteArray} {x : ByteArray × ByteArray} (hx : look Fr s = some x) : OverTo H Fr (S ++ [s]) (ups N s x) := fun t => by
  by_cases e : t = s
  · subst e
    exact ⟨fun _ => by rw [look_ups_same, hx], fun hn => absurd (by simp) hn⟩
  · refine ⟨fun ht => ?_, fun ht => ?_⟩
    · rw [look_ups_other _ _ _ _ e]
      refine (h t).1 ?_
      rcases List.mem_append.1 ht with h1 | h1
      · exact h1
      · exact absurd (List.mem_singleton.1 h1) e
    · rw [look_ups_other _ _ _ _ e]
      exact (h t).2 (fun h1 => ht (List.mem_append.2 (.inl h1)))
theorem overTo_done {H Fr N : List (ByteArray × (ByteArray × ByteArray))} {S : List ByteArray} (h : OverTo H Fr S N) (hp : S.Perm (keysL Fr)) : ∀ t, look N t = (look Fr t).or (look H t) := fun t => by
  by_cases ht : t ∈ S
  · rw [(h t).1 ht]
    obtain ⟨x, hx⟩ := Option.isSome_iff_exists.1 (look_isSome.2 (hp.mem_iff.1 ht))
    rw [hx]; rfl
  · rw [(h t).2 ht, look_none.2 fun hk => ht (hp.mem_iff.2 hk)]; rfl
set_option maxHeartbeats 2000000 in
set_option maxRecDepth 100000 in
theorem mapsCopy_is (mh mf : Nat) (H Fr : List (ByteArray × (ByteArray × ByteArray))) (w : World) (hh : MapIs kH w mh H) (hf : MapIs kH w mf Fr) (hne : mh ≠ mf) (hl : H.length ≤ 100000) (hfl : Fr.length ≤ 100000) :
    Calls Tryz.prog 94 #[.map (some mh), .map (some mf)] w fun e w' => ∃ N : List (ByteArray × (ByteArray × ByteArray)), e = .returned (.tuple #[]) ∧ Off (fun k => k = mh) w w' ∧ MapIs kH w' mh N ∧ ∀ t, look N t = (look Fr t).or (look H t) := by
  have HH := Lib.hid hh
  have HFF := Lib.hid hf
  have HLS := Lib.hid (show H.length ≤ 100000 ∧ Fr.length ≤ 100000 from ⟨hl, hfl⟩)
  have HNE := Lib.hid (show mh ≠ mf ∧ mh < w.heap.size ∧ mf < w.heap.size from ⟨hne, hh.lt, hf.lt⟩)
  clear hh hf hne hl hfl
  go_enter Tryz.func94, Tryz.ntmps94
  go_wp2_with (first | (at_range; refine wpList_mapRange kH rfl (.tmp 6) rfl mf Fr rfl HFF.out ?_; intro w2 hrg2 hg2 hs2))
  go_frame
  have HO2 := Lib.hid (show Off (fun k => k = mh) w w2 from Off.of_grown hg2.out (fun k hk => by cases hk))
  have HM2 := Lib.hid (HH.out.block (hg2.out.block _ HH.out.lt (by simp)))
  have HRG := Lib.hid hrg2.out
  obtain ⟨r, hr⟩ : ∃ r, w.heap.size = r := ⟨_, rfl⟩
  have HRE := Lib.hid hr
  rw [hr] at HRG ⊢
  clear hrg2 hg2 hs2 hr
  go_loopw [4] (fun _ wr => ∃ S cnt N, Rng kH wr mf r Fr S cnt ∧ Hid (Off (fun k => k = mh) w wr ∧ MapIs kH wr mh N ∧ OverTo H Fr S N ∧ N.length ≤ H.length + S.length)) (fun _ wr => wr.rangeLeft mf r)
  case atStart => exact ⟨[], _, H, HRG.out, Lib.hid ⟨HO2.out, HM2.out, fun t => ⟨(fun h => by cases h), fun _ => rfl⟩, Nat.le_refl _⟩⟩
  case round =>
    clear HRG HO2 HM2
    obtain ⟨S, cnt, N, hrg, HU⟩ := hrel
    have HRG := Lib.hid hrg
    clear hrg
    go_wp2_with (first | (at_next; refine wpList_mapNext kH rfl (.tmp 7) rfl mf r Fr S cnt rfl HRG.out ?_ ?_))
    · intro hperm
      have HDN := Lib.hid (overTo_done HU.out.2.2.1 hperm)
      clear hperm
      go_wp2
      (try simp only [Exit.inBlock, Exit.then])
      refine bodyPost_end (results_none rfl _ _ _) rfl ?_
      exact ⟨N, rfl, HU.out.1, HU.out.2.1, HDN.out⟩
    · intro s o v w3 cnt' hlk hns hgood HR3 HC3 HG3 HS3 hen
      have hen' : (Instr.entry (.pointer (some ⟨r, 0, none⟩))).run Tryz.prog w3 = .ok (.tuple #[.string s, .agg #[.string o, .string v]]) w3 := hen
      have HSS := Lib.hid (show s.size ≤ 1000000 from HRG.out.short _ (look_mem hlk))
      have HO3 := Lib.hid (show Off (fun k => k = mh) w w3 from HU.out.1.trans (G := fun k => k = r) (Off.of_grown HG3.out (fun k hk => (Option.some.inj hk).symm)) (fun k hk e => by have := HRE.out; omega))
      have HM3 := Lib.hid (HU.out.2.1.block (HG3.out.block _ HU.out.2.1.lt (fun e => by have := HRE.out; have := HNE.out.2.1; have := Option.some.inj e; omega)))
      have HNX := Lib.hid (overTo_snoc HU.out.2.2.1 hlk)
      have HLN := Lib.hid (show N.length ≤ 1000000 ∧ N.length ≤ H.length + S.length from ⟨by have := HU.out.2.2.2; have := HRG.out.room; have := HLS.out; omega, HU.out.2.2.2⟩)
      have HLE := Lib.hid HRG.out.left_eq
      have hb4 := alloc_below w3 (.cells #[.string o, .string v] 211)
      have HO4 := Lib.hid (HO3.out.then hb4)
      have HM4 := Lib.hid (HM3.out.block (hb4.block _ HM3.out.lt))
      have HR4 := Lib.hid (HR3.out.block (hb4.block _ HR3.out.map.lt) (hb4.block _ HR3.out.lt))
      clear hlk hns hgood HS3 hen HU HG3 HRG hb4
      go_wp2_with (first | (at_mapUpdate; refine wpList_mapPut kH rfl (.tmp 13) (.tmp 14) (.tmp 15) rfl mh N rfl HM4.out HLN.out.1 s HSS.out rfl (o, v) trivial rfl ?_; intro w5 hm5 hg5))
      have HO5 := Lib.hid (HO4.out.trans (Off.of_grown hg5.out (F := fun k => k = mh) (fun k hk => (Option.some.inj hk).symm)) (fun _ _ h => h))
      have HR5 := Lib.hid (HR4.out.block (hg5.out.block _ HR4.out.map.lt (fun e => HNE.out.1 (Option.some.inj e).symm)) (hg5.out.block _ HR4.out.lt (fun e => by have := HRE.out; have := HNE.out.2.1; have := Option.some.inj e; omega)))
      have HM5 := Lib.hid hm5.out
      clear hm5 hg5
      go_frame
      go_roundw
      case rel => exact ⟨S ++ [s], cnt', _, HR5.out, Lib.hid ⟨HO5.out, HM5.out, HNX.out, by have h1 := ups_length N s (o, v); have := HLN.out.2; rw [List.length_append, List.length_singleton]; split at h1 <;> omega⟩⟩
      case measure => rw [HR5.out.left_eq, HLE.out]; exact HC3.out
end Go.Proofs.YtgjmbokfenpefaaGreatDoor
/- What is told first, as plain data. -/
namespace Go.Proofs.YtgjmbokfenpefaaGreatDoor
open Go.RowKit

def sec16 : ByteArray := ⟨#[48, 49, 50, 51, 52, 53, 54, 55, 56, 57, 97, 98, 99, 100, 101, 102]⟩
def annT : ByteArray := ⟨#[97, 110, 110]⟩
def bobT : ByteArray := ⟨#[98, 111, 98]⟩
def keyT : ByteArray := ⟨#[107, 101, 121]⟩
theorem sec16_size : sec16.size = 16 := rfl
def toldD1 : Dst := ⟨sec16, [(annT, keyT)], [], [], []⟩
def toldD2 : Dst := (publishAns toldD1).1
theorem ann_ok : nameOk annT.data.toList = true := by decide
theorem bob_ok : nameOk bobT.data.toList = true := by decide
theorem told_put : putAns (newDst sec16) annT keyT = (toldD1, 0) := by
  unfold putAns
  rw [if_pos ann_ok, if_pos (show 1 ≤ keyT.size ∧ keyT.size ≤ 24 by decide)]
  rfl
theorem toldD1_ok : DOk toldD1 := by
  have := putAns_ok (newDst_ok sec16_size) annT keyT
  rwa [told_put] at this
theorem toldD1_chained : Chained toldD1 := by
  have := put_chained (newDst_chained sec16) annT keyT
  rwa [told_put] at this
theorem told_vals : (settled toldD1).vals = [(annT, keyT)] := rfl
theorem parted_one (s : ByteArray) : Parted [s] := fun a ha b hb _ _ _ => by
  rw [List.mem_singleton.1 ha, List.mem_singleton.1 hb]
theorem told_pub : publishAns toldD1 = ({ settled toldD1 with eps := [nextSgn toldD1] }, nextSgn toldD1, 0) ∧ Chained { settled toldD1 with eps := [nextSgn toldD1] } ∧ (nextSgn toldD1).head.root = rootOf (itemsOf (settled toldD1)) :=
  publish_chained toldD1_ok toldD1_chained (by show 0 < 8; omega) (by rw [told_vals]; exact parted_one _)
theorem toldD2_is : toldD2 = { settled toldD1 with eps := [nextSgn toldD1] } := by unfold toldD2; rw [told_pub.1]
theorem told_pub2 : publishAns toldD1 = (toldD2, nextSgn toldD1, 0) := by rw [toldD2_is]; exact told_pub.1
theorem toldD2_ok : DOk toldD2 := publishAns_ok toldD1_ok
theorem toldD2_chained : Chained toldD2 := by rw [toldD2_is]; exact told_pub.2.1
theorem toldD2_vals : toldD2.vals = [(annT, keyT)] := by rw [toldD2_is]; rfl
theorem toldD2_eps : toldD2.eps = [nextSgn toldD1] := by rw [toldD2_is]
theorem toldD2_sec : toldD2.secret = sec16 := by rw [toldD2_is]; rfl
theorem told_epoch : (nextSgn toldD1).head.epoch = 1 := by
  have := (toldD2_chained.link 0 (nextSgn toldD1) (by rw [toldD2_eps]; rfl)).2.1
  simpa using this
theorem told_last : lastSgn toldD2 = nextSgn toldD1 := by unfold lastSgn; rw [toldD2_eps]; rfl
theorem told_root : (lastSgn toldD2).head.root = rootOf (itemsOf toldD2) := by rw [told_last, toldD2_is]; exact told_pub.2.2
theorem told_look {name : ByteArray} (h : nameOk name.data.toList = true) : lookupAns toldD2 name = (foundAns toldD2 name (ofAns name).1, 0) := by
  unfold lookupAns
  rw [if_pos h, if_neg (by rw [toldD2_eps]; simp)]
theorem told_heads : headsOf toldD2 = [(nextSgn toldD1).head] := by unfold headsOf; rw [toldD2_eps]; rfl
theorem told_at : toldD2.eps[0]? = some (nextSgn toldD1) := by rw [toldD2_eps]; rfl
theorem told_see0 : seeAns ⟨dirPub sec16, []⟩ (lastSgn toldD2) = (⟨dirPub sec16, headsOf toldD2⟩, 0) := by
  have h := see_eps toldD2_ok toldD2_chained (i := 0) (n := 0) told_at (Nat.zero_le _)
  rw [if_neg (Nat.lt_irrefl 0), if_pos rfl, toldD2_sec, told_heads] at h
  rw [told_last, told_heads]
  exact h
theorem told_see1 : seeAns ⟨dirPub sec16, headsOf toldD2⟩ (lastSgn toldD2) = (⟨dirPub sec16, headsOf toldD2⟩, 0) := by
  have h := see_eps toldD2_ok toldD2_chained (i := 0) (n := 1) told_at (by rw [toldD2_eps]; exact Nat.le_refl _)
  rw [if_neg (show ¬ 1 < 0 by omega), if_neg (show ¬ 1 = 0 by omega), toldD2_sec, told_heads] at h
  rw [told_last, told_heads]
  exact h
set_option maxRecDepth 1000000 in
theorem ann_head : (ofAns annT).1.data.toList.head? = some 242 := by kernel_rfl
set_option maxRecDepth 1000000 in
theorem bob_head : (ofAns bobT).1.data.toList.head? = some 37 := by kernel_rfl
theorem ann_bob : (ofAns annT).1 ≠ (ofAns bobT).1 := fun e => by
  have h := ann_head
  rw [e, bob_head] at h
  exact absurd h (by decide)
theorem told_ann : askAns ⟨dirPub sec16, []⟩ annT (foundAns toldD2 annT (ofAns annT).1) = (⟨dirPub sec16, headsOf toldD2⟩, keyT, true, 0) := by
  have h := ask_found toldD2_ok (name := annT) (by
    rw [toldD2_vals]
    intro a ha b hb _ _ _
    have h1 : ∀ x ∈ [annT, annT], x = annT := by simp
    rw [h1 a ha, h1 b hb]) ann_ok (c := ⟨dirPub sec16, []⟩) (by rw [told_see0]) told_root
  rw [h, told_see0, toldD2_vals]
  rfl
theorem told_bob : askAns ⟨dirPub sec16, headsOf toldD2⟩ bobT (foundAns toldD2 bobT (ofAns bobT).1) = (⟨dirPub sec16, headsOf toldD2⟩, ⟨#[]⟩, false, 0) := by
  have h := ask_found toldD2_ok (name := bobT) (by
    rw [toldD2_vals]
    intro a ha b hb _ _ e
    have h1 : ∀ x ∈ [bobT, annT], x = bobT ∨ x = annT := by simp
    rcases h1 a ha with rfl | rfl <;> rcases h1 b hb with rfl | rfl
    · rfl
    · exact absurd e.symm ann_bob
    · exact absurd e ann_bob
    · rfl) bob_ok (c := ⟨dirPub sec16, headsOf toldD2⟩) (by rw [told_see1]) told_root
  rw [h, told_see1, toldD2_vals]
  rfl
end Go.Proofs.YtgjmbokfenpefaaGreatDoor
