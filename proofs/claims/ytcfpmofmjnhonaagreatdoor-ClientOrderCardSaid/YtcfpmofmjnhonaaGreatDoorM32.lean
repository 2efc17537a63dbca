/- Parts of the proof, one behind the other: Few, Apart, Lain, PHas, RParts, PParts, ChainLaw, PChain. -/
import Derived.Test.YtcfpmofmjnhonaaGreatDoorM5
import Derived.Test.YtcfpmofmjnhonaaGreatDoorM11
import Derived.Test.YtcfpmofmjnhonaaGreatDoorM10
import Derived.Test.YtcfpmofmjnhonaaGreatDoorM9
import Derived.Test.YtcfpmofmjnhonaaGreatDoorM7
import Derived.Test.YtcfpmofmjnhonaaGreatDoorM28
import Derived.Test.YtcfpmofmjnhonaaGreatDoorM2
import Derived.Test.YtcfpmofmjnhonaaGreatDoorM18
/- The keeps' few: acts few and short enough. (An act lies as a head does: a number and two texts.) -/
namespace Go.Proofs.YtcfpmofmjnhonaaGreatDoor
open Go.RowKit

def longAct (x : Hd) : Bool := decide (40 < x.root.size) || decide (60 < x.prev.size)
set_option maxRecDepth 100000 in
theorem few1_any (x : Hd) (w : World) :
    Calls Tryz.prog 80 #[.agg #[.int .i64 x.epoch, .string x.root, .string x.prev]] w fun e w' => e = .returned (.bool (longAct x)) ∧ Below w.heap.size w w' := by
  have HB := Lib.hid (alloc_below w (.cells #[.int .i64 x.epoch, .string x.root, .string x.prev] 92))
  go_enter Tryz.func80, Tryz.ntmps80
  by_cases h : 40 < x.root.size
  · go_wp2
    go_ret
    exact ⟨by unfold longAct; simp [h], HB.out⟩
  · by_cases h2 : 60 < x.prev.size
    · go_wp2
      go_ret
      exact ⟨by unfold longAct; simp [h2]; omega, HB.out⟩
    · go_wp2
      go_ret
      exact ⟨by unfold longAct; simp [h, h2]; omega, HB.out⟩
set_option maxRecDepth 100000 in
theorem fewIx_any (L : List Hd) (A : Option Addr) (cap : Nat) (w : World) (hm : Hds w A L) (hl : L.length ≤ 1000000) :
    Calls Tryz.prog 130 #[.slice A L.length cap, .func (.func 80) #[] #[]] w fun e w' => Below w.heap.size w w' ∧ ∃ n : Int, e = .returned (.int .i64 n) ∧ (0 ≤ n ∨ n = -1 ∧ L.all (fun x => !longAct x) = true) := by
  have HM := Lib.hid hm
  clear hm
  go_enter Tryz.func130, Tryz.ntmps130
  go_wp2
  go_loopw [8] (fun i wr => ∃ k : Nat, k ≤ L.length ∧ i = .int .i64 (k : Int) ∧ Below w.heap.size w wr ∧ (L.take k).all (fun x => !longAct x) = true) (fun i _ => L.length - (intOf i).toNat)
  case atStart => exact ⟨0, by omega, rfl, Below.refl _ _, rfl⟩
  case round =>
    obtain ⟨k, hk, rfl, hb, hall⟩ := hrel
    have HB := Lib.hid hb
    have HALL := Lib.hid hall
    clear hb hall
    by_cases hlt : k < L.length
    · have hmk := Hds.below HM.out HB.out
      obtain ⟨a, rfl, hal, c0, c1, c2⟩ := hmk.at_ hlt
      have d1 : wr.cell? ⟨(a.add (k * 3)).block, (a.add (k * 3)).off + 1, none⟩ = some (.string (hdAt L k).root) := c1
      have d2 : wr.cell? ⟨(a.add (k * 3)).block, (a.add (k * 3)).off + 2, none⟩ = some (.string (hdAt L k).prev) := c2
      have HX := Lib.hid (show L[k]? = some (hdAt L k) by rw [List.getElem?_eq_getElem hlt, hdAt_of hlt])
      clear hmk c1 c2
      generalize hdAt L k = x at c0 d1 d2 HX
      go_wp2_with fail
      refine (few1_any x _).mono ?_
      rintro e w1 ⟨rfl, hb1⟩
      have HB1 := Lib.hid (HB.out.trans (hb1.mono HB.out.size))
      clear hb1 c0 d1 d2
      generalize hq : longAct x = q
      have HQ := Lib.hid hq
      clear hq
      cases q with
      | true =>
        go_wp2
        go_ret
        exact ⟨HB1.out, k, rfl, .inl (by omega)⟩
      | false =>
        go_wp2
        go_roundw
        case rel =>
          refine ⟨k + 1, by omega, by go_num, HB1.out, ?_⟩
          rw [List.take_add_one, HX.out, List.all_append, HALL.out]
          simp [HQ.out]
        case measure => simp [intOf]; omega
    · go_wp2
      go_ret
      have he : L.take k = L := List.take_of_length_le (by omega)
      exact ⟨HB.out, -1, rfl, .inr ⟨rfl, by have := HALL.out; rw [he] at this; exact this⟩⟩
theorem fewHas_any (L : List Hd) (A : Option Addr) (cap : Nat) (w : World) (hm : Hds w A L) (hl : L.length ≤ 1000000) :
    Calls Tryz.prog 79 #[.slice A L.length cap, .func (.func 80) #[] #[]] w fun e w' => Below w.heap.size w w' ∧ ∃ b, e = .returned (.bool b) ∧ (b = false → L.all (fun x => !longAct x) = true) := by
  have HM := Lib.hid hm
  clear hm
  go_enter Tryz.func79, Tryz.ntmps79
  go_wp2_with fail
  refine (fewIx_any L A cap _ HM.out hl).mono ?_
  rintro e w1 ⟨hb, n, rfl, hn⟩
  have HB := Lib.hid hb
  clear hb
  rcases hn with hn | ⟨rfl, hn⟩
  · go_wp2
    go_ret
    exact ⟨HB.out, true, rfl, fun h => by cases h⟩
  · have HN := Lib.hid hn
    clear hn
    go_wp2
    go_ret
    exact ⟨HB.out, false, rfl, fun _ => HN.out⟩
/-- Few acts, and short ones. -/
theorem few_any (L : List Hd) (A : Option Addr) (cap : Nat) (w : World) (hm : Hds w A L) :
    Calls Tryz.prog 26 #[.slice A L.length cap] w fun e w' => Below w.heap.size w w' ∧ ∃ b, e = .returned (.bool b) ∧ (b = true → L.length ≤ 20 ∧ ∀ x ∈ L, x.root.size ≤ 40 ∧ x.prev.size ≤ 60) := by
  have HM := Lib.hid hm
  clear hm
  by_cases hl : L.length ≤ 20
  · go_enter Tryz.func26, Tryz.ntmps26
    go_wp2_with fail
    refine (fewHas_any L A cap _ HM.out (by omega)).mono ?_
    rintro e w1 ⟨hb, b, rfl, hn⟩
    have HB := Lib.hid hb
    have HN := Lib.hid hn
    clear hb hn
    cases b with
    | true =>
      go_wp2
      go_ret
      exact ⟨HB.out, false, rfl, fun h => by cases h⟩
    | false =>
      have HN2 := Lib.hid (HN.out rfl)
      clear HN
      go_wp2
      go_ret
      refine ⟨HB.out, true, rfl, fun _ => ⟨hl, fun x hx => ?_⟩⟩
      have := List.all_eq_true.1 HN2.out x hx
      unfold longAct at this
      simp at this
      omega
  · go_enter Tryz.func26, Tryz.ntmps26
    go_wp2
    go_ret
    exact ⟨Below.refl _ _, rfl⟩
end Go.Proofs.YtcfpmofmjnhonaaGreatDoor
/- The keeps' apart: no two names lie at one place. -/
namespace Go.Proofs.YtcfpmofmjnhonaaGreatDoor
open Go.RowKit Go.Maps

/-- What the map of places tells. -/
structure ApAt (w wr : World) (mp : Nat) (N : List (ByteArray × ByteArray)) (T : List ByteArray) (k : Nat) : Prop where
  below : Below w.heap.size w wr
  map : MapIs kS wr mp N
  base : w.heap.size ≤ mp
  len : N.length ≤ k
  at' : ∀ s ∈ T, nameOk s.data.toList = true → look N (ofAns s).1 = some s
theorem ApAt.parted {w wr : World} {mp : Nat} {N : List (ByteArray × ByteArray)} {T : List ByteArray} {k : Nat} (h : ApAt w wr mp N T k) : Parted T := fun s hs t ht h1 h2 e => by
  have a := h.at' s hs h1
  have b := h.at' t ht h2
  rw [e, b] at a
  exact (Option.some.inj a).symm
set_option maxHeartbeats 1000000 in
set_option maxRecDepth 100000 in
theorem apart_any (L : List Hd) (A : Option Addr) (cap : Nat) (name : ByteArray) (w : World) (hk : HasK w) (hm : Hds w A L) (hL : L.length ≤ 40) (hn : name.size ≤ 60) (hs : ∀ x ∈ L, x.root.size ≤ 60) :
    Calls Tryz.prog 29 #[.slice A L.length cap, .string name] w fun e w' => Below w.heap.size w w' ∧ ∃ b, e = .returned (.bool b) ∧ (b = true → Parted (name :: L.map (·.root))) := by
  have HK := Lib.hid hk
  have HM := Lib.hid hm
  have HS := Lib.hid hs
  have HN := Lib.hid hn
  clear hk hm hs hn
  have hmm := @run_makeMap Tryz.prog
  have HST := Lib.hid (show ApAt w (w.alloc (.map #[] 0)) w.heap.size [] [] 0 from ⟨alloc_below w _, MapIs.made kS w, Nat.le_refl _, Nat.le_refl _, fun s h => by cases h⟩)
  obtain ⟨T, hT⟩ : ∃ T, name :: L.map (·.root) = T := ⟨_, rfl⟩
  have HTL := Lib.hid (show T.length = L.length + 1 from by rw [← hT]; simp)
  have HT := Lib.hid hT
  have HTS := Lib.hid (show ∀ s ∈ T, s.size ≤ 60 from by
    intro s h
    rw [← hT] at h
    rcases List.mem_cons.1 h with e | h
    · rw [e]; exact HN.out
    · obtain ⟨x, hx, rfl⟩ := List.mem_map.1 h
      exact HS.out x hx)
  rw [hT]
  clear hT
  go_enter Tryz.func29, Tryz.ntmps29
  go_wp2
  clear hmm
  generalize w.alloc (.map #[] 0) = w1 at HST
  generalize hmp : w.heap.size = mp at HST
  clear hmp
  go_loopw [1, 6] (fun nv i wr => ∃ (k : Nat) (N : List (ByteArray × ByteArray)), k ≤ L.length + 1 ∧ i = .int .i64 ((k : Int) - 1) ∧ (k = 0 → nv = .string name) ∧ Hid (ApAt w wr mp N (T.take k) k)) (fun _ i _ => L.length + 1 - (intOf i + 1).toNat)
  case atStart => exact ⟨0, [], by omega, rfl, fun _ => rfl, HST⟩
  case round =>
    clear HST
    obtain ⟨k, N, hkl, rfl, hnv, HU⟩ := hrel
    by_cases hlt : k < L.length + 1
    · obtain ⟨s, hsk⟩ : ∃ s, T[k]? = some s := ⟨_, List.getElem?_eq_getElem (by rw [HTL.out]; exact hlt)⟩
      have HSK := Lib.hid hsk
      have HSZ := Lib.hid (HTS.out s (List.mem_of_getElem? hsk))
      have HKW := Lib.hid (HK.out.below HU.out.below HK.out.lt)
      have HE0 := Lib.hid (show errOf 0 = Value.nilIface from rfl)
      have h5 : errOf 5 = .iface 28 (.int .i64 5) := by unfold errOf; rw [if_neg (by decide)]
      have H5 := Lib.hid h5
      clear h5
      have HNXT := Lib.hid (show ∀ (wz : World) (N' : List (ByteArray × ByteArray)), Below w.heap.size w wz → MapIs kS wz mp N' → N'.length ≤ k + 1 → (∀ t ∈ T.take k, nameOk t.data.toList = true → look N' (ofAns t).1 = some t) → (nameOk s.data.toList = true → look N' (ofAns s).1 = some s) → ApAt w wz mp N' (T.take (k + 1)) (k + 1) from fun wz N' h1 h2 h3 h4 h5 =>
        ⟨h1, h2, HU.out.base, h3, fun t ht h6 => by
          rw [List.take_add_one, hsk, List.mem_append] at ht
          rcases ht with ht | ht
          · exact h4 t ht h6
          · rw [Option.toList_some, List.mem_singleton] at ht
            subst ht
            exact h5 h6⟩)
      by_cases h0 : k = 0
      case' pos =>
        subst h0
        obtain rfl := hnv rfl
        have e : s = name := by
          rw [← HT.out] at hsk
          exact (Option.some.inj hsk).symm
        clear hsk hnv
        subst e
        go_upto_region 7 with (fail)
      case' neg =>
        obtain ⟨j, rfl⟩ : ∃ j, k = j + 1 := ⟨k - 1, by omega⟩
        have hj : j < L.length := by omega
        obtain ⟨a, rfl, hal, -, c1, -⟩ := (HM.out.below HU.out.below).at_ hj
        have d1 : wr.cell? ⟨(a.add (j * 3)).block, (a.add (j * 3)).off + 1, none⟩ = some (.string (hdAt L j).root) := c1
        have e : s = (hdAt L j).root := by
          rw [← HT.out, List.getElem?_cons_succ, List.getElem?_map, List.getElem?_eq_getElem hj] at hsk
          rw [hdAt_of hj]
          exact (Option.some.inj hsk).symm
        rw [← e] at d1
        have ej : ((j + 1 : Nat) : Int) - 1 = (j : Int) := by omega
        have hj0 : (0 : Int) ≤ (j : Int) := by omega
        have hj1 : (j : Int) < (L.length : Int) := by omega
        clear hsk hnv c1 e h0
        go_upto_region 7 with (fail)
        clear d1 hj0 hj1
      all_goals
        by_cases hok : nameOk s.data.toList = true
        · obtain ⟨ix, hix⟩ : ∃ ix, ofAns s = (ix, 0) := ⟨_, by unfold ofAns; rw [if_pos hok]⟩
          have HIX := Lib.hid hix
          have HX16 := Lib.hid (show ix.size = 16 from by have := of_ok hok; rwa [hix] at this)
          have HOK := Lib.hid hok
          clear hix hok
          go_wp2_with fail
          refine (of_is s ix 0 _ HKW.out HIX.out).mono ?_
          rintro e w3 ⟨rfl, hb3⟩
          rw [HE0.out]
          have HM3 := Lib.hid (HU.out.map.block (hb3.block mp HU.out.map.lt))
          have HB3 := Lib.hid (HU.out.below.trans (hb3.mono HU.out.below.size))
          have hlk : (Instr.lookup 39 (.map (some mp)) (.string ix) true).run Tryz.prog w3 = .ok (.tuple #[.string ((look N ix).getD ⟨#[]⟩), .bool (look N ix).isSome]) w3 := HM3.out.lookOk (by have := HX16.out; omega)
          clear hb3
          cases hv : look N ix with
          | none =>
            rw [hv] at hlk
            have HV := Lib.hid hv
            clear hv
            have hlk : (Instr.lookup 39 (.map (some mp)) (.string ix) true).run Tryz.prog w3 = .ok (.tuple #[.string ⟨#[]⟩, .bool false]) w3 := hlk
            go_wp2_with (first | (at_mapUpdate; refine wpList_mapPut kS rfl (.tmp 44) (.tmp 45) (.tmp 46) rfl mp N rfl HM3.out (by have := HU.out.len; omega) ix (by have := HX16.out; omega) rfl s (show s.size ≤ maxLen by have := HSZ.out; unfold maxLen; omega) rfl ?_; intro w5 hm5 hg5))
            have HAF := Lib.hid (HNXT.out w5 (ups N ix s) (HB3.out.grown hg5.out HB3.out.size (fun k e => by cases e; exact HU.out.base)) hm5.out (by have := HU.out.len; have h1 := ups_length N ix s; split at h1 <;> omega)
              (fun t ht h6 => by
                have h7 := HU.out.at' t ht h6
                rw [look_ups_other _ _ _ _ (fun e => by rw [e, HV.out] at h7; cases h7)]; exact h7)
              (fun _ => by rw [HIX.out]; exact look_ups_same _ _ _))
            clear hm5 hg5 hlk
            go_roundw
            case rel => exact ⟨_, _, by omega, by go_num, (fun h => by omega), HAF⟩
            case measure => first | (simp [intOf]; omega) | simp [intOf]
          | some t =>
            rw [hv] at hlk
            have HV := Lib.hid hv
            clear hv
            have hlk : (Instr.lookup 39 (.map (some mp)) (.string ix) true).run Tryz.prog w3 = .ok (.tuple #[.string t, .bool true]) w3 := hlk
            by_cases hts : t = s
            · subst hts
              go_wp2_with (first | (at_mapUpdate; refine wpList_mapPut kS rfl (.tmp 44) (.tmp 45) (.tmp 46) rfl mp N rfl HM3.out (by have := HU.out.len; omega) ix (by have := HX16.out; omega) rfl t (show t.size ≤ maxLen by have := HSZ.out; unfold maxLen; omega) rfl ?_; intro w5 hm5 hg5))
              have HAF := Lib.hid (HNXT.out w5 (ups N ix t) (HB3.out.grown hg5.out HB3.out.size (fun k e => by cases e; exact HU.out.base)) hm5.out (by have := HU.out.len; have h1 := ups_length N ix t; split at h1 <;> omega)
                (fun u hu h6 => by
                  have h7 := HU.out.at' u hu h6
                  by_cases e : (ofAns u).1 = ix
                  · rw [e, HV.out] at h7
                    rw [e, look_ups_same]; exact h7
                  · rw [look_ups_other _ _ _ _ e]; exact h7)
                (fun _ => by rw [HIX.out]; exact look_ups_same _ _ _))
              clear hm5 hg5 hlk
              go_roundw
              case rel => exact ⟨_, _, by omega, by go_num, (fun h => by omega), HAF⟩
              case measure => first | (simp [intOf]; omega) | simp [intOf]
            · have e1 : (t.toList == s.toList) = false := text_ne hts
              clear hts
              go_wp2
              go_ret
              exact ⟨HB3.out, false, rfl, fun h => by cases h⟩
        · have HIX := Lib.hid (show ofAns s = (⟨#[]⟩, 5) from by unfold ofAns; rw [if_neg hok])
          have HAF := Lib.hid (fun wz h1 => HNXT.out wz N h1)
          have HNO := Lib.hid hok
          clear hok
          go_wp2_with fail
          refine (of_is s ⟨#[]⟩ 5 _ HKW.out HIX.out).mono ?_
          rintro e w3 ⟨rfl, hb3⟩
          rw [H5.out]
          have HAG := Lib.hid (HAF.out w3 (HU.out.below.trans (hb3.mono HU.out.below.size)) (HU.out.map.block (hb3.block mp HU.out.map.lt)) (Nat.le_succ_of_le HU.out.len) HU.out.at' (fun h => absurd h HNO.out))
          clear hb3
          go_wp2
          go_roundw
          case rel => exact ⟨_, _, by omega, by go_num, (fun h => by omega), HAG⟩
          case measure => first | (simp [intOf]; omega) | simp [intOf]
    · go_wp2
      go_ret
      exact ⟨HU.out.below, true, rfl, fun _ => by
        have h := HU.out
        rw [List.take_of_length_le (by rw [HTL.out]; omega)] at h
        exact h.parted⟩
end Go.Proofs.YtcfpmofmjnhonaaGreatDoor
/- lain: a fact: where a name lies. -/
namespace Go.Proofs.YtcfpmofmjnhonaaGreatDoor
open Go.RowKit

theorem below_drewL {B : Nat} {u w : World} (h : Below B u w) (n : Nat) : Below B u (w.drewN n) := ⟨h.os, h.tape, h.output, h.size, h.block⟩
theorem markOf_size (kind : UInt8) (parts : List ByteArray) : (markOf kind parts).size = 16 := by
  unfold markOf
  rw [txt_size, List.length_take]
  unfold sumOf
  rw [sumText_length]
  rfl
def annB : ByteArray := ⟨#[97, 110, 110]⟩
theorem annOk : nameOk annB.data.toList = true := by decide +kernel
theorem AnnNo : nameOk (⟨#[65, 110, 110]⟩ : ByteArray).data.toList = false := by decide +kernel
theorem ofAns_ann : ofAns annB = (markOf 105 [annB], 0) := by unfold ofAns; rw [if_pos annOk]
/-- A byte ahead of all but the first of a mark. -/
def ahead (c : UInt8) (m : ByteArray) : ByteArray := ⟨#[c]⟩ ++ m.extract 1 16
theorem ahead_list (c : UInt8) (m : ByteArray) (h : m.size = 16) : (ahead c m).data.toList = c :: m.data.toList.drop 1 := by
  unfold ahead
  rw [ByteArray.data_append, Array.toList_append, ByteArray.data_extract, Array.toList_extract]
  simp [List.extract_eq_take_drop]
  have : m.data.size = 16 := h
  rw [List.take_of_length_le]
  simp; omega
theorem ahead_size (c : UInt8) (m : ByteArray) (h : m.size = 16) : (ahead c m).size = 16 := by
  rw [← size_len, ahead_list _ _ h]
  simp
  have : m.data.size = 16 := h
  omega
theorem bitAns_ahead (m : ByteArray) (h : m.size = 16) : bitAns (ahead 0x80 m) 0 = (1, 0) := by
  unfold bitAns
  rw [if_pos (ahead_size _ _ h), if_pos (by omega), ahead_list _ _ h]
  rw [show Int.toNat 0 = 0 from rfl, bitOf_head _ _ _ (by omega)]
  rfl
theorem comAns_ahead (m : ByteArray) (h : m.size = 16) : comAns (ahead 0x80 m) (ahead 0x90 m) = (3, 0) := by
  unfold comAns
  rw [if_pos ⟨ahead_size _ _ h, ahead_size _ _ h⟩, ahead_list _ _ h, ahead_list _ _ h, common_three]
  rfl
set_option maxRecDepth 100000 in
theorem lain_any (w : World) (hk : HasK w) :
    Calls Tryz.prog 28 #[] w fun e w' => e = .returned (.bool true) ∧ Below w.heap.size w w' := by
  obtain ⟨m, hm⟩ : ∃ m, markOf 105 [annB] = m := ⟨_, rfl⟩
  have hms : m.size = 16 := by rw [← hm, markOf_size]
  have HA := Lib.hid (show ofAns annB = (m, 0) by rw [ofAns_ann, hm])
  have HB := Lib.hid (bitAns_ahead m hms)
  have HC := Lib.hid (comAns_ahead m hms)
  have HM := Lib.hid hm
  have HK := Lib.hid hk
  have hm1 : 1 ≤ m.size := by omega
  have HN := Lib.hid AnnNo
  clear hm hk
  go_enter Tryz.func28, Tryz.ntmps28
  go_wp2_with fail
  refine (of_is annB m 0 _ HK.out HA.out).mono ?_
  rintro e w1 ⟨rfl, hb1⟩
  have HB1 := Lib.hid hb1
  clear hb1
  rw [show errOf 0 = .nilIface from rfl]
  go_wp2_with fail
  refine (mark_any 105 [annB] (some ⟨w1.heap.size, 0, none⟩) 1 _ ((HK.out.below HB1.out HK.out.lt).alloc _) (by decide) (by simp) (one_part annB w1)).mono ?_
  rintro e w2 ⟨rfl, hb2⟩
  rw [HM.out]
  have HB2 := Lib.hid (HB1.out.trans (((Below.refl w1.heap.size w1).alloc (Nat.le_refl _) (.cells #[.string annB] 9)).mono HB1.out.size |>.trans (hb2.mono (Nat.le_trans HB1.out.size (by simp)))))
  clear hb2
  go_wp2_with fail
  refine (name_any _ _).mono ?_
  rintro e w3 ⟨rfl, rfl⟩
  rw [HN.out]
  go_wp2_with fail
  refine (ixBit_is (ahead 0x80 m) 0 1 0 _ HB.out).mono ?_
  rintro e w4 ⟨rfl, rfl⟩
  rw [show errOf 0 = .nilIface from rfl]
  go_wp2_with fail
  go_quiet ((go_at_call 82; exact Calls.quiet_of_same (ixCommon_is (ahead 0x80 m) (ahead 0x90 m) 3 0 _ HC.out)))
  rw [show errOf 0 = .nilIface from rfl]
  go_wp2
  go_ret
  exact ⟨rfl, below_drewL HB2.out _⟩
end Go.Proofs.YtcfpmofmjnhonaaGreatDoor
/- The program's Whole, and all that its chain answers, as the document's. -/
namespace Go.Proofs.YtcfpmofmjnhonaaGreatDoor
open Go.RowKit

set_option maxHeartbeats 1000000 in
set_option maxRecDepth 100000 in
theorem pWhole_any (L : List Hd) (A : Option Addr) (cap : Nat) (w : World) (hk : HasK w) (hl : L.length ≤ 1000000) (hcap : L.length ≤ cap) (hm : Hds w A L) :
    Calls Tryz.prog 34 #[.slice A L.length cap] w fun e w' => e = .returned (.tuple #[.int .i64 ((wholeAns L).1 : Int), .bool (wholeAns L).2]) ∧ Below w.heap.size w w' := by
  have HK := Lib.hid hk
  have HM := Lib.hid hm
  clear hk hm
  obtain ⟨y, t, hy⟩ : ∃ y t, wholeAns L = (y, t) := ⟨_, _, rfl⟩
  rw [hy]
  have HY := Lib.hid hy
  clear hy
  go_enter Tryz.func34, Tryz.ntmps34
  go_wp2
  go_loopw [10] (fun i wr => ∃ k f : Nat, k + f = L.length ∧ i = .int .i64 (k : Int) ∧ Hid (wholeFrom L f k = (y, t) ∧ Below w.heap.size w wr)) (fun i _ => L.length - (intOf i).toNat)
  case atStart => exact ⟨0, L.length, by omega, rfl, Lib.hid ⟨HY.out, Below.refl _ _⟩⟩
  case round =>
    obtain ⟨k, f, hkf, rfl, HU⟩ := hrel
    by_cases hlt : k < L.length
    · obtain ⟨g, rfl⟩ : ∃ g, f = g + 1 := ⟨f - 1, by omega⟩
      obtain ⟨a, rfl, hal, c0, c1, c2⟩ := (HM.out.below HU.out.2).at_ hlt
      have d1 : wr.cell? ⟨(a.add (k * 3)).block, (a.add (k * 3)).off + 1, none⟩ = some (.string (hdAt L k).root) := c1
      have d2 : wr.cell? ⟨(a.add (k * 3)).block, (a.add (k * 3)).off + 2, none⟩ = some (.string (hdAt L k).prev) := c2
      obtain ⟨X, hX⟩ : ∃ X, hdAt L k = X := ⟨_, rfl⟩
      rw [hX] at c0 d1 d2
      have HX := Lib.hid hX
      obtain ⟨Y, m, hn⟩ : ∃ Y m, nextAns (L.take k) X.root = (Y, m) := ⟨_, _, rfl⟩
      have HNX := Lib.hid hn
      have HLK := Lib.hid (show linkOk L k = (decide (m = 0) && decide (Y = X)) by unfold linkOk; rw [HX.out, HNX.out])
      have hm01 : m = 0 ∨ m = 1 := by
        unfold nextAns at hn
        split at hn
        · exact .inr (Prod.mk.inj hn).2.symm
        · split at hn
          · exact .inl (Prod.mk.inj hn).2.symm
          · exact .inr (Prod.mk.inj hn).2.symm
      clear hX c1 hn
      have hkc : (k : Int) ≤ (cap : Int) := by omega
      have HTK := Lib.hid (show (L.take k).length = k by rw [List.length_take]; omega)
      have HB1 := Lib.hid (show Below w.heap.size w (wr.alloc (.cells #[.int .i64 X.epoch, .string X.root, .string X.prev] 49)) from HU.out.2.alloc HU.out.2.size _)
      have HN1 := Lib.hid (show Holds (wr.alloc (.cells #[.int .i64 X.epoch, .string X.root, .string X.prev] 49)) wr.heap.size 3 (hdF X) 49 from Holds.new wr 3 (hdF X) 49)
      go_wp2_with fail
      clear c0 d1 d2
      generalize wr.alloc (.cells #[.int .i64 X.epoch, .string X.root, .string X.prev] 49) = w1 at HB1 HN1 ⊢
      obtain ⟨E, hE⟩ : ∃ E, errOf m = E := ⟨_, rfl⟩
      have HE := Lib.hid hE
      clear hE
      have x1 : w1.cell? ⟨wr.heap.size, 1, none⟩ = some (.string X.root) := HN1.out.cell 1 (by omega)
      have HCALL := Lib.hid (show ∀ u : World, Below w.heap.size w u → Calls Tryz.prog 85 #[.slice (some a) k cap, .string X.root] u (fun e w' => e = .returned (.tuple #[.agg #[.int .i64 Y.epoch, .string Y.root, .string Y.prev], E]) ∧ Below u.heap.size u w') from fun u hu => by
        have := pNext_is (L.take k) (some a) cap X.root Y m u (HK.out.below hu HK.out.lt) (by rw [HTK.out]; omega) ((HM.out.below hu).take k) HNX.out
        rwa [HTK.out, HE.out] at this)
      have HS := Lib.hid (show ∀ u : World, Below w1.heap.size w1 u → (u.cell? ⟨wr.heap.size, 1, none⟩ = some (.string X.root) ∧ Below w1.heap.size w1 u) from
        fun u hu => ⟨(hu.cell (p := ⟨wr.heap.size, 1, none⟩) HN1.out.lt).trans (HN1.out.cell 1 (by omega)), hu⟩)
      go_region_held3 (fun w' => w'.cell? ⟨wr.heap.size, 1, none⟩ = some (.string X.root) ∧ Below w1.heap.size w1 w')
        (first
          | exact HS.out _ (Below.refl _ _).drew
          | exact HS.out _ ((Below.refl _ _).alloc (Nat.le_refl _) _).drew
          | exact HS.out _ ((Below.refl _ _).drew.trans (hb2.mono (Nat.le_refl _)))
          | exact HS.out _ (((Below.refl _ _).drew.trans (hb2.mono (Nat.le_refl _))).alloc hb2.size _)
          | exact HS.out _ (((Below.refl _ _).alloc (Nat.le_refl _) _).drew.trans (hb2.mono (by simp)))
          | exact HS.out _ ((((((Below.refl _ _).alloc (Nat.le_refl _) _).drew.trans (hb2.mono (by simp))).setCell (Nat.le_refl _) _).setCell (Nat.le_refl _) _).setCell (Nat.le_refl _) _))
        (first | (go_at_call 85; refine (HCALL.out _ (HB1.out.trans (Below.mono (And.right (by assumption)) HB1.out.size))).mono ?_; rintro e w2 ⟨rfl, hb2⟩; try (have hnew := newFacts hb2; obtain ⟨q0, q1, q2, f0, f1, f2⟩ := hnew)))
      all_goals
        first
          | (have HXB := Lib.hid (newHolds hb2 Y).1
             have HBW := Lib.hid (newHolds hb2 Y).2
             generalize (((w2.setCell ⟨w1.heap.size, 0, none⟩ (.int .i64 Y.epoch)).setCell ⟨w1.heap.size, 1, none⟩ (.string Y.root)).setCell ⟨w1.heap.size, 2, none⟩ (.string Y.prev)) = W at HXB HBW ⊢
             have y0 : W.cell? ⟨w1.heap.size, 0, none⟩ = some (.int .i64 Y.epoch) := HXB.out.cell 0 (by omega)
             have y1 : W.cell? ⟨w1.heap.size, 1, none⟩ = some (.string Y.root) := HXB.out.cell 1 (by omega)
             have y2 : W.cell? ⟨w1.heap.size, 2, none⟩ = some (.string Y.prev) := HXB.out.cell 2 (by omega)
             clear q0 q1 q2 f0 f1 f2)
          | (have HXB := Lib.hid (show Holds (w2.alloc (.cells #[.int .i64 Y.epoch, .string Y.root, .string Y.prev] 49)) w2.heap.size 3 (hdF Y) 49 from Holds.new w2 3 (hdF Y) 49)
             have HBW := Lib.hid (show Below w1.heap.size w1 (w2.alloc (.cells #[.int .i64 Y.epoch, .string Y.root, .string Y.prev] 49)) from ((Below.refl _ _).drew.trans (hb2.mono (Nat.le_refl _))).alloc hb2.size _)
             generalize (w2.alloc (.cells #[.int .i64 Y.epoch, .string Y.root, .string Y.prev] 49)) = W at HXB HBW ⊢
             have y0 : W.cell? ⟨w2.heap.size, 0, none⟩ = some (.int .i64 Y.epoch) := HXB.out.cell 0 (by omega)
             have y1 : W.cell? ⟨w2.heap.size, 1, none⟩ = some (.string Y.root) := HXB.out.cell 1 (by omega)
             have y2 : W.cell? ⟨w2.heap.size, 2, none⟩ = some (.string Y.prev) := HXB.out.cell 2 (by omega))
        rename_i hheld
        have HXW := Lib.hid (HN1.out.below HBW.out HN1.out.lt)
        have HBW' := Lib.hid (HB1.out.trans (HBW.out.mono HB1.out.size))
        clear hheld hb2 x1
        have l0 : W.cell? ⟨wr.heap.size, 0, none⟩ = some (.int .i64 X.epoch) := HXW.out.cell 0 (by omega)
        have l1 : W.cell? ⟨wr.heap.size, 1, none⟩ = some (.string X.root) := HXW.out.cell 1 (by omega)
        have l2 : W.cell? ⟨wr.heap.size, 2, none⟩ = some (.string X.prev) := HXW.out.cell 2 (by omega)
        rcases hm01 with rfl | rfl
        · have hEE : E = Value.nilIface := HE.out.symm.trans rfl
          subst hEE
          by_cases hyx : Y = X
          · have hne : ∀ u : World, (binOp .neq 49 (.agg #[.int .i64 Y.epoch, .string Y.root, .string Y.prev]) (.agg #[.int .i64 X.epoch, .string X.root, .string X.prev])).run Tryz.prog u = .ok (.bool false) u := fun u => by rw [run_neq_heads, decide_eq_true hyx]; rfl
            have HYX := Lib.hid hyx
            clear hyx
            go_wp2
            go_roundw
            case rel =>
              refine ⟨k + 1, g, by omega, by go_num, Lib.hid ⟨?_, HBW'.out⟩⟩
              have hw := HU.out.1
              rw [wholeFrom, HLK.out, if_pos (by simp [HYX.out])] at hw
              exact hw
            case measure => simp [intOf]; omega
          · have hne : ∀ u : World, (binOp .neq 49 (.agg #[.int .i64 Y.epoch, .string Y.root, .string Y.prev]) (.agg #[.int .i64 X.epoch, .string X.root, .string X.prev])).run Tryz.prog u = .ok (.bool true) u := fun u => by rw [run_neq_heads, decide_eq_false hyx]; rfl
            have HYX := Lib.hid hyx
            clear hyx
            go_wp2
            refine bodyPost_ret (results_tmp2 rfl _ _ _) rfl ?_
            have hw := HU.out.1
            rw [wholeFrom, HLK.out, if_neg (by simp [HYX.out])] at hw
            obtain ⟨rfl, rfl⟩ := Prod.mk.inj hw
            exact ⟨rfl, HBW'.out⟩
        · have hEE : E = Value.iface 28 (.int .i64 1) := HE.out.symm.trans rfl
          subst hEE
          go_wp2
          refine bodyPost_ret (results_tmp2 rfl _ _ _) rfl ?_
          have hw := HU.out.1
          rw [wholeFrom, HLK.out, if_neg (by simp)] at hw
          obtain ⟨rfl, rfl⟩ := Prod.mk.inj hw
          exact ⟨rfl, HBW'.out⟩
    · obtain rfl : f = 0 := by omega
      go_wp2
      refine bodyPost_ret (results_tmp2 rfl _ _ _) rfl ?_
      have hw := HU.out.1
      unfold wholeFrom at hw
      obtain ⟨rfl, rfl⟩ := Prod.mk.inj hw
      exact ⟨rfl, HU.out.2⟩

end Go.Proofs.YtcfpmofmjnhonaaGreatDoor
