/- Parts of the proof, one behind the other: RDirP, Long, LawItems, RHead, RepL, Rep. -/
import Derived.Test.YtcfpmofmjnhonaaGreatDoorM19
import Derived.Test.YtcfpmofmjnhonaaGreatDoorM1
import Derived.Test.YtcfpmofmjnhonaaGreatDoorProg
import Derived.Test.YtcfpmofmjnhonaaGreatDoorM5
import Derived.Test.YtcfpmofmjnhonaaGreatDoorM10
import Derived.Test.YtcfpmofmjnhonaaGreatDoorM8
import Derived.Deep.RegionHeld3
import Derived.Deep.DeepCutAuto
import Derived.Shelf.Strings.Repeat
import Derived.KernelRfl
/- The document's Put. -/
namespace Go.Proofs.YtcfpmofmjnhonaaGreatDoor
open Go.RowKit Go.Maps

def truesOf (S : List ByteArray) : List (ByteArray × Bool) := S.map fun s => (s, true)
theorem truesOf_keys (S : List ByteArray) : keysL (truesOf S) = S := by
  unfold keysL truesOf
  rw [List.map_map]
  exact List.map_id S
theorem truesOf_snoc (S : List ByteArray) (s : ByteArray) : truesOf (S ++ [s]) = truesOf S ++ [(s, true)] := by simp [truesOf]
theorem truesOf_look (S : List ByteArray) (t : ByteArray) (x : Bool) : look (truesOf S) t = some x → x = true := fun h => by
  have := look_mem h
  unfold truesOf at this
  obtain ⟨s, _, e⟩ := List.mem_map.1 this
  cases e; rfl
theorem truesOf_same {S T : List ByteArray} (h : S.Perm T) : SameSay (truesOf S) (truesOf T) := fun t => by
  have e : ∀ {S : List ByteArray}, (look (truesOf S) t).isSome = true ↔ t ∈ S := fun {S} => by rw [look_isSome, truesOf_keys]
  cases h1 : look (truesOf S) t with
  | none =>
    symm
    rw [look_none, truesOf_keys]
    rw [look_none, truesOf_keys] at h1
    exact fun h' => h1 (h.mem_iff.2 h')
  | some x =>
    have hx := truesOf_look S t x h1
    have hm : (look (truesOf T) t).isSome = true := e.2 (h.mem_iff.1 (e.1 (by rw [h1]; rfl)))
    obtain ⟨y, hy⟩ := Option.isSome_iff_exists.1 hm
    rw [hy, hx, truesOf_look T t y hy]
theorem ups_len_le {α : Type} (L : List (ByteArray × α)) (s : ByteArray) (x : α) : (ups L s x).length ≤ L.length + 1 := by rw [ups_length]; split <;> omega
theorem upsAll_len {α : Type} (L P : List (ByteArray × α)) : (upsAll L P).length ≤ L.length + P.length := by
  induction P generalizing L with
  | nil => exact Nat.le_refl _
  | cons p P ih =>
    have h1 := ih (ups L p.1 p.2)
    have h2 := ups_len_le L p.1 p.2
    rw [show upsAll L (p :: P) = upsAll (ups L p.1 p.2) P from rfl, List.length_cons]
    omega
theorem allNames_eq (d : Dst) (name : ByteArray) : allNames d name = upsAll (upsAll [(name, true)] (truesOf (keysL d.vals))) (truesOf (keysL d.wait)) := by
  unfold allNames truesOf keysL
  rw [List.map_map, List.map_map]
  rfl
set_option maxRecDepth 100000 in
set_option maxHeartbeats 1000000 in
theorem refDirPut_is (F : Nat → Prop) (p rb : Nat) (d d' : Dst) (name value : ByteArray) (n : Int) (w : World) (hd : RDir F w p rb d) (hv : d.vals.length ≤ 100000) (hw : d.wait.length ≤ 100000) (hn : name.size ≤ 1000000) (h : putAns d name value = (d', n)) :
    Calls Tryz.prog 18 #[.pointer (some ⟨p, 0, none⟩), .string name, .string value] w fun e w' => e = .returned (.int .i64 n) ∧ Off F w w' ∧ RDir F w' p rb d' := by
  obtain ⟨bb, g, m1, m2, m3, v, M, hd⟩ := hd
  have HD := Lib.hid hd
  have HN := Lib.hid hn
  clear hd hn
  unfold putAns at h
  by_cases hok : nameOk name.data.toList = true
  · rw [if_pos hok] at h
    by_cases hval : 1 ≤ value.size ∧ value.size ≤ 24
    · rw [if_pos hval] at h
      have HOK := Lib.hid hok
      have HVAL := Lib.hid (show (decide ((1 : Int) ≤ (value.size : Int)) && decide ((value.size : Int) ≤ 24)) = true by rw [decide_eq_true (by omega), decide_eq_true (by omega)]; rfl)
      have HVS := Lib.hid (show value.size ≤ 24 from hval.2)
      clear hok hval
      have HH := Lib.hid h
      clear h
      have hmm := @run_makeMap Tryz.prog
      obtain ⟨w1, hins, hm1, hg1⟩ := (MapIs.made kB w).put (by simp) HN.out (y := true) trivial
      have hins' : (Instr.mapUpdate 141 (.map (some w.heap.size)) (.string name) (.bool true)).run Tryz.prog (w.alloc (.map #[] 0)) = .ok () w1 := hins
      have HB1 := Lib.hid (show Below w.heap.size w w1 from (alloc_below w (.map #[] 0)).grown hg1 (by simp) (fun k hk => by cases hk; exact Nat.le_refl _))
      have HM1 := Lib.hid hm1
      have c4 : w1.cell? ⟨p, 4, none⟩ = some (.map (some m2)) := (HB1.out.cell (HD.out.own.lt)).trans (HD.out.own.cell 4 (by omega))
      have HMV := Lib.hid (HD.out.vals.block (HB1.out.block _ HD.out.vals.lt))
      clear hins hm1 hg1
      go_enter Tryz.func18, Tryz.ntmps18
      go_wp2_with fail
      refine (refName_any name _ HN.out).mono ?_
      rintro e w ⟨rfl, rfl⟩
      rw [HOK.out]
      go_wp2_with fail
      refine (in_any _ _ _ _).mono ?_
      rintro e w ⟨rfl, rfl⟩
      rw [HVAL.out]
      go_wp2_with (first | (at_range; refine wpList_mapRange kS rfl (.tmp 23) rfl m2 d.vals rfl HMV.out ?_; intro w2 hrg2 hg2 hs2))
      go_frame
      have HNE := Lib.hid (show m2 < w.heap.size from HD.out.vals.lt)
      have HB2 := Lib.hid (HB1.out.trans ((grownBy.below hg2.out (Nat.le_refl _) (fun k hk => by cases hk)).mono HB1.out.size))
      have HM2 := Lib.hid (HM1.out.block ((hg2.out.block _ HM1.out.lt (by simp))))
      have HZ1 := Lib.hid (show w.heap.size < w1.heap.size from HM1.out.lt)
      clear hins' hmm c4 hs2 hg2
      generalize w1.heap.size = r1 at hrg2 HZ1
      clear HMV HM1 HB1
      go_loopw [8] (fun _ wr => ∃ S cnt, Rng kS wr m2 r1 d.vals S cnt ∧ MapIs kB wr w.heap.size (upsAll [(name, true)] (truesOf S)) ∧ Below w.heap.size w wr) (fun _ wr => wr.rangeLeft m2 r1)
      case atStart => exact ⟨[], _, hrg2.out, HM2.out, HB2.out⟩
      case round =>
        clear hrg2 HM2 HB2
        obtain ⟨S, cnt, hr, hm, hb⟩ := hrel
        have HR := Lib.hid hr
        have HM := Lib.hid hm
        have HB := Lib.hid hb
        clear hr hm hb
        go_wp2_with (first | (at_next; refine wpList_mapNext kS rfl (.tmp 24) rfl m2 r1 d.vals S cnt rfl HR.out ?_ ?_))
        · intro hperm
          have hmA := SameSay.map (upsAll_same (by rw [truesOf_keys]; exact HR.out.came.1) (by rw [truesOf_keys]; exact HR.out.keys) (truesOf_same hperm)) (upsAll_nodup (by simp [keysL]) _) HM.out
          obtain ⟨V, hV⟩ : ∃ V, upsAll [(name, true)] (truesOf (keysL d.vals)) = V := ⟨_, rfl⟩
          rw [hV] at hmA
          have HVE := Lib.hid hV
          have HLV := Lib.hid (show V.length ≤ 200000 by
            rw [← hV]
            have h1 := upsAll_len [(name, true)] (truesOf (keysL d.vals))
            rw [show (truesOf (keysL d.vals)).length = d.vals.length by simp [truesOf, keysL], List.length_singleton] at h1
            omega)
          have HMA := Lib.hid hmA
          clear hmA hV HM hperm
          have HMW := Lib.hid (HD.out.wait.block (HB.out.block _ HD.out.wait.lt))
          have c3 : wr.cell? ⟨p, 3, none⟩ = some (.map (some m1)) := (HB.out.cell (HD.out.own.lt)).trans (HD.out.own.cell 3 (by omega))
          go_wp2_with (first | (at_range; refine wpList_mapRange kS rfl (.tmp 34) rfl m1 d.wait rfl HMW.out ?_; intro w5 hrg5 hg5 hs5))
          go_frame
          have HN1 := Lib.hid (show m1 < w.heap.size from HD.out.wait.lt)
          have HB5 := Lib.hid (HB.out.trans ((grownBy.below hg5.out (Nat.le_refl _) (fun k hk => by cases hk)).mono HB.out.size))
          have HM5 := Lib.hid (HMA.out.block ((hg5.out.block _ HMA.out.lt (by simp))))
          have HZ5 := Lib.hid (show w.heap.size < wr.heap.size from HMA.out.lt)
          clear c3 hs5 hg5
          generalize wr.heap.size = r2 at hrg5 HZ5
          clear HMW HMA HB HR
          go_loopw [9] (fun _ wr => ∃ S cnt, Rng kS wr m1 r2 d.wait S cnt ∧ MapIs kB wr w.heap.size (upsAll V (truesOf S)) ∧ Below w.heap.size w wr) (fun _ wr => wr.rangeLeft m1 r2)
          case atStart => exact ⟨[], _, hrg5.out, HM5.out, HB5.out⟩
          case round =>
            clear hrg5 HM5 HB5
            obtain ⟨S, cnt, hr, hm, hb⟩ := hrel
            have HR := Lib.hid hr
            have HM := Lib.hid hm
            have HB := Lib.hid hb
            clear hr hm hb
            go_wp2_with (first | (at_next; refine wpList_mapNext kS rfl (.tmp 35) rfl m1 r2 d.wait S cnt rfl HR.out ?_ ?_))
            · intro hperm
              have hmA := SameSay.map (upsAll_same (by rw [truesOf_keys]; exact HR.out.came.1) (by rw [truesOf_keys]; exact HR.out.keys) (truesOf_same hperm)) (upsAll_nodup (by rw [← HVE.out]; exact upsAll_nodup (by simp [keysL]) _) _) HM.out
              rw [← HVE.out, ← allNames_eq] at hmA
              have HMA := Lib.hid hmA
              clear hmA HM hperm
              have HDR := Lib.hid (HD.out.same (same_of_below HB.out HD.out.lt))
              obtain ⟨q, hq⟩ : ∃ q : Nat, (allNames d name).length = q := ⟨_, rfl⟩
              have hlen : ∀ ty, (Builtin.len_ #[141] ty #[.map (some w.heap.size)]).run Tryz.prog wr = .ok (.int .i64 (q : Int)) wr := fun ty => by rw [← hq]; exact HMA.out.len ty
              have hh := HH.out
              rw [hq] at hh
              clear hq HMA HVE HLV HR
              by_cases hq : q ≤ 60
              · rw [if_pos hq] at hh
                obtain ⟨rfl, rfl⟩ := Prod.mk.inj hh
                have hqi : ¬ (60 : Int) < (q : Int) := by omega
                have c3 : wr.cell? ⟨p, 3, none⟩ = some (.map (some m1)) := HDR.out.own.cell 3 (by omega)
                clear hh hq
                go_wp2_with (first | (at_mapUpdate; refine wpList_mapPut kS rfl (.tmp 48) (.tmp 49) (.tmp 50) rfl m1 d.wait rfl HDR.out.wait (by omega) name HN.out rfl value (show value.size ≤ maxLen by have := HVS.out; unfold maxLen; omega) rfl ?_; intro w7 hm7 hg7))
                go_wp2
                go_ret
                refine ⟨rfl, (Off.of_below HB.out).trans (Off.of_grown hg7.out (F := F) (fun k hk => by cases hk; exact HD.out.f1)) (fun _ _ h => h), bb, g, m1, m2, m3, v, M, HDR.out.put1 hg7.out hm7.out⟩
              · rw [if_neg hq] at hh
                obtain ⟨rfl, rfl⟩ := Prod.mk.inj hh
                have hqi : (60 : Int) < (q : Int) := by omega
                clear hh hq
                go_wp2
                go_ret
                exact ⟨rfl, Off.of_below HB.out, bb, g, m1, m2, m3, v, M, HDR.out⟩
            · intro s x w3 cnt' hlk hns hgood HR3 HC3 HG3 HS3 hen
              have hen' : (Instr.entry (.pointer (some ⟨r2, 0, none⟩))).run Tryz.prog w3 = .ok (.tuple #[.string s, .string x]) w3 := hen
              have HSS := Lib.hid (show s.size ≤ 1000000 from HR.out.short _ (look_mem hlk))
              have HM3 := Lib.hid (HM.out.block (HG3.out.block _ HM.out.lt (by intro e; cases e; exact absurd HZ5.out (Nat.lt_irrefl _))))
              have HL := Lib.hid (show (upsAll V (truesOf S)).length ≤ 1000000 by
                have h1 := upsAll_len V (truesOf S)
                have h2 := HR.out.room
                have h3 := HLV.out
                rw [show (truesOf S).length = S.length from List.length_map _] at h1
                omega)
              clear hen hgood HS3
              go_wp2_with (first | (at_mapUpdate; refine wpList_mapPut kB rfl (.tmp 40) (.tmp 41) (.const (.bool true)) rfl w.heap.size (upsAll V (truesOf S)) rfl HM3.out HL.out s HSS.out rfl true trivial rfl ?_; intro w4 hm4 hg4))
              have HR4 := Lib.hid (HR3.out.block (hg4.out.block _ HR3.out.map.lt (by intro e; cases e; exact absurd HN1.out (Nat.lt_irrefl _))) (hg4.out.block _ HR3.out.lt (by intro e; cases e; exact absurd HZ5.out (Nat.lt_irrefl _))))
              go_frame
              go_roundw
              case rel =>
                refine ⟨S ++ [s], cnt', HR4.out, ?_, ?_⟩
                · rw [truesOf_snoc, upsAll_snoc]; exact hm4.out
                · exact (HB.out.grown HG3.out HB.out.size (fun k hk => by cases hk; exact Nat.le_of_lt HZ5.out)).grown hg4.out (Nat.le_trans HB.out.size HG3.out.size) (fun k hk => by cases hk; exact Nat.le_refl _)
              case measure => rw [HR4.out.left_eq, HR.out.left_eq]; exact HC3.out
        · intro s x w3 cnt' hlk hns hgood HR3 HC3 HG3 HS3 hen
          have hen' : (Instr.entry (.pointer (some ⟨r1, 0, none⟩))).run Tryz.prog w3 = .ok (.tuple #[.string s, .string x]) w3 := hen
          have HSS := Lib.hid (show s.size ≤ 1000000 from HR.out.short _ (look_mem hlk))
          have HM3 := Lib.hid (HM.out.block (HG3.out.block _ HM.out.lt (by intro e; cases e; have := HZ1.out; omega)))
          have HL := Lib.hid (show (upsAll [(name, true)] (truesOf S)).length ≤ 1000000 by
            have h1 := upsAll_len [(name, true)] (truesOf S)
            have h2 := HR.out.room
            rw [show (truesOf S).length = S.length from List.length_map _, List.length_singleton] at h1
            omega)
          clear hen hgood HS3
          go_wp2_with (first | (at_mapUpdate; go_loud (refine wpList_mapPut kB rfl (.tmp 29) (.tmp 30) (.const (.bool true)) rfl w.heap.size (upsAll [(name, true)] (truesOf S)) rfl HM3.out HL.out s HSS.out rfl true trivial rfl ?_; intro w4 hm4 hg4)))
          have HR4 := Lib.hid (HR3.out.block (hg4.out.block _ HR3.out.map.lt (by intro e; cases e; exact absurd HNE.out (Nat.lt_irrefl _))) (hg4.out.block _ HR3.out.lt (by intro e; cases e; exact absurd HZ1.out (Nat.lt_irrefl _))))
          go_frame
          go_roundw
          case rel =>
            refine ⟨S ++ [s], cnt', HR4.out, ?_, ?_⟩
            · rw [truesOf_snoc, upsAll_snoc]; exact hm4.out
            · exact (HB.out.grown HG3.out HB.out.size (fun k hk => by cases hk; exact Nat.le_of_lt HZ1.out)).grown hg4.out (Nat.le_trans HB.out.size HG3.out.size) (fun k hk => by cases hk; exact Nat.le_refl _)
          case measure => rw [HR4.out.left_eq, HR.out.left_eq]; exact HC3.out
    · rw [if_neg hval] at h
      obtain ⟨rfl, rfl⟩ := Prod.mk.inj h
      have HOK := Lib.hid hok
      have HVAL := Lib.hid (show (decide ((1 : Int) ≤ (value.size : Int)) && decide ((value.size : Int) ≤ 24)) = false by
        rw [Bool.and_eq_false_iff, decide_eq_false_iff_not, decide_eq_false_iff_not]
        omega)
      clear hok hval h
      go_enter Tryz.func18, Tryz.ntmps18
      go_wp2_with fail
      refine (refName_any name _ HN.out).mono ?_
      rintro e w ⟨rfl, rfl⟩
      rw [HOK.out]
      go_wp2_with fail
      refine (in_any _ _ _ _).mono ?_
      rintro e w ⟨rfl, rfl⟩
      rw [HVAL.out]
      go_wp2
      go_ret
      exact ⟨rfl, Off.refl _ _, bb, g, m1, m2, m3, v, M, HD.out⟩
  · rw [if_neg hok] at h
    obtain ⟨rfl, rfl⟩ := Prod.mk.inj h
    have HOK := Lib.hid (show nameOk name.data.toList = false by simpa using hok)
    clear hok h
    go_enter Tryz.func18, Tryz.ntmps18
    go_wp2_with fail
    refine (refName_any name _ HN.out).mono ?_
    rintro e w ⟨rfl, rfl⟩
    rw [HOK.out]
    go_wp2
    go_ret
    exact ⟨rfl, Off.refl _ _, bb, g, m1, m2, m3, v, M, HD.out⟩
end Go.Proofs.YtcfpmofmjnhonaaGreatDoor
/- long. -/
namespace Go.Proofs.YtcfpmofmjnhonaaGreatDoor
open Go.RowKit

set_option maxRecDepth 100000 in
theorem long_any (s : ByteArray) (w : World) : Calls Tryz.prog 9 #[.string s] w fun e w' => e = .returned (.bool (decide (60 < s.size))) ∧ w' = w := by
  go_enter Tryz.func9, Tryz.ntmps9
  go_wp2
  go_ret
  refine ⟨?_, rfl⟩
  show Ending.returned (Value.bool _) = _
  congr 2
  simp; omega
theorem long_e (s : ByteArray) (w : World) : Calls Tryz.prog 9 #[.string s] w fun e w' => ∃ b, e = .returned (.bool b) ∧ w' = w ∧ (b = false → s.size ≤ 60) :=
  (long_any s w).mono fun _ _ ⟨he, hw⟩ => ⟨_, he, hw, fun h => by simpa using h⟩

end Go.Proofs.YtcfpmofmjnhonaaGreatDoor
/- The law's own helpers over items and texts: items, sameItems, sameTexts, sameProof. -/
namespace Go.Proofs.YtcfpmofmjnhonaaGreatDoor
open Go.RowKit

theorem long_t (s : ByteArray) (w : World) (h : 60 < s.size) : Calls Tryz.prog 9 #[.string s] w fun e w' => e = .returned (.bool true) ∧ w' = w :=
  (long_any s w).mono fun _ _ ⟨he, hw⟩ => ⟨by rw [he, decide_eq_true h], hw⟩
theorem long_f (s : ByteArray) (w : World) (h : ¬ 60 < s.size) : Calls Tryz.prog 9 #[.string s] w fun e w' => e = .returned (.bool false) ∧ w' = w :=
  (long_any s w).mono fun _ _ ⟨he, hw⟩ => ⟨by rw [he, decide_eq_false h], hw⟩
set_option maxRecDepth 100000 in
theorem sameTexts_same (L : List ByteArray) (A B : Option Addr) (cap cap' : Nat) (w : World) (hl : L.length ≤ 1000000) (ha : Strs w A L) (hb : Strs w B L) :
    Calls Tryz.prog 122 #[.slice A L.length cap, .slice B L.length cap'] w fun e w' => e = .returned (.bool true) ∧ ∃ q, w' = w.drewN q := by
  have HA := Lib.hid ha
  have HB := Lib.hid hb
  clear ha hb
  go_enter Tryz.func122, Tryz.ntmps122
  go_wp2
  go_loopw [5] (fun i wr => ∃ k q : Nat, k ≤ L.length ∧ i = .int .i64 (k : Int) ∧ wr = w.drewN q) (fun i _ => L.length - (intOf i).toNat)
  case atStart => exact ⟨0, 0, by omega, rfl, rfl⟩
  case round =>
    obtain ⟨k, q, hk, rfl, rfl⟩ := hrel
    by_cases hlt : k < L.length
    · obtain ⟨p, hp⟩ : ∃ p, L[k]? = some p := ⟨_, List.getElem?_eq_getElem hlt⟩
      obtain ⟨a, rfl, _, c0⟩ := HA.out k p hp
      obtain ⟨b, rfl, _, c1⟩ := HB.out k p hp
      have hpp : (p.toList == p.toList) = true := by simp
      clear hp
      go_wp2
      go_quiet (fail)
      go_wp2
      go_roundw
      case rel => exact ⟨k + 1, _, by omega, by go_num, rfl⟩
      case measure => simp [intOf]; omega
    · go_wp2
      go_ret
      exact ⟨rfl, q, rfl⟩
set_option maxRecDepth 100000 in
theorem sameProof_same (L : List ByteArray) (x : It) (A B : Option Addr) (cap cap' : Nat) (w : World) (hl : L.length ≤ 1000000) (ha : Strs w A L) (hb : Strs w B L) :
    Calls Tryz.prog 78 #[.agg #[.slice A L.length cap, .string x.1, .string x.2], .agg #[.slice B L.length cap', .string x.1, .string x.2]] w fun e w' => e = .returned (.bool true) ∧ Below w.heap.size w w' := by
  have HA := Lib.hid ha
  have HB := Lib.hid hb
  clear ha hb
  go_enter Tryz.func78, Tryz.ntmps78
  go_wp2_with fail
  have hbw : Below w.heap.size w ((w.alloc (.cells #[.slice A L.length cap, .string x.1, .string x.2] 63)).alloc (.cells #[.slice B L.length cap', .string x.1, .string x.2] 63)) := (alloc_below w _).alloc (by simp) _
  refine (sameTexts_same L A B cap cap' _ hl (HA.out.below hbw) (HB.out.below hbw)).mono ?_
  rintro e w1 ⟨rfl, q, rfl⟩
  have HBW := Lib.hid (below_drew hbw q)
  clear hbw
  go_wp2
  go_ret
  exact ⟨rfl, HBW.out⟩
end Go.Proofs.YtcfpmofmjnhonaaGreatDoor
/- The document's RightHead, HeadMark. -/
namespace Go.Proofs.YtcfpmofmjnhonaaGreatDoor
open Go.RowKit

set_option maxRecDepth 100000 in
theorem refRightHead_any (h : Hd) (w : World) :
    Calls Tryz.prog 111 #[.agg #[.int .i64 h.epoch, .string h.root, .string h.prev]] w fun e w' => e = .returned (.bool (rightHead h)) ∧ Below w.heap.size w w' := by
  have HBW := Lib.hid (alloc_below w (.cells #[.int .i64 h.epoch, .string h.root, .string h.prev] 49))
  obtain ⟨T, hT⟩ : ∃ T, rightHead h = T := ⟨_, rfl⟩
  rw [hT]
  have HT := Lib.hid hT
  clear hT
  by_cases h1 : 0 < h.epoch
  · by_cases h2 : h.root.size = 16
    · have H2 := Lib.hid h2
      have hF : T = decide (h.prev.size = 16) := by rw [← HT.out]; unfold rightHead; rw [decide_eq_true h1, decide_eq_true h2]; rfl
      subst hF
      clear h2
      go_enter Tryz.func111, Tryz.ntmps111
      go_wp2_with fail
      refine (isMark_t _ _ H2.out).mono ?_
      rintro e w1 ⟨rfl, rfl⟩
      go_wp2_with fail
      refine (isMark_any _ _).mono ?_
      rintro e w1 ⟨rfl, rfl⟩
      go_wp2
      go_ret
      exact ⟨rfl, HBW.out⟩
    · have H2 := Lib.hid h2
      have hF : T = false := by rw [← HT.out]; unfold rightHead; rw [decide_eq_false h2]; simp
      subst hF
      clear h2
      go_enter Tryz.func111, Tryz.ntmps111
      go_wp2_with fail
      refine (isMark_f _ _ H2.out).mono ?_
      rintro e w1 ⟨rfl, rfl⟩
      go_wp2
      go_ret
      exact ⟨rfl, HBW.out⟩
  · have hF : T = false := by rw [← HT.out]; unfold rightHead; rw [decide_eq_false h1]; simp
    subst hF
    have e1 : decide (0 < h.epoch) = false := decide_eq_false h1
    go_enter Tryz.func111, Tryz.ntmps111
    go_wp2
    go_ret
    exact ⟨rfl, HBW.out⟩
theorem rightHead_facts {h : Hd} (e : rightHead h = true) : 0 < h.epoch ∧ h.root.size = 16 ∧ h.prev.size = 16 := by
  unfold rightHead at e
  simp at e
  exact ⟨e.1.1, e.1.2, e.2⟩
set_option maxRecDepth 100000 in
theorem refHeadMark_is (b : Nat) (h : Hd) (s : ByteArray) (n : Int) (w : World) (hr : Holds w b 72 refCells 121) (hh : headMarkAns h = (s, n)) :
    Calls Tryz.prog 65 #[.pointer (some ⟨b, 0, none⟩), .agg #[.int .i64 h.epoch, .string h.root, .string h.prev]] w fun e w' => e = .returned (.tuple #[.string s, .int .i64 n]) ∧ Below w.heap.size w w' := by
  have HB0 := Lib.hid (alloc_below w (.cells #[.int .i64 h.epoch, .string h.root, .string h.prev] 49))
  have HH0 := Lib.hid (show Holds (w.alloc (.cells #[.int .i64 h.epoch, .string h.root, .string h.prev] 49)) w.heap.size 3 (hdF h) 49 from Holds.new w 3 (hdF h) 49)
  have HR := Lib.hid (hr.below HB0.out hr.lt)
  clear hr
  unfold headMarkAns at hh
  by_cases hk : rightHead h = true
  · rw [if_pos hk] at hh
    obtain ⟨rfl, rfl⟩ := Prod.mk.inj hh
    have HK := Lib.hid hk
    clear hh hk
    go_enter Tryz.func65, Tryz.ntmps65
    go_wp2_with fail
    refine (refRightHead_any h _).mono ?_
    rintro e w1 ⟨rfl, hb1⟩
    rw [HK.out]
    have HB1 := Lib.hid (HB0.out.trans (hb1.mono HB0.out.size))
    have HH1 := Lib.hid (HH0.out.below hb1 HH0.out.lt)
    have HR1 := Lib.hid (HR.out.below hb1 HR.out.lt)
    clear hb1
    have HN1 := Lib.hid HH1.out.lt
    have HC1 := Lib.hid (show w1.cell? ⟨w.heap.size, 0, none⟩ = some (.int .i64 h.epoch) ∧ w1.cell? ⟨w.heap.size, 1, none⟩ = some (.string h.root) ∧ w1.cell? ⟨w.heap.size, 2, none⟩ = some (.string h.prev) from ⟨HH1.out.cell 0 (by omega), HH1.out.cell 1 (by omega), HH1.out.cell 2 (by omega)⟩)
    go_wp2
    have HS0 := Lib.hid (show w1.cell? ⟨w.heap.size, 0, none⟩ = some (.int .i64 h.epoch) ∧ w1.cell? ⟨w.heap.size, 1, none⟩ = some (.string h.root) ∧ w1.cell? ⟨w.heap.size, 2, none⟩ = some (.string h.prev) ∧ Below w1.heap.size w1 w1.drew from ⟨HC1.out.1, HC1.out.2.1, HC1.out.2.2, (Below.refl _ _).drew⟩)
    have HKEEP := Lib.hid (show ∀ u v : World, (u.cell? ⟨w.heap.size, 0, none⟩ = some (.int .i64 h.epoch) ∧ u.cell? ⟨w.heap.size, 1, none⟩ = some (.string h.root) ∧ u.cell? ⟨w.heap.size, 2, none⟩ = some (.string h.prev) ∧ Below w1.heap.size w1 u) → Below u.heap.size u v → (v.cell? ⟨w.heap.size, 0, none⟩ = some (.int .i64 h.epoch) ∧ v.cell? ⟨w.heap.size, 1, none⟩ = some (.string h.root) ∧ v.cell? ⟨w.heap.size, 2, none⟩ = some (.string h.prev) ∧ Below w1.heap.size w1 v) from
      fun u v ⟨h0, h1, h2, hb⟩ hv => ⟨(hv.cell (Nat.lt_of_lt_of_le HN1.out hb.size)).trans h0, (hv.cell (Nat.lt_of_lt_of_le HN1.out hb.size)).trans h1, (hv.cell (Nat.lt_of_lt_of_le HN1.out hb.size)).trans h2, hb.trans (hv.mono hb.size)⟩)
    have HHOLD := Lib.hid (show ∀ u : World, (u.cell? ⟨w.heap.size, 0, none⟩ = some (.int .i64 h.epoch) ∧ u.cell? ⟨w.heap.size, 1, none⟩ = some (.string h.root) ∧ u.cell? ⟨w.heap.size, 2, none⟩ = some (.string h.prev) ∧ Below w1.heap.size w1 u) → Holds u b 72 refCells 121 from fun u hu => HR1.out.below hu.2.2.2 HR1.out.lt)
    have HTOT := Lib.hid (show total [txt (num8 h.epoch), h.root, h.prev] ≤ 1073741800 by obtain ⟨_, h2, h3⟩ := rightHead_facts HK.out; simp [total, num_size]; omega)
    go_region_held3 (fun w' => w'.cell? ⟨w.heap.size, 0, none⟩ = some (.int .i64 h.epoch) ∧ w'.cell? ⟨w.heap.size, 1, none⟩ = some (.string h.root) ∧ w'.cell? ⟨w.heap.size, 2, none⟩ = some (.string h.prev) ∧ Below w1.heap.size w1 w')
      (first | exact HS0.out | (refine HKEEP.out _ _ ?_ (by assumption); first | exact HS0.out | assumption | exact ⟨by assumption, by assumption, by assumption, by assumption⟩) | (refine HKEEP.out _ _ ?_ (alloc_below _ _); first | exact HS0.out | assumption | exact ⟨by assumption, by assumption, by assumption, by assumption⟩))
      (first | (go_at_call 98; refine (refNum_any h.epoch _).mono ?_; rintro e w2 ⟨rfl, hb2⟩) | (go_at_call 53; refine (refMark_any b 104 [txt (num8 h.epoch), h.root, h.prev] (some ⟨_, 0, none⟩) 3 _ (HHOLD.out _ (by assumption)) HTOT.out (by simp) (strs_new _ [txt (num8 h.epoch), h.root, h.prev] 9)).mono ?_; rintro e w2 ⟨rfl, hb2⟩))
    rename_i hheld
    have HB2 := Lib.hid (HB1.out.trans (hheld.2.2.2.mono HB1.out.size))
    clear hheld
    go_wp2
    refine bodyPost_ret (results_tmp2 rfl _ _ _) rfl ?_
    exact ⟨rfl, HB2.out⟩
  · rw [if_neg hk] at hh
    obtain ⟨rfl, rfl⟩ := Prod.mk.inj hh
    have HK := Lib.hid (show rightHead h = false by simpa using hk)
    clear hh hk
    go_enter Tryz.func65, Tryz.ntmps65
    go_wp2_with fail
    refine (refRightHead_any h _).mono ?_
    rintro e w1 ⟨rfl, hb1⟩
    rw [HK.out]
    have HB1 := Lib.hid (HB0.out.trans (hb1.mono HB0.out.size))
    clear hb1
    go_wp2
    refine bodyPost_ret (results_tmp2 rfl _ _ _) rfl ?_
    exact ⟨rfl, HB1.out⟩
end Go.Proofs.YtcfpmofmjnhonaaGreatDoor
/- strings.Repeat, laid by name, no walk; one byte, sixteen times. -/
namespace Go.Proofs
open Go.Shelf
set_option maxRecDepth 100000
def Tryz.lays105_ren : Go.Shelf.Ren := ⟨fun | 105 => 110 | 212 => 162 | 99 => 163 | 165 => 164 | 166 => 165 | 170 => 166 | 169 => 167 | 263 => 221 | 264 => 222 | 206 => 223 | 240 => 224 | 241 => 225 | 276 => 240 | 277 => 241 | n => n, fun | 9 => 9 | 3 => 3 | 4 => 4 | 20 => 20 | 0 => 0 | 46 => 188 | 109 => 270 | 5 => 5 | 72 => 275 | 76 => 169 | 51 => 117 | 146 => 323 | 53 => 124 | 148 => 325 | 70 => 273 | 37 => 182 | 75 => 33 | 127 => 327 | 164 => 234 | 80 => 37 | n => n, fun | n => n⟩
theorem Tryz.lays105 : Go.Proofs.Lays.n105 Tryz.prog Tryz.lays105_ren := {
  mixed := by kernel_rfl
  f99 := Tryz.func163.trans (congrArg some (by kernel_rfl))
  f105 := Tryz.func110.trans (congrArg some (by kernel_rfl))
  f165 := Tryz.func164.trans (congrArg some (by kernel_rfl))
  f166 := Tryz.func165.trans (congrArg some (by kernel_rfl))
  f169 := Tryz.func167.trans (congrArg some (by kernel_rfl))
  f170 := Tryz.func166.trans (congrArg some (by kernel_rfl))
  f206 := Tryz.func223.trans (congrArg some (by kernel_rfl))
  f212 := Tryz.func162.trans (congrArg some (by kernel_rfl))
  f240 := Tryz.func224.trans (congrArg some (by kernel_rfl))
  f241 := Tryz.func225.trans (congrArg some (by kernel_rfl))
  f263 := Tryz.func221.trans (congrArg some (by kernel_rfl))
  f264 := Tryz.func222.trans (congrArg some (by kernel_rfl))
  f276 := Tryz.func240.trans (congrArg some (by kernel_rfl))
  f277 := Tryz.func241.trans (congrArg some (by kernel_rfl))
  t0 := Tryz.underlying0
  a0 := Tryz.isAgg0
  z0 := Tryz.sizeOf0
  v0 := Tryz.zeroValue0
  t3 := Tryz.underlying3
  a3 := Tryz.isAgg3
  z3 := Tryz.sizeOf3
  v3 := Tryz.zeroValue3
  t4 := Tryz.underlying4
  a4 := Tryz.isAgg4
  z4 := Tryz.sizeOf4
  v4 := Tryz.zeroValue4
  t5 := Tryz.underlying5
  a5 := Tryz.isAgg5
  z5 := Tryz.sizeOf5
  v5 := Tryz.zeroValue5
  t9 := Tryz.underlying9
  a9 := Tryz.isAgg9
  z9 := Tryz.sizeOf9
  v9 := Tryz.zeroValue9
  t20 := Tryz.underlying20
  a20 := Tryz.isAgg20
  z20 := Tryz.sizeOf20
  v20 := Tryz.zeroValue20
  t37 := Tryz.underlying182
  a37 := Tryz.isAgg182
  z37 := Tryz.sizeOf182
  v37 := Tryz.zeroValue182
  t46 := Tryz.underlying188
  a46 := Tryz.isAgg188
  z46 := Tryz.sizeOf188
  v46 := Tryz.zeroValue188
  t51 := Tryz.underlying117
  a51 := Tryz.isAgg117
  z51 := Tryz.sizeOf117
  v51 := Tryz.zeroValue117
  t53 := Tryz.underlying124
  a53 := Tryz.isAgg124
  z53 := Tryz.sizeOf124
  v53 := Tryz.zeroValue124
  t70 := Tryz.underlying273
  a70 := Tryz.isAgg273
  z70 := Tryz.sizeOf273
  v70 := Tryz.zeroValue273
  t72 := Tryz.underlying275
  a72 := Tryz.isAgg275
  z72 := Tryz.sizeOf275
  v72 := Tryz.zeroValue275
  t75 := Tryz.underlying33
  a75 := Tryz.isAgg33
  z75 := Tryz.sizeOf33
  v75 := Tryz.zeroValue33
  t76 := Tryz.underlying169
  a76 := Tryz.isAgg169
  z76 := Tryz.sizeOf169
  v76 := Tryz.zeroValue169
  t109 := Tryz.underlying270
  a109 := Tryz.isAgg270
  z109 := Tryz.sizeOf270
  v109 := Tryz.zeroValue270
  t127 := Tryz.underlying327
  a127 := Tryz.isAgg327
  z127 := Tryz.sizeOf327
  v127 := Tryz.zeroValue327
  t146 := Tryz.underlying323
  a146 := Tryz.isAgg323
  z146 := Tryz.sizeOf323
  v146 := Tryz.zeroValue323
  t148 := Tryz.underlying325
  a148 := Tryz.isAgg325
  z148 := Tryz.sizeOf325
  v148 := Tryz.zeroValue325
  t164 := Tryz.underlying234
  a164 := Tryz.isAgg234
  z164 := Tryz.sizeOf234
  v164 := Tryz.zeroValue234 }
theorem Tryz.Builder_Extra_105 : Builder.Extra Tryz.prog Tryz.lays105_ren := {
  sizeBuilder := by kernel_rfl
  liesBuilder := by kernel_rfl
  t5 := Tryz.underlying5
  a5 := Tryz.isAgg5
  z5 := Tryz.sizeOf5
  v5 := Tryz.zeroValue5
  infoByte := by kernel_rfl
  cellsByte := by kernel_rfl
  sizeByte := by kernel_rfl
  neB5 := by decide }
end Go.Proofs
namespace Go.Proofs.YtcfpmofmjnhonaaGreatDoor
open Go.RowKit Go.Lib
def rep16 (c : UInt8) : ByteArray := ⟨(Lib.repeatL [c] 16).toArray⟩
theorem rep16_size (c : UInt8) : (rep16 c).size = 16 := rfl
theorem repeat16_any (c : UInt8) (w : World) : Calls Tryz.prog 110 #[.string ⟨#[c]⟩, .int .i64 16] w fun e w' => e = .returned (.string (rep16 c)) ∧ Below w.heap.size w w' :=
  (Any.strings_Repeat_main Tryz.lays105 Tryz.Builder_Extra_105 ⟨#[c]⟩ 16 w (by decide) (by decide) (by show 1 * 16 ≤ 140737488355328; decide) (by show 0 < 1; decide)).mono fun _ _ h => ⟨h.1, h.2⟩
end Go.Proofs.YtcfpmofmjnhonaaGreatDoor
/- strings.Repeat of one byte of 0, sixteen times. -/
namespace Go.Proofs.YtcfpmofmjnhonaaGreatDoor
open Go.RowKit Go.Lib
theorem repeat_nul (w : World) : Calls Tryz.prog 110 #[.string ⟨#[0]⟩, .int .i64 16] w fun e w' => e = .returned (.string none16) ∧ Below w.heap.size w w' :=
  (Any.strings_Repeat_main Tryz.lays105 Tryz.Builder_Extra_105 ⟨#[0]⟩ 16 w (by decide) (by decide) (by decide) (by decide)).mono fun _ _ h => ⟨h.1, h.2⟩
end Go.Proofs.YtcfpmofmjnhonaaGreatDoor
