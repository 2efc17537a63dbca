/- Parts of the proof, one behind the other: RDirX, Acts, SpoilX, Spoilt, DDim. -/
import Derived.WalkKit
import Derived.Lib.Hide
import Derived.WalkLawsBesides
import Derived.Deep.QuietTactic
import Derived.Deep.WholeRow
import Derived.ArgAppend
import Derived.Laws.AppendOwnNone
import Derived.Laws.CopyRow
import Derived.Deep.RegionLaw
import Derived.Laws.BytesString
import Derived.Laws.IdiomStrings
import Derived.Test.YtgjmbokfenpefaaGreatDoorProg
import Derived.StringKeys
import Derived.Maps.Own
import Derived.Maps.Views
import Derived.Maps.OwnSet
import Derived.Maps.OwnOps
import Derived.Maps.RangeWalk
import Derived.Sort.KeysCollected
import Derived.Laws.BitsAllLaws
import Derived.Outline
import Derived.BigQuiet
import Derived.Laws.CopyOwn
import Derived.RegionTactic
import Derived.StillTail
import Derived.Deep.Quiet
import Derived.Deep.RegionHeld3
import Derived.Deep.DeepCutAuto
import Derived.Laws.ResultCell
import Derived.IntWalk
import Derived.Sort.Walk0
import Derived.Tactics
import Derived.Orders
import Derived.LaidEql
import Derived.Stop.Asserts
import Derived.RowKitTokens
import Derived.OrdersHeld
import Derived.Sort.LotA
import Derived.Lib.SortBridge
import Derived.Shelf.SlSortFuncK.WholeK
import Derived.Ground.GgsProg
import Derived.Shelf.GgSortFunc.Tiny
import Derived.Shelf.Strings.Repeat
import Derived.KernelRfl
import Derived.WideKeyEntry
import Derived.Deep.CutRange
import Derived.Deep.AppendSrc
import Derived.Test.YtgjmbokfenpefaaGreatDoorM1
import Derived.Test.YtgjmbokfenpefaaGreatDoorM2
import Derived.Test.YtgjmbokfenpefaaGreatDoorM3
import Derived.Test.YtgjmbokfenpefaaGreatDoorM4
import Derived.Test.YtgjmbokfenpefaaGreatDoorM5
import Derived.Test.YtgjmbokfenpefaaGreatDoorM6
import Derived.Test.YtgjmbokfenpefaaGreatDoorM7
import Derived.Test.YtgjmbokfenpefaaGreatDoorM8
import Derived.Test.YtgjmbokfenpefaaGreatDoorM12
import Derived.Test.YtgjmbokfenpefaaGreatDoorM16
import Derived.Test.YtgjmbokfenpefaaGreatDoorM33
import Derived.Test.YtgjmbokfenpefaaGreatDoorM34
import Derived.Test.YtgjmbokfenpefaaGreatDoorM35
import Derived.Test.YtgjmbokfenpefaaGreatDoorM36
import Derived.Test.YtgjmbokfenpefaaGreatDoorM37
import Derived.Test.YtgjmbokfenpefaaGreatDoorM38
import Derived.Test.YtgjmbokfenpefaaGreatDoorM39
import Derived.Test.YtgjmbokfenpefaaGreatDoorM40
import Derived.Test.YtgjmbokfenpefaaGreatDoorM41
import Derived.Test.YtgjmbokfenpefaaGreatDoorM42
import Derived.Test.YtgjmbokfenpefaaGreatDoorM43
import Derived.Test.YtgjmbokfenpefaaGreatDoorM44
/- The document's Publish, whatever there was. -/
namespace Go.Proofs.YtgjmbokfenpefaaGreatDoor
open Go.RowKit Go.Maps

set_option maxRecDepth 100000 in
set_option maxHeartbeats 1000000 in
theorem refPublish_f (F : Nat → Prop) (p rb : Nat) (d : Dst) (w : World) (hd : RDir F w p rb d) (h8 : d.eps.length = 8) :
    Calls Tryz.prog 36 #[.pointer (some ⟨p, 0, none⟩)] w fun e w' => e = .returned (.tuple #[.agg #[.int .i64 0, .string ⟨#[]⟩, .string ⟨#[]⟩, .int .i64 0, .slice none 0 0, .slice none 0 0], .int .i64 12]) ∧ Below w.heap.size w w' := by
  obtain ⟨bb, g, m1, m2, m3, v, M, hd⟩ := hd
  have HD := Lib.hid hd
  have HME := Lib.hid (show M.length = 8 by rw [← h8, ← hd.eps, List.length_map])
  obtain ⟨w0, hw0⟩ : ∃ w0, w.alloc (.cells #[.int .i64 0, .string ⟨#[]⟩, .string ⟨#[]⟩, .int .i64 0, .slice none 0 0, .slice none 0 0] 57) = w0 := ⟨_, rfl⟩
  have hb0 : Below w.heap.size w w0 := by rw [← hw0]; exact alloc_below _ _
  have HB0 := Lib.hid hb0
  have HZ := Lib.hid (show Holds w0 w.heap.size 6 (sgF noHd 0 (.slice none 0 0) (.slice none 0 0)) 57 by rw [← hw0]; exact Holds.new w 6 (sgF noHd 0 (.slice none 0 0) (.slice none 0 0)) 57)
  obtain ⟨pv, cv, rfl⟩ := hd.row.any
  have c6 : w0.cell? ⟨p, 6, none⟩ = some (.slice pv M.length cv) := (hb0.cell (p := ⟨p, 6, none⟩) hd.own.lt).trans (hd.own.cell 6 (by omega))
  clear hd hb0 h8
  have h1 : (8 : Int) < ((M.length : Int) + 1) := by have := HME.out; omega
  have h2 : IntKind.i64.wrap ((M.length : Int) + 1) = (M.length : Int) + 1 := IntWalk.i64_in _ (by have := HME.out; omega)
  have p0 : w0.cell? ⟨w.heap.size, 0, none⟩ = some (.int .i64 0) := HZ.out.cell 0 (by omega)
  have p1 : w0.cell? ⟨w.heap.size, 1, none⟩ = some (.string ⟨#[]⟩) := HZ.out.cell 1 (by omega)
  have p2 : w0.cell? ⟨w.heap.size, 2, none⟩ = some (.string ⟨#[]⟩) := HZ.out.cell 2 (by omega)
  have p3 : w0.cell? ⟨w.heap.size, 3, none⟩ = some (.int .i64 0) := HZ.out.cell 3 (by omega)
  have p4 : w0.cell? ⟨w.heap.size, 4, none⟩ = some (.slice none 0 0) := HZ.out.cell 4 (by omega)
  have p5 : w0.cell? ⟨w.heap.size, 5, none⟩ = some (.slice none 0 0) := HZ.out.cell 5 (by omega)
  have f0 : w0.frozen? ⟨w.heap.size, 0, none⟩ = false := HZ.out.free 0
  have f1 : w0.frozen? ⟨w.heap.size, 1, none⟩ = false := HZ.out.free 1
  have f2 : w0.frozen? ⟨w.heap.size, 2, none⟩ = false := HZ.out.free 2
  have f3 : w0.frozen? ⟨w.heap.size, 3, none⟩ = false := HZ.out.free 3
  have f4 : w0.frozen? ⟨w.heap.size, 4, none⟩ = false := HZ.out.free 4
  have f5 : w0.frozen? ⟨w.heap.size, 5, none⟩ = false := HZ.out.free 5
  have HFIN := Lib.hid (put6_holds HZ.out noHd 0 (.slice none 0 0) (.slice none 0 0))
  have HFB := Lib.hid (put6_below HB0.out (Nat.le_refl _) noHd 0 (.slice none 0 0) (.slice none 0 0))
  go_enter Tryz.func36, Tryz.ntmps36
  go_wp2
  refine bodyPost_ret (results_row2 rfl _ _ w.heap.size 57 (arr 6 (sgF noHd 0 (.slice none 0 0) (.slice none 0 0))) (0, 0) _ rfl HFIN.out Tryz.underlying57 rfl (by rw [arr_size]; exact infoSg6)) rfl ?_
  exact ⟨rfl, HFB.out⟩
/-- Publish: the answer, and what the directory then is. -/
theorem refPublish_is (F : Nat → Prop) (p rb : Nat) (d d' : Dst) (sg : Sgn) (n : Int) (w : World) (hd : RDir F w p rb d) (hr : Holds w rb 72 refCells 97) (hs : d.secret.size ≤ 1000000) (hrb : ¬ F rb) (hl : d.vals.length ≤ 50000) (hlw : d.wait.length ≤ 50000) (hls : d.since.length ≤ 50000) (h8 : d.eps.length ≤ 8)
    (h : publishAns d = (d', sg, n)) :
    Calls Tryz.prog 36 #[.pointer (some ⟨p, 0, none⟩)] w fun e w' => ∃ (m : SgM) (F' : Nat → Prop), m.s = sg ∧ e = .returned (.tuple #[.agg #[.int .i64 sg.head.epoch, .string sg.head.root, .string sg.head.prev, .int .i64 sg.key, .slice m.A sg.sig.length m.ca, .slice m.B sg.path.length m.cb], .int .i64 n]) ∧ Off F w w' ∧ Grew w F F' ∧ RDir F' w' p rb d' ∧ SgIn F' w' m := by
  by_cases h9 : d.eps.length < 8
  · exact refPublish_t F p rb d d' sg n w hd hr hs hrb hl hlw hls h h9
  · unfold publishAns at h
    rw [if_neg h9] at h
    simp only [Prod.mk.injEq] at h
    obtain ⟨rfl, rfl, rfl⟩ := h
    refine (refPublish_f F p rb d w hd (by omega)).mono fun e w' ⟨he, hb⟩ => ⟨⟨noSgn, none, 0, none, 0⟩, F, rfl, he, Off.of_below hb, Grew.refl _ _, hd.below hb, Strs.nil _ _, Strs.nil _ _, (fun a e => by cases e), (fun a e => by cases e), Nat.le_refl 0⟩
end Go.Proofs.YtgjmbokfenpefaaGreatDoor
/- The law's acts, and what is played with them on the document's directory. (An act lies as a head does: a number and two texts.) -/
namespace Go.Proofs.YtgjmbokfenpefaaGreatDoor
open Go.RowKit Go.Maps

set_option maxRecDepth 100000 in
theorem acts_any (L : List Hd) (A : Option Addr) (cap : Nat) (w : World) (hm : Hds w A L) :
    Calls Tryz.prog 6 #[.slice A L.length cap] w fun e w' => ∃ b, e = .returned (.bool b) ∧ w' = w ∧ (b = true → L.length ≤ 80 ∧ ∀ x ∈ L, x.root.size ≤ 60 ∧ x.prev.size ≤ 60) := by
  have HM := Lib.hid hm
  clear hm
  by_cases hl : 80 < L.length
  · go_enter Tryz.func6, Tryz.ntmps6
    go_wp2
    go_ret
    exact ⟨false, rfl, rfl, fun h => by cases h⟩
  · go_enter Tryz.func6, Tryz.ntmps6
    go_wp2
    go_loopw [3] (fun i wr => ∃ k : Nat, k ≤ L.length ∧ i = .int .i64 (k : Int) ∧ wr = w ∧ Hid (∀ x ∈ L.take k, x.root.size ≤ 60 ∧ x.prev.size ≤ 60)) (fun i _ => L.length - (intOf i).toNat)
    case atStart => exact ⟨0, by omega, rfl, rfl, Lib.hid (by simp)⟩
    case round =>
      obtain ⟨k, hk, rfl, rfl, HU⟩ := hrel
      by_cases hlt : k < L.length
      · obtain ⟨a, rfl, hal, -, c1, c2⟩ := HM.out.at_ hlt
        have d1 : wr.cell? ⟨(a.add (k * 3)).block, (a.add (k * 3)).off + 1, none⟩ = some (.string (hdAt L k).root) := c1
        have d2 : wr.cell? ⟨(a.add (k * 3)).block, (a.add (k * 3)).off + 2, none⟩ = some (.string (hdAt L k).prev) := c2
        have HX := Lib.hid (show L[k]? = some (hdAt L k) by rw [List.getElem?_eq_getElem hlt, hdAt_of hlt])
        generalize hdAt L k = x at d1 d2 HX
        clear c1 c2
        go_wp2_with fail
        refine (long_any x.root _).mono ?_
        rintro e w1 ⟨rfl, rfl⟩
        by_cases m1 : 60 < x.root.size
        · rw [decide_eq_true m1]
          clear m1
          go_wp2
          go_ret
          exact ⟨false, rfl, rfl, fun h => by cases h⟩
        · rw [decide_eq_false m1]
          have M1 := Lib.hid m1
          clear m1
          go_wp2_with fail
          refine (long_any x.prev _).mono ?_
          rintro e w1 ⟨rfl, rfl⟩
          by_cases m2 : 60 < x.prev.size
          · rw [decide_eq_true m2]
            clear m2
            go_wp2
            go_ret
            exact ⟨false, rfl, rfl, fun h => by cases h⟩
          · rw [decide_eq_false m2]
            have M2 := Lib.hid m2
            clear m2
            go_wp2
            go_roundw
            case rel =>
              refine ⟨k + 1, by omega, by go_num, by first | rfl | trivial, Lib.hid fun y hy => ?_⟩
              rw [List.take_add_one, HX.out, List.mem_append] at hy
              rcases hy with hy | hy
              · exact HU.out y hy
              · obtain rfl := List.mem_singleton.1 hy
                have := M1.out
                have := M2.out
                omega
            case measure => simp [intOf]; omega
      · go_wp2
        go_ret
        exact ⟨true, rfl, rfl, fun _ => ⟨by omega, by have := HU.out; rwa [List.take_of_length_le (by omega)] at this⟩⟩

/-- One act, done. -/
def stepD (d : Dst) (x : Hd) : Dst := if x.epoch = 0 then (putAns d x.root x.prev).1 else if x.epoch = 1 then (publishAns d).1 else d
def playD (d : Dst) (L : List Hd) : Dst := L.foldl stepD d
theorem stepD_ok {d : Dst} (h : DOk d) (x : Hd) : DOk (stepD d x) := by
  unfold stepD
  split
  · exact putAns_ok h _ _
  · split
    · exact publishAns_ok h
    · exact h
theorem playD_ok {d : Dst} (h : DOk d) (L : List Hd) : DOk (playD d L) := by
  unfold playD
  induction L generalizing d with
  | nil => exact h
  | cons x L ih => exact ih (stepD_ok h x)
theorem playD_next {d : Dst} {L : List Hd} {k : Nat} {x : Hd} (h : L[k]? = some x) : playD d (L.take (k + 1)) = stepD (playD d (L.take k)) x := by
  unfold playD
  rw [List.take_add_one, h, List.foldl_append]
  rfl
theorem since_len {d : Dst} (h : DOk d) : d.since.length ≤ 61 := by
  have h1 := nodup_le h.sk (B := keysL d.vals) fun x hx => by
    rw [← look_isSome] at hx ⊢
    rw [← h.same]; exact hx
  rw [keysL_length, keysL_length] at h1
  have := h.vals_len
  omega
set_option maxRecDepth 100000 in
set_option maxHeartbeats 1000000 in
theorem plays_any (F : Nat → Prop) (p rb : Nat) (d : Dst) (L : List Hd) (A : Option Addr) (cap : Nat) (w : World) (hd : RDir F w p rb d) (hk : DOk d) (hr : Holds w rb 72 refCells 97) (hrb : ¬ F rb) (hm : Hds w A L) (hA : ∀ a, A = some a → 0 < L.length → ¬ F a.block)
    (hL : L.length ≤ 80) (hs : ∀ x ∈ L, x.root.size ≤ 60 ∧ x.prev.size ≤ 60) :
    Calls Tryz.prog 9 #[.pointer (some ⟨p, 0, none⟩), .slice A L.length cap] w fun e w' => ∃ F' : Nat → Prop, e = .returned (.tuple #[]) ∧ Off F w w' ∧ Grew w F F' ∧ RDir F' w' p rb (playD d L) := by
  have HD := Lib.hid hd
  have HK := Lib.hid hk
  have HR := Lib.hid hr
  have HRB := Lib.hid hrb
  have HM := Lib.hid hm
  have HA := Lib.hid hA
  have HS := Lib.hid hs
  have HRL := Lib.hid hr.lt
  have HML := Lib.hid hm.lt
  clear hd hk hr hrb hm hA hs
  go_enter Tryz.func9, Tryz.ntmps9
  go_wp2
  go_loopw [4] (fun i wr => ∃ k : Nat, k ≤ L.length ∧ i = .int .i64 (k : Int) ∧ Hid (∃ F', Off F w wr ∧ Grew w F F' ∧ RDir F' wr p rb (playD d (L.take k)))) (fun i _ => L.length - (intOf i).toNat)
  case atStart => exact ⟨0, by omega, rfl, Lib.hid ⟨F, Off.refl _ _, Grew.refl _ _, HD.out⟩⟩
  case round =>
    obtain ⟨k, hk, rfl, HU⟩ := hrel
    obtain ⟨F1, ho, hg, hd⟩ := HU.out
    have HO := Lib.hid ho
    have HG := Lib.hid hg
    have HD1 := Lib.hid hd
    clear ho hg hd HU
    by_cases hlt : k < L.length
    · have HMK := Lib.hid (show Hds wr A L from HM.out.same (F := fun b => b < w.heap.size ∧ ¬ F b) (fun a ha hl => ⟨HML.out a ha hl, HA.out a ha hl⟩) ⟨HO.out.size, fun b hb => HO.out.block b hb.1 hb.2⟩)
      have HRK := Lib.hid (show Holds wr rb 72 refCells 97 from by
        have h1 := HR.out
        unfold Holds at h1 ⊢
        rw [HO.out.block rb HRL.out HRB.out]; exact h1)
      have HRF := Lib.hid (show ¬ F1 rb from fun e => by
        rcases HG.out rb e with e | e
        · exact HRB.out e
        · have := HRL.out; omega)
      have HOK := Lib.hid (playD_ok HK.out (L.take k))
      obtain ⟨a, rfl, hal, c0, c1, c2⟩ := HMK.out.at_ hlt
      have d1 : wr.cell? ⟨(a.add (k * 3)).block, (a.add (k * 3)).off + 1, none⟩ = some (.string (hdAt L k).root) := c1
      have d2 : wr.cell? ⟨(a.add (k * 3)).block, (a.add (k * 3)).off + 2, none⟩ = some (.string (hdAt L k).prev) := c2
      have HX := Lib.hid (show L[k]? = some (hdAt L k) by rw [List.getElem?_eq_getElem hlt, hdAt_of hlt])
      have HXS := Lib.hid (HS.out (hdAt L k) (by rw [hdAt_of hlt]; exact List.getElem_mem _))
      generalize hdAt L k = x at c0 d1 d2 HX HXS
      clear c1 c2
      have hk0 : (0 : Int) ≤ (k : Int) := by omega
      have hk1 : (k : Int) < (L.length : Int) := by omega
      by_cases h0 : x.epoch = 0
      · have HST := Lib.hid (show playD d (L.take (k + 1)) = (putAns (playD d (L.take k)) x.root x.prev).1 by rw [playD_next HX.out]; unfold stepD; rw [if_pos h0])
        rw [h0] at c0
        clear h0
        obtain ⟨d', n, hpa⟩ : ∃ d' n, putAns (playD d (L.take k)) x.root x.prev = (d', n) := ⟨_, _, rfl⟩
        have HPA := Lib.hid hpa
        clear hpa
        go_wp2
        refine wp_region_taken (fun u => u = wr.drew) [0, 1, 2, 3, 4, 5, 6, 7, 8, 9, 10] [11] (by kernel_rfl) (by kernel_rfl) (by intro c d v a w h; cases d <;> exact h) rfl ?_
        simp only [pickOps, List.filterMap_cons, List.filterMap_nil, List.getElem?_cons_zero, List.getElem?_cons_succ]
        repeat (first | go_big_quiet_step (fail) | quiet_step (fail))
        refine wpQuiet_nil ?_
        refine wpSeq_last rfl (fun K' hK => ?_)
        go_wp2_with fail
        refine (refDirPut_is F1 p rb _ d' x.root x.prev n wr.drew (HD1.out.same ⟨Nat.le_refl _, fun _ _ => rfl⟩) (by have := HOK.out.vals_len; omega) (by have := HOK.out.wait_len; omega) (by have := HXS.out.1; omega) HPA.out).mono ?_
        rintro e w1 ⟨rfl, ho2, hd2⟩
        have HO2 := Lib.hid (HO.out.drew.trans ho2 (fun b hb hF => by
          rcases HG.out b hF with e | e
          · exact e
          · omega))
        have HD2 := Lib.hid hd2
        clear ho2 hd2
        go_wp2
        refine hK _ _ ?_
        clear hK K'
        go_wp2
        go_roundw
        case rel => exact ⟨k + 1, by omega, by go_num, Lib.hid ⟨F1, HO2.out, HG.out, by rw [HST.out, HPA.out]; exact HD2.out⟩⟩
        case measure => simp [intOf]; omega
      · by_cases h1 : x.epoch = 1
        · have HST := Lib.hid (show playD d (L.take (k + 1)) = (publishAns (playD d (L.take k))).1 by rw [playD_next HX.out]; unfold stepD; rw [if_neg h0, if_pos h1])
          rw [h1] at c0
          clear h0 h1
          obtain ⟨d', sg, n, hpa⟩ : ∃ d' sg n, publishAns (playD d (L.take k)) = (d', sg, n) := ⟨_, _, _, rfl⟩
          have HPA := Lib.hid hpa
          clear hpa
          go_wp2_with fail
          refine (refPublish_is F1 p rb _ d' sg n _ HD1.out HRK.out (by have := HOK.out.secret; omega) HRF.out (by have := HOK.out.vals_len; omega) (by have := HOK.out.wait_len; omega) (by have := since_len HOK.out; omega) HOK.out.few HPA.out).mono ?_
          rintro e w1 ⟨m, F2, rfl, rfl, ho2, hg2, hd2, _⟩
          have HO2 := Lib.hid (HO.out.trans ho2 (fun b hb hF => by
            rcases HG.out b hF with e | e
            · exact e
            · omega))
          have HG2 := Lib.hid (HG.out.trans hg2 HO.out.size)
          have HD2 := Lib.hid hd2
          clear ho2 hg2 hd2
          go_wp2
          go_roundw
          case rel => exact ⟨k + 1, by omega, by go_num, Lib.hid ⟨F2, HO2.out, HG2.out, by rw [HST.out, HPA.out]; exact HD2.out⟩⟩
          case measure => simp [intOf]; omega
        · have HST := Lib.hid (show playD d (L.take (k + 1)) = playD d (L.take k) by rw [playD_next HX.out]; unfold stepD; rw [if_neg h0, if_neg h1])
          have e0 : (x.epoch == 0) = false := by rw [beq_eq_false_iff_ne]; exact h0
          have e1 : (x.epoch == 1) = false := by rw [beq_eq_false_iff_ne]; exact h1
          clear h0 h1
          go_wp2
          go_roundw
          case rel => exact ⟨k + 1, by omega, by go_num, Lib.hid ⟨F1, HO.out, HG.out, by rw [HST.out]; exact HD1.out⟩⟩
          case measure => simp [intOf]; omega
    · go_wp2
      (try simp only [Exit.inBlock, Exit.then])
      refine bodyPost_end (results_none rfl _ _ _) rfl ?_
      exact ⟨F1, rfl, HO.out, HG.out, by have := HD1.out; rwa [List.take_of_length_le (by omega)] at this⟩
end Go.Proofs.YtgjmbokfenpefaaGreatDoor
/- The law's spoilt: a text, its first bit turned. -/
namespace Go.Proofs.YtgjmbokfenpefaaGreatDoor
open Go.RowKit

def spoilX (s : ByteArray) : ByteArray := match s.data.toList with | [] => ⟨#[120]⟩ | b :: r => txt ((b ^^^ 1) :: r)
theorem xor8 (b : UInt8) : bits BinOp.xor IntKind.u8 (b.toNat : Int) 1 = ((b ^^^ 1).toNat : Int) := by
  have h := u8_xor_nat b.toNat 1 b.toNat_lt (by decide)
  rw [UInt8.toNat_xor]
  exact h
theorem spoilX_is {s : ByteArray} (h : 0 < s.size) : spoilX s = txt [s[0] ^^^ 1] ++ s.extract 1 s.size := by
  obtain ⟨d⟩ := s
  have hd : 0 < d.size := h
  obtain ⟨l⟩ := d
  cases l with
  | nil => exact absurd hd (by simp)
  | cons b r =>
    unfold spoilX
    show txt ((b ^^^ 1) :: r) = txt [b ^^^ 1] ++ _
    have e : (⟨⟨b :: r⟩⟩ : ByteArray).extract 1 (⟨⟨b :: r⟩⟩ : ByteArray).size = txt r := by
      apply text_of
      rw [ByteArray.data_extract]
      show ((⟨b :: r⟩ : Array UInt8).extract 1 (b :: r).length).toList = (txt r).data.toList
      rw [Array.toList_extract]
      simp [txt]
    rw [e, txt_append]
    first | rfl | skip
set_option maxRecDepth 100000 in
theorem spoilX_any (s : ByteArray) (w : World) (hs : s.size ≤ 1000000) :
    Calls Tryz.prog 38 #[.string s] w fun e w' => e = .returned (.string (spoilX s)) ∧ Below w.heap.size w w' := by
  by_cases h0 : s.size = 0
  · have hX : spoilX s = ⟨#[120]⟩ := by
      unfold spoilX
      have : s.data.toList = [] := List.eq_nil_of_length_eq_zero (by rw [Array.length_toList]; exact h0)
      rw [this]
    have HX := Lib.hid hX
    have h1 : ((s.size : Int) == 0) = true := by rw [beq_iff_eq]; omega
    clear hX h0
    go_enter Tryz.func38, Tryz.ntmps38
    go_wp2
    go_ret
    exact ⟨by rw [HX.out]; rfl, Below.refl _ _⟩
  · have h1 : ((s.size : Int) == 0) = false := by rw [beq_eq_false_iff_ne]; omega
    have h2 : 0 < s.size := by omega
    have h3 : (1 : Int) ≤ (s.size : Int) := by omega
    have h4 : 1 ≤ s.size := by omega
    clear h0
    go_enter Tryz.func38, Tryz.ntmps38
    go_wp2
    refine wp_region_taken (fun _ => True) [0, 1, 2, 5, 6] [3, 4, 7, 8] (by kernel_rfl) (by kernel_rfl) (by intro c d v a w h; cases d <;> exact h) trivial ?_
    simp only [pickOps, List.filterMap_cons, List.filterMap_nil, List.getElem?_cons_zero, List.getElem?_cons_succ]
    repeat (first | go_big_quiet_step (fail) | quiet_step (fail))
    refine wpQuiet_nil ?_
    refine wpSeq_one rfl (fun K' hK => ?_)
    go_wp2
    refine hK _ _ trivial ?_
    clear hK K'
    have hcv : (convert 118 9 (.slice (some ⟨w.heap.size, 0, none⟩) 1 1)).run Tryz.prog (w.alloc (.cells #[.int .u8 (bits BinOp.xor IntKind.u8 (s[0].toNat : Int) 1)] 5)).drew = .ok (.string (txt [s[0] ^^^ 1])) (w.alloc (.cells #[.int .u8 (bits BinOp.xor IntKind.u8 (s[0].toNat : Int) 1)] 5)).drew :=
      conv1 w.drew (s[0] ^^^ 1) _ (xor8 s[0])
    have HX := Lib.hid (spoilX_is h2)
    have HZ1 := Lib.hid (show (txt [s[0] ^^^ 1]).size = 1 by rw [txt_size]; rfl)
    refine wpSeq_one rfl (fun K' hK => ?_)
    go_wp2
    refine hK _ _ trivial ?_
    clear hK K' hcv
    have hz1 : (txt [s[0] ^^^ 1]).size ≤ 1 := by rw [HZ1.out]; exact Nat.le_refl _
    have hz2 : (s.extract 1 s.size).size ≤ 1000000 := by rw [ByteArray.size_extract]; omega
    refine wpSeq_one rfl (fun K' hK => ?_)
    go_wp2
    refine hK _ _ trivial ?_
    clear hK K'
    refine wpSeq_last rfl (fun K' hK => ?_)
    go_wp2
    refine hK _ _ ?_
    clear hK K'
    go_wp2
    go_ret
    exact ⟨by rw [HX.out]; rfl, ((Below.refl _ _).alloc (Nat.le_refl _) _).drew⟩
end Go.Proofs.YtgjmbokfenpefaaGreatDoor
/- The law's spoilt: an answer, spoilt in one place. -/
namespace Go.Proofs.YtgjmbokfenpefaaGreatDoor
open Go.RowKit

def text16 : ByteArray := ⟨#[48, 49, 50, 51, 52, 53, 54, 55, 56, 57, 97, 98, 99, 100, 101, 102]⟩
def spoiltA (a : Answ) (k : Int) : Answ :=
  if k = 1 then { a with value := spoilX a.value }
  else if k = 2 then { a with opening := spoilX a.opening }
  else if k = 3 then { a with sgn := { a.sgn with head := { a.sgn.head with root := spoilX a.sgn.head.root } } }
  else if k = 4 then { a with sgn := { a.sgn with head := { a.sgn.head with epoch := wrap64 (a.sgn.head.epoch + 1) } } }
  else if k = 5 then { a with sgn := { a.sgn with key := wrap64 (7 - a.sgn.key) } }
  else if k = 6 then { a with leaf := (a.leaf.1, spoilX a.leaf.2) }
  else if k = 7 then { a with path := text16 :: a.path }
  else if k = 8 then (if 3 < a.sgn.sig.length then { a with sgn := { a.sgn with sig := spoilX (a.sgn.sig.getD 0 ⟨#[]⟩) :: a.sgn.sig.drop 1 } } else a)
  else a
theorem row_oneS (w : World) (s : ByteArray) (t : TypeId) : Row (w.alloc (.cells #[.string s] t)) w.heap.size 1 (.slice (some ⟨w.heap.size, 0, none⟩) 1 1) 1 (stCells [s]) :=
  ⟨rfl, .inr ⟨w.heap.size, 1, rfl, Nat.le_refl _, by simp, Nat.le_refl 1, fun j u hj => by
    cases j with
    | zero => simp [stCells] at hj; subst hj; exact cell_of_row _ w.heap.size 0 _ t (0, 0) (heap_alloc_new _ _)
    | succ j => simp [stCells] at hj, fun j hj => by
    obtain rfl : j = 0 := by omega
    have h := Holds.new w 1 (fun _ => .string s) t
    exact ⟨by rw [show (w.alloc (.cells #[.string s] t)).cell? ⟨w.heap.size, 0, none⟩ = some (.string s) from h.cell 0 (by omega)]; rfl, h.free 0⟩⟩⟩
theorem Strs.drop1 {w : World} {a : Addr} {L : List ByteArray} (h : Strs w (some a) L) : Strs w (some (a.add 1)) (L.drop 1) := fun i p hp => by
  rw [List.getElem?_drop] at hp
  obtain ⟨a', ha, hl, hc⟩ := h (1 + i) p hp
  obtain rfl := Option.some.inj ha
  exact ⟨a.add 1, rfl, by rw [block_add]; exact hl, by rw [add_add']; exact hc⟩
theorem put11_box {w : World} {A : Option Addr} {L : List ByteArray} (h : Strs w A L) {q : Nat} (hq : ∀ a, A = some a → 0 < L.length → a.block ≠ q) (m : SgM) (C : Option Addr) (n cc : Nat) (x : It) (o v : ByteArray) : Strs (put11 w q m C n cc x o v) A L :=
  (((((((((((h.box hq 0 _).box hq 1 _).box hq 2 _).box hq 3 _).box hq 4 _).box hq 5 _).box hq 6 _).box hq 7 _).box hq 8 _).box hq 9 _).box hq 10 _)
set_option maxHeartbeats 4000000 in
set_option maxRecDepth 100000 in
theorem spoilt_a (h : Hd) (key : Int) (S P W : List ByteArray) (x : It) (o vl : ByteArray) (A B C : Option Addr) (ca cb cc : Nat) (k : Int) (hk7 : k ≠ 7) (hk8 : k ≠ 8) (w : World) (hA : Strs w A S) (hB : Strs w B P) (hW : Strs w C W) (_hls : S.length ≤ 1000) (_hlw : W.length ≤ 1000)
    (ho : o.size ≤ 1000000) (hv : vl.size ≤ 1000000) (hx2 : x.2.size ≤ 1000000) (hrt : h.root.size ≤ 1000000) (hca : S.length ≤ ca) (hsg : ∀ p ∈ S, p.size ≤ 1000000) :
    Calls Tryz.prog 15 #[.agg #[.int .i64 h.epoch, .string h.root, .string h.prev, .int .i64 key, .slice A S.length ca, .slice B P.length cb, .slice C W.length cc, .string x.1, .string x.2, .string o, .string vl], .int .i64 k] w fun e w' => ∃ m' : AnM,
      e = .returned (.agg m'.cells) ∧ AnIn w' m' (spoiltA ⟨⟨h, key, S, P⟩, W, x, o, vl⟩ k) ∧ AnNear w ⟨⟨⟨h, key, S, P⟩, A, ca, B, cb⟩, C, cc, ⟨⟨h, key, S, P⟩, W, x, o, vl⟩⟩ m' ∧ Below w.heap.size w w' := by
  have HA := Lib.hid hA
  have HB := Lib.hid hB
  have HW := Lib.hid hW
  have HAL := Lib.hid hA.lt
  have HBL := Lib.hid hB.lt
  have HWL := Lib.hid hW.lt
  have HSG := Lib.hid hsg
  have HB0 := Lib.hid (show Below w.heap.size w ((w.alloc (.cells #[.int .i64 h.epoch, .string h.root, .string h.prev, .int .i64 key, .slice A S.length ca, .slice B P.length cb, .slice C W.length cc, .string x.1, .string x.2, .string o, .string vl] 63)).alloc (.cells #[.int .i64 0, .string ⟨#[]⟩, .string ⟨#[]⟩, .int .i64 0, .slice none 0 0, .slice none 0 0, .slice none 0 0, .string ⟨#[]⟩, .string ⟨#[]⟩, .string ⟨#[]⟩, .string ⟨#[]⟩] 63)) from
    ((Below.refl _ w).alloc (Nat.le_refl _) _).alloc (by simp) _)
  have HX0 := Lib.hid (show Holds ((w.alloc (.cells #[.int .i64 h.epoch, .string h.root, .string h.prev, .int .i64 key, .slice A S.length ca, .slice B P.length cb, .slice C W.length cc, .string x.1, .string x.2, .string o, .string vl] 63)).alloc (.cells #[.int .i64 0, .string ⟨#[]⟩, .string ⟨#[]⟩, .int .i64 0, .slice none 0 0, .slice none 0 0, .slice none 0 0, .string ⟨#[]⟩, .string ⟨#[]⟩, .string ⟨#[]⟩, .string ⟨#[]⟩] 63)) w.heap.size 11 (anF ⟨⟨h, key, S, P⟩, A, ca, B, cb⟩ C W.length cc x o vl) 63 from
    (Holds.new w 11 (anF ⟨⟨h, key, S, P⟩, A, ca, B, cb⟩ C W.length cc x o vl) 63).alloc _)
  have HZ0 := Lib.hid (show Holds ((w.alloc (.cells #[.int .i64 h.epoch, .string h.root, .string h.prev, .int .i64 key, .slice A S.length ca, .slice B P.length cb, .slice C W.length cc, .string x.1, .string x.2, .string o, .string vl] 63)).alloc (.cells #[.int .i64 0, .string ⟨#[]⟩, .string ⟨#[]⟩, .int .i64 0, .slice none 0 0, .slice none 0 0, .slice none 0 0, .string ⟨#[]⟩, .string ⟨#[]⟩, .string ⟨#[]⟩, .string ⟨#[]⟩] 63)) (w.heap.size + 1) 11 noAnF 63 from by
    have h1 := Holds.new (w.alloc (.cells #[.int .i64 h.epoch, .string h.root, .string h.prev, .int .i64 key, .slice A S.length ca, .slice B P.length cb, .slice C W.length cc, .string x.1, .string x.2, .string o, .string vl] 63)) 11 noAnF 63
    rw [World.size_alloc] at h1
    exact h1)
  clear hA hB hW hsg
  go_enter Tryz.func15, Tryz.ntmps15
  go_upto_region 1 with (fail)
  generalize ((w.alloc (.cells #[.int .i64 h.epoch, .string h.root, .string h.prev, .int .i64 key, .slice A S.length ca, .slice B P.length cb, .slice C W.length cc, .string x.1, .string x.2, .string o, .string vl] 63)).alloc (.cells #[.int .i64 0, .string ⟨#[]⟩, .string ⟨#[]⟩, .int .i64 0, .slice none 0 0, .slice none 0 0, .slice none 0 0, .string ⟨#[]⟩, .string ⟨#[]⟩, .string ⟨#[]⟩, .string ⟨#[]⟩] 63)) = w0 at HB0 HX0 HZ0 ⊢
  obtain ⟨c0, c1, c2, c3, c4, c5, c6, c7, c8, c9, c10⟩ := an_cells HX0.out
  rcases (show k = 1 ∨ k = 2 ∨ k = 3 ∨ k = 4 ∨ k = 5 ∨ k = 6 ∨ (k ≠ 1 ∧ k ≠ 2 ∧ k ≠ 3 ∧ k ≠ 4 ∧ k ≠ 5 ∧ k ≠ 6) by omega) with h1 | h2 | h3 | h4 | h5 | h6 | hr
  case' inl =>
    subst h1
    go_wp2_with fail
    refine (spoilX_any vl _ hv).mono ?_
    rintro e w1 ⟨rfl, hb1⟩
    have HB1 := Lib.hid (HB0.out.trans (hb1.mono HB0.out.size))
    have HX1 := Lib.hid (HX0.out.below hb1 HX0.out.lt)
    have HZ1 := Lib.hid (HZ0.out.below hb1 HZ0.out.lt)
    clear hb1 c0 c1 c2 c3 c4 c5 c6 c7 c8 c9 c10
    have t0 : w1.cell? ⟨w.heap.size, 10, none⟩ = some (.string vl) := HX1.out.cell 10 (by omega)
    have t1 : w1.frozen? ⟨w.heap.size, 10, none⟩ = false := HX1.out.free 10
    have HP := Lib.hid (show ∃ m' : AnM, SpAt w (w1.setCell ⟨w.heap.size, 10, none⟩ (.string (spoilX vl))) ⟨⟨⟨h, key, S, P⟩, A, ca, B, cb⟩, C, cc, ⟨⟨h, key, S, P⟩, W, x, o, vl⟩⟩ m' (spoiltA ⟨⟨h, key, S, P⟩, W, x, o, vl⟩ 1) from ⟨⟨⟨⟨h, key, S, P⟩, A, ca, B, cb⟩, C, cc, ⟨⟨h, key, S, P⟩, W, x, o, spoilX vl⟩⟩, ⟨HX1.out.one 10 _ (fun j hj => by rcases (show j = 0 ∨ j = 1 ∨ j = 2 ∨ j = 3 ∨ j = 4 ∨ j = 5 ∨ j = 6 ∨ j = 7 ∨ j = 8 ∨ j = 9 ∨ j = 10 by omega) with rfl | rfl | rfl | rfl | rfl | rfl | rfl | rfl | rfl | rfl | rfl <;> rfl), HZ1.out.other (show w.heap.size + 1 ≠ w.heap.size by omega) _, HB1.out.setCell (Nat.le_refl _) _, ⟨rfl, rfl, Strs.box (HA.out.below HB1.out) (fun a e l => by have := HAL.out a e l; omega) _ _, Strs.box (HB.out.below HB1.out) (fun a e l => by have := HBL.out a e l; omega) _ _, Strs.box (HW.out.below HB1.out) (fun a e l => by have := HWL.out a e l; omega) _ _, hca⟩, ⟨.inl ⟨rfl, rfl⟩, ⟨rfl, rfl⟩, .inl ⟨rfl, rfl⟩⟩, (fun a e l => by have := HAL.out a e l; omega), (fun a e l => by have := HBL.out a e l; omega), (fun a e l => by have := HWL.out a e l; omega)⟩⟩)
    go_upto_region 20 with (fail)
    clear t0 t1 HB1 HX1 HZ1 HB0 HX0 HZ0
    generalize w1.setCell ⟨w.heap.size, 10, none⟩ (.string (spoilX vl)) = wz at HP ⊢
  case' inr.inl =>
    subst h2
    go_wp2_with fail
    refine (spoilX_any o _ ho).mono ?_
    rintro e w1 ⟨rfl, hb1⟩
    have HB1 := Lib.hid (HB0.out.trans (hb1.mono HB0.out.size))
    have HX1 := Lib.hid (HX0.out.below hb1 HX0.out.lt)
    have HZ1 := Lib.hid (HZ0.out.below hb1 HZ0.out.lt)
    clear hb1 c0 c1 c2 c3 c4 c5 c6 c7 c8 c9 c10
    have t0 : w1.cell? ⟨w.heap.size, 9, none⟩ = some (.string o) := HX1.out.cell 9 (by omega)
    have t1 : w1.frozen? ⟨w.heap.size, 9, none⟩ = false := HX1.out.free 9
    have HP := Lib.hid (show ∃ m' : AnM, SpAt w (w1.setCell ⟨w.heap.size, 9, none⟩ (.string (spoilX o))) ⟨⟨⟨h, key, S, P⟩, A, ca, B, cb⟩, C, cc, ⟨⟨h, key, S, P⟩, W, x, o, vl⟩⟩ m' (spoiltA ⟨⟨h, key, S, P⟩, W, x, o, vl⟩ 2) from ⟨⟨⟨⟨h, key, S, P⟩, A, ca, B, cb⟩, C, cc, ⟨⟨h, key, S, P⟩, W, x, spoilX o, vl⟩⟩, ⟨HX1.out.one 9 _ (fun j hj => by rcases (show j = 0 ∨ j = 1 ∨ j = 2 ∨ j = 3 ∨ j = 4 ∨ j = 5 ∨ j = 6 ∨ j = 7 ∨ j = 8 ∨ j = 9 ∨ j = 10 by omega) with rfl | rfl | rfl | rfl | rfl | rfl | rfl | rfl | rfl | rfl | rfl <;> rfl), HZ1.out.other (show w.heap.size + 1 ≠ w.heap.size by omega) _, HB1.out.setCell (Nat.le_refl _) _, ⟨rfl, rfl, Strs.box (HA.out.below HB1.out) (fun a e l => by have := HAL.out a e l; omega) _ _, Strs.box (HB.out.below HB1.out) (fun a e l => by have := HBL.out a e l; omega) _ _, Strs.box (HW.out.below HB1.out) (fun a e l => by have := HWL.out a e l; omega) _ _, hca⟩, ⟨.inl ⟨rfl, rfl⟩, ⟨rfl, rfl⟩, .inl ⟨rfl, rfl⟩⟩, (fun a e l => by have := HAL.out a e l; omega), (fun a e l => by have := HBL.out a e l; omega), (fun a e l => by have := HWL.out a e l; omega)⟩⟩)
    go_upto_region 20 with (fail)
    clear t0 t1 HB1 HX1 HZ1 HB0 HX0 HZ0
    generalize w1.setCell ⟨w.heap.size, 9, none⟩ (.string (spoilX o)) = wz at HP ⊢
  case' inr.inr.inl =>
    subst h3
    go_wp2_with fail
    refine (spoilX_any h.root _ hrt).mono ?_
    rintro e w1 ⟨rfl, hb1⟩
    have HB1 := Lib.hid (HB0.out.trans (hb1.mono HB0.out.size))
    have HX1 := Lib.hid (HX0.out.below hb1 HX0.out.lt)
    have HZ1 := Lib.hid (HZ0.out.below hb1 HZ0.out.lt)
    clear hb1 c0 c1 c2 c3 c4 c5 c6 c7 c8 c9 c10
    have t0 : w1.cell? ⟨w.heap.size, 1, none⟩ = some (.string h.root) := HX1.out.cell 1 (by omega)
    have t1 : w1.frozen? ⟨w.heap.size, 1, none⟩ = false := HX1.out.free 1
    have HP := Lib.hid (show ∃ m' : AnM, SpAt w (w1.setCell ⟨w.heap.size, 1, none⟩ (.string (spoilX h.root))) ⟨⟨⟨h, key, S, P⟩, A, ca, B, cb⟩, C, cc, ⟨⟨h, key, S, P⟩, W, x, o, vl⟩⟩ m' (spoiltA ⟨⟨h, key, S, P⟩, W, x, o, vl⟩ 3) from ⟨⟨⟨⟨⟨h.epoch, spoilX h.root, h.prev⟩, key, S, P⟩, A, ca, B, cb⟩, C, cc, ⟨⟨⟨h.epoch, spoilX h.root, h.prev⟩, key, S, P⟩, W, x, o, vl⟩⟩, ⟨HX1.out.one 1 _ (fun j hj => by rcases (show j = 0 ∨ j = 1 ∨ j = 2 ∨ j = 3 ∨ j = 4 ∨ j = 5 ∨ j = 6 ∨ j = 7 ∨ j = 8 ∨ j = 9 ∨ j = 10 by omega) with rfl | rfl | rfl | rfl | rfl | rfl | rfl | rfl | rfl | rfl | rfl <;> rfl), HZ1.out.other (show w.heap.size + 1 ≠ w.heap.size by omega) _, HB1.out.setCell (Nat.le_refl _) _, ⟨rfl, rfl, Strs.box (HA.out.below HB1.out) (fun a e l => by have := HAL.out a e l; omega) _ _, Strs.box (HB.out.below HB1.out) (fun a e l => by have := HBL.out a e l; omega) _ _, Strs.box (HW.out.below HB1.out) (fun a e l => by have := HWL.out a e l; omega) _ _, hca⟩, ⟨.inl ⟨rfl, rfl⟩, ⟨rfl, rfl⟩, .inl ⟨rfl, rfl⟩⟩, (fun a e l => by have := HAL.out a e l; omega), (fun a e l => by have := HBL.out a e l; omega), (fun a e l => by have := HWL.out a e l; omega)⟩⟩)
    go_upto_region 20 with (fail)
    clear t0 t1 HB1 HX1 HZ1 HB0 HX0 HZ0
    generalize w1.setCell ⟨w.heap.size, 1, none⟩ (.string (spoilX h.root)) = wz at HP ⊢
  case' inr.inr.inr.inl =>
    subst h4
    have HB1 := HB0
    have HX1 := HX0
    have HZ1 := HZ0
    have t1 : w0.frozen? ⟨w.heap.size, 0, none⟩ = false := HX1.out.free 0
    have HP := Lib.hid (show ∃ m' : AnM, SpAt w (w0.setCell ⟨w.heap.size, 0, none⟩ (.int .i64 (wrap64 (h.epoch + 1)))) ⟨⟨⟨h, key, S, P⟩, A, ca, B, cb⟩, C, cc, ⟨⟨h, key, S, P⟩, W, x, o, vl⟩⟩ m' (spoiltA ⟨⟨h, key, S, P⟩, W, x, o, vl⟩ 4) from ⟨⟨⟨⟨⟨wrap64 (h.epoch + 1), h.root, h.prev⟩, key, S, P⟩, A, ca, B, cb⟩, C, cc, ⟨⟨⟨wrap64 (h.epoch + 1), h.root, h.prev⟩, key, S, P⟩, W, x, o, vl⟩⟩, ⟨HX1.out.one 0 _ (fun j hj => by rcases (show j = 0 ∨ j = 1 ∨ j = 2 ∨ j = 3 ∨ j = 4 ∨ j = 5 ∨ j = 6 ∨ j = 7 ∨ j = 8 ∨ j = 9 ∨ j = 10 by omega) with rfl | rfl | rfl | rfl | rfl | rfl | rfl | rfl | rfl | rfl | rfl <;> rfl), HZ1.out.other (show w.heap.size + 1 ≠ w.heap.size by omega) _, HB1.out.setCell (Nat.le_refl _) _, ⟨rfl, rfl, Strs.box (HA.out.below HB1.out) (fun a e l => by have := HAL.out a e l; omega) _ _, Strs.box (HB.out.below HB1.out) (fun a e l => by have := HBL.out a e l; omega) _ _, Strs.box (HW.out.below HB1.out) (fun a e l => by have := HWL.out a e l; omega) _ _, hca⟩, ⟨.inl ⟨rfl, rfl⟩, ⟨rfl, rfl⟩, .inl ⟨rfl, rfl⟩⟩, (fun a e l => by have := HAL.out a e l; omega), (fun a e l => by have := HBL.out a e l; omega), (fun a e l => by have := HWL.out a e l; omega)⟩⟩)
    go_upto_region 20 with (fail)
    clear t1 HB1 HX1 HZ1 HB0 HX0 HZ0 c0 c1 c2 c3 c4 c5 c6 c7 c8 c9 c10
    generalize w0.setCell ⟨w.heap.size, 0, none⟩ (.int .i64 (wrap64 (h.epoch + 1))) = wz at HP ⊢
  case' inr.inr.inr.inr.inl =>
    subst h5
    have HB1 := HB0
    have HX1 := HX0
    have HZ1 := HZ0
    have t1 : w0.frozen? ⟨w.heap.size, 3, none⟩ = false := HX1.out.free 3
    have HP := Lib.hid (show ∃ m' : AnM, SpAt w (w0.setCell ⟨w.heap.size, 3, none⟩ (.int .i64 (wrap64 (7 - key)))) ⟨⟨⟨h, key, S, P⟩, A, ca, B, cb⟩, C, cc, ⟨⟨h, key, S, P⟩, W, x, o, vl⟩⟩ m' (spoiltA ⟨⟨h, key, S, P⟩, W, x, o, vl⟩ 5) from ⟨⟨⟨⟨h, (wrap64 (7 - key)), S, P⟩, A, ca, B, cb⟩, C, cc, ⟨⟨h, (wrap64 (7 - key)), S, P⟩, W, x, o, vl⟩⟩, ⟨HX1.out.one 3 _ (fun j hj => by rcases (show j = 0 ∨ j = 1 ∨ j = 2 ∨ j = 3 ∨ j = 4 ∨ j = 5 ∨ j = 6 ∨ j = 7 ∨ j = 8 ∨ j = 9 ∨ j = 10 by omega) with rfl | rfl | rfl | rfl | rfl | rfl | rfl | rfl | rfl | rfl | rfl <;> rfl), HZ1.out.other (show w.heap.size + 1 ≠ w.heap.size by omega) _, HB1.out.setCell (Nat.le_refl _) _, ⟨rfl, rfl, Strs.box (HA.out.below HB1.out) (fun a e l => by have := HAL.out a e l; omega) _ _, Strs.box (HB.out.below HB1.out) (fun a e l => by have := HBL.out a e l; omega) _ _, Strs.box (HW.out.below HB1.out) (fun a e l => by have := HWL.out a e l; omega) _ _, hca⟩, ⟨.inl ⟨rfl, rfl⟩, ⟨rfl, rfl⟩, .inl ⟨rfl, rfl⟩⟩, (fun a e l => by have := HAL.out a e l; omega), (fun a e l => by have := HBL.out a e l; omega), (fun a e l => by have := HWL.out a e l; omega)⟩⟩)
    go_upto_region 20 with (fail)
    clear t1 HB1 HX1 HZ1 HB0 HX0 HZ0 c0 c1 c2 c3 c4 c5 c6 c7 c8 c9 c10
    generalize w0.setCell ⟨w.heap.size, 3, none⟩ (.int .i64 (wrap64 (7 - key))) = wz at HP ⊢
  case' inr.inr.inr.inr.inr.inl =>
    subst h6
    go_wp2_with fail
    refine (spoilX_any x.2 _ hx2).mono ?_
    rintro e w1 ⟨rfl, hb1⟩
    have HB1 := Lib.hid (HB0.out.trans (hb1.mono HB0.out.size))
    have HX1 := Lib.hid (HX0.out.below hb1 HX0.out.lt)
    have HZ1 := Lib.hid (HZ0.out.below hb1 HZ0.out.lt)
    clear hb1 c0 c1 c2 c3 c4 c5 c6 c7 c8 c9 c10
    have t0 : w1.cell? ⟨w.heap.size, 8, none⟩ = some (.string x.2) := HX1.out.cell 8 (by omega)
    have t1 : w1.frozen? ⟨w.heap.size, 8, none⟩ = false := HX1.out.free 8
    have HP := Lib.hid (show ∃ m' : AnM, SpAt w (w1.setCell ⟨w.heap.size, 8, none⟩ (.string (spoilX x.2))) ⟨⟨⟨h, key, S, P⟩, A, ca, B, cb⟩, C, cc, ⟨⟨h, key, S, P⟩, W, x, o, vl⟩⟩ m' (spoiltA ⟨⟨h, key, S, P⟩, W, x, o, vl⟩ 6) from ⟨⟨⟨⟨h, key, S, P⟩, A, ca, B, cb⟩, C, cc, ⟨⟨h, key, S, P⟩, W, (x.1, spoilX x.2), o, vl⟩⟩, ⟨HX1.out.one 8 _ (fun j hj => by rcases (show j = 0 ∨ j = 1 ∨ j = 2 ∨ j = 3 ∨ j = 4 ∨ j = 5 ∨ j = 6 ∨ j = 7 ∨ j = 8 ∨ j = 9 ∨ j = 10 by omega) with rfl | rfl | rfl | rfl | rfl | rfl | rfl | rfl | rfl | rfl | rfl <;> rfl), HZ1.out.other (show w.heap.size + 1 ≠ w.heap.size by omega) _, HB1.out.setCell (Nat.le_refl _) _, ⟨rfl, rfl, Strs.box (HA.out.below HB1.out) (fun a e l => by have := HAL.out a e l; omega) _ _, Strs.box (HB.out.below HB1.out) (fun a e l => by have := HBL.out a e l; omega) _ _, Strs.box (HW.out.below HB1.out) (fun a e l => by have := HWL.out a e l; omega) _ _, hca⟩, ⟨.inl ⟨rfl, rfl⟩, ⟨rfl, rfl⟩, .inl ⟨rfl, rfl⟩⟩, (fun a e l => by have := HAL.out a e l; omega), (fun a e l => by have := HBL.out a e l; omega), (fun a e l => by have := HWL.out a e l; omega)⟩⟩)
    go_upto_region 20 with (fail)
    clear t0 t1 HB1 HX1 HZ1 HB0 HX0 HZ0
    generalize w1.setCell ⟨w.heap.size, 8, none⟩ (.string (spoilX x.2)) = wz at HP ⊢
  case' inr.inr.inr.inr.inr.inr =>
    obtain ⟨h1, h2, h3, h4, h5, h6⟩ := hr
    have h7 := hk7
    have h8 := hk8
    clear hk7 hk8
    have e1 : (k == 1) = false := by rw [beq_eq_false_iff_ne]; exact h1
    have e2 : (k == 2) = false := by rw [beq_eq_false_iff_ne]; exact h2
    have e3 : (k == 3) = false := by rw [beq_eq_false_iff_ne]; exact h3
    have e4 : (k == 4) = false := by rw [beq_eq_false_iff_ne]; exact h4
    have e5 : (k == 5) = false := by rw [beq_eq_false_iff_ne]; exact h5
    have e6 : (k == 6) = false := by rw [beq_eq_false_iff_ne]; exact h6
    have e7 : (k == 7) = false := by rw [beq_eq_false_iff_ne]; exact h7
    have e8 : (k == 8) = false := by rw [beq_eq_false_iff_ne]; exact h8
    have HP := Lib.hid (show ∃ m' : AnM, SpAt w w0 ⟨⟨⟨h, key, S, P⟩, A, ca, B, cb⟩, C, cc, ⟨⟨h, key, S, P⟩, W, x, o, vl⟩⟩ m' (spoiltA ⟨⟨h, key, S, P⟩, W, x, o, vl⟩ k) from ⟨⟨⟨⟨h, key, S, P⟩, A, ca, B, cb⟩, C, cc, ⟨⟨h, key, S, P⟩, W, x, o, vl⟩⟩, ⟨HX0.out, HZ0.out, HB0.out, ⟨(by unfold spoiltA; rw [if_neg h1, if_neg h2, if_neg h3, if_neg h4, if_neg h5, if_neg h6, if_neg h7, if_neg h8]), (by unfold spoiltA; rw [if_neg h1, if_neg h2, if_neg h3, if_neg h4, if_neg h5, if_neg h6, if_neg h7, if_neg h8]), (by unfold spoiltA; rw [if_neg h1, if_neg h2, if_neg h3, if_neg h4, if_neg h5, if_neg h6, if_neg h7, if_neg h8]; exact HA.out.below HB0.out), (by unfold spoiltA; rw [if_neg h1, if_neg h2, if_neg h3, if_neg h4, if_neg h5, if_neg h6, if_neg h7, if_neg h8]; exact HB.out.below HB0.out), (by unfold spoiltA; rw [if_neg h1, if_neg h2, if_neg h3, if_neg h4, if_neg h5, if_neg h6, if_neg h7, if_neg h8]; exact HW.out.below HB0.out), (by unfold spoiltA; rw [if_neg h1, if_neg h2, if_neg h3, if_neg h4, if_neg h5, if_neg h6, if_neg h7, if_neg h8]; exact hca)⟩, ⟨.inl ⟨rfl, rfl⟩, ⟨rfl, rfl⟩, .inl ⟨rfl, rfl⟩⟩, (fun a e l => by have := HAL.out a e l; omega), (fun a e l => by have := HBL.out a e l; omega), (fun a e l => by have := HWL.out a e l; omega)⟩⟩)
    clear h1 h2 h3 h4 h5 h6 h7 h8
    go_upto_region 20 with (fail)
    clear HB0 HX0 HZ0 c0 c1 c2 c3 c4 c5 c6 c7 c8 c9 c10 e1 e2 e3 e4 e5 e6 e7 e8
    generalize w0 = wz at HP ⊢
  all_goals
    obtain ⟨m', hsp⟩ := HP.out
    have HSP := Lib.hid hsp
    obtain ⟨d0, d1, d2, d3, d4, d5, d6, d7, d8, d9, d10⟩ := an_cells (show Holds wz w.heap.size 11 (anF m'.sg m'.C m'.a.path.length m'.cc m'.a.leaf m'.a.opening m'.a.value) 63 from hsp.box)
    obtain ⟨z0, z1, z2, z3, z4, z5, z6, z7, z8, z9, z10⟩ := an_cells (show Holds wz (w.heap.size + 1) 11 (anF noM none 0 0 noIt ⟨#[]⟩ ⟨#[]⟩) 63 from hsp.res)
    have f0 := hsp.res.free 0
    have f1 := hsp.res.free 1
    have f2 := hsp.res.free 2
    have f3 := hsp.res.free 3
    have f4 := hsp.res.free 4
    have f5 := hsp.res.free 5
    have f6 := hsp.res.free 6
    have f7 := hsp.res.free 7
    have f8 := hsp.res.free 8
    have f9 := hsp.res.free 9
    have f10 := hsp.res.free 10
    have HFIN := Lib.hid (put11_holds hsp.res m'.sg m'.C m'.a.path.length m'.cc m'.a.leaf m'.a.opening m'.a.value)
    have HFB := Lib.hid (put11_below hsp.below (Nat.le_succ _) m'.sg m'.C m'.a.path.length m'.cc m'.a.leaf m'.a.opening m'.a.value)
    have HAN := Lib.hid (show AnIn (put11 wz (w.heap.size + 1) m'.sg m'.C m'.a.path.length m'.cc m'.a.leaf m'.a.opening m'.a.value) m' _ from
      ⟨hsp.is.is, hsp.is.sgn, put11_box hsp.is.sig (fun a e l => hsp.ga a e (by rw [hsp.is.sgn]; exact l)) _ _ _ _ _ _ _, put11_box hsp.is.path (fun a e l => hsp.gb a e (by rw [hsp.is.sgn]; exact l)) _ _ _ _ _ _ _, put11_box hsp.is.way (fun a e l => hsp.gc a e (by rw [hsp.is.is]; exact l)) _ _ _ _ _ _ _, hsp.is.cap⟩)
    clear hsp HP
    go_wp2
    refine bodyPost_ret (results_cell_row rfl _ _ (w.heap.size + 1) 63 (arr 11 (anFM m')) (0, 0) _ rfl HFIN.out Tryz.underlying63 rfl (by rw [arr_size]; exact infoAnsw)) rfl ?_
    exact ⟨m', rfl, HAN.out, HSP.out.near, HFB.out⟩
end Go.Proofs.YtgjmbokfenpefaaGreatDoor
/- How great what a directory tells may be, spoilt or not. -/
namespace Go.Proofs.YtgjmbokfenpefaaGreatDoor
open Go.RowKit

theorem stepD_dim {d : Dst} (h : EpsDim d) (x : Hd) : EpsDim (stepD d x) := by
  unfold stepD
  split
  · unfold putAns
    repeat' split
    all_goals exact h
  · split
    · unfold publishAns
      split
      · intro s hs
        rcases List.mem_append.1 (show s ∈ d.eps ++ [nextSgn d] from hs) with hs | hs
        · exact h s hs
        · obtain rfl := List.mem_singleton.1 hs
          exact nextSgn_dim d
      · exact h
    · exact h
theorem playD_dim {d : Dst} (h : EpsDim d) (L : List Hd) : EpsDim (playD d L) := by
  unfold playD
  induction L generalizing d with
  | nil => exact h
  | cons x L ih => exact ih (stepD_dim h x)
theorem spoilX_size (s : ByteArray) (n : Nat) (h : s.size ≤ n) (h1 : 1 ≤ n) : (spoilX s).size ≤ n := by
  unfold spoilX
  have hl : s.data.toList.length = s.size := Array.length_toList
  cases e : s.data.toList with
  | nil => exact h1
  | cons b r =>
    rw [e] at hl
    simp only []
    rw [txt_size]
    simp at hl ⊢
    omega
theorem spoilt_dim {a : Answ} (h : AnsDim a) (k : Int) : SpDim (spoiltA a k) := by
  have base : SpDim a := h.sp
  unfold spoiltA
  split
  · exact ⟨base.ep, base.sig, base.path, base.way, base.op, spoilX_size _ _ h.val (by omega), base.l1, base.l2⟩
  split
  · exact ⟨base.ep, base.sig, base.path, base.way, spoilX_size _ _ h.op (by omega), base.val, base.l1, base.l2⟩
  split
  · exact ⟨base.ep, base.sig, base.path, base.way, base.op, base.val, base.l1, base.l2⟩
  split
  · exact ⟨wrap64_lt _, base.sig, base.path, base.way, base.op, base.val, base.l1, base.l2⟩
  split
  · exact ⟨base.ep, base.sig, base.path, base.way, base.op, base.val, base.l1, base.l2⟩
  split
  · exact ⟨base.ep, base.sig, base.path, base.way, base.op, base.val, base.l1, spoilX_size _ _ h.leaf (by omega)⟩
  split
  · exact ⟨base.ep, base.sig, base.path, by show (text16 :: a.path).length ≤ 129; have := h.way; simp; omega, base.op, base.val, base.l1, base.l2⟩
  split
  · split
    · refine ⟨base.ep, ?_, base.path, base.way, base.op, base.val, base.l1, base.l2⟩
      show (spoilX (a.sgn.sig.getD 0 ⟨#[]⟩) :: a.sgn.sig.drop 1).length ≤ 35
      have := h.sgn.sig
      simp
      omega
    · exact base
  · exact base
end Go.Proofs.YtgjmbokfenpefaaGreatDoor
