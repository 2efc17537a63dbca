/- Parts of the proof, one behind the other: RDirX, Acts, SpoilX, CopyOf, Append, AppT. -/
import Derived.Test.YtcfpmofmjnhonaaGreatDoorM26
import Derived.Test.YtcfpmofmjnhonaaGreatDoorM21
import Derived.Test.YtcfpmofmjnhonaaGreatDoorM17
import Derived.Test.YtcfpmofmjnhonaaGreatDoorM6
import Derived.Test.YtcfpmofmjnhonaaGreatDoorM5
import Derived.Test.YtcfpmofmjnhonaaGreatDoorM14
import Derived.Test.YtcfpmofmjnhonaaGreatDoorM19
import Derived.Test.YtcfpmofmjnhonaaGreatDoorM10
import Derived.Deep.AppendSrc
import Derived.Test.YtcfpmofmjnhonaaGreatDoorM13
/- The document's Publish, whatever there was. -/
namespace Go.Proofs.YtcfpmofmjnhonaaGreatDoor
open Go.RowKit Go.Maps

set_option maxRecDepth 100000 in
set_option maxHeartbeats 1000000 in
theorem refPublish_f (F : Nat → Prop) (p rb : Nat) (d : Dst) (w : World) (hd : RDir F w p rb d) (h8 : d.eps.length = 8) :
    Calls Tryz.prog 19 #[.pointer (some ⟨p, 0, none⟩)] w fun e w' => e = .returned (.tuple #[.agg #[.int .i64 0, .string ⟨#[]⟩, .string ⟨#[]⟩, .int .i64 0, .slice none 0 0, .slice none 0 0], .int .i64 12]) ∧ Below w.heap.size w w' := by
  obtain ⟨bb, g, m1, m2, m3, v, M, hd⟩ := hd
  have HD := Lib.hid hd
  have HME := Lib.hid (show M.length = 8 by rw [← h8, ← hd.eps, List.length_map])
  obtain ⟨w0, hw0⟩ : ∃ w0, w.alloc (.cells #[.int .i64 0, .string ⟨#[]⟩, .string ⟨#[]⟩, .int .i64 0, .slice none 0 0, .slice none 0 0] 54) = w0 := ⟨_, rfl⟩
  have hb0 : Below w.heap.size w w0 := by rw [← hw0]; exact alloc_below _ _
  have HB0 := Lib.hid hb0
  have HZ := Lib.hid (show Holds w0 w.heap.size 6 (sgF noHd 0 (.slice none 0 0) (.slice none 0 0)) 54 by rw [← hw0]; exact Holds.new w 6 (sgF noHd 0 (.slice none 0 0) (.slice none 0 0)) 54)
  obtain ⟨pv, cv, rfl⟩ := hd.row.any
  have c6 : w0.cell? ⟨p, 6, none⟩ = some (.slice pv M.length cv) := (hb0.cell (p := ⟨p, 6, none⟩) hd.own.lt).trans (hd.own.cell 6 (by omega))
  clear hd hb0 h8
  have h1 : (8 : Int) < ((M.length : Int) + 1) := by have := HME.out; omega
  have h2 : IntKind.i64.wrap ((M.length : Int) + 1) = (M.length : Int) + 1 := IntWalk.i64_in _ (by have := HME.out; omega)
  have p0 : w0.cell? ⟨w.heap.size, 0, none⟩ = some (.int .i64 0) := HZ.out.cell 0 (by omega)
  have p1 : w0.cell? ⟨w.heap.size, 1, none⟩ = some (.string ⟨#[]⟩) := HZ.out.cell 1 (by omega)
  have p2 : w0.cell? ⟨w.heap.size, 2, none⟩ = some (.string ⟨#[]⟩) := HZ.out.cell 2 (by omega)
  have p3 : w0.cell? ⟨w.heap.size, 3, none⟩ = some (.int .i64 0) := HZ.out.cell 3 (by omega)
  have p4 : w0.cell? ⟨w.heap.size, 4, none⟩ = some (.slice none 0 0) := HZ.out.cell 4 (by omega)
  have p5 : w0.cell? ⟨w.heap.size, 5, none⟩ = some (.slice none 0 0) := HZ.out.cell 5 (by omega)
  have f0 : w0.frozen? ⟨w.heap.size, 0, none⟩ = false := HZ.out.free 0
  have f1 : w0.frozen? ⟨w.heap.size, 1, none⟩ = false := HZ.out.free 1
  have f2 : w0.frozen? ⟨w.heap.size, 2, none⟩ = false := HZ.out.free 2
  have f3 : w0.frozen? ⟨w.heap.size, 3, none⟩ = false := HZ.out.free 3
  have f4 : w0.frozen? ⟨w.heap.size, 4, none⟩ = false := HZ.out.free 4
  have f5 : w0.frozen? ⟨w.heap.size, 5, none⟩ = false := HZ.out.free 5
  have HFIN := Lib.hid (put6_holds HZ.out noHd 0 (.slice none 0 0) (.slice none 0 0))
  have HFB := Lib.hid (put6_below HB0.out (Nat.le_refl _) noHd 0 (.slice none 0 0) (.slice none 0 0))
  go_enter Tryz.func19, Tryz.ntmps19
  go_wp2
  refine bodyPost_ret (results_row2 rfl _ _ w.heap.size 54 (arr 6 (sgF noHd 0 (.slice none 0 0) (.slice none 0 0))) (0, 0) _ rfl HFIN.out Tryz.underlying54 rfl (by rw [arr_size]; exact infoSg6)) rfl ?_
  exact ⟨rfl, HFB.out⟩
/-- Publish: the answer, and what the directory then is. -/
theorem refPublish_is (F : Nat → Prop) (p rb : Nat) (d d' : Dst) (sg : Sgn) (n : Int) (w : World) (hd : RDir F w p rb d) (hr : Holds w rb 72 refCells 121) (hs : d.secret.size ≤ 1000000) (hrb : ¬ F rb) (hl : d.vals.length ≤ 50000) (hlw : d.wait.length ≤ 50000) (hls : d.since.length ≤ 50000) (h8 : d.eps.length ≤ 8)
    (h : publishAns d = (d', sg, n)) :
    Calls Tryz.prog 19 #[.pointer (some ⟨p, 0, none⟩)] w fun e w' => ∃ (m : SgM) (F' : Nat → Prop), m.s = sg ∧ e = .returned (.tuple #[.agg #[.int .i64 sg.head.epoch, .string sg.head.root, .string sg.head.prev, .int .i64 sg.key, .slice m.A sg.sig.length m.ca, .slice m.B sg.path.length m.cb], .int .i64 n]) ∧ Off F w w' ∧ Grew w F F' ∧ RDir F' w' p rb d' ∧ SgIn F' w' m := by
  by_cases h9 : d.eps.length < 8
  · exact refPublish_t F p rb d d' sg n w hd hr hs hrb hl hlw hls h h9
  · unfold publishAns at h
    rw [if_neg h9] at h
    simp only [Prod.mk.injEq] at h
    obtain ⟨rfl, rfl, rfl⟩ := h
    refine (refPublish_f F p rb d w hd (by omega)).mono fun e w' ⟨he, hb⟩ => ⟨⟨noSgn, none, 0, none, 0⟩, F, rfl, he, Off.of_below hb, Grew.refl _ _, hd.below hb, Strs.nil _ _, Strs.nil _ _, (fun a e => by cases e), (fun a e => by cases e), Nat.le_refl 0⟩
end Go.Proofs.YtcfpmofmjnhonaaGreatDoor
/- The law's acts, and what is played with them on the document's directory. (An act lies as a head does: a number and two texts.) -/
namespace Go.Proofs.YtcfpmofmjnhonaaGreatDoor
open Go.RowKit Go.Maps

set_option maxRecDepth 100000 in
theorem acts_any (L : List Hd) (A : Option Addr) (cap : Nat) (w : World) (hm : Hds w A L) :
    Calls Tryz.prog 10 #[.slice A L.length cap] w fun e w' => ∃ b, e = .returned (.bool b) ∧ w' = w ∧ (b = true → L.length ≤ 80 ∧ ∀ x ∈ L, x.root.size ≤ 60 ∧ x.prev.size ≤ 60) := by
  have HM := Lib.hid hm
  clear hm
  by_cases hl : 80 < L.length
  · go_enter Tryz.func10, Tryz.ntmps10
    go_wp2
    go_ret
    exact ⟨false, rfl, rfl, fun h => by cases h⟩
  · go_enter Tryz.func10, Tryz.ntmps10
    go_wp2
    go_loopw [3] (fun i wr => ∃ k : Nat, k ≤ L.length ∧ i = .int .i64 (k : Int) ∧ wr = w ∧ Hid (∀ x ∈ L.take k, x.root.size ≤ 60 ∧ x.prev.size ≤ 60)) (fun i _ => L.length - (intOf i).toNat)
    case atStart => exact ⟨0, by omega, rfl, rfl, Lib.hid (by simp)⟩
    case round =>
      obtain ⟨k, hk, rfl, rfl, HU⟩ := hrel
      by_cases hlt : k < L.length
      · obtain ⟨a, rfl, hal, -, c1, c2⟩ := HM.out.at_ hlt
        have d1 : wr.cell? ⟨(a.add (k * 3)).block, (a.add (k * 3)).off + 1, none⟩ = some (.string (hdAt L k).root) := c1
        have d2 : wr.cell? ⟨(a.add (k * 3)).block, (a.add (k * 3)).off + 2, none⟩ = some (.string (hdAt L k).prev) := c2
        have HX := Lib.hid (show L[k]? = some (hdAt L k) by rw [List.getElem?_eq_getElem hlt, hdAt_of hlt])
        generalize hdAt L k = x at d1 d2 HX
        clear c1 c2
        go_wp2_with fail
        refine (long_any x.root _).mono ?_
        rintro e w1 ⟨rfl, rfl⟩
        by_cases m1 : 60 < x.root.size
        · rw [decide_eq_true m1]
          clear m1
          go_wp2
          go_ret
          exact ⟨false, rfl, rfl, fun h => by cases h⟩
        · rw [decide_eq_false m1]
          have M1 := Lib.hid m1
          clear m1
          go_wp2_with fail
          refine (long_any x.prev _).mono ?_
          rintro e w1 ⟨rfl, rfl⟩
          by_cases m2 : 60 < x.prev.size
          · rw [decide_eq_true m2]
            clear m2
            go_wp2
            go_ret
            exact ⟨false, rfl, rfl, fun h => by cases h⟩
          · rw [decide_eq_false m2]
            have M2 := Lib.hid m2
            clear m2
            go_wp2
            go_roundw
            case rel =>
              refine ⟨k + 1, by omega, by go_num, by first | rfl | trivial, Lib.hid fun y hy => ?_⟩
              rw [List.take_add_one, HX.out, List.mem_append] at hy
              rcases hy with hy | hy
              · exact HU.out y hy
              · obtain rfl := List.mem_singleton.1 hy
                have := M1.out
                have := M2.out
                omega
            case measure => simp [intOf]; omega
      · go_wp2
        go_ret
        exact ⟨true, rfl, rfl, fun _ => ⟨by omega, by have := HU.out; rwa [List.take_of_length_le (by omega)] at this⟩⟩

/-- One act, done. -/
def stepD (d : Dst) (x : Hd) : Dst := if x.epoch = 0 then (putAns d x.root x.prev).1 else if x.epoch = 1 then (publishAns d).1 else d
def playD (d : Dst) (L : List Hd) : Dst := L.foldl stepD d
theorem stepD_ok {d : Dst} (h : DOk d) (x : Hd) : DOk (stepD d x) := by
  unfold stepD
  split
  · exact putAns_ok h _ _
  · split
    · exact publishAns_ok h
    · exact h
theorem playD_ok {d : Dst} (h : DOk d) (L : List Hd) : DOk (playD d L) := by
  unfold playD
  induction L generalizing d with
  | nil => exact h
  | cons x L ih => exact ih (stepD_ok h x)
theorem playD_next {d : Dst} {L : List Hd} {k : Nat} {x : Hd} (h : L[k]? = some x) : playD d (L.take (k + 1)) = stepD (playD d (L.take k)) x := by
  unfold playD
  rw [List.take_add_one, h, List.foldl_append]
  rfl
theorem stepD_secret (d : Dst) (x : Hd) : (stepD d x).secret = d.secret := by
  unfold stepD putAns publishAns
  repeat' split
  all_goals rfl
theorem playD_secret (d : Dst) (L : List Hd) : (playD d L).secret = d.secret := by
  unfold playD
  induction L generalizing d with
  | nil => rfl
  | cons x L ih => exact (ih (stepD d x)).trans (stepD_secret d x)
theorem since_len {d : Dst} (h : DOk d) : d.since.length ≤ 61 := by
  have h1 := nodup_le h.sk (B := keysL d.vals) fun x hx => by
    rw [← look_isSome] at hx ⊢
    rw [← h.same]; exact hx
  rw [keysL_length, keysL_length] at h1
  have := h.vals_len
  omega
theorem Hds.same {F : Nat → Prop} {w w' : World} {A : Option Addr} {L : List Hd} (h : Hds w A L) (hf : ∀ a, A = some a → 0 < L.length → F a.block) (hs : Same F w w') : Hds w' A L := fun i x hi => by
  obtain ⟨a, ha, hl, c0, c1, c2⟩ := h i x hi
  have hF := hf a ha (by have := (List.getElem?_eq_some_iff.1 hi).1; omega)
  exact ⟨a, ha, Nat.lt_of_lt_of_le hl hs.size, (hs.cell (by rw [block_add]; exact hF)).trans c0, (hs.cell (by rw [block_add, block_add]; exact hF)).trans c1, (hs.cell (by rw [block_add, block_add]; exact hF)).trans c2⟩
/-- A list of heads lies below the world's end. -/
theorem Hds.lt {w : World} {A : Option Addr} {L : List Hd} (h : Hds w A L) : ∀ a, A = some a → 0 < L.length → a.block < w.heap.size := fun a ha hl => by
  obtain ⟨a', e, hlt, _⟩ := h 0 _ (List.getElem?_eq_getElem hl)
  rw [ha] at e
  obtain rfl := Option.some.inj e
  exact hlt
set_option maxRecDepth 100000 in
set_option maxHeartbeats 1000000 in
theorem plays_any (F : Nat → Prop) (p rb : Nat) (d : Dst) (L : List Hd) (A : Option Addr) (cap : Nat) (w : World) (hd : RDir F w p rb d) (hk : DOk d) (hr : Holds w rb 72 refCells 121) (hrb : ¬ F rb) (hm : Hds w A L) (hA : ∀ a, A = some a → 0 < L.length → ¬ F a.block)
    (hL : L.length ≤ 80) (hs : ∀ x ∈ L, x.root.size ≤ 60 ∧ x.prev.size ≤ 60) :
    Calls Tryz.prog 41 #[.pointer (some ⟨p, 0, none⟩), .slice A L.length cap] w fun e w' => ∃ F' : Nat → Prop, e = .returned (.tuple #[]) ∧ Off F w w' ∧ Grew w F F' ∧ RDir F' w' p rb (playD d L) := by
  have HD := Lib.hid hd
  have HK := Lib.hid hk
  have HR := Lib.hid hr
  have HRB := Lib.hid hrb
  have HM := Lib.hid hm
  have HA := Lib.hid hA
  have HS := Lib.hid hs
  have HRL := Lib.hid hr.lt
  have HML := Lib.hid hm.lt
  clear hd hk hr hrb hm hA hs
  go_enter Tryz.func41, Tryz.ntmps41
  go_wp2
  go_loopw [4] (fun i wr => ∃ k : Nat, k ≤ L.length ∧ i = .int .i64 (k : Int) ∧ Hid (∃ F', Off F w wr ∧ Grew w F F' ∧ RDir F' wr p rb (playD d (L.take k)))) (fun i _ => L.length - (intOf i).toNat)
  case atStart => exact ⟨0, by omega, rfl, Lib.hid ⟨F, Off.refl _ _, Grew.refl _ _, HD.out⟩⟩
  case round =>
    obtain ⟨k, hk, rfl, HU⟩ := hrel
    obtain ⟨F1, ho, hg, hd⟩ := HU.out
    have HO := Lib.hid ho
    have HG := Lib.hid hg
    have HD1 := Lib.hid hd
    clear ho hg hd HU
    by_cases hlt : k < L.length
    · have HMK := Lib.hid (show Hds wr A L from HM.out.same (F := fun b => b < w.heap.size ∧ ¬ F b) (fun a ha hl => ⟨HML.out a ha hl, HA.out a ha hl⟩) ⟨HO.out.size, fun b hb => HO.out.block b hb.1 hb.2⟩)
      have HRK := Lib.hid (show Holds wr rb 72 refCells 121 from by
        have h1 := HR.out
        unfold Holds at h1 ⊢
        rw [HO.out.block rb HRL.out HRB.out]; exact h1)
      have HRF := Lib.hid (show ¬ F1 rb from fun e => by
        rcases HG.out rb e with e | e
        · exact HRB.out e
        · have := HRL.out; omega)
      have HOK := Lib.hid (playD_ok HK.out (L.take k))
      obtain ⟨a, rfl, hal, c0, c1, c2⟩ := HMK.out.at_ hlt
      have d1 : wr.cell? ⟨(a.add (k * 3)).block, (a.add (k * 3)).off + 1, none⟩ = some (.string (hdAt L k).root) := c1
      have d2 : wr.cell? ⟨(a.add (k * 3)).block, (a.add (k * 3)).off + 2, none⟩ = some (.string (hdAt L k).prev) := c2
      have HX := Lib.hid (show L[k]? = some (hdAt L k) by rw [List.getElem?_eq_getElem hlt, hdAt_of hlt])
      have HXS := Lib.hid (HS.out (hdAt L k) (by rw [hdAt_of hlt]; exact List.getElem_mem _))
      generalize hdAt L k = x at c0 d1 d2 HX HXS
      clear c1 c2
      have hk0 : (0 : Int) ≤ (k : Int) := by omega
      have hk1 : (k : Int) < (L.length : Int) := by omega
      by_cases h0 : x.epoch = 0
      · have HST := Lib.hid (show playD d (L.take (k + 1)) = (putAns (playD d (L.take k)) x.root x.prev).1 by rw [playD_next HX.out]; unfold stepD; rw [if_pos h0])
        rw [h0] at c0
        clear h0
        obtain ⟨d', n, hpa⟩ : ∃ d' n, putAns (playD d (L.take k)) x.root x.prev = (d', n) := ⟨_, _, rfl⟩
        have HPA := Lib.hid hpa
        clear hpa
        go_wp2
        refine wp_region_taken (fun u => u = wr.drew) [0, 1, 2, 3, 4, 5, 6, 7, 8, 9, 10] [11] (by kernel_rfl) (by kernel_rfl) (by intro c d v a w h; cases d <;> exact h) rfl ?_
        simp only [pickOps, List.filterMap_cons, List.filterMap_nil, List.getElem?_cons_zero, List.getElem?_cons_succ]
        repeat (first | go_big_quiet_step (fail) | quiet_step (fail))
        refine wpQuiet_nil ?_
        refine wpSeq_last rfl (fun K' hK => ?_)
        go_wp2_with fail
        refine (refDirPut_is F1 p rb _ d' x.root x.prev n wr.drew (HD1.out.same ⟨Nat.le_refl _, fun _ _ => rfl⟩) (by have := HOK.out.vals_len; omega) (by have := HOK.out.wait_len; omega) (by have := HXS.out.1; omega) HPA.out).mono ?_
        rintro e w1 ⟨rfl, ho2, hd2⟩
        have HO2 := Lib.hid (HO.out.drew.trans ho2 (fun b hb hF => by
          rcases HG.out b hF with e | e
          · exact e
          · omega))
        have HD2 := Lib.hid hd2
        clear ho2 hd2
        go_wp2
        refine hK _ _ ?_
        clear hK K'
        go_wp2
        go_roundw
        case rel => exact ⟨k + 1, by omega, by go_num, Lib.hid ⟨F1, HO2.out, HG.out, by rw [HST.out, HPA.out]; exact HD2.out⟩⟩
        case measure => simp [intOf]; omega
      · by_cases h1 : x.epoch = 1
        · have HST := Lib.hid (show playD d (L.take (k + 1)) = (publishAns (playD d (L.take k))).1 by rw [playD_next HX.out]; unfold stepD; rw [if_neg h0, if_pos h1])
          rw [h1] at c0
          clear h0 h1
          obtain ⟨d', sg, n, hpa⟩ : ∃ d' sg n, publishAns (playD d (L.take k)) = (d', sg, n) := ⟨_, _, _, rfl⟩
          have HPA := Lib.hid hpa
          clear hpa
          go_wp2_with fail
          refine (refPublish_is F1 p rb _ d' sg n _ HD1.out HRK.out (by have := HOK.out.secret; omega) HRF.out (by have := HOK.out.vals_len; omega) (by have := HOK.out.wait_len; omega) (by have := since_len HOK.out; omega) HOK.out.few HPA.out).mono ?_
          rintro e w1 ⟨m, F2, rfl, rfl, ho2, hg2, hd2, _⟩
          have HO2 := Lib.hid (HO.out.trans ho2 (fun b hb hF => by
            rcases HG.out b hF with e | e
            · exact e
            · omega))
          have HG2 := Lib.hid (HG.out.trans hg2 HO.out.size)
          have HD2 := Lib.hid hd2
          clear ho2 hg2 hd2
          go_wp2
          go_roundw
          case rel => exact ⟨k + 1, by omega, by go_num, Lib.hid ⟨F2, HO2.out, HG2.out, by rw [HST.out, HPA.out]; exact HD2.out⟩⟩
          case measure => simp [intOf]; omega
        · have HST := Lib.hid (show playD d (L.take (k + 1)) = playD d (L.take k) by rw [playD_next HX.out]; unfold stepD; rw [if_neg h0, if_neg h1])
          have e0 : (x.epoch == 0) = false := by rw [beq_eq_false_iff_ne]; exact h0
          have e1 : (x.epoch == 1) = false := by rw [beq_eq_false_iff_ne]; exact h1
          clear h0 h1
          go_wp2
          go_roundw
          case rel => exact ⟨k + 1, by omega, by go_num, Lib.hid ⟨F1, HO.out, HG.out, by rw [HST.out]; exact HD1.out⟩⟩
          case measure => simp [intOf]; omega
    · go_wp2
      (try simp only [Exit.inBlock, Exit.then])
      refine bodyPost_end (results_none rfl _ _ _) rfl ?_
      exact ⟨F1, rfl, HO.out, HG.out, by have := HD1.out; rwa [List.take_of_length_le (by omega)] at this⟩
end Go.Proofs.YtcfpmofmjnhonaaGreatDoor
/- The law's spoilt: a text, its first bit turned. -/
namespace Go.Proofs.YtcfpmofmjnhonaaGreatDoor
open Go.RowKit

def spoilX (s : ByteArray) : ByteArray := match s.data.toList with | [] => ⟨#[120]⟩ | b :: r => txt ((b ^^^ 1) :: r)
theorem xor8 (b : UInt8) : bits BinOp.xor IntKind.u8 (b.toNat : Int) 1 = ((b ^^^ 1).toNat : Int) := by
  have h := u8_xor_nat b.toNat 1 b.toNat_lt (by decide)
  rw [UInt8.toNat_xor]
  exact h
theorem spoilX_is {s : ByteArray} (h : 0 < s.size) : spoilX s = txt [s[0] ^^^ 1] ++ s.extract 1 s.size := by
  obtain ⟨d⟩ := s
  have hd : 0 < d.size := h
  obtain ⟨l⟩ := d
  cases l with
  | nil => exact absurd hd (by simp)
  | cons b r =>
    unfold spoilX
    show txt ((b ^^^ 1) :: r) = txt [b ^^^ 1] ++ _
    have e : (⟨⟨b :: r⟩⟩ : ByteArray).extract 1 (⟨⟨b :: r⟩⟩ : ByteArray).size = txt r := by
      apply text_of
      rw [ByteArray.data_extract]
      show ((⟨b :: r⟩ : Array UInt8).extract 1 (b :: r).length).toList = (txt r).data.toList
      rw [Array.toList_extract]
      simp [txt]
    rw [e, txt_append]
    first | rfl | skip
set_option maxRecDepth 100000 in
theorem spoilX_any (s : ByteArray) (w : World) (hs : s.size ≤ 1000000) :
    Calls Tryz.prog 90 #[.string s] w fun e w' => e = .returned (.string (spoilX s)) ∧ Below w.heap.size w w' := by
  by_cases h0 : s.size = 0
  · have hX : spoilX s = ⟨#[120]⟩ := by
      unfold spoilX
      have : s.data.toList = [] := List.eq_nil_of_length_eq_zero (by rw [Array.length_toList]; exact h0)
      rw [this]
    have HX := Lib.hid hX
    have h1 : ((s.size : Int) == 0) = true := by rw [beq_iff_eq]; omega
    clear hX h0
    go_enter Tryz.func90, Tryz.ntmps90
    go_wp2
    go_ret
    exact ⟨by rw [HX.out]; rfl, Below.refl _ _⟩
  · have h1 : ((s.size : Int) == 0) = false := by rw [beq_eq_false_iff_ne]; omega
    have h2 : 0 < s.size := by omega
    have h3 : (1 : Int) ≤ (s.size : Int) := by omega
    have h4 : 1 ≤ s.size := by omega
    clear h0
    go_enter Tryz.func90, Tryz.ntmps90
    go_wp2
    refine wp_region_taken (fun _ => True) [0, 1, 2, 5, 6] [3, 4, 7, 8] (by kernel_rfl) (by kernel_rfl) (by intro c d v a w h; cases d <;> exact h) trivial ?_
    simp only [pickOps, List.filterMap_cons, List.filterMap_nil, List.getElem?_cons_zero, List.getElem?_cons_succ]
    repeat (first | go_big_quiet_step (fail) | quiet_step (fail))
    refine wpQuiet_nil ?_
    refine wpSeq_one rfl (fun K' hK => ?_)
    go_wp2
    refine hK _ _ trivial ?_
    clear hK K'
    have hcv : (convert 182 9 (.slice (some ⟨w.heap.size, 0, none⟩) 1 1)).run Tryz.prog (w.alloc (.cells #[.int .u8 (bits BinOp.xor IntKind.u8 (s[0].toNat : Int) 1)] 5)).drew = .ok (.string (txt [s[0] ^^^ 1])) (w.alloc (.cells #[.int .u8 (bits BinOp.xor IntKind.u8 (s[0].toNat : Int) 1)] 5)).drew :=
      conv1 w.drew (s[0] ^^^ 1) _ (xor8 s[0])
    have HX := Lib.hid (spoilX_is h2)
    have HZ1 := Lib.hid (show (txt [s[0] ^^^ 1]).size = 1 by rw [txt_size]; rfl)
    refine wpSeq_one rfl (fun K' hK => ?_)
    go_wp2
    refine hK _ _ trivial ?_
    clear hK K' hcv
    have hz1 : (txt [s[0] ^^^ 1]).size ≤ 1 := by rw [HZ1.out]; exact Nat.le_refl _
    have hz2 : (s.extract 1 s.size).size ≤ 1000000 := by rw [ByteArray.size_extract]; omega
    refine wpSeq_one rfl (fun K' hK => ?_)
    go_wp2
    refine hK _ _ trivial ?_
    clear hK K'
    refine wpSeq_last rfl (fun K' hK => ?_)
    go_wp2
    refine hK _ _ ?_
    clear hK K'
    go_wp2
    go_ret
    exact ⟨by rw [HX.out]; rfl, ((Below.refl _ _).alloc (Nat.le_refl _) _).drew⟩
end Go.Proofs.YtcfpmofmjnhonaaGreatDoor
/- append([]T{}, l...): the items of a list, once more, in memory of the call's own. -/
namespace Go.Proofs.YtcfpmofmjnhonaaGreatDoor
open Go.RowKit

theorem Itms.cells {w : World} {A : Option Addr} {L : List It} (h : Itms w A L) (hn : 0 < L.length) : ∃ a, A = some a ∧ ∀ j u, (itCells L)[j]? = some u → w.cell? (a.add j) = some u := by
  obtain ⟨a, rfl, -⟩ := h.at_ hn
  refine ⟨a, rfl, fun j u hj => ?_⟩
  have hjl := (List.getElem?_eq_some_iff.1 hj).1
  rw [itCells_length] at hjl
  have hi : j / 2 < L.length := by omega
  obtain ⟨a', ha, _, h0, h1⟩ := h.at_ hi
  obtain rfl : a = a' := Option.some.inj ha
  have hx : L[j / 2]? = some (itAt L (j / 2)) := by rw [List.getElem?_eq_getElem hi, itAt_of hi]
  obtain ⟨e1, e2⟩ := itCells_get L (j / 2) _ hx
  rcases (show j = j / 2 * 2 ∨ j = j / 2 * 2 + 1 by omega) with e | e
  · rw [← e] at e1 h0
    rw [hj] at e1
    rw [h0, ← e1]
  · rw [← e] at e2
    rw [add_add', ← e] at h1
    rw [hj] at e2
    rw [h1, ← e2]
theorem itCells_one' (L : List It) : ∀ u ∈ itCells L, u.oneCell' = true := by
  intro u hu
  unfold itCells at hu
  simp only [List.mem_flatMap] at hu
  obtain ⟨x, _, hx⟩ := hu
  simp at hx
  rcases hx with rfl | rfl <;> rfl
theorem wpList_append_copyc {P : Program} {ops : Array Oper} {rest : List Oper} {o : Oper} {a : Act} {w : World} {Q : Exit → Act → World → Prop} (hgd : o.guard = none) (d s : Operand) (T : TypeId)
    (ho : o.op = .call { callee := .builtin .append, args := #[d, s], argTypes := #[T, T] }) (e : TypeId) (ht : P.underlying T = some (.slice e)) (i : TypeInfo) (z : Value) (hi : P.info? e = some i) (hz : i.zero = some z) (hsz : i.size = 2) (hby : i.bytes = 32) (hzc : z.cells.size = 2)
    (L : List It) (A : Option Addr) (cap : Nat) (b0 : Addr) (hd : a.eval d = .slice (some b0) 0 0) (hs : a.eval s = .slice A L.length cap) (hm : Itms w A L) (hl : L.length ≤ 1000000)
    (hK : ∀ A' cap' w', Hid (Below w.heap.size w w') → Hid (Itms w' A' L) → Hid (L.length ≤ cap') → wpList P ops Q rest (a.put o.dst (.slice A' L.length cap')) w') : wpList P ops Q (o :: rest) a w := by
  by_cases h0 : L.length = 0
  · obtain rfl := List.eq_nil_of_length_eq_zero h0
    have hsrc : ∃ news, Src P i.size T (.slice A 0 cap) 0 news w := by
      cases A with
      | none => exact ⟨[], Src.ofNil w ht cap⟩
      | some x => exact ⟨[], Src.ofSlice w ht x 0 cap [] (by simp) (fun j u h => by simp at h) (fun u h => by cases h)⟩
    obtain ⟨news, hsrc⟩ := hsrc
    have hnl : news = [] := List.eq_nil_of_length_eq_zero (by simpa using hsrc.newsLen)
    subst hnl
    have hk1 : ∃ e', P.underlying T = some (.slice e') := ⟨e, ht⟩
    have hrun : (Builtin.append_ #[T, T] o.type #[.slice (some b0) 0 0, .slice A 0 cap]).run P w = .ok (.slice (some b0) 0 0) w := by
      have hst : (storeCells (b0.add 0) []).run P w = .ok () w := by simp [storeCells]
      simp [Builtin.append_, run_underlying ht, sizeOf, typeInfo, hi, hsrc.len, hsrc.cells, hst]
    refine wpList_plain hgd fun K hK' => ?_
    unfold Oper.wp
    simp [execOp, ho, resolve, invoke, builtin, hd, hs, hrun, Result.andThen]
    exact hK' _ _ (hK _ _ _ (Lib.hid (Below.refl _ _)) (Lib.hid (Itms.nil _ _)) (Lib.hid (Nat.le_refl 0)))
  · obtain ⟨x, rfl, hc⟩ := hm.cells (by omega)
    refine wpList_append_grows w hgd d s T ho e i z 2 32 ht hi hz hsz hby hzc (by omega) (some b0) 0 0 [] hd (fun h => by cases h) (by simp) (fun _ _ j u h => by simp at h) x L.length cap (itCells L) hs (itCells_length L) hc (itCells_one' L) (by omega) (by unfold maxLen; omega) (by omega) ?_
    intro v' w' hown hg
    have hrow : Row w' w.heap.size 2 v' L.length (itCells L) := by simpa using Row.of_owns hown
    obtain ⟨_, A', cap', rfl, hit⟩ := hrow.itms
    have hcap : L.length ≤ cap' := by
      obtain ⟨g, c', hv, _, _, hle, _⟩ := hrow.shape (by omega)
      injection hv with _ _ e3
      omega
    exact hK A' cap' w' (Lib.hid (grownBy.below hg (Nat.le_refl _) (fun k h => by cases h))) (Lib.hid hit) (Lib.hid hcap)
theorem wpList_append_copyr {P : Program} {ops : Array Oper} {rest : List Oper} {o : Oper} {a : Act} {w : World} {Q : Exit → Act → World → Prop} (hgd : o.guard = none) (d s : Operand) (T : TypeId)
    (ho : o.op = .call { callee := .builtin .append, args := #[d, s], argTypes := #[T, T] }) (e : TypeId) (ht : P.underlying T = some (.slice e)) (i : TypeInfo) (z : Value) (hi : P.info? e = some i) (hz : i.zero = some z) (hsz : i.size = 2) (hby : i.bytes = 32) (hzc : z.cells.size = 2)
    (L : List It) (A : Option Addr) (cap : Nat) (g : Nat) (hg : g < w.heap.size) (base : Nat) (hbg : base ≤ g) (hd : a.eval d = .slice (some ⟨g, 0, none⟩) 0 0) (hs : a.eval s = .slice A L.length cap) (hm : Itms w A L) (hl : L.length ≤ 1000000)
    (hK : ∀ A' cap' w', Hid (Below w.heap.size w w') → Hid (Row w' base 2 (.slice A' L.length cap') L.length (itCells L)) → wpList P ops Q rest (a.put o.dst (.slice A' L.length cap')) w') : wpList P ops Q (o :: rest) a w := by
  by_cases h0 : L.length = 0
  · obtain rfl := List.eq_nil_of_length_eq_zero h0
    have hsrc : ∃ news, Src P i.size T (.slice A 0 cap) 0 news w := by
      cases A with
      | none => exact ⟨[], Src.ofNil w ht cap⟩
      | some x => exact ⟨[], Src.ofSlice w ht x 0 cap [] (by simp) (fun j u h => by simp at h) (fun u h => by cases h)⟩
    obtain ⟨news, hsrc⟩ := hsrc
    have hnl : news = [] := List.eq_nil_of_length_eq_zero (by simpa using hsrc.newsLen)
    subst hnl
    have hk1 : ∃ e', P.underlying T = some (.slice e') := ⟨e, ht⟩
    have hrun : (Builtin.append_ #[T, T] o.type #[.slice (some ⟨g, 0, none⟩) 0 0, .slice A 0 cap]).run P w = .ok (.slice (some ⟨g, 0, none⟩) 0 0) w := by
      have hst : (storeCells ((Addr.mk g 0 none).add 0) []).run P w = .ok () w := by simp [storeCells]
      simp [Builtin.append_, run_underlying ht, sizeOf, typeInfo, hi, hsrc.len, hsrc.cells, hst]
    refine wpList_plain hgd fun K hK' => ?_
    unfold Oper.wp
    simp [execOp, ho, resolve, invoke, builtin, hd, hs, hrun, Result.andThen]
    exact hK' _ _ (hK _ _ _ (Lib.hid (Below.refl _ _)) (Lib.hid ⟨rfl, .inr ⟨g, 0, rfl, hbg, hg, Nat.le_refl 0, fun j u h => (by cases h), fun j h => by omega⟩⟩))
  · obtain ⟨x, rfl, hc⟩ := hm.cells (by omega)
    refine wpList_append_grows w hgd d s T ho e i z 2 32 ht hi hz hsz hby hzc (by omega) (some ⟨g, 0, none⟩) 0 0 [] hd (fun h => by cases h) (by simp) (fun _ _ j u h => by simp at h) x L.length cap (itCells L) hs (itCells_length L) hc (itCells_one' L) (by omega) (by unfold maxLen; omega) (by omega) ?_
    intro v' w' hown hg'
    have hrow : Row w' w.heap.size 2 v' L.length (itCells L) := by simpa using Row.of_owns hown
    obtain ⟨A', cap', rfl⟩ := hrow.any
    exact hK A' cap' w' (Lib.hid (grownBy.below hg' (Nat.le_refl _) (fun k h => by cases h))) (Lib.hid (hrow.mono (by omega)))
theorem wpList_append_copy {P : Program} {ops : Array Oper} {rest : List Oper} {o : Oper} {a : Act} {w : World} {Q : Exit → Act → World → Prop} (hgd : o.guard = none) (d s : Operand) (T : TypeId)
    (ho : o.op = .call { callee := .builtin .append, args := #[d, s], argTypes := #[T, T] }) (e : TypeId) (ht : P.underlying T = some (.slice e)) (i : TypeInfo) (z : Value) (hi : P.info? e = some i) (hz : i.zero = some z) (hsz : i.size = 2) (hby : i.bytes = 32) (hzc : z.cells.size = 2)
    (L : List It) (A : Option Addr) (cap : Nat) (b0 : Addr) (hd : a.eval d = .slice (some b0) 0 0) (hs : a.eval s = .slice A L.length cap) (hm : Itms w A L) (hl : L.length ≤ 1000000)
    (hK : ∀ A' cap' w', Hid (Below w.heap.size w w') → Hid (Itms w' A' L) → wpList P ops Q rest (a.put o.dst (.slice A' L.length cap')) w') : wpList P ops Q (o :: rest) a w :=
  wpList_append_copyc hgd d s T ho e ht i z hi hz hsz hby hzc L A cap b0 hd hs hm hl fun A' c' w' h1 h2 _ => hK A' c' w' h1 h2
end Go.Proofs.YtcfpmofmjnhonaaGreatDoor
/- append onto a row of items: many, that lie somewhere. -/
namespace Go.Proofs.YtcfpmofmjnhonaaGreatDoor
open Go.RowKit

theorem grownBy_refl (w : World) (g : Option Nat) : w.grownBy w g := ⟨rfl, rfl, rfl, Nat.le_refl _, fun _ _ _ => rfl⟩
theorem wpList_append_items {P : Program} {ops : Array Oper} {rest : List Oper} {o : Oper} {a : Act} {w : World} {Q : Exit → Act → World → Prop} (hgd : o.guard = none) (s x : Operand) (T : TypeId)
    (ho : o.op = .call { callee := .builtin .append, args := #[s, x], argTypes := #[T, T] }) (e : TypeId) (ht : P.underlying T = some (.slice e)) (i : TypeInfo) (z : Value) (hi : P.info? e = some i) (hz : i.zero = some z) (hsz : i.size = 2) (hby : i.bytes = 32) (hzc : z.cells.size = 2)
    (base n : Nat) (M : List It) (hml : M.length = n) (b0 : Addr) (c0 : Nat) (hd : a.eval s = .slice (some b0) n c0) (hrow : Row w base 2 (.slice (some b0) n c0) n (itCells M)) (hbase : base ≤ w.heap.size) (hn : n ≤ 1000000)
    (K : List It) (k : Nat) (hk : K.length = k) (A : Option Addr) (cap : Nat) (hs : a.eval x = .slice A k cap) (hm : Itms w A K) (hkl : k ≤ 1000000)
    (hK : ∀ v' w', Hid (Row w' base 2 v' (n + k) (itCells (M ++ K))) → Hid (w.grownBy w' (Value.slice (some b0) n c0).ownBlock) → wpList P ops Q rest (a.put o.dst v') w') : wpList P ops Q (o :: rest) a w := by
  by_cases h0 : k = 0
  · subst h0
    obtain rfl := List.eq_nil_of_length_eq_zero hk
    have hnc : n ≤ c0 := by
      obtain ⟨_, hr⟩ := hrow
      rcases hr with ⟨hr, _⟩ | ⟨g, cap', hv, _, _, hle, _⟩
      · cases hr
      · injection hv with _ _ e3
        omega
    have hsrc : ∃ news, Src P i.size T (.slice A 0 cap) 0 news w := by
      cases A with
      | none => exact ⟨[], Src.ofNil w ht cap⟩
      | some x => exact ⟨[], Src.ofSlice w ht x 0 cap [] (by simp) (fun j u h => by simp at h) (fun u h => by cases h)⟩
    obtain ⟨news, hsrc⟩ := hsrc
    have hnl : news = [] := List.eq_nil_of_length_eq_zero (by simpa using hsrc.newsLen)
    subst hnl
    have hk1 : ∃ e', P.underlying T = some (.slice e') := ⟨e, ht⟩
    have hrun : (Builtin.append_ #[T, T] o.type #[.slice (some b0) n c0, .slice A 0 cap]).run P w = .ok (.slice (some b0) n c0) w := by
      have hst : ∀ a : Addr, (storeCells a []).run P w = .ok () w := fun a => by simp [storeCells]
      simp [Builtin.append_, run_underlying ht, sizeOf, typeInfo, hi, hsrc.len, hsrc.cells, hst, hnc]
    refine wpList_plain hgd fun K hK' => ?_
    unfold Oper.wp
    simp [execOp, ho, resolve, invoke, builtin, hd, hs, hrun, Result.andThen]
    exact hK' _ _ (hK _ _ (Lib.hid (by rw [List.append_nil]; exact hrow)) (Lib.hid (grownBy_refl _ _)))
  · obtain ⟨x, rfl, hc⟩ := hm.cells (by omega)
    refine wpList_append_row2 hgd s _ T ho e i z 2 32 ht hi hz hsz hby hzc (by decide) base _ n (itCells M) hd hrow hbase x k cap (itCells K) hs (by rw [itCells_length, hk]) hc (itCells_one' K) (by unfold maxLen; omega) (by omega) ?_
    intro v' w' hr hg _
    refine hK v' w' (Lib.hid ?_) hg
    rw [itCells_append]
    exact hr.out
end Go.Proofs.YtcfpmofmjnhonaaGreatDoor
/- append onto a row of texts: many, that lie somewhere. -/
namespace Go.Proofs.YtcfpmofmjnhonaaGreatDoor
open Go.RowKit

theorem stCells_length (L : List ByteArray) : (stCells L).length = L.length := by unfold stCells; simp
theorem Strs.cells {w : World} {A : Option Addr} {L : List ByteArray} (h : Strs w A L) (hn : 0 < L.length) : ∃ a, A = some a ∧ ∀ j u, (stCells L)[j]? = some u → w.cell? (a.add j) = some u := by
  obtain ⟨a, rfl, -⟩ := h 0 _ (List.getElem?_eq_getElem hn)
  refine ⟨a, rfl, fun j u hj => ?_⟩
  unfold stCells at hj
  rw [List.getElem?_map] at hj
  cases e : L[j]? with
  | none => rw [e] at hj; cases hj
  | some s =>
    rw [e] at hj
    obtain ⟨a', ha, _, hc⟩ := h j s e
    obtain rfl := Option.some.inj ha
    rw [hc]
    exact hj
theorem stCells_one (L : List ByteArray) : ∀ u ∈ stCells L, u.oneCell' = true := by
  intro u hu
  unfold stCells at hu
  obtain ⟨s, _, rfl⟩ := List.mem_map.1 hu
  rfl
theorem wpList_append_texts {P : Program} {ops : Array Oper} {rest : List Oper} {o : Oper} {a : Act} {w : World} {Q : Exit → Act → World → Prop} (hgd : o.guard = none) (s x : Operand) (T : TypeId)
    (ho : o.op = .call { callee := .builtin .append, args := #[s, x], argTypes := #[T, T] }) (e : TypeId) (ht : P.underlying T = some (.slice e)) (z : Value) (hinf : (P.info? e).map (fun i => (i.zero, i.size, i.bytes)) = some (some z, 1, 16)) (hzc : z.cells.size = 1)
    (base n : Nat) (M : List ByteArray) (_hml : M.length = n) (b0 : Addr) (c0 : Nat) (hd : a.eval s = .slice (some b0) n c0) (hrow : Row w base 1 (.slice (some b0) n c0) n (stCells M)) (hbase : base ≤ w.heap.size) (hn : n ≤ 1000000)
    (K : List ByteArray) (k : Nat) (hk : K.length = k) (A : Option Addr) (cap : Nat) (hs : a.eval x = .slice A k cap) (hm : Strs w A K) (hkl : k ≤ 1000000)
    (hK : ∀ v' w', Hid (Row w' base 1 v' (n + k) (stCells (M ++ K))) → Hid (w.grownBy w' (Value.slice (some b0) n c0).ownBlock) → wpList P ops Q rest (a.put o.dst v') w') : wpList P ops Q (o :: rest) a w := by
  obtain ⟨i, hi, hz, hsz, hby⟩ := info_parts hinf
  by_cases h0 : k = 0
  · subst h0
    obtain rfl := List.eq_nil_of_length_eq_zero hk
    have hnc : n ≤ c0 := by
      obtain ⟨_, hr⟩ := hrow
      rcases hr with ⟨hr, _⟩ | ⟨g, cap', hv, _, _, hle, _⟩
      · cases hr
      · injection hv with _ _ e3
        omega
    have hsrc : ∃ news, Src P i.size T (.slice A 0 cap) 0 news w := by
      cases A with
      | none => exact ⟨[], Src.ofNil w ht cap⟩
      | some x => exact ⟨[], Src.ofSlice w ht x 0 cap [] (by simp) (fun j u h => by simp at h) (fun u h => by cases h)⟩
    obtain ⟨news, hsrc⟩ := hsrc
    have hnl : news = [] := List.eq_nil_of_length_eq_zero (by simpa using hsrc.newsLen)
    subst hnl
    have hk1 : ∃ e', P.underlying T = some (.slice e') := ⟨e, ht⟩
    have hrun : (Builtin.append_ #[T, T] o.type #[.slice (some b0) n c0, .slice A 0 cap]).run P w = .ok (.slice (some b0) n c0) w := by
      have hst : ∀ a : Addr, (storeCells a []).run P w = .ok () w := fun a => by simp [storeCells]
      simp [Builtin.append_, run_underlying ht, sizeOf, typeInfo, hi, hsrc.len, hsrc.cells, hst, hnc]
    refine wpList_plain hgd fun K hK' => ?_
    unfold Oper.wp
    simp [execOp, ho, resolve, invoke, builtin, hd, hs, hrun, Result.andThen]
    exact hK' _ _ (hK _ _ (Lib.hid (by rw [List.append_nil]; exact hrow)) (Lib.hid (grownBy_refl _ _)))
  · obtain ⟨x, rfl, hc⟩ := hm.cells (by omega)
    refine wpList_append_row2 hgd s _ T ho e i z 1 16 ht hi hz hsz hby hzc (by decide) base _ n (stCells M) hd hrow hbase x k cap (stCells K) hs (by rw [stCells_length, hk]; omega) hc (stCells_one K) (by unfold maxLen; omega) (by omega) ?_
    intro v' w' hr hg _
    refine hK v' w' (Lib.hid ?_) hg
    rw [stCells_append]
    exact hr.out
end Go.Proofs.YtcfpmofmjnhonaaGreatDoor
