/- Parts of the proof, one behind the other: Box, SealS. -/
import Derived.Test.YtcfpmofmjnhonaaGreatDoorM13
import Derived.Deep.RegionLaw
import Derived.IntWalk
import Derived.Test.YtcfpmofmjnhonaaGreatDoorM14
import Derived.Test.YtcfpmofmjnhonaaGreatDoorM8
/- The document's NewBox, Public. -/
namespace Go.Proofs.YtcfpmofmjnhonaaGreatDoor
open Go.RowKit

def rows0 (seed : ByteArray) (k : Nat) : List ByteArray := (List.range k).map fun c : Nat => markOf 116 [txt (num8 (c : Int)), publicOf seed (c : Int)]
def rowsUpto (seed : ByteArray) : Nat → List ByteArray
  | 0 => rows0 seed 8
  | j + 1 => rowsUpto seed j ++ [markOf 117 [(rowsUpto seed j).getD (2 * j) ⟨#[]⟩, (rowsUpto seed j).getD (2 * j + 1) ⟨#[]⟩]]
def rowsOf (seed : ByteArray) : List ByteArray := rowsUpto seed 7
def boxPub (seed : ByteArray) : ByteArray := (rowsOf seed).getD 14 ⟨#[]⟩
theorem rows0_length (seed : ByteArray) (k : Nat) : (rows0 seed k).length = k := by unfold rows0; simp
theorem rowsUpto_length (seed : ByteArray) : ∀ j, (rowsUpto seed j).length = 8 + j
  | 0 => rows0_length seed 8
  | j + 1 => by rw [rowsUpto, List.length_append, rowsUpto_length seed j]; simp; omega
theorem rows0_size (seed : ByteArray) (k : Nat) : ∀ p ∈ rows0 seed k, p.size = 16 := by
  intro p hp
  unfold rows0 at hp
  obtain ⟨c, _, rfl⟩ := List.mem_map.1 hp
  exact markOf_len _ _
theorem rowsUpto_size (seed : ByteArray) : ∀ j, ∀ p ∈ rowsUpto seed j, p.size = 16
  | 0 => rows0_size seed 8
  | j + 1 => by
    intro p hp
    rw [rowsUpto, List.mem_append] at hp
    rcases hp with hp | hp
    · exact rowsUpto_size seed j p hp
    · simp at hp; subst hp; exact markOf_len _ _
def bxF (seed : ByteArray) (v : Value) : Nat → Value := fun i => if i = 0 then .string seed else v
structure BoxRel (bb : Nat) (w wr : World) (seed : ByteArray) (R : List ByteArray) (v : Value) : Prop where
  below : Below w.heap.size w wr
  lt : w.heap.size ≤ bb
  own : Holds wr bb 2 (bxF seed v) 138
  row : Row wr (bb + 1) 1 v R.length (stCells R)
/-- One row more. -/
theorem BoxRel.next {bb : Nat} {w wr w3 w4 : World} {seed : ByteArray} {R : List ByteArray} {v v' : Value} {y : ByteArray} (h : BoxRel bb w wr seed R v) (hb : Below wr.heap.size wr w3)
    (hrow : Row w4 (bb + 1) 1 v' (R.length + 1) (stCells R ++ [.string y])) (hg : w3.grownBy w4 v.ownBlock) : BoxRel bb w (w4.setCell ⟨bb, 1, none⟩ v') seed (R ++ [y]) v' := by
  have hrow3 : Row w3 (bb + 1) 1 v R.length (stCells R) := h.row.belowAll hb
  have hown3 := h.own.below hb h.own.lt
  have hb3 : Below w.heap.size w w3 := h.below.trans (hb.mono h.below.size)
  have hlt := h.lt
  refine ⟨(hb3.grown hg hb3.size (fun k hk => by have := (hrow3.lt k hk).1; omega)).setCell (p := ⟨bb, 1, none⟩) (by show w.heap.size ≤ bb; omega) _, hlt, ?_, ?_⟩
  · have h4 : Holds w4 bb 2 (bxF seed v) 138 := by
      unfold Holds at hown3 ⊢
      rw [hg.block bb (lt_of_block hown3) (fun e => hrow3.fresh (Nat.lt_succ_self bb) e.symm)]; exact hown3
    refine (h4.set 1 v').congr fun i hi => ?_
    unfold upd bxF
    rcases (show i = 0 ∨ i = 1 by omega) with rfl | rfl <;> simp
  · have e : stCells (R ++ [y]) = stCells R ++ [.string y] := by simp [stCells]
    rw [List.length_append, e]
    exact hrow.setOther (hrow.fresh (Nat.lt_succ_self _)) _

/-- A world in which a box's rows, and two of them, read so. -/
structure BoxZ (bb g i : Nat) (v : Value) (x y : ByteArray) where
  at' : World
  h0 : at'.cell? ⟨bb, 1, none⟩ = some v
  h1 : at'.cell? ⟨g, i, none⟩ = some (.string x)
  h2 : at'.cell? ⟨g, i + 1, none⟩ = some (.string y)
set_option maxHeartbeats 1000000 in
set_option maxRecDepth 100000 in
theorem refNewBox_t (b : Nat) (seed : ByteArray) (w : World) (hr : Holds w b 72 refCells 121) (h16 : seed.size = 16) :
    Calls Tryz.prog 52 #[.pointer (some ⟨b, 0, none⟩), .string seed] w fun e w' => ∃ bb v, e = .returned (.tuple #[.pointer (some ⟨bb, 0, none⟩), .int .i64 0]) ∧ BoxRel bb w w' seed (rowsOf seed) v := by
  have HR := Lib.hid hr
  have H16 := Lib.hid h16
  clear hr h16
  go_enter Tryz.func52, Tryz.ntmps52
  go_wp2_with fail
  refine (isMark_t _ _ H16.out).mono ?_
  rintro e w0 ⟨rfl, rfl⟩
  have HREL := Lib.hid (show BoxRel w0.heap.size w0 (w0.alloc (.cells #[.string seed, .slice none 0 0] 138)) seed (rows0 seed 0) (.slice none 0 0) from
    ⟨alloc_below _ _, Nat.le_refl _, Holds.new w0 2 (bxF seed (.slice none 0 0)) 138, Row.nil _ _ _⟩)
  go_wp2
  generalize w0.alloc (.cells #[.string seed, .slice none 0 0] 138) = w1 at HREL ⊢
  generalize hbb : w0.heap.size = bb at HREL
  clear hbb
  go_loopw [17] (fun i wr => ∃ (k : Nat) (v : Value), k ≤ 8 ∧ i = .int .i64 (k : Int) ∧ Hid (BoxRel bb w0 wr seed (rows0 seed k) v)) (fun i _ => 8 - (intOf i).toNat)
  case atStart => exact ⟨0, _, by omega, rfl, HREL⟩
  case round =>
    obtain ⟨k, v, hk, rfl, HU⟩ := hrel
    by_cases hlt : k < 8
    · have HPUB := Lib.hid (show publicAns seed (k : Int) = (publicOf seed (k : Int), 0) by unfold publicAns; rw [if_pos H16.out])
      go_wp2_with fail
      refine (refOncePublic_is b seed (k : Int) _ _ _ (HR.out.below HU.out.below HR.out.lt) HPUB.out).mono ?_
      rintro e w2 ⟨rfl, hb2⟩
      have HB2 := Lib.hid hb2
      have HR2 := Lib.hid ((HR.out.below HU.out.below HR.out.lt).below hb2 (Nat.lt_of_lt_of_le HR.out.lt HU.out.below.size))
      have HOWN := Lib.hid (HU.out.own.below hb2 HU.out.own.lt)
      have hps : (publicOf seed (k : Int)).size = 16 := markOf_len _ _
      obtain ⟨P, hP⟩ : ∃ P, publicOf seed (k : Int) = P := ⟨_, rfl⟩
      rw [hP] at hps ⊢
      have HP := Lib.hid hP
      have HPS := Lib.hid hps
      clear hb2 hP hps
      have HS := Lib.hid (show ∀ u : World, Below (bb + 1) w2 u → (u.cell? ⟨bb, 1, none⟩ = some v ∧ u.frozen? ⟨bb, 1, none⟩ = false ∧ Below (bb + 1) w2 u) from
        fun u hu => ⟨(hu.cell (p := ⟨bb, 1, none⟩) (Nat.lt_succ_self bb)).trans (HOWN.out.cell 1 (by omega)), (hu.frozen (p := ⟨bb, 1, none⟩) (Nat.lt_succ_self bb)).trans (HOWN.out.free 1), hu⟩)
      have HLT2 := Lib.hid (show bb + 1 ≤ w2.heap.size from HOWN.out.lt)
      go_wp2
      have q0 : w2.cell? ⟨bb, 1, none⟩ = some v := HOWN.out.cell 1 (by omega)
      go_region_law (first
          | (go_simp; go_at_call 98; refine (refNum_any (k : Int) _).mono ?_; rintro e w3 ⟨rfl, hb3⟩
             have c3 := (HS.out _ ((Below.refl _ _).drew.trans (hb3.mono HLT2.out))).1
             have c3' := fun o => (HS.out _ (((Below.refl _ _).drew.trans (hb3.mono HLT2.out)).alloc (Nat.le_trans HLT2.out hb3.size) o)).1)
          | (go_simp; go_at_call 53
             refine (refMark_any b 116 [txt (num8 (k : Int)), P] (some ⟨w3.heap.size, 0, none⟩) 2 _ ((HR2.out.below ((Below.refl _ _).drew.trans hb3) HR2.out.lt).alloc _) (by have := HPS.out; simp [total, num_size]; omega) (by simp) (strs_new w3 [txt (num8 (k : Int)), P] 9)).mono ?_
             rintro e w4 ⟨rfl, hb4⟩
             have HM4 := Lib.hid (show Below w2.heap.size w2 w4 from (((Below.refl _ _).drew.trans hb3).alloc hb3.size _).trans (hb4.mono (Nat.le_trans hb3.size (by simp))))
             have HROW := Lib.hid (HU.out.row.belowAll (HB2.out.trans (HM4.out.mono HB2.out.size)))
             have c4 := (HS.out _ (HM4.out.mono HLT2.out)).1
             have c4' := fun o => (HS.out _ ((HM4.out.mono HLT2.out).alloc (Nat.le_trans HLT2.out HM4.out.size) o)).1)
          | (refine step_of_list rfl ?_; refine wpList_append_one2 rfl (.tmp 31) (.tmp 38) 50 rfl 9 Tryz.underlying50 _ 16 infoStr rfl (by decide) (bb + 1) v (rows0 seed k).length (stCells (rows0 seed k)) rfl HROW.out (Nat.le_trans HLT2.out HM4.out.size) (by rw [rows0_length]; omega) (.string _) rfl rfl 9 ?_
             intro v' w6 hrow6 hgrow6 hmove6
             have HG6 := Lib.hid ((HM4.out.mono HLT2.out).grown hgrow6.out (Nat.le_trans HLT2.out HM4.out.size) (fun j hj => (HROW.out.lt j hj).1))
             obtain ⟨p6, cap6, rfl⟩ := hrow6.out.any
             have t0 := (HS.out _ HG6.out).1
             have t1 := (HS.out _ HG6.out).2.1
             refine then1 ?_))
      all_goals
        go_wp2
        go_roundw
        case rel =>
          refine ⟨k + 1, .slice p6 ((rows0 seed k).length + 1) cap6, by omega, by go_num, Lib.hid ?_⟩
          have e : rows0 seed (k + 1) = rows0 seed k ++ [markOf 116 [txt (num8 (k : Int)), P]] := by rw [← HP.out]; exact map_range_succ _ _
          rw [e]
          exact BoxRel.next HU.out (HB2.out.trans (HM4.out.mono HB2.out.size)) hrow6.out hgrow6.out
        case measure => simp [intOf]; omega
    · have HK8 := Lib.hid (show k = 8 by omega)
      go_wp2
      go_loopw [10] (fun i w' => ∃ (j : Nat) (v : Value), j ≤ 7 ∧ i = .int .i64 ((2 * j : Nat) : Int) ∧ Hid (BoxRel bb w0 w' seed (rowsUpto seed j) v)) (fun i _ => 14 - (intOf i).toNat)
      case atStart =>
        have h := HU.out
        rw [HK8.out] at h
        exact ⟨0, _, by omega, rfl, Lib.hid h⟩
      case round =>
        clear HU
        obtain ⟨j, v, hj, rfl, HU⟩ := hrel
        by_cases hlt2 : j < 7
        · have HRL := Lib.hid (rowsUpto_length seed j)
          obtain ⟨R, hR⟩ : ∃ R, rowsUpto seed j = R := ⟨_, rfl⟩
          have HNX := Lib.hid (show rowsUpto seed (j + 1) = R ++ [markOf 117 [R.getD (2 * j) ⟨#[]⟩, R.getD (2 * j + 1) ⟨#[]⟩]] by rw [rowsUpto, hR])
          have HSZ := Lib.hid (rowsUpto_size seed j)
          rw [hR] at HU HRL HSZ
          clear hR
          have hrl1 : R.length ≤ 14 := by have := HRL.out; omega
          have hrl2 : 2 * j + 2 ≤ R.length := by have := HRL.out; omega
          obtain ⟨g, rc, rfl, hgb, hgl, -, hcells, -⟩ := HU.out.row.shape (by omega)
          have r1 : _ := hcells (2 * j) (.string (R.getD (2 * j) ⟨#[]⟩)) (by unfold stCells; rw [List.getElem?_map, List.getD_eq_getElem?_getD, List.getElem?_eq_getElem (by omega)]; rfl)
          have r2 : _ := hcells (2 * j + 1) (.string (R.getD (2 * j + 1) ⟨#[]⟩)) (by unfold stCells; rw [List.getElem?_map, List.getD_eq_getElem?_getD, List.getElem?_eq_getElem (by omega)]; rfl)
          have HX1 := Lib.hid (show (R.getD (2 * j) ⟨#[]⟩).size = 16 by rw [List.getD_eq_getElem?_getD, List.getElem?_eq_getElem (by omega)]; exact HSZ.out _ (List.getElem_mem _))
          have HX2 := Lib.hid (show (R.getD (2 * j + 1) ⟨#[]⟩).size = 16 by rw [List.getD_eq_getElem?_getD, List.getElem?_eq_getElem (by omega)]; exact HSZ.out _ (List.getElem_mem _))
          generalize R.getD (2 * j) ⟨#[]⟩ = x1 at r1 HX1 HNX
          generalize R.getD (2 * j + 1) ⟨#[]⟩ = x2 at r2 HX2 HNX
          obtain ⟨i2, hi2⟩ : ∃ i2 : Nat, 2 * j = i2 := ⟨_, rfl⟩
          rw [hi2] at r1 r2 hrl2 ⊢
          have HI2 := Lib.hid hi2
          clear hi2 hcells hgb
          have HLT2 := Lib.hid (show bb + 1 ≤ wr.heap.size from HU.out.own.lt)
          have hbbl : bb < wr.heap.size := HU.out.own.lt
          have HR2 := Lib.hid (HR.out.below HU.out.below HR.out.lt)
          have HS := Lib.hid (show ∀ u : World, Below (bb + 1) wr u → (u.cell? ⟨bb, 1, none⟩ = some (.slice (some ⟨g, 0, none⟩) R.length rc) ∧ u.frozen? ⟨bb, 1, none⟩ = false) from
            fun u hu => ⟨(hu.cell (p := ⟨bb, 1, none⟩) (Nat.lt_succ_self bb)).trans (HU.out.own.cell 1 (by omega)), (hu.frozen (p := ⟨bb, 1, none⟩) (Nat.lt_succ_self bb)).trans (HU.out.own.free 1)⟩)
          have q0 : wr.cell? ⟨bb, 1, none⟩ = some (.slice (some ⟨g, 0, none⟩) R.length rc) := HU.out.own.cell 1 (by omega)
          have e14 : decide ((i2 : Int) < 14) = true := by have := HI2.out; simp; omega
          have k1 : (0 : Int) ≤ (i2 : Int) := by omega
          have k2 : (i2 : Int) < (R.length : Int) := by omega
          have k3 : IntKind.i64.wrap ((i2 : Int) + 1) = (i2 : Int) + 1 := IntWalk.i64_in _ (by omega)
          have k4 : (i2 : Int) + 1 < (R.length : Int) := by omega
          have k5 : ((i2 : Int) + 1).toNat = i2 + 1 := by omega
          have k6 : (0 : Int) ≤ (i2 : Int) + 1 := by omega
          have z0 : ∀ z : BoxZ bb g i2 (.slice (some ⟨g, 0, none⟩) R.length rc) x1 x2, z.at'.cell? ⟨bb, 1, none⟩ = some (.slice (some ⟨g, 0, none⟩) R.length rc) := fun z => z.h0
          have z1 : ∀ z : BoxZ bb g i2 (.slice (some ⟨g, 0, none⟩) R.length rc) x1 x2, z.at'.cell? ⟨g, i2, none⟩ = some (.string x1) := fun z => z.h1
          have z2 : ∀ z : BoxZ bb g i2 (.slice (some ⟨g, 0, none⟩) R.length rc) x1 x2, z.at'.cell? ⟨g, i2 + 1, none⟩ = some (.string x2) := fun z => z.h2
          have : Nonempty (BoxZ bb g i2 (.slice (some ⟨g, 0, none⟩) R.length rc) x1 x2) := ⟨⟨wr.drew, q0, r1, r2⟩⟩
          go_wp2
          refine wp_region_taken (fun w' => ∃ z : BoxZ bb g i2 (.slice (some ⟨g, 0, none⟩) R.length rc) x1 x2, w' = z.at') [0, 1, 2, 3, 4, 5, 6, 7, 8, 9, 10, 11, 12, 13, 14, 15, 16, 17, 18, 19, 20] [21, 22, 23, 24, 25, 26, 27] (by kernel_rfl) (by kernel_rfl) (by intro c d v a w h; cases d <;> exact h) ⟨⟨wr.drew, q0, r1, r2⟩, rfl⟩ ?_
          simp only [pickOps, List.filterMap_cons, List.filterMap_nil, List.getElem?_cons_zero, List.getElem?_cons_succ]
          repeat (first | go_big_quiet_step (fail) | quiet_step (fail))
          refine wpQuiet_nil ?_
          have HZ := Lib.hid (show ∀ u : World, Below wr.heap.size wr u → ∃ z : BoxZ bb g i2 (.slice (some ⟨g, 0, none⟩) R.length rc) x1 x2, u = z.at' from
            fun u hu => ⟨⟨u, (hu.cell (p := ⟨bb, 1, none⟩) hbbl).trans q0, (hu.cell (p := ⟨g, i2, none⟩) hgl).trans r1, (hu.cell (p := ⟨g, i2 + 1, none⟩) hgl).trans r2⟩, rfl⟩)
          clear z0 z1 z2 this
          refine wpSeq_one rfl (fun K hK => ?_)
          go_wp2
          refine hK _ _ (HZ.out _ ((Below.refl _ _).alloc (Nat.le_refl _) _).drew) ?_
          clear hK K
          refine wpSeq_one rfl (fun K hK => ?_)
          go_wp2_with fail
          refine (refMark_any b 117 [x1, x2] (some ⟨wr.heap.size, 0, none⟩) 2 _ (HR2.out.alloc _).drew (by have := HX1.out; have := HX2.out; simp [total]; omega) (by simp) (strs_new wr [x1, x2] 9).drew).mono ?_
          rintro e w4 ⟨rfl, hb4⟩
          have HM4 := Lib.hid (show Below wr.heap.size wr w4 from ((Below.refl _ _).alloc (Nat.le_refl _) _).drew.trans (hb4.mono (by simp)))
          have HROW := Lib.hid (HU.out.row.belowAll HM4.out)
          clear hb4
          go_wp2
          refine hK _ _ (HZ.out _ HM4.out) ?_
          clear hK K
          refine wpSeq_one rfl (fun K hK => ?_)
          go_wp2
          refine hK _ _ (HZ.out _ (HM4.out.alloc HM4.out.size _)) ?_
          clear hK K
          refine wpSeq_one rfl (fun K hK => ?_)
          refine wpList_append_one3 rfl (.tmp 51) (.tmp 70) 50 rfl 9 Tryz.underlying50 _ 16 infoStr rfl (by decide) (bb + 1) _ R.length (stCells R) rfl HROW.out (Nat.le_trans HLT2.out HM4.out.size) (by omega) (.string _) rfl rfl 9 ?_
          intro v' w6 hrow6 hgrow6 hmove6 hkeep6
          have HG6 := Lib.hid ((HM4.out.mono HLT2.out).grown hgrow6.out (Nat.le_trans HLT2.out HM4.out.size) (fun j hj => (HROW.out.lt j hj).1))
          obtain ⟨p6, cap6, rfl⟩ := hrow6.out.any
          have t0 := (HS.out _ HG6.out).1
          have t1 := (HS.out _ HG6.out).2
          have hsl : (stCells R).length = R.length := by unfold stCells; simp
          have HZ6 := Lib.hid (show ∃ z : BoxZ bb g i2 (.slice (some ⟨g, 0, none⟩) R.length rc) x1 x2, w6 = z.at' from
            ⟨⟨w6, t0, (hkeep6.out g rc rfl i2 (by rw [hsl]; omega)).trans ((HM4.out.cell (p := ⟨g, i2, none⟩) hgl).trans r1), (hkeep6.out g rc rfl (i2 + 1) (by rw [hsl]; omega)).trans ((HM4.out.cell (p := ⟨g, i2 + 1, none⟩) hgl).trans r2)⟩, rfl⟩)
          clear hsl
          refine hK _ _ HZ6.out ?_
          clear hK K
          refine wpSeq_one rfl (fun K hK => ?_)
          go_wp2
          refine hK _ _ HZ6.out ?_
          clear hK K
          refine wpSeq_one rfl (fun K hK => ?_)
          go_wp2
          refine hK _ _ HZ6.out ?_
          clear hK K
          refine wpSeq_last rfl (fun K hK => ?_)
          go_wp2
          refine hK _ _ ?_
          clear hK K
          go_wp2
          go_roundw
          case rel =>
            have HB := Lib.hid (show BoxRel bb w0 (w6.setCell ⟨bb, 1, none⟩ (.slice p6 (R.length + 1) cap6)) seed (rowsUpto seed (j + 1)) (.slice p6 (R.length + 1) cap6) by rw [HNX.out]; exact BoxRel.next HU.out HM4.out hrow6.out hgrow6.out)
            have he : (2 * (j + 1) : Nat) = i2 + 2 := by have := HI2.out; omega
            exact ⟨j + 1, _, by omega, by rw [he]; go_num, HB⟩
          case measure => have := HI2.out; simp [intOf]; omega
        · obtain rfl : j = 7 := by omega
          go_wp2
          refine bodyPost_ret (results_tmp2 rfl _ _ _) rfl ?_
          exact ⟨bb, v, rfl, HU.out⟩
end Go.Proofs.YtcfpmofmjnhonaaGreatDoor
/- The document's NewBox of no mark, Public, SealSign. -/
namespace Go.Proofs.YtcfpmofmjnhonaaGreatDoor
open Go.RowKit

set_option maxRecDepth 100000 in
theorem refNewBox_f (b : Nat) (seed : ByteArray) (w : World) (h16 : ¬ seed.size = 16) :
    Calls Tryz.prog 52 #[.pointer (some ⟨b, 0, none⟩), .string seed] w fun e w' => e = .returned (.tuple #[.pointer none, .int .i64 1]) ∧ w' = w := by
  have H16 := Lib.hid h16
  clear h16
  go_enter Tryz.func52, Tryz.ntmps52
  go_wp2_with fail
  refine (isMark_f _ _ H16.out).mono ?_
  rintro e w0 ⟨rfl, rfl⟩
  go_wp2
  refine bodyPost_ret (results_tmp2 rfl _ _ _) rfl ?_
  exact ⟨rfl, rfl⟩
/-- A box in memory: its seed and its rows. -/
structure BoxIs (w : World) (bb : Nat) (seed : ByteArray) : Prop where
  lt : bb < w.heap.size
  sd : w.cell? ⟨bb, 0, none⟩ = some (.string seed)
  rows : ∃ g rc, g < w.heap.size ∧ w.cell? ⟨bb, 1, none⟩ = some (.slice (some ⟨g, 0, none⟩) 15 rc) ∧ ∀ k, k < 15 → w.cell? ⟨g, k, none⟩ = some (.string ((rowsOf seed).getD k ⟨#[]⟩))
theorem BoxIs.below {w w' : World} {bb : Nat} {seed : ByteArray} (h : BoxIs w bb seed) (hb : Below w.heap.size w w') : BoxIs w' bb seed := by
  obtain ⟨g, rc, hg, h1, h2⟩ := h.rows
  exact ⟨Nat.lt_of_lt_of_le h.lt hb.size, (hb.cell h.lt).trans h.sd, g, rc, Nat.lt_of_lt_of_le hg hb.size, (hb.cell (p := ⟨bb, 1, none⟩) h.lt).trans h1, fun k hk => (hb.cell (p := ⟨g, k, none⟩) hg).trans (h2 k hk)⟩
theorem BoxRel.is {bb : Nat} {w wr : World} {seed : ByteArray} {v : Value} (h : BoxRel bb w wr seed (rowsOf seed) v) : BoxIs wr bb seed := by
  have hl : (rowsOf seed).length = 15 := rowsUpto_length seed 7
  obtain ⟨g, rc, rfl, _, hg, _, hc, _⟩ := h.row.shape (by omega)
  refine ⟨h.own.lt, h.own.cell 0 (by omega), g, rc, hg, by have := h.own.cell 1 (by omega); rw [hl] at this; exact this, fun k hk => hc k _ ?_⟩
  unfold stCells
  rw [List.getElem?_map, List.getD_eq_getElem?_getD, List.getElem?_eq_getElem (by omega)]; rfl
theorem getD_size (R : List ByteArray) (hs : ∀ p ∈ R, p.size = 16) (k : Nat) (hk : k < R.length) : (R.getD k ⟨#[]⟩).size = 16 := by
  rw [List.getD_eq_getElem?_getD, List.getElem?_eq_getElem hk]
  exact hs _ (List.getElem_mem _)
theorem rowsOf_size (seed : ByteArray) (k : Nat) (hk : k < 15) : ((rowsOf seed).getD k ⟨#[]⟩).size = 16 :=
  getD_size _ (rowsUpto_size seed 7) k (by have := rowsUpto_length seed 7; omega)
set_option maxRecDepth 100000 in
theorem refPublic_any (bb : Nat) (seed : ByteArray) (w : World) (h : BoxIs w bb seed) :
    Calls Tryz.prog 16 #[.pointer (some ⟨bb, 0, none⟩)] w fun e w' => e = .returned (.string (boxPub seed)) ∧ w' = w := by
  obtain ⟨g, rc, hg, h1, h2⟩ := h.rows
  have h3 : w.cell? ⟨g, 14, none⟩ = some (.string (boxPub seed)) := h2 14 (by omega)
  clear h2 h
  go_enter Tryz.func16, Tryz.ntmps16
  go_wp2
  go_ret
  exact ⟨rfl, rfl⟩
def sib (k : Nat) : Nat := if k % 2 = 1 then k - 1 else k + 1
def rowBase (t : Nat) : Nat := [0, 8, 12, 14].getD t 14
def rowLen (t : Nat) : Nat := [8, 4, 2, 1].getD t 1
def sealPath (seed : ByteArray) (key : Nat) (t : Nat) : List ByteArray := (List.range t).map fun i : Nat => (rowsOf seed).getD (rowBase i + sib (key / 2 ^ i)) ⟨#[]⟩
/-- What a box tells of a mark by a key: the signature, the path, the error. -/
def sealAns (seed : ByteArray) (key : Int) (m : ByteArray) : Int × List ByteArray × List ByteArray × Int :=
  if 0 ≤ key ∧ key ≤ 7 then (if (signAns seed key m).2 = 0 then (key, (signAns seed key m).1, sealPath seed key.toNat 3, 0) else (0, [], [], (signAns seed key m).2)) else (0, [], [], 2)
end Go.Proofs.YtcfpmofmjnhonaaGreatDoor
