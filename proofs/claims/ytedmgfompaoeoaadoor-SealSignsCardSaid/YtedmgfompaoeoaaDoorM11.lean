/- Parts of the proof, one behind the other: Box, Heads, SealS, SealV. -/
import Derived.Test.YtedmgfompaoeoaaDoorM9
import Derived.Deep.RegionLaw
import Derived.IntWalk
import Derived.Test.YtedmgfompaoeoaaDoorM10
import Derived.Test.YtedmgfompaoeoaaDoorM4
import Derived.Test.YtedmgfompaoeoaaDoorM7
import Derived.Laws.ResultCell
import Derived.Deep.RegionHeld3
/- The document's NewBox, Public. -/
namespace Go.Proofs.YtedmgfompaoeoaaDoor
open Go.RowKit

def rows0 (seed : ByteArray) (k : Nat) : List ByteArray := (List.range k).map fun c : Nat => markOf 116 [txt (num8 (c : Int)), publicOf seed (c : Int)]
def rowsUpto (seed : ByteArray) : Nat → List ByteArray
  | 0 => rows0 seed 8
  | j + 1 => rowsUpto seed j ++ [markOf 117 [(rowsUpto seed j).getD (2 * j) ⟨#[]⟩, (rowsUpto seed j).getD (2 * j + 1) ⟨#[]⟩]]
def rowsOf (seed : ByteArray) : List ByteArray := rowsUpto seed 7
def boxPub (seed : ByteArray) : ByteArray := (rowsOf seed).getD 14 ⟨#[]⟩
theorem rows0_length (seed : ByteArray) (k : Nat) : (rows0 seed k).length = k := by unfold rows0; simp
theorem rowsUpto_length (seed : ByteArray) : ∀ j, (rowsUpto seed j).length = 8 + j
  | 0 => rows0_length seed 8
  | j + 1 => by rw [rowsUpto, List.length_append, rowsUpto_length seed j]; simp; omega
theorem rows0_size (seed : ByteArray) (k : Nat) : ∀ p ∈ rows0 seed k, p.size = 16 := by
  intro p hp
  unfold rows0 at hp
  obtain ⟨c, _, rfl⟩ := List.mem_map.1 hp
  exact markOf_len _ _
theorem rowsUpto_size (seed : ByteArray) : ∀ j, ∀ p ∈ rowsUpto seed j, p.size = 16
  | 0 => rows0_size seed 8
  | j + 1 => by
    intro p hp
    rw [rowsUpto, List.mem_append] at hp
    rcases hp with hp | hp
    · exact rowsUpto_size seed j p hp
    · simp at hp; subst hp; exact markOf_len _ _
def bxF (seed : ByteArray) (v : Value) : Nat → Value := fun i => if i = 0 then .string seed else v
structure BoxRel (bb : Nat) (w wr : World) (seed : ByteArray) (R : List ByteArray) (v : Value) : Prop where
  below : Below w.heap.size w wr
  lt : w.heap.size ≤ bb
  own : Holds wr bb 2 (bxF seed v) 59
  row : Row wr (bb + 1) 1 v R.length (stCells R)
/-- One row more. -/
theorem BoxRel.next {bb : Nat} {w wr w3 w4 : World} {seed : ByteArray} {R : List ByteArray} {v v' : Value} {y : ByteArray} (h : BoxRel bb w wr seed R v) (hb : Below wr.heap.size wr w3)
    (hrow : Row w4 (bb + 1) 1 v' (R.length + 1) (stCells R ++ [.string y])) (hg : w3.grownBy w4 v.ownBlock) : BoxRel bb w (w4.setCell ⟨bb, 1, none⟩ v') seed (R ++ [y]) v' := by
  have hrow3 : Row w3 (bb + 1) 1 v R.length (stCells R) := h.row.belowAll hb
  have hown3 := h.own.below hb h.own.lt
  have hb3 : Below w.heap.size w w3 := h.below.trans (hb.mono h.below.size)
  have hlt := h.lt
  refine ⟨(hb3.grown hg hb3.size (fun k hk => by have := (hrow3.lt k hk).1; omega)).setCell (p := ⟨bb, 1, none⟩) (by show w.heap.size ≤ bb; omega) _, hlt, ?_, ?_⟩
  · have h4 : Holds w4 bb 2 (bxF seed v) 59 := by
      unfold Holds at hown3 ⊢
      rw [hg.block bb (lt_of_block hown3) (fun e => hrow3.fresh (Nat.lt_succ_self bb) e.symm)]; exact hown3
    refine (h4.set 1 v').congr fun i hi => ?_
    unfold upd bxF
    rcases (show i = 0 ∨ i = 1 by omega) with rfl | rfl <;> simp
  · have e : stCells (R ++ [y]) = stCells R ++ [.string y] := by simp [stCells]
    rw [List.length_append, e]
    exact hrow.setOther (hrow.fresh (Nat.lt_succ_self _)) _

/-- A world in which a box's rows, and two of them, read so. -/
structure BoxZ (bb g i : Nat) (v : Value) (x y : ByteArray) where
  at' : World
  h0 : at'.cell? ⟨bb, 1, none⟩ = some v
  h1 : at'.cell? ⟨g, i, none⟩ = some (.string x)
  h2 : at'.cell? ⟨g, i + 1, none⟩ = some (.string y)
set_option maxHeartbeats 1000000 in
set_option maxRecDepth 100000 in
theorem refNewBox_t (b : Nat) (seed : ByteArray) (w : World) (hr : Holds w b 72 refCells 53) (h16 : seed.size = 16) :
    Calls Tryd.prog 7 #[.pointer (some ⟨b, 0, none⟩), .string seed] w fun e w' => ∃ bb v, e = .returned (.tuple #[.pointer (some ⟨bb, 0, none⟩), .int .i64 0]) ∧ BoxRel bb w w' seed (rowsOf seed) v := by
  have HR := Lib.hid hr
  have H16 := Lib.hid h16
  clear hr h16
  go_enter Tryd.func7, Tryd.ntmps7
  go_wp2_with fail
  refine (isMark_t _ _ H16.out).mono ?_
  rintro e w0 ⟨rfl, rfl⟩
  have HREL := Lib.hid (show BoxRel w0.heap.size w0 (w0.alloc (.cells #[.string seed, .slice none 0 0] 59)) seed (rows0 seed 0) (.slice none 0 0) from
    ⟨alloc_below _ _, Nat.le_refl _, Holds.new w0 2 (bxF seed (.slice none 0 0)) 59, Row.nil _ _ _⟩)
  go_wp2
  generalize w0.alloc (.cells #[.string seed, .slice none 0 0] 59) = w1 at HREL ⊢
  generalize hbb : w0.heap.size = bb at HREL
  clear hbb
  go_loopw [17] (fun i wr => ∃ (k : Nat) (v : Value), k ≤ 8 ∧ i = .int .i64 (k : Int) ∧ Hid (BoxRel bb w0 wr seed (rows0 seed k) v)) (fun i _ => 8 - (intOf i).toNat)
  case atStart => exact ⟨0, _, by omega, rfl, HREL⟩
  case round =>
    obtain ⟨k, v, hk, rfl, HU⟩ := hrel
    by_cases hlt : k < 8
    · have HPUB := Lib.hid (show publicAns seed (k : Int) = (publicOf seed (k : Int), 0) by unfold publicAns; rw [if_pos H16.out])
      go_wp2_with fail
      refine (refOncePublic_is b seed (k : Int) _ _ _ (HR.out.below HU.out.below HR.out.lt) HPUB.out).mono ?_
      rintro e w2 ⟨rfl, hb2⟩
      have HB2 := Lib.hid hb2
      have HR2 := Lib.hid ((HR.out.below HU.out.below HR.out.lt).below hb2 (Nat.lt_of_lt_of_le HR.out.lt HU.out.below.size))
      have HOWN := Lib.hid (HU.out.own.below hb2 HU.out.own.lt)
      have hps : (publicOf seed (k : Int)).size = 16 := markOf_len _ _
      obtain ⟨P, hP⟩ : ∃ P, publicOf seed (k : Int) = P := ⟨_, rfl⟩
      rw [hP] at hps ⊢
      have HP := Lib.hid hP
      have HPS := Lib.hid hps
      clear hb2 hP hps
      have HS := Lib.hid (show ∀ u : World, Below (bb + 1) w2 u → (u.cell? ⟨bb, 1, none⟩ = some v ∧ u.frozen? ⟨bb, 1, none⟩ = false ∧ Below (bb + 1) w2 u) from
        fun u hu => ⟨(hu.cell (p := ⟨bb, 1, none⟩) (Nat.lt_succ_self bb)).trans (HOWN.out.cell 1 (by omega)), (hu.frozen (p := ⟨bb, 1, none⟩) (Nat.lt_succ_self bb)).trans (HOWN.out.free 1), hu⟩)
      have HLT2 := Lib.hid (show bb + 1 ≤ w2.heap.size from HOWN.out.lt)
      go_wp2
      have q0 : w2.cell? ⟨bb, 1, none⟩ = some v := HOWN.out.cell 1 (by omega)
      go_region_law (first
          | (go_simp; go_at_call 23; refine (refNum_any (k : Int) _).mono ?_; rintro e w3 ⟨rfl, hb3⟩
             have c3 := (HS.out _ ((Below.refl _ _).drew.trans (hb3.mono HLT2.out))).1
             have c3' := fun o => (HS.out _ (((Below.refl _ _).drew.trans (hb3.mono HLT2.out)).alloc (Nat.le_trans HLT2.out hb3.size) o)).1)
          | (go_simp; go_at_call 22
             refine (refMark_any b 116 [txt (num8 (k : Int)), P] (some ⟨w3.heap.size, 0, none⟩) 2 _ ((HR2.out.below ((Below.refl _ _).drew.trans hb3) HR2.out.lt).alloc _) (by have := HPS.out; simp [total, num_size]; omega) (by simp) (strs_new w3 [txt (num8 (k : Int)), P] 9)).mono ?_
             rintro e w4 ⟨rfl, hb4⟩
             have HM4 := Lib.hid (show Below w2.heap.size w2 w4 from (((Below.refl _ _).drew.trans hb3).alloc hb3.size _).trans (hb4.mono (Nat.le_trans hb3.size (by simp))))
             have HROW := Lib.hid (HU.out.row.belowAll (HB2.out.trans (HM4.out.mono HB2.out.size)))
             have c4 := (HS.out _ (HM4.out.mono HLT2.out)).1
             have c4' := fun o => (HS.out _ ((HM4.out.mono HLT2.out).alloc (Nat.le_trans HLT2.out HM4.out.size) o)).1)
          | (refine step_of_list rfl ?_; refine wpList_append_one2 rfl (.tmp 31) (.tmp 38) 22 rfl 9 Tryd.underlying22 _ 16 infoStr rfl (by decide) (bb + 1) v (rows0 seed k).length (stCells (rows0 seed k)) rfl HROW.out (Nat.le_trans HLT2.out HM4.out.size) (by rw [rows0_length]; omega) (.string _) rfl rfl 9 ?_
             intro v' w6 hrow6 hgrow6 hmove6
             have HG6 := Lib.hid ((HM4.out.mono HLT2.out).grown hgrow6.out (Nat.le_trans HLT2.out HM4.out.size) (fun j hj => (HROW.out.lt j hj).1))
             obtain ⟨p6, cap6, rfl⟩ := hrow6.out.any
             have t0 := (HS.out _ HG6.out).1
             have t1 := (HS.out _ HG6.out).2.1
             refine then1 ?_))
      all_goals
        go_wp2
        go_roundw
        case rel =>
          refine ⟨k + 1, .slice p6 ((rows0 seed k).length + 1) cap6, by omega, by go_num, Lib.hid ?_⟩
          have e : rows0 seed (k + 1) = rows0 seed k ++ [markOf 116 [txt (num8 (k : Int)), P]] := by rw [← HP.out]; exact map_range_succ _ _
          rw [e]
          exact BoxRel.next HU.out (HB2.out.trans (HM4.out.mono HB2.out.size)) hrow6.out hgrow6.out
        case measure => simp [intOf]; omega
    · have HK8 := Lib.hid (show k = 8 by omega)
      go_wp2
      go_loopw [10] (fun i w' => ∃ (j : Nat) (v : Value), j ≤ 7 ∧ i = .int .i64 ((2 * j : Nat) : Int) ∧ Hid (BoxRel bb w0 w' seed (rowsUpto seed j) v)) (fun i _ => 14 - (intOf i).toNat)
      case atStart =>
        have h := HU.out
        rw [HK8.out] at h
        exact ⟨0, _, by omega, rfl, Lib.hid h⟩
      case round =>
        clear HU
        obtain ⟨j, v, hj, rfl, HU⟩ := hrel
        by_cases hlt2 : j < 7
        · have HRL := Lib.hid (rowsUpto_length seed j)
          obtain ⟨R, hR⟩ : ∃ R, rowsUpto seed j = R := ⟨_, rfl⟩
          have HNX := Lib.hid (show rowsUpto seed (j + 1) = R ++ [markOf 117 [R.getD (2 * j) ⟨#[]⟩, R.getD (2 * j + 1) ⟨#[]⟩]] by rw [rowsUpto, hR])
          have HSZ := Lib.hid (rowsUpto_size seed j)
          rw [hR] at HU HRL HSZ
          clear hR
          have hrl1 : R.length ≤ 14 := by have := HRL.out; omega
          have hrl2 : 2 * j + 2 ≤ R.length := by have := HRL.out; omega
          obtain ⟨g, rc, rfl, hgb, hgl, -, hcells, -⟩ := HU.out.row.shape (by omega)
          have r1 : _ := hcells (2 * j) (.string (R.getD (2 * j) ⟨#[]⟩)) (by unfold stCells; rw [List.getElem?_map, List.getD_eq_getElem?_getD, List.getElem?_eq_getElem (by omega)]; rfl)
          have r2 : _ := hcells (2 * j + 1) (.string (R.getD (2 * j + 1) ⟨#[]⟩)) (by unfold stCells; rw [List.getElem?_map, List.getD_eq_getElem?_getD, List.getElem?_eq_getElem (by omega)]; rfl)
          have HX1 := Lib.hid (show (R.getD (2 * j) ⟨#[]⟩).size = 16 by rw [List.getD_eq_getElem?_getD, List.getElem?_eq_getElem (by omega)]; exact HSZ.out _ (List.getElem_mem _))
          have HX2 := Lib.hid (show (R.getD (2 * j + 1) ⟨#[]⟩).size = 16 by rw [List.getD_eq_getElem?_getD, List.getElem?_eq_getElem (by omega)]; exact HSZ.out _ (List.getElem_mem _))
          generalize R.getD (2 * j) ⟨#[]⟩ = x1 at r1 HX1 HNX
          generalize R.getD (2 * j + 1) ⟨#[]⟩ = x2 at r2 HX2 HNX
          obtain ⟨i2, hi2⟩ : ∃ i2 : Nat, 2 * j = i2 := ⟨_, rfl⟩
          rw [hi2] at r1 r2 hrl2 ⊢
          have HI2 := Lib.hid hi2
          clear hi2 hcells hgb
          have HLT2 := Lib.hid (show bb + 1 ≤ wr.heap.size from HU.out.own.lt)
          have hbbl : bb < wr.heap.size := HU.out.own.lt
          have HR2 := Lib.hid (HR.out.below HU.out.below HR.out.lt)
          have HS := Lib.hid (show ∀ u : World, Below (bb + 1) wr u → (u.cell? ⟨bb, 1, none⟩ = some (.slice (some ⟨g, 0, none⟩) R.length rc) ∧ u.frozen? ⟨bb, 1, none⟩ = false) from
            fun u hu => ⟨(hu.cell (p := ⟨bb, 1, none⟩) (Nat.lt_succ_self bb)).trans (HU.out.own.cell 1 (by omega)), (hu.frozen (p := ⟨bb, 1, none⟩) (Nat.lt_succ_self bb)).trans (HU.out.own.free 1)⟩)
          have q0 : wr.cell? ⟨bb, 1, none⟩ = some (.slice (some ⟨g, 0, none⟩) R.length rc) := HU.out.own.cell 1 (by omega)
          have e14 : decide ((i2 : Int) < 14) = true := by have := HI2.out; simp; omega
          have k1 : (0 : Int) ≤ (i2 : Int) := by omega
          have k2 : (i2 : Int) < (R.length : Int) := by omega
          have k3 : IntKind.i64.wrap ((i2 : Int) + 1) = (i2 : Int) + 1 := IntWalk.i64_in _ (by omega)
          have k4 : (i2 : Int) + 1 < (R.length : Int) := by omega
          have k5 : ((i2 : Int) + 1).toNat = i2 + 1 := by omega
          have k6 : (0 : Int) ≤ (i2 : Int) + 1 := by omega
          have z0 : ∀ z : BoxZ bb g i2 (.slice (some ⟨g, 0, none⟩) R.length rc) x1 x2, z.at'.cell? ⟨bb, 1, none⟩ = some (.slice (some ⟨g, 0, none⟩) R.length rc) := fun z => z.h0
          have z1 : ∀ z : BoxZ bb g i2 (.slice (some ⟨g, 0, none⟩) R.length rc) x1 x2, z.at'.cell? ⟨g, i2, none⟩ = some (.string x1) := fun z => z.h1
          have z2 : ∀ z : BoxZ bb g i2 (.slice (some ⟨g, 0, none⟩) R.length rc) x1 x2, z.at'.cell? ⟨g, i2 + 1, none⟩ = some (.string x2) := fun z => z.h2
          have : Nonempty (BoxZ bb g i2 (.slice (some ⟨g, 0, none⟩) R.length rc) x1 x2) := ⟨⟨wr.drew, q0, r1, r2⟩⟩
          go_wp2
          refine wp_region_taken (fun w' => ∃ z : BoxZ bb g i2 (.slice (some ⟨g, 0, none⟩) R.length rc) x1 x2, w' = z.at') [0, 1, 2, 3, 4, 5, 6, 7, 8, 9, 10, 11, 12, 13, 14, 15, 16, 17, 18, 19, 20] [21, 22, 23, 24, 25, 26, 27] (by kernel_rfl) (by kernel_rfl) (by intro c d v a w h; cases d <;> exact h) ⟨⟨wr.drew, q0, r1, r2⟩, rfl⟩ ?_
          simp only [pickOps, List.filterMap_cons, List.filterMap_nil, List.getElem?_cons_zero, List.getElem?_cons_succ]
          repeat (first | go_big_quiet_step (fail) | quiet_step (fail))
          refine wpQuiet_nil ?_
          have HZ := Lib.hid (show ∀ u : World, Below wr.heap.size wr u → ∃ z : BoxZ bb g i2 (.slice (some ⟨g, 0, none⟩) R.length rc) x1 x2, u = z.at' from
            fun u hu => ⟨⟨u, (hu.cell (p := ⟨bb, 1, none⟩) hbbl).trans q0, (hu.cell (p := ⟨g, i2, none⟩) hgl).trans r1, (hu.cell (p := ⟨g, i2 + 1, none⟩) hgl).trans r2⟩, rfl⟩)
          clear z0 z1 z2 this
          refine wpSeq_one rfl (fun K hK => ?_)
          go_wp2
          refine hK _ _ (HZ.out _ ((Below.refl _ _).alloc (Nat.le_refl _) _).drew) ?_
          clear hK K
          refine wpSeq_one rfl (fun K hK => ?_)
          go_wp2_with fail
          refine (refMark_any b 117 [x1, x2] (some ⟨wr.heap.size, 0, none⟩) 2 _ (HR2.out.alloc _).drew (by have := HX1.out; have := HX2.out; simp [total]; omega) (by simp) (strs_new wr [x1, x2] 9).drew).mono ?_
          rintro e w4 ⟨rfl, hb4⟩
          have HM4 := Lib.hid (show Below wr.heap.size wr w4 from ((Below.refl _ _).alloc (Nat.le_refl _) _).drew.trans (hb4.mono (by simp)))
          have HROW := Lib.hid (HU.out.row.belowAll HM4.out)
          clear hb4
          go_wp2
          refine hK _ _ (HZ.out _ HM4.out) ?_
          clear hK K
          refine wpSeq_one rfl (fun K hK => ?_)
          go_wp2
          refine hK _ _ (HZ.out _ (HM4.out.alloc HM4.out.size _)) ?_
          clear hK K
          refine wpSeq_one rfl (fun K hK => ?_)
          refine wpList_append_one3 rfl (.tmp 51) (.tmp 70) 22 rfl 9 Tryd.underlying22 _ 16 infoStr rfl (by decide) (bb + 1) _ R.length (stCells R) rfl HROW.out (Nat.le_trans HLT2.out HM4.out.size) (by omega) (.string _) rfl rfl 9 ?_
          intro v' w6 hrow6 hgrow6 hmove6 hkeep6
          have HG6 := Lib.hid ((HM4.out.mono HLT2.out).grown hgrow6.out (Nat.le_trans HLT2.out HM4.out.size) (fun j hj => (HROW.out.lt j hj).1))
          obtain ⟨p6, cap6, rfl⟩ := hrow6.out.any
          have t0 := (HS.out _ HG6.out).1
          have t1 := (HS.out _ HG6.out).2
          have hsl : (stCells R).length = R.length := by unfold stCells; simp
          have HZ6 := Lib.hid (show ∃ z : BoxZ bb g i2 (.slice (some ⟨g, 0, none⟩) R.length rc) x1 x2, w6 = z.at' from
            ⟨⟨w6, t0, (hkeep6.out g rc rfl i2 (by rw [hsl]; omega)).trans ((HM4.out.cell (p := ⟨g, i2, none⟩) hgl).trans r1), (hkeep6.out g rc rfl (i2 + 1) (by rw [hsl]; omega)).trans ((HM4.out.cell (p := ⟨g, i2 + 1, none⟩) hgl).trans r2)⟩, rfl⟩)
          clear hsl
          refine hK _ _ HZ6.out ?_
          clear hK K
          refine wpSeq_one rfl (fun K hK => ?_)
          go_wp2
          refine hK _ _ HZ6.out ?_
          clear hK K
          refine wpSeq_one rfl (fun K hK => ?_)
          go_wp2
          refine hK _ _ HZ6.out ?_
          clear hK K
          refine wpSeq_last rfl (fun K hK => ?_)
          go_wp2
          refine hK _ _ ?_
          clear hK K
          go_wp2
          go_roundw
          case rel =>
            have HB := Lib.hid (show BoxRel bb w0 (w6.setCell ⟨bb, 1, none⟩ (.slice p6 (R.length + 1) cap6)) seed (rowsUpto seed (j + 1)) (.slice p6 (R.length + 1) cap6) by rw [HNX.out]; exact BoxRel.next HU.out HM4.out hrow6.out hgrow6.out)
            have he : (2 * (j + 1) : Nat) = i2 + 2 := by have := HI2.out; omega
            exact ⟨j + 1, _, by omega, by rw [he]; go_num, HB⟩
          case measure => have := HI2.out; simp [intOf]; omega
        · obtain rfl : j = 7 := by omega
          go_wp2
          refine bodyPost_ret (results_tmp2 rfl _ _ _) rfl ?_
          exact ⟨bb, v, rfl, HU.out⟩
end Go.Proofs.YtedmgfompaoeoaaDoor
/- Heads: plain facts, and lists of heads in memory. -/
namespace Go.Proofs.YtedmgfompaoeoaaDoor
open Go.RowKit

structure Hd where
  epoch : Int
  root : ByteArray
  prev : ByteArray
def noHd : Hd := ⟨0, ⟨#[]⟩, ⟨#[]⟩⟩
def Hd.val (h : Hd) : Value := .agg #[.int .i64 h.epoch, .string h.root, .string h.prev]
def rightHead (h : Hd) : Bool := decide (0 < h.epoch) && decide (h.root.size = 16) && decide (h.prev.size = 16)
def headMark (h : Hd) : ByteArray := markOf 104 [txt (num8 h.epoch), h.root, h.prev]
def headMarkAns (h : Hd) : ByteArray × Int := if rightHead h = true then (headMark h, 0) else (⟨#[]⟩, 1)
def none16 : ByteArray := txt (List.replicate 16 0)
def firstHd (root : ByteArray) : Hd := ⟨1, root, none16⟩
def afterHd (h : Hd) (root : ByteArray) : Hd := ⟨wrap64 (h.epoch + 1), root, headMark h⟩
def nextHd (l : List Hd) (root : ByteArray) : Option Hd :=
  match l.getLast? with
  | none => some (firstHd root)
  | some h => if rightHead h = true then some (afterHd h root) else none
def nextAns (l : List Hd) (root : ByteArray) : Hd × Int :=
  match nextHd l root with
  | none => (noHd, 1)
  | some h => if rightHead h = true then (h, 0) else (noHd, 1)
instance : DecidableEq Hd := fun a b =>
  if h : a.epoch = b.epoch ∧ a.root = b.root ∧ a.prev = b.prev then isTrue (by cases a; cases b; simp_all) else isFalse (fun e => h (by rw [e]; exact ⟨rfl, rfl, rfl⟩))
def hdAt (L : List Hd) (i : Nat) : Hd := L.getD i noHd
theorem hdAt_get {L : List Hd} {i : Nat} {x : Hd} (h : L[i]? = some x) : hdAt L i = x := by unfold hdAt; rw [List.getD_eq_getElem?_getD, h]; rfl
theorem hdAt_of {L : List Hd} {i : Nat} (hi : i < L.length) : hdAt L i = L[i] := hdAt_get (List.getElem?_eq_getElem hi)
/-- Is head i just the next one of those ahead of it? -/
def linkOk (L : List Hd) (i : Nat) : Bool := decide ((nextAns (L.take i) (hdAt L i).root).2 = 0) && decide ((nextAns (L.take i) (hdAt L i).root).1 = hdAt L i)
def wholeFrom (L : List Hd) : Nat → Nat → Nat × Bool
  | 0, _ => (0, true)
  | f + 1, i => if linkOk L i = true then wholeFrom L f (i + 1) else (i, false)
def wholeAns (L : List Hd) : Nat × Bool := wholeFrom L L.length 0
def partsFrom (a b : List Hd) : Nat → Nat → Nat
  | 0, _ => a.length
  | f + 1, i => if i < b.length ∧ hdAt b i = hdAt a i then partsFrom a b f (i + 1) else i
def partsAns (a b : List Hd) : Nat := partsFrom a b a.length 0

/-- The heads L lie at A. -/
def Hds (w : World) (A : Option Addr) (L : List Hd) : Prop := ∀ (i : Nat) x, L[i]? = some x → ∃ a, A = some a ∧ a.block < w.heap.size ∧ w.cell? (a.add (i * 3)) = some (.int .i64 x.epoch) ∧ w.cell? ((a.add (i * 3)).add 1) = some (.string x.root) ∧ w.cell? ((a.add (i * 3)).add 2) = some (.string x.prev)
theorem Hds.nil (w : World) (A : Option Addr) : Hds w A [] := fun i p h => by simp at h
theorem Hds.below {w w' : World} {A : Option Addr} {L : List Hd} (h : Hds w A L) (hb : Below w.heap.size w w') : Hds w' A L := fun i p hp => by
  obtain ⟨a, ha, hl, hc, hd, he⟩ := h i p hp
  exact ⟨a, ha, Nat.lt_of_lt_of_le hl hb.size, (hb.cell (by rw [block_add]; exact hl)).trans hc, (hb.cell (by rw [block_add, block_add]; exact hl)).trans hd, (hb.cell (by rw [block_add, block_add]; exact hl)).trans he⟩
theorem Hds.drew {w : World} {A : Option Addr} {L : List Hd} (h : Hds w A L) : Hds w.drew A L := fun i p hp => h i p hp
theorem Hds.take {w : World} {A : Option Addr} {L : List Hd} (h : Hds w A L) (n : Nat) : Hds w A (L.take n) := fun i x hi => by
  refine h i x ?_
  rw [List.getElem?_take] at hi
  split at hi
  · exact hi
  · cases hi
theorem Hds.at_ {w : World} {A : Option Addr} {L : List Hd} (h : Hds w A L) {i : Nat} (hi : i < L.length) : ∃ a, A = some a ∧ a.block < w.heap.size ∧ w.cell? (a.add (i * 3)) = some (.int .i64 (hdAt L i).epoch) ∧ w.cell? ((a.add (i * 3)).add 1) = some (.string (hdAt L i).root) ∧ w.cell? ((a.add (i * 3)).add 2) = some (.string (hdAt L i).prev) :=
  h i _ (by rw [List.getElem?_eq_getElem hi, hdAt_of hi])
theorem results_row2 {P : Program} {fn : Func} {p u : Tmp} {ty : TypeId} (h : fn.results = #[.cell p ty, .tmp u]) (tmps : Array Value) (w : World) (g : Nat) (t : TypeId) (cs : Array Value) (fr : Nat × Nat) (d : TypeDesc)
    (hp : tmps.getD p undef = .pointer (some ⟨g, 0, none⟩)) (hg : w.heap[g]? = some (.cells cs t fr))
    (hu : P.underlying ty = some d) (hd : (match d with | .struct _ | .array _ _ => true | _ => false) = true) (hi : (P.info? ty).map (·.size) = some cs.size) :
    (results fn tmps).run P w = .ok (.tuple #[.agg cs, tmps.getD u undef]) w := by
  rw [results_cell_tmp h, hp]
  simp [asAddr, run_loadVar_row w g t ty cs fr d hg hu hd hi, Result.andThen]
def hdF (h : Hd) : Nat → Value := fun i => if i = 0 then .int .i64 h.epoch else if i = 1 then .string h.root else .string h.prev
end Go.Proofs.YtedmgfompaoeoaaDoor
/- The document's NewBox of no mark, Public, SealSign. -/
namespace Go.Proofs.YtedmgfompaoeoaaDoor
open Go.RowKit

set_option maxRecDepth 100000 in
theorem refNewBox_f (b : Nat) (seed : ByteArray) (w : World) (h16 : ¬ seed.size = 16) :
    Calls Tryd.prog 7 #[.pointer (some ⟨b, 0, none⟩), .string seed] w fun e w' => e = .returned (.tuple #[.pointer none, .int .i64 1]) ∧ w' = w := by
  have H16 := Lib.hid h16
  clear h16
  go_enter Tryd.func7, Tryd.ntmps7
  go_wp2_with fail
  refine (isMark_f _ _ H16.out).mono ?_
  rintro e w0 ⟨rfl, rfl⟩
  go_wp2
  refine bodyPost_ret (results_tmp2 rfl _ _ _) rfl ?_
  exact ⟨rfl, rfl⟩
/-- A box in memory: its seed and its rows. -/
structure BoxIs (w : World) (bb : Nat) (seed : ByteArray) : Prop where
  lt : bb < w.heap.size
  sd : w.cell? ⟨bb, 0, none⟩ = some (.string seed)
  rows : ∃ g rc, g < w.heap.size ∧ w.cell? ⟨bb, 1, none⟩ = some (.slice (some ⟨g, 0, none⟩) 15 rc) ∧ ∀ k, k < 15 → w.cell? ⟨g, k, none⟩ = some (.string ((rowsOf seed).getD k ⟨#[]⟩))
theorem BoxIs.below {w w' : World} {bb : Nat} {seed : ByteArray} (h : BoxIs w bb seed) (hb : Below w.heap.size w w') : BoxIs w' bb seed := by
  obtain ⟨g, rc, hg, h1, h2⟩ := h.rows
  exact ⟨Nat.lt_of_lt_of_le h.lt hb.size, (hb.cell h.lt).trans h.sd, g, rc, Nat.lt_of_lt_of_le hg hb.size, (hb.cell (p := ⟨bb, 1, none⟩) h.lt).trans h1, fun k hk => (hb.cell (p := ⟨g, k, none⟩) hg).trans (h2 k hk)⟩
theorem BoxRel.is {bb : Nat} {w wr : World} {seed : ByteArray} {v : Value} (h : BoxRel bb w wr seed (rowsOf seed) v) : BoxIs wr bb seed := by
  have hl : (rowsOf seed).length = 15 := rowsUpto_length seed 7
  obtain ⟨g, rc, rfl, _, hg, _, hc, _⟩ := h.row.shape (by omega)
  refine ⟨h.own.lt, h.own.cell 0 (by omega), g, rc, hg, by have := h.own.cell 1 (by omega); rw [hl] at this; exact this, fun k hk => hc k _ ?_⟩
  unfold stCells
  rw [List.getElem?_map, List.getD_eq_getElem?_getD, List.getElem?_eq_getElem (by omega)]; rfl
theorem getD_size (R : List ByteArray) (hs : ∀ p ∈ R, p.size = 16) (k : Nat) (hk : k < R.length) : (R.getD k ⟨#[]⟩).size = 16 := by
  rw [List.getD_eq_getElem?_getD, List.getElem?_eq_getElem hk]
  exact hs _ (List.getElem_mem _)
theorem rowsOf_size (seed : ByteArray) (k : Nat) (hk : k < 15) : ((rowsOf seed).getD k ⟨#[]⟩).size = 16 :=
  getD_size _ (rowsUpto_size seed 7) k (by have := rowsUpto_length seed 7; omega)
set_option maxRecDepth 100000 in
theorem refPublic_any (bb : Nat) (seed : ByteArray) (w : World) (h : BoxIs w bb seed) :
    Calls Tryd.prog 11 #[.pointer (some ⟨bb, 0, none⟩)] w fun e w' => e = .returned (.string (boxPub seed)) ∧ w' = w := by
  obtain ⟨g, rc, hg, h1, h2⟩ := h.rows
  have h3 : w.cell? ⟨g, 14, none⟩ = some (.string (boxPub seed)) := h2 14 (by omega)
  clear h2 h
  go_enter Tryd.func11, Tryd.ntmps11
  go_wp2
  go_ret
  exact ⟨rfl, rfl⟩
def sib (k : Nat) : Nat := if k % 2 = 1 then k - 1 else k + 1
def rowBase (t : Nat) : Nat := [0, 8, 12, 14].getD t 14
def rowLen (t : Nat) : Nat := [8, 4, 2, 1].getD t 1
def sealPath (seed : ByteArray) (key : Nat) (t : Nat) : List ByteArray := (List.range t).map fun i : Nat => (rowsOf seed).getD (rowBase i + sib (key / 2 ^ i)) ⟨#[]⟩
/-- What a box tells of a mark by a key: the signature, the path, the error. -/
def sealAns (seed : ByteArray) (key : Int) (m : ByteArray) : Int × List ByteArray × List ByteArray × Int :=
  if 0 ≤ key ∧ key ≤ 7 then (if (signAns seed key m).2 = 0 then (key, (signAns seed key m).1, sealPath seed key.toNat 3, 0) else (0, [], [], (signAns seed key m).2)) else (0, [], [], 2)
end Go.Proofs.YtedmgfompaoeoaaDoor
/- The document's SealVerify. -/
namespace Go.Proofs.YtedmgfompaoeoaaDoor
open Go.RowKit

/-- Along a path, from a mark and a key on. -/
def upFrom : List ByteArray → ByteArray → Nat → ByteArray
  | [], t, _ => t
  | x :: r, t, k => upFrom r (if k % 2 = 1 then markOf 117 [x, t] else markOf 117 [t, x]) (k / 2)
def sealOk (pub m : ByteArray) (key : Int) (S P : List ByteArray) : Bool :=
  decide (0 ≤ key ∧ key ≤ 7) && decide (P.length = 3) && marksOk P && decide ((fromAns m S).2 = 0) && decide (upFrom P (markOf 116 [txt (num8 key), (fromAns m S).1]) key.toNat = pub)
theorem fromAns_size {m : ByteArray} {S : List ByteArray} {x : ByteArray} (h : fromAns m S = (x, 0)) : x.size = 16 := by
  unfold fromAns at h
  split at h
  · obtain ⟨rfl, _⟩ := Prod.mk.inj h; exact markOf_len _ _
  · obtain ⟨_, h2⟩ := Prod.mk.inj h; omega
def slF (key : Int) (u v : Value) : Nat → Value := fun i => if i = 0 then .int .i64 key else if i = 1 then u else v

set_option maxHeartbeats 2000000 in
set_option maxRecDepth 100000 in
theorem refSealVerify_any (b : Nat) (pub m : ByteArray) (key : Int) (S P : List ByteArray) (A B : Option Addr) (ca cb : Nat) (w : World) (hls : S.length ≤ 1000000) (hlp : P.length ≤ 1000000) (hr : Holds w b 72 refCells 53) (hs : Strs w A S) (hp : Strs w B P) :
    Calls Tryd.prog 16 #[.pointer (some ⟨b, 0, none⟩), .string pub, .string m, .agg #[.int .i64 key, .slice A S.length ca, .slice B P.length cb]] w fun e w' => e = .returned (.bool (sealOk pub m key S P)) ∧ Below w.heap.size w w' := by
  have HB0 := Lib.hid (alloc_below w (.cells #[.int .i64 key, .slice A S.length ca, .slice B P.length cb] 24))
  have HH0 := Lib.hid (show Holds (w.alloc (.cells #[.int .i64 key, .slice A S.length ca, .slice B P.length cb] 24)) w.heap.size 3 (slF key (.slice A S.length ca) (.slice B P.length cb)) 24 from Holds.new w 3 (slF key (.slice A S.length ca) (.slice B P.length cb)) 24)
  have HR := Lib.hid (hr.below HB0.out hr.lt)
  have HSS := Lib.hid (hs.below HB0.out)
  have HPP := Lib.hid (hp.below HB0.out)
  clear hr hs hp
  obtain ⟨T, hT⟩ : ∃ T, sealOk pub m key S P = T := ⟨_, rfl⟩
  rw [hT]
  have HT := Lib.hid hT
  clear hT
  go_enter Tryd.func16, Tryd.ntmps16
  go_wp2_with fail
  generalize w.alloc (.cells #[.int .i64 key, .slice A S.length ca, .slice B P.length cb] 24) = w0 at HB0 HH0 HR HSS HPP
  refine (in_any _ _ _ _).mono ?_
  rintro e w1 ⟨rfl, rfl⟩
  by_cases hkey : 0 ≤ key ∧ key ≤ 7
  · rw [show (decide ((0 : Int) ≤ key) && decide (key ≤ 7)) = true by simp [hkey]]
    have p2 : w1.cell? ⟨w.heap.size, 2, none⟩ = some (.slice B P.length cb) := HH0.out.cell 2 (by omega)
    by_cases h3 : P.length = 3
    · have e1 : ((P.length : Int) == 3) = true := by rw [beq_iff_eq]; omega
      have e2 : ((P.length : Int) != 3) = false := by simp; omega
      have H3 := Lib.hid h3
      have hp3 : P.length ≤ 3 := by omega
      have hp4 : 3 ≤ P.length := by omega
      clear h3
      go_wp2_with fail
      clear e1 e2
      refine (refMarks_any P B cb _ HPP.out hlp).mono ?_
      rintro e w1 ⟨rfl, rfl⟩
      obtain ⟨mk, hmk⟩ : ∃ mk, marksOk P = mk := ⟨_, rfl⟩
      rw [hmk]
      cases mk
      · have HF := Lib.hid (show T = false by rw [← HT.out]; unfold sealOk; rw [hmk]; simp)
        go_wp2
        go_ret
        exact ⟨by rw [HF.out]; rfl, HB0.out⟩
      · have HMK := Lib.hid hmk
        clear hmk
        have p1 : w1.cell? ⟨w.heap.size, 1, none⟩ = some (.slice A S.length ca) := HH0.out.cell 1 (by omega)
        obtain ⟨x, n, hx⟩ : ∃ x n, fromAns m S = (x, n) := ⟨_, _, rfl⟩
        have HX := Lib.hid hx
        clear hx
        go_wp2_with fail
        clear p1 p2
        refine (refOnceFrom_is b m S A ca x n _ hls HR.out HSS.out HX.out).mono ?_
        rintro e w2 ⟨rfl, hb2⟩
        have HB2 := Lib.hid (HB0.out.trans (hb2.mono HB0.out.size))
        have HH2 := Lib.hid (HH0.out.below hb2 HH0.out.lt)
        have HR2 := Lib.hid (HR.out.below hb2 HR.out.lt)
        have HPP2 := Lib.hid (HPP.out.below hb2)
        clear hb2
        by_cases hn : n = 0
        · subst hn
          have HXS := Lib.hid (fromAns_size HX.out)
          have HTT := Lib.hid (show decide (upFrom P (markOf 116 [txt (num8 key), x]) key.toNat = pub) = T by
            rw [← HT.out]; unfold sealOk; rw [HX.out, HMK.out, H3.out]; simp [hkey])
          obtain ⟨kk, rfl⟩ : ∃ kk : Nat, key = (kk : Int) := ⟨key.toNat, by omega⟩
          have hkk : kk ≤ 7 := by omega
          have HN2 := Lib.hid HH2.out.lt
          have HC2 := Lib.hid (show w2.cell? ⟨w.heap.size, 0, none⟩ = some (.int .i64 (kk : Int)) from HH2.out.cell 0 (by omega))
          have HS := Lib.hid (show ∀ u : World, Below w2.heap.size w2 u → (u.cell? ⟨w.heap.size, 0, none⟩ = some (.int .i64 (kk : Int)) ∧ Below w2.heap.size w2 u) from fun u hu => ⟨(hu.cell HN2.out).trans HC2.out, hu⟩)
          clear hkey
          go_wp2
          go_region_held3 (fun w' => w'.cell? ⟨w.heap.size, 0, none⟩ = some (.int .i64 (kk : Int)) ∧ Below w2.heap.size w2 w')
            (first
              | exact HS.out _ (Below.refl _ _).drew
              | exact HS.out _ ((Below.refl _ _).drew.trans (hb3.mono (Nat.le_refl _)))
              | exact HS.out _ (((Below.refl _ _).drew.trans (hb3.mono (Nat.le_refl _))).alloc hb3.size _)
              | exact HS.out _ HM4.out)
            (first
              | (go_at_call 23; refine (refNum_any (kk : Int) _).mono ?_; rintro e w3 ⟨rfl, hb3⟩)
              | (go_at_call 22
                 refine (refMark_any b 116 [txt (num8 (kk : Int)), x] (some ⟨w3.heap.size, 0, none⟩) 2 _ ((HR2.out.below ((Below.refl _ _).drew.trans hb3) HR2.out.lt).alloc _) (by have := HXS.out; simp [total, num_size]; omega) (by simp) (strs_new w3 [txt (num8 (kk : Int)), x] 9)).mono ?_
                 rintro e w4 ⟨rfl, hb4⟩
                 have HM4 := Lib.hid (show Below w2.heap.size w2 w4 from (((Below.refl _ _).drew.trans hb3).alloc hb3.size _).trans (hb4.mono (Nat.le_trans hb3.size (by simp))))))
          have HB4 := Lib.hid (HB2.out.trans (HM4.out.mono HB2.out.size))
          have HR3 := Lib.hid (HR2.out.below HM4.out HR2.out.lt)
          have HPP4 := Lib.hid (HPP2.out.below HM4.out)
          have p2 : w4.cell? ⟨w.heap.size, 2, none⟩ = some (.slice B P.length cb) := (HM4.out.cell HN2.out).trans (HH2.out.cell 2 (by omega))
          clear hb3 hb4
          obtain ⟨t0, ht0⟩ : ∃ t0, markOf 116 [txt (num8 (kk : Int)), x] = t0 := ⟨_, rfl⟩
          have HT0 := Lib.hid (show t0.size = 16 by rw [← ht0]; exact markOf_len _ _)
          rw [Int.toNat_natCast, ht0] at HTT
          rw [ht0]
          clear ht0
          go_wp2
          clear p2
          go_loopw [11, 12, 55] (fun tv kv iv wr => ∃ (i : Nat) (t : ByteArray) (k : Nat), i ≤ 3 ∧ iv = .int .i64 (i : Int) ∧ tv = .string t ∧ kv = .int .i64 (k : Int) ∧ k ≤ 7 ∧ Hid (t.size = 16 ∧ decide (upFrom (P.drop i) t k = pub) = T ∧ Below w4.heap.size w4 wr)) (fun _ _ iv _ => 3 - (intOf iv).toNat)
          case atStart => exact ⟨0, t0, kk, by omega, rfl, rfl, rfl, hkk, Lib.hid ⟨HT0.out, HTT.out, Below.refl _ _⟩⟩
          case round =>
            obtain ⟨i, t, k, hi, rfl, rfl, rfl, hk7, HU⟩ := hrel
            by_cases hlt : i < 3
            · obtain ⟨p, hp⟩ : ∃ p, P[i]? = some p := ⟨_, List.getElem?_eq_getElem (by omega)⟩
              obtain ⟨a, rfl, _, c0⟩ := (HPP4.out.below HU.out.2.2) i p hp
              have HPS := Lib.hid (marksOk_get HMK.out hp)
              have HDR := Lib.hid (show P.drop i = p :: P.drop (i + 1) by rw [List.drop_eq_getElem_cons (by omega)]; congr 1; rw [List.getElem?_eq_getElem (by omega)] at hp; exact Option.some.inj hp)
              have hl1 : (i : Int) < (P.length : Int) := by omega
              clear hp
              by_cases hodd : k % 2 = 1
              · have eo : ((k : Int) % 2 == 1) = true := by rw [beq_iff_eq]; omega
                have HNX := Lib.hid (show decide (upFrom (P.drop (i + 1)) (markOf 117 [p, t]) (k / 2) = pub) = T by
                  have := HU.out.2.1
                  rwa [HDR.out, upFrom, if_pos hodd] at this)
                clear hodd
                go_wp2_with fail
                refine (refMark_any b 117 [p, t] (some ⟨wr.heap.size, 0, none⟩) 2 _ ((HR3.out.below HU.out.2.2 HR3.out.lt).alloc _) (by have := HU.out.1; have := HPS.out; simp [total]; omega) (by simp) (strs_new wr [p, t] 9)).mono ?_
                rintro e w5 ⟨rfl, hb5⟩
                have HB5 := Lib.hid (HU.out.2.2.trans ((alloc_below wr (.cells #[.string p, .string t] 9)).mono HU.out.2.2.size |>.trans (hb5.mono (Nat.le_trans HU.out.2.2.size (by simp)))))
                clear hb5
                go_wp2
                go_roundw
                case rel => exact ⟨i + 1, _, k / 2, by omega, by go_num, rfl, by go_num, by omega, Lib.hid ⟨markOf_len _ _, HNX.out, HB5.out⟩⟩
                case measure => simp [intOf]; omega
              · have eo : ((k : Int) % 2 == 1) = false := by rw [beq_eq_false_iff_ne]; omega
                have HNX := Lib.hid (show decide (upFrom (P.drop (i + 1)) (markOf 117 [t, p]) (k / 2) = pub) = T by
                  have := HU.out.2.1
                  rwa [HDR.out, upFrom, if_neg hodd] at this)
                clear hodd
                go_wp2_with fail
                refine (refMark_any b 117 [t, p] (some ⟨wr.heap.size, 0, none⟩) 2 _ ((HR3.out.below HU.out.2.2 HR3.out.lt).alloc _) (by have := HU.out.1; have := HPS.out; simp [total]; omega) (by simp) (strs_new wr [t, p] 9)).mono ?_
                rintro e w5 ⟨rfl, hb5⟩
                have HB5 := Lib.hid (HU.out.2.2.trans ((alloc_below wr (.cells #[.string t, .string p] 9)).mono HU.out.2.2.size |>.trans (hb5.mono (Nat.le_trans HU.out.2.2.size (by simp)))))
                clear hb5
                go_wp2
                go_roundw
                case rel => exact ⟨i + 1, _, k / 2, by omega, by go_num, rfl, by go_num, by omega, Lib.hid ⟨markOf_len _ _, HNX.out, HB5.out⟩⟩
                case measure => simp [intOf]; omega
            · obtain rfl : i = 3 := by omega
              have HFIN := Lib.hid (show decide (t = pub) = T by
                have := HU.out.2.1
                rwa [List.drop_of_length_le (by omega), upFrom] at this)
              have HF := Lib.hid (HB4.out.trans (HU.out.2.2.mono HB4.out.size))
              have HEQ := Lib.hid (show (t.toList == pub.toList) = T by
                rw [← HFIN.out, Bool.eq_iff_iff, beq_iff_eq, decide_eq_true_eq, ByteArray.toList_eq, ByteArray.toList_eq]
                exact ⟨text_of, fun h => by rw [h]⟩)
              go_wp2
              go_ret
              exact ⟨by rw [← HEQ.out]; rfl, HF.out⟩
        · have e1 : (n == 0) = false := by rw [beq_eq_false_iff_ne]; exact hn
          have e2 : (n != 0) = true := by simpa using hn
          have HF := Lib.hid (show T = false by rw [← HT.out]; unfold sealOk; rw [HX.out]; simp [hn])
          go_wp2
          go_ret
          exact ⟨by rw [HF.out]; rfl, HB2.out⟩
    · have e1 : ((P.length : Int) == 3) = false := by rw [beq_eq_false_iff_ne]; omega
      have e2 : ((P.length : Int) != 3) = true := by simp; omega
      have HF := Lib.hid (show T = false by rw [← HT.out]; unfold sealOk; rw [decide_eq_false h3]; simp)
      clear h3
      go_wp2
      go_ret
      exact ⟨by rw [HF.out]; rfl, HB0.out⟩
  · rw [show (decide ((0 : Int) ≤ key) && decide (key ≤ 7)) = false by
      by_cases h0 : 0 ≤ key
      · have : ¬ key ≤ 7 := fun h => hkey ⟨h0, h⟩
        simp [this]
      · simp [h0]]
    have HF := Lib.hid (show T = false by rw [← HT.out]; unfold sealOk; rw [decide_eq_false hkey]; simp)
    clear hkey
    go_wp2
    go_ret
    exact ⟨by rw [HF.out]; rfl, HB0.out⟩
end Go.Proofs.YtedmgfompaoeoaaDoor
