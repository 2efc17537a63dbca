/- Parts of the proof, one behind the other: Prove, PProve. -/
import Derived.Test.YtenlpbcembadcaaDoorM12
import Derived.Laws.ResultCell
/- The document's Prove. -/
namespace Go.Proofs.YtenlpbcembadcaaDoor
open Go.RowKit

def proveFrom : Nat → List It → ByteArray → Nat → List ByteArray × It
  | 0, L, _, _ => ([], itAt L 0)
  | f + 1, L, ix, d => if L.length < 2 then ([], itAt L 0) else
      (nodeOf f (half L d (1 - bitOf ix.data.toList d)) (d + 1) :: (proveFrom f (half L d (bitOf ix.data.toList d)) ix (d + 1)).1, (proveFrom f (half L d (bitOf ix.data.toList d)) ix (d + 1)).2)
def noIt : It := (⟨#[]⟩, ⟨#[]⟩)
def proveAns (L : List It) (ix : ByteArray) : List ByteArray × It × Int := if rightItems L = true ∧ ix.size = 16 then ((proveFrom 128 L ix 0).1, (proveFrom 128 L ix 0).2, 0) else ([], noIt, 1)
theorem proveFrom_few (f : Nat) (L : List It) (ix : ByteArray) (d : Nat) (h : L.length < 2) : proveFrom f L ix d = ([], itAt L 0) := by
  cases f with
  | zero => rfl
  | succ f => rw [proveFrom, if_pos h]
theorem results_row_tmp {P : Program} {fn : Func} {p u : Tmp} {ty : TypeId} (h : fn.results = #[.cell p ty, .tmp u]) (tmps : Array Value) (w : World) (g : Nat) (t : TypeId) (cs : Array Value) (fr : Nat × Nat) (d : TypeDesc)
    (hp : tmps.getD p undef = .pointer (some ⟨g, 0, none⟩)) (hg : w.heap[g]? = some (.cells cs t fr))
    (hu : P.underlying ty = some d) (hd : (match d with | .struct _ | .array _ _ => true | _ => false) = true) (hi : (P.info? ty).map (·.size) = some cs.size) :
    (results fn tmps).run P w = .ok (.tuple #[.agg cs, tmps.getD u undef]) w := by
  rw [results_cell_tmp h, hp]
  simp [asAddr, run_loadVar_row w g t ty cs fr d hg hu hd hi, Result.andThen]
theorem infoProof : (Tryd.prog.info? 26).map (·.size) = some 3 := by kernel_rfl

def pCells (v : Value) (x : It) : Nat → Value := fun i => if i = 0 then v else if i = 1 then .string x.1 else .string x.2
structure ProveRel (pb : Nat) (w wr : World) (M : List It) (A : Option Addr) (P : List ByteArray) (v : Value) : Prop where
  below : Below w.heap.size w wr
  lt : w.heap.size < pb
  res : Holds wr w.heap.size 3 (pCells (.slice none 0 0) noIt) 26
  own : Holds wr pb 3 (pCells v noIt) 26
  itms : Itms wr A M
  row : Row wr (pb + 1) 1 v P.length (stCells P)
theorem infoStr : (Tryd.prog.info? 9).map (fun i => (i.zero, i.size, i.bytes)) = some (some (.string ⟨#[]⟩), 1, 16) := by kernel_rfl
/-- A round's end: the path has one mark more. -/
theorem ProveRel.next {pb : Nat} {w wr w3 w4 : World} {M M' : List It} {A A' : Option Addr} {P : List ByteArray} {v v' : Value} {y : ByteArray} {cap' : Nat} (h : ProveRel pb w wr M A P v) (hb : Below wr.heap.size wr w3) (hi : Row w3 wr.heap.size 2 (.slice A' M'.length cap') M'.length (itCells M'))
    (hrow : Row w4 (pb + 1) 1 v' (P.length + 1) (stCells P ++ [.string y])) (hg : w3.grownBy w4 v.ownBlock) : ProveRel pb w (w4.setCell ⟨pb, 0, none⟩ v') M' A' (P ++ [y]) v' := by
  have hrow3 : Row w3 (pb + 1) 1 v P.length (stCells P) := h.row.belowAll hb
  have hne : ∀ c, c < pb + 1 → v.ownBlock ≠ some c := fun c hc => hrow3.fresh hc
  have hown3 := h.own.below hb h.own.lt
  have hres3 := h.res.below hb h.res.lt
  have hpb : pb < w3.heap.size := hown3.lt
  have hlt := h.lt
  have hb3 : Below w.heap.size w w3 := h.below.trans (hb.mono h.below.size)
  have keep : ∀ c, c < w3.heap.size → c < pb + 1 → w4.heap[c]? = w3.heap[c]? := fun c hc hc2 => hg.block c hc (fun e => hne c hc2 e.symm)
  refine ⟨(hb3.grown hg (by omega) (fun k hk => by have := (hrow3.lt k hk).1; omega)).setCell (p := ⟨pb, 0, none⟩) (by show w.heap.size ≤ pb; omega) _, hlt, ?_, ?_, ?_, ?_⟩
  · refine Holds.other ?_ (a := ⟨pb, 0, none⟩) (by show w.heap.size ≠ pb; omega) v'
    unfold Holds at hres3 ⊢; rw [keep _ (lt_of_block hres3) (by omega)]; exact hres3
  · have h4 : Holds w4 pb 3 (pCells v noIt) 26 := by unfold Holds at hown3 ⊢; rw [keep _ hpb (by omega)]; exact hown3
    refine (h4.set 0 v').congr fun i _ => ?_
    unfold upd pCells
    by_cases h : i = 0 <;> simp [h]
  · have hv : ∀ c, v.ownBlock = some c → c < wr.heap.size := fun c hc => (h.row.lt c hc).2
    have hpw : pb < wr.heap.size := h.own.lt
    have hi4 : Row (w4.setCell ⟨pb, 0, none⟩ v') wr.heap.size 2 (.slice A' M'.length cap') M'.length (itCells M') := by
      refine (hi.kept (w' := w4) (fun k hk => ?_) hg.size).setOther (fun e => ?_) _
      · have h1 := hi.lt k hk
        exact hg.block k h1.2 (fun e => by have := hv k e.symm; omega)
      · have h1 := (hi.lt pb e).1; omega
    obtain ⟨_, B, c, hB, hI⟩ := hi4.itms
    injection hB with e1 e2 e3
    subst e1
    exact hI
  · have e : stCells (P ++ [y]) = stCells P ++ [.string y] := by simp [stCells]
    rw [List.length_append, e]
    exact hrow.setOther (hrow.fresh (Nat.lt_succ_self _)) _
theorem undrew {w w' : World} (h : Below w.drew.heap.size w.drew w') : Below w.heap.size w w' := ⟨h.os, h.tape, h.output, h.size, h.block⟩
theorem fin_block {pb : Nat} {w wr w4 w5 w6 : World} {M : List It} {A : Option Addr} {P : List ByteArray} {v : Value} (h : ProveRel pb w wr M A P v) (hb : Below wr.heap.size wr w4) (hb5 : Below w4.heap.size w4 w5) (hg : w5.grownBy w6 v.ownBlock) :
    Holds w6 pb 3 (pCells v noIt) 26 := by
  have h4 := h.own.below hb h.own.lt
  have h5 : Holds w5 pb 3 (pCells v noIt) 26 := h4.below hb5 h4.lt
  have hl := h5.lt
  unfold Holds at h5 ⊢
  rw [hg.block pb hl (fun e => by have := (h.row.lt pb e.symm).1; omega)]
  exact h5
theorem fin_cell {pb : Nat} {w wr w4 w5 w6 : World} {M : List It} {A : Option Addr} {P : List ByteArray} {v : Value} (h : ProveRel pb w wr M A P v) (hb : Below wr.heap.size wr w4) (hb5 : Below w4.heap.size w4 w5) (hg : w5.grownBy w6 v.ownBlock) :
    w6.cell? ⟨pb, 0, none⟩ = some v := (fin_block h hb hb5 hg).cell 0 (by omega)
theorem fin_free {pb : Nat} {w wr w4 w5 w6 : World} {M : List It} {A : Option Addr} {P : List ByteArray} {v : Value} (h : ProveRel pb w wr M A P v) (hb : Below wr.heap.size wr w4) (hb5 : Below w4.heap.size w4 w5) (hg : w5.grownBy w6 v.ownBlock) :
    w6.frozen? ⟨pb, 0, none⟩ = false := (fin_block h hb hb5 hg).free 0
structure LeafRel (pb : Nat) (w wr : World) (M : List It) (A : Option Addr) (P : List ByteArray) (v : Value) (k : Nat) : Prop where
  below : Below w.heap.size w wr
  lt : w.heap.size < pb
  res : Holds wr w.heap.size 3 (pCells (.slice none 0 0) noIt) 26
  own : Holds wr pb 3 (pCells v (if k = 0 then noIt else itAt M 0)) 26
  itms : k = 0 → Itms wr A M
  row : Row wr (pb + 1) 1 v P.length (stCells P)
theorem LeafRel.start {pb : Nat} {w wr : World} {M : List It} {A : Option Addr} {P : List ByteArray} {v : Value} (h : ProveRel pb w wr M A P v) : LeafRel pb w wr M A P v 0 :=
  ⟨h.below, h.lt, h.res, h.own, fun _ => h.itms, h.row⟩
end Go.Proofs.YtenlpbcembadcaaDoor
/- The program's Prove. -/
namespace Go.Proofs.YtenlpbcembadcaaDoor
open Go.RowKit

theorem Row.texts {w : World} {base n c : Nat} {p : Option Addr} {L : List ByteArray} (h : Row w base 1 (.slice p n c) n (stCells L)) : Strs w p L := by
  obtain ⟨_, A', c', hv, hit⟩ := h.strs
  injection hv with e1 _ _
  subst e1
  exact hit
set_option maxHeartbeats 1000000 in
set_option maxRecDepth 100000 in
theorem tProve_is (L : List It) (A : Option Addr) (cap : Nat) (ix : ByteArray) (T : List ByteArray) (x : It) (n : Int) (w : World) (hkk : HasK w) (hl : L.length ≤ 1000000) (hcap : L.length ≤ cap) (hm : Itms w A L) (h : proveAns L ix = (T, x, n)) :
    Calls Tryd.prog 21 #[.slice A L.length cap, .string ix] w fun e w' => ∃ A' c', e = .returned (.tuple #[.agg #[.slice A' T.length c', .string x.1, .string x.2], errOf n]) ∧ Below w.heap.size w w' ∧ Strs w' A' T := by
  have HKK := Lib.hid hkk
  have HM := Lib.hid hm
  have HCAP := Lib.hid hcap
  clear hkk hm hcap
  unfold proveAns at h
  by_cases hk : rightItems L = true
  · have HK := Lib.hid hk
    by_cases h16 : ix.size = 16
    · rw [if_pos ⟨hk, h16⟩] at h
      simp only [Prod.mk.injEq] at h
      obtain ⟨hT, hx, rfl⟩ := h
      have HT := Lib.hid hT
      have HX := Lib.hid hx
      clear hT hx
      have HAP := Lib.hid (right_apart hk)
      have HS := Lib.hid (right_sorted hk)
      have HCM := Lib.hid (right_cm hk)
      have H16 := Lib.hid h16
      have E16 := Lib.hid (show decide (ix.size = 16) = true by simp [h16])
      clear hk h16
      go_enter Tryd.func21, Tryd.ntmps21
      go_wp2_with fail
      have HB0 := Lib.hid (alloc_below w (.cells #[.slice none 0 0, .string ⟨#[]⟩, .string ⟨#[]⟩] 26))
      have HN0 := Lib.hid (show Holds (w.alloc (.cells #[.slice none 0 0, .string ⟨#[]⟩, .string ⟨#[]⟩] 26)) w.heap.size 3 (pCells (.slice none 0 0) noIt) 26 from Holds.new w 3 (pCells (.slice none 0 0) noIt) 26)
      refine (tRight_any L A cap _ hl (HM.out.below HB0.out)).mono ?_
      rintro e w1 ⟨rfl, hb1⟩
      rw [HK.out]
      have HB1 := Lib.hid (HB0.out.trans (hb1.mono HB0.out.size))
      have HN1 := Lib.hid (HN0.out.below hb1 HN0.out.lt)
      have hlt1 : w.heap.size < w1.heap.size := HN1.out.lt
      clear hb1
      go_wp2_with fail
      refine (tMark_any ix _).mono ?_
      rintro e w2 ⟨rfl, rfl⟩
      rw [E16.out]
      go_wp2
      have HREL := Lib.hid (show ProveRel w2.heap.size w (w2.alloc (.cells #[.slice none 0 0, .string ⟨#[]⟩, .string ⟨#[]⟩] 26)) L A [] (.slice none 0 0) from
        ⟨HB1.out.alloc HB1.out.size _, hlt1, HN1.out.alloc _, Holds.new w2 3 (pCells (.slice none 0 0) noIt) 26, (HM.out.below HB1.out).below (alloc_below _ _), Row.nil _ _ _⟩)
      generalize hpb : w2.heap.size = pb at HREL
      clear hpb
      go_loopw [0, 7] (fun l dv wr => ∃ (d f : Nat) (M : List It) (A' : Option Addr) (cap' : Nat) (P : List ByteArray) (v : Value), d + f = 128 ∧ l = .slice A' M.length cap' ∧ dv = .int .i64 (d : Int) ∧ M.length ≤ cap' ∧ M.Pairwise ltI ∧ Apart M d ∧ M.length ≤ 1000000 ∧ (∀ y ∈ M, y.2.size ≤ 1000000) ∧
        P ++ (proveFrom f M ix d).1 = T ∧ (proveFrom f M ix d).2 = x ∧ P.length ≤ d ∧ ProveRel pb w wr M A' P v) (fun _ dv _ => 128 - (intOf dv).toNat)
      case atStart => exact ⟨0, 128, L, A, cap, [], _, rfl, rfl, rfl, HCAP.out, HS.out, HAP.out, hl, HCM.out, HT.out, HX.out, by simp, HREL.out⟩
      case round =>
        obtain ⟨d, f, M, A', cap', P, v, hdf, rfl, rfl, hmc, hms, hap, hml, hcm, hT, hx, hpd, hrel⟩ := hrel
        have HDF := Lib.hid hdf
        have HMC := Lib.hid hmc
        have HMS := Lib.hid hms
        have HAPM := Lib.hid hap
        have HCMM := Lib.hid hcm
        have HTT := Lib.hid hT
        have HXX := Lib.hid hx
        have HRL := Lib.hid hrel
        clear hdf hmc hms hap hcm hT hx hrel
        by_cases h2 : 2 ≤ M.length
        · have hd : d < 128 := HAPM.out.lt h2
          obtain ⟨f', rfl⟩ : ∃ f', f = f' + 1 := ⟨f - 1, by have := HDF.out; omega⟩
          have HSTEP := Lib.hid (show proveFrom (f' + 1) M ix d = (nodeOf f' (half M d (1 - bitOf ix.data.toList d)) (d + 1) :: (proveFrom f' (half M d (bitOf ix.data.toList d)) ix (d + 1)).1, (proveFrom f' (half M d (bitOf ix.data.toList d)) ix (d + 1)).2) by rw [proveFrom, if_neg (by omega)])
          have h2i : (1 : Int) < (M.length : Int) := by omega
          go_wp2_with fail
          refine (tHalves_row M A' cap' d _ hml HMC.out HRL.out.itms HMS.out HAPM.out hd).mono ?_
          rintro e w3 ⟨A0, c0, A1, c1, rfl, hb3, hr0, hr1⟩
          have HB3 := Lib.hid hb3
          have HI0 := Lib.hid hr0.items
          have HI1 := Lib.hid hr1.items
          have HC0 := Lib.hid hr0.cap
          have HC1 := Lib.hid hr1.cap
          have HR0 := Lib.hid hr0
          have HR1 := Lib.hid hr1
          clear hb3 hr0 hr1
          have HKD := Lib.hid (show HasK w3.drew from (HKK.out.below (HRL.out.below.trans (HB3.out.mono HRL.out.below.size)) HKK.out.lt).below (Below.refl w3.heap.size w3).drew (Nat.lt_of_lt_of_le HKK.out.lt (HRL.out.below.trans (HB3.out.mono HRL.out.below.size)).size))
          go_wp2_with fail
          refine (tBit_any ix d _ H16.out hd).mono ?_
          rintro e w4 ⟨rfl, rfl⟩
          have hb2 : bitOf ix.data.toList d = 0 ∨ bitOf ix.data.toList d = 1 := by have := bitOf_lt ix.data.toList d; omega
          rcases hb2 with hbit | hbit
          · rw [hbit]
            rw [hbit] at HSTEP
            have HBIT := Lib.hid hbit
            clear hbit h2i
            have ED := Lib.hid (show ((d : Int) + 1) = ((d + 1 : Nat) : Int) by omega)
            have q0 : w4.cell? ⟨pb, 0, none⟩ = some v := (HRL.out.own.below HB3.out HRL.out.own.lt).cell 0 (by omega)
            have hpb : pb < w4.heap.size := Nat.lt_of_lt_of_le HRL.out.own.lt HB3.out.size
            obtain ⟨nd, hnd⟩ : ∃ nd, nodeOf f' (half M d 1) (d + 1) = nd := ⟨_, rfl⟩
            have HND := Lib.hid hnd
            clear hnd
            have hC : Calls Tryd.prog 49 #[.slice A1 (half M d 1).length c1, .int .i64 ((d : Int) + 1)] w4.drew (fun e w' => e = .returned (.string nd) ∧ Below w4.heap.size w4 w') := by
              rw [ED.out]
              exact (tNode_any f' (d + 1) (half M d 1) A1 c1 w4.drew (by have := HDF.out; omega) (HAPM.out.half 1) (half_rise HMS.out d 1) (Nat.le_trans (half_le _ _ _) hml) HC1.out (fun y hy => HCMM.out y (List.mem_filter.1 hy).1) HKD.out HI1.out.drew).mono fun e w' ⟨he, hb⟩ => ⟨by rw [he, HND.out], undrew hb⟩
            have HC := Lib.hid hC
            clear hC
            have s1 : IntKind.i64.wrap ((d : Int) + 1) = (d : Int) + 1 := IntWalk.i64_in _ (by omega)
            go_wp2_with fail
            go_region_law (first
              | (refine step_of_list rfl ?_; refine wpList_append_one2 rfl (.tmp 38) (.tmp 43) 22 rfl 9 Tryd.underlying22 _ 16 infoStr rfl (by decide) (pb + 1) v P.length (stCells P) rfl HROW5.out (Nat.le_trans hpb hb5.size) (by omega) (.string nd) rfl rfl 9 ?_; intro v' w6 hrow6 hgrow6 hmove6; obtain ⟨p', cap6, rfl⟩ := hrow6.out.any; have t0 := fin_cell HRL.out HB3.out hb5 hgrow6.out; have t1 := fin_free HRL.out HB3.out hb5 hgrow6.out; refine then1 ?_)
              | (go_simp; go_at_call 49; refine HC.out.mono ?_; rintro e w5 ⟨rfl, hb5⟩; have HROW5 := Lib.hid (HRL.out.row.belowAll (HB3.out.trans (hb5.mono HB3.out.size))); have c5 : w5.cell? ⟨pb, 0, none⟩ = some v := (hb5.cell hpb).trans q0; have c6 : (w5.alloc (.cells #[.string nd] 9)).cell? ⟨pb, 0, none⟩ = some v := by rw [World.cell?_alloc_lt _ _ ⟨pb, 0, none⟩ (Nat.lt_of_lt_of_le hpb hb5.size)]; exact c5))
            all_goals
              go_wp2
              go_roundw
              case rel =>
                refine ⟨d + 1, f', half M d 0, A0, c0, P ++ [nd], .slice p' (P.length + 1) cap6, by have := HDF.out; omega, rfl, by go_num, HC0.out, half_rise HMS.out d 0, HAPM.out.half 0, Nat.le_trans (half_le _ _ _) hml, fun y hy => HCMM.out y (List.mem_filter.1 hy).1, ?_, ?_, by simp; omega, ?_⟩
                · rw [← HTT.out, HSTEP.out, ← HND.out, List.append_assoc]; rfl
                · rw [← HXX.out, HSTEP.out]
                · exact ProveRel.next HRL.out (HB3.out.trans (hb5.mono HB3.out.size)) (HR0.out.belowAll hb5) hrow6.out hgrow6.out
              case measure => simp [intOf]; omega
          · rw [hbit]
            rw [hbit] at HSTEP
            have HBIT := Lib.hid hbit
            clear hbit h2i
            have ED := Lib.hid (show ((d : Int) + 1) = ((d + 1 : Nat) : Int) by omega)
            have q0 : w4.cell? ⟨pb, 0, none⟩ = some v := (HRL.out.own.below HB3.out HRL.out.own.lt).cell 0 (by omega)
            have hpb : pb < w4.heap.size := Nat.lt_of_lt_of_le HRL.out.own.lt HB3.out.size
            obtain ⟨nd, hnd⟩ : ∃ nd, nodeOf f' (half M d 0) (d + 1) = nd := ⟨_, rfl⟩
            have HND := Lib.hid hnd
            clear hnd
            have hC : Calls Tryd.prog 49 #[.slice A0 (half M d 0).length c0, .int .i64 ((d : Int) + 1)] w4.drew (fun e w' => e = .returned (.string nd) ∧ Below w4.heap.size w4 w') := by
              rw [ED.out]
              exact (tNode_any f' (d + 1) (half M d 0) A0 c0 w4.drew (by have := HDF.out; omega) (HAPM.out.half 0) (half_rise HMS.out d 0) (Nat.le_trans (half_le _ _ _) hml) HC0.out (fun y hy => HCMM.out y (List.mem_filter.1 hy).1) HKD.out HI0.out.drew).mono fun e w' ⟨he, hb⟩ => ⟨by rw [he, HND.out], undrew hb⟩
            have HC := Lib.hid hC
            clear hC
            have s1 : IntKind.i64.wrap ((d : Int) + 1) = (d : Int) + 1 := IntWalk.i64_in _ (by omega)
            go_wp2_with fail
            go_region_law (first
              | (refine step_of_list rfl ?_; refine wpList_append_one2 rfl (.tmp 38) (.tmp 43) 22 rfl 9 Tryd.underlying22 _ 16 infoStr rfl (by decide) (pb + 1) v P.length (stCells P) rfl HROW5.out (Nat.le_trans hpb hb5.size) (by omega) (.string nd) rfl rfl 9 ?_; intro v' w6 hrow6 hgrow6 hmove6; obtain ⟨p', cap6, rfl⟩ := hrow6.out.any; have t0 := fin_cell HRL.out HB3.out hb5 hgrow6.out; have t1 := fin_free HRL.out HB3.out hb5 hgrow6.out; refine then1 ?_)
              | (go_simp; go_at_call 49; refine HC.out.mono ?_; rintro e w5 ⟨rfl, hb5⟩; have HROW5 := Lib.hid (HRL.out.row.belowAll (HB3.out.trans (hb5.mono HB3.out.size))); have c5 : w5.cell? ⟨pb, 0, none⟩ = some v := (hb5.cell hpb).trans q0; have c6 : (w5.alloc (.cells #[.string nd] 9)).cell? ⟨pb, 0, none⟩ = some v := by rw [World.cell?_alloc_lt _ _ ⟨pb, 0, none⟩ (Nat.lt_of_lt_of_le hpb hb5.size)]; exact c5))
            all_goals
              go_wp2
              go_roundw
              case rel =>
                refine ⟨d + 1, f', half M d 1, A1, c1, P ++ [nd], .slice p' (P.length + 1) cap6, by have := HDF.out; omega, rfl, by go_num, HC1.out, half_rise HMS.out d 1, HAPM.out.half 1, Nat.le_trans (half_le _ _ _) hml, fun y hy => HCMM.out y (List.mem_filter.1 hy).1, ?_, ?_, by simp; omega, ?_⟩
                · rw [← HTT.out, HSTEP.out, ← HND.out, List.append_assoc]; rfl
                · rw [← HXX.out, HSTEP.out]
                · exact ProveRel.next HRL.out (HB3.out.trans (hb5.mono HB3.out.size)) (HR1.out.belowAll hb5) hrow6.out hgrow6.out
              case measure => simp [intOf]; omega
        · have hfew := proveFrom_few f M ix d (by omega)
          have h2i : ¬ (1 : Int) < (M.length : Int) := by omega
          have HTT' := Lib.hid (show P = T by have := HTT.out; rw [hfew] at this; simpa using this)
          have HXX' := Lib.hid (show itAt M 0 = x by have := HXX.out; rw [hfew] at this; exact this)
          clear hfew
          obtain ⟨pv, cv, hv⟩ := HRL.out.row.any
          subst hv
          have hpl := HRL.out.lt
          have hfr : ∀ c, c < pb + 1 → (Value.slice pv P.length cv).ownBlock ≠ some c := fun c hc => HRL.out.row.fresh hc
          have r0 : wr.cell? ⟨w.heap.size, 0, none⟩ = some (.slice none 0 0) := HRL.out.res.cell 0 (by omega)
          have r1 : wr.cell? ⟨w.heap.size, 1, none⟩ = some (.string ⟨#[]⟩) := HRL.out.res.cell 1 (by omega)
          have r2 : wr.cell? ⟨w.heap.size, 2, none⟩ = some (.string ⟨#[]⟩) := HRL.out.res.cell 2 (by omega)
          have g0 := HRL.out.res.free 0
          have g1 := HRL.out.res.free 1
          have g2 := HRL.out.res.free 2
          have e0 : wr.cell? ⟨pb, 0, none⟩ = some (.slice pv P.length cv) := HRL.out.own.cell 0 (by omega)
          have e1 : wr.cell? ⟨pb, 1, none⟩ = some (.string ⟨#[]⟩) := HRL.out.own.cell 1 (by omega)
          have e2 : wr.cell? ⟨pb, 2, none⟩ = some (.string ⟨#[]⟩) := HRL.out.own.cell 2 (by omega)
          have k1 := HRL.out.own.free 1
          have k2 := HRL.out.own.free 2
          rcases (show M.length = 1 ∨ M.length = 0 by omega) with h1 | h1
          · have h1i : ((M.length : Int) == 1) = true := by rw [beq_iff_eq]; omega
            have hlt : (0 : Int) < (M.length : Int) := by omega
            obtain ⟨a, rfl, hal, c0, c1⟩ := HRL.out.itms.at_ (show 0 < M.length by omega)
            rw [Nat.zero_mul, add_zero', HXX'.out] at c0 c1
            have d2 : wr.cell? ⟨a.block, a.off + 1, none⟩ = some (.string x.2) := c1
            clear c1 h1 h2
            go_wp2
            have hfin : Holds (((((wr.setCell ⟨pb, 1, none⟩ (.string x.1)).setCell ⟨pb, 2, none⟩ (.string x.2)).setCell ⟨w.heap.size, 0, none⟩ (.slice pv P.length cv)).setCell ⟨w.heap.size, 1, none⟩ (.string x.1)).setCell ⟨w.heap.size, 2, none⟩ (.string x.2)) w.heap.size 3 (pCells (.slice pv P.length cv) x) 26 := by
              refine (((((HRL.out.res.other (a := ⟨pb, 1, none⟩) (by show w.heap.size ≠ pb; omega) _).other (a := ⟨pb, 2, none⟩) (by show w.heap.size ≠ pb; omega) _).set 0 (.slice pv P.length cv)).set 1 (.string x.1)).set 2 (.string x.2)).congr fun i hi => ?_
              rcases (show i = 0 ∨ i = 1 ∨ i = 2 by omega) with rfl | rfl | rfl <;> rfl
            refine bodyPost_ret (results_row_tmp rfl _ _ w.heap.size 26 (arr 3 (pCells (.slice pv P.length cv) x)) (0, 0) _ rfl hfin Tryd.underlying26 rfl (by rw [arr_size]; exact infoProof)) rfl ?_
            rw [← HTT'.out]
            refine ⟨pv, ⟨cv, rfl⟩, ((((HRL.out.below.setCell (p := ⟨pb, 1, none⟩) (Nat.le_of_lt hpl) _).setCell (p := ⟨pb, 2, none⟩) (Nat.le_of_lt hpl) _).setCell (p := ⟨w.heap.size, 0, none⟩) (Nat.le_refl _) _).setCell (p := ⟨w.heap.size, 1, none⟩) (Nat.le_refl _) _).setCell (p := ⟨w.heap.size, 2, none⟩) (Nat.le_refl _) _, ?_⟩
            exact (((((HRL.out.row.setOther (a := ⟨pb, 1, none⟩) (hfr pb (by omega)) _).setOther (a := ⟨pb, 2, none⟩) (hfr pb (by omega)) _).setOther (a := ⟨w.heap.size, 0, none⟩) (hfr w.heap.size (by omega)) _).setOther (a := ⟨w.heap.size, 1, none⟩) (hfr w.heap.size (by omega)) _).setOther (a := ⟨w.heap.size, 2, none⟩) (hfr w.heap.size (by omega)) _).texts
          · have h1i : ((M.length : Int) == 1) = false := by rw [beq_eq_false_iff_ne]; omega
            obtain rfl : noIt = x := by
              rw [← HXX'.out, List.eq_nil_of_length_eq_zero h1]; rfl
            clear h1 h2
            go_wp2
            have hfin : Holds (((wr.setCell ⟨w.heap.size, 0, none⟩ (.slice pv P.length cv)).setCell ⟨w.heap.size, 1, none⟩ (.string ⟨#[]⟩)).setCell ⟨w.heap.size, 2, none⟩ (.string ⟨#[]⟩)) w.heap.size 3 (pCells (.slice pv P.length cv) noIt) 26 := by
              refine (((HRL.out.res.set 0 (.slice pv P.length cv)).set 1 (.string ⟨#[]⟩)).set 2 (.string ⟨#[]⟩)).congr fun i hi => ?_
              rcases (show i = 0 ∨ i = 1 ∨ i = 2 by omega) with rfl | rfl | rfl <;> rfl
            refine bodyPost_ret (results_row_tmp rfl _ _ w.heap.size 26 (arr 3 (pCells (.slice pv P.length cv) noIt)) (0, 0) _ rfl hfin Tryd.underlying26 rfl (by rw [arr_size]; exact infoProof)) rfl ?_
            rw [← HTT'.out]
            refine ⟨pv, ⟨cv, rfl⟩, ((HRL.out.below.setCell (p := ⟨w.heap.size, 0, none⟩) (Nat.le_refl _) _).setCell (p := ⟨w.heap.size, 1, none⟩) (Nat.le_refl _) _).setCell (p := ⟨w.heap.size, 2, none⟩) (Nat.le_refl _) _, ?_⟩
            exact (((HRL.out.row.setOther (a := ⟨w.heap.size, 0, none⟩) (hfr w.heap.size (by omega)) _).setOther (a := ⟨w.heap.size, 1, none⟩) (hfr w.heap.size (by omega)) _).setOther (a := ⟨w.heap.size, 2, none⟩) (hfr w.heap.size (by omega)) _).texts
    · rw [if_neg (fun hh => h16 hh.2)] at h
      cases h
      have E16 := Lib.hid (show decide (ix.size = 16) = false by simp [h16])
      clear hk h16
      go_enter Tryd.func21, Tryd.ntmps21
      go_wp2_with fail
      have HB0 := Lib.hid (alloc_below w (.cells #[.slice none 0 0, .string ⟨#[]⟩, .string ⟨#[]⟩] 26))
      have HN0 := Lib.hid (show Holds (w.alloc (.cells #[.slice none 0 0, .string ⟨#[]⟩, .string ⟨#[]⟩] 26)) w.heap.size 3 (pCells (.slice none 0 0) noIt) 26 from Holds.new w 3 (pCells (.slice none 0 0) noIt) 26)
      refine (tRight_any L A cap _ hl (HM.out.below HB0.out)).mono ?_
      rintro e w1 ⟨rfl, hb1⟩
      rw [HK.out]
      have HB1 := Lib.hid (HB0.out.trans (hb1.mono HB0.out.size))
      have HN1 := Lib.hid (HN0.out.below hb1 HN0.out.lt)
      have hlt1 : w.heap.size < w1.heap.size := HN1.out.lt
      clear hb1
      go_wp2_with fail
      refine (tMark_any ix _).mono ?_
      rintro e w1 ⟨rfl, rfl⟩
      rw [E16.out]
      have r0 : w1.cell? ⟨w.heap.size, 0, none⟩ = some (.slice none 0 0) := HN1.out.cell 0 (by omega)
      have r1 : w1.cell? ⟨w.heap.size, 1, none⟩ = some (.string ⟨#[]⟩) := HN1.out.cell 1 (by omega)
      have r2 : w1.cell? ⟨w.heap.size, 2, none⟩ = some (.string ⟨#[]⟩) := HN1.out.cell 2 (by omega)
      have g0 := HN1.out.free 0
      have g1 := HN1.out.free 1
      have g2 := HN1.out.free 2
      go_wp2
      have hfin : Holds (((w1.setCell ⟨w.heap.size, 0, none⟩ (.slice none 0 0)).setCell ⟨w.heap.size, 1, none⟩ (.string ⟨#[]⟩)).setCell ⟨w.heap.size, 2, none⟩ (.string ⟨#[]⟩)) w.heap.size 3 (pCells (.slice none 0 0) noIt) 26 := by
        refine (((HN1.out.set 0 (.slice none 0 0)).set 1 (.string ⟨#[]⟩)).set 2 (.string ⟨#[]⟩)).congr fun i hi => ?_
        rcases (show i = 0 ∨ i = 1 ∨ i = 2 by omega) with rfl | rfl | rfl <;> rfl
      refine bodyPost_ret (results_row_tmp rfl _ _ w.heap.size 26 (arr 3 (pCells (.slice none 0 0) noIt)) (0, 0) _ rfl hfin Tryd.underlying26 rfl (by rw [arr_size]; exact infoProof)) rfl ?_
      exact ⟨none, 0, rfl, ((HB1.out.setCell (p := ⟨w.heap.size, 0, none⟩) (Nat.le_refl _) _).setCell (p := ⟨w.heap.size, 1, none⟩) (Nat.le_refl _) _).setCell (p := ⟨w.heap.size, 2, none⟩) (Nat.le_refl _) _, Strs.nil _ _⟩
  · rw [if_neg (fun hh => hk hh.1)] at h
    cases h
    have HK := Lib.hid (show rightItems L = false by simpa using hk)
    clear hk
    go_enter Tryd.func21, Tryd.ntmps21
    go_wp2_with fail
    have HB0 := Lib.hid (alloc_below w (.cells #[.slice none 0 0, .string ⟨#[]⟩, .string ⟨#[]⟩] 26))
    have HN0 := Lib.hid (show Holds (w.alloc (.cells #[.slice none 0 0, .string ⟨#[]⟩, .string ⟨#[]⟩] 26)) w.heap.size 3 (pCells (.slice none 0 0) noIt) 26 from Holds.new w 3 (pCells (.slice none 0 0) noIt) 26)
    refine (tRight_any L A cap _ hl (HM.out.below HB0.out)).mono ?_
    rintro e w1 ⟨rfl, hb1⟩
    rw [HK.out]
    have HB1 := Lib.hid (HB0.out.trans (hb1.mono HB0.out.size))
    have HN1 := Lib.hid (HN0.out.below hb1 HN0.out.lt)
    have hlt1 : w.heap.size < w1.heap.size := HN1.out.lt
    clear hb1
    have r0 : w1.cell? ⟨w.heap.size, 0, none⟩ = some (.slice none 0 0) := HN1.out.cell 0 (by omega)
    have r1 : w1.cell? ⟨w.heap.size, 1, none⟩ = some (.string ⟨#[]⟩) := HN1.out.cell 1 (by omega)
    have r2 : w1.cell? ⟨w.heap.size, 2, none⟩ = some (.string ⟨#[]⟩) := HN1.out.cell 2 (by omega)
    have g0 := HN1.out.free 0
    have g1 := HN1.out.free 1
    have g2 := HN1.out.free 2
    go_wp2
    have hfin : Holds (((w1.setCell ⟨w.heap.size, 0, none⟩ (.slice none 0 0)).setCell ⟨w.heap.size, 1, none⟩ (.string ⟨#[]⟩)).setCell ⟨w.heap.size, 2, none⟩ (.string ⟨#[]⟩)) w.heap.size 3 (pCells (.slice none 0 0) noIt) 26 := by
      refine (((HN1.out.set 0 (.slice none 0 0)).set 1 (.string ⟨#[]⟩)).set 2 (.string ⟨#[]⟩)).congr fun i hi => ?_
      rcases (show i = 0 ∨ i = 1 ∨ i = 2 by omega) with rfl | rfl | rfl <;> rfl
    refine bodyPost_ret (results_row_tmp rfl _ _ w.heap.size 26 (arr 3 (pCells (.slice none 0 0) noIt)) (0, 0) _ rfl hfin Tryd.underlying26 rfl (by rw [arr_size]; exact infoProof)) rfl ?_
    exact ⟨none, 0, rfl, ((HB1.out.setCell (p := ⟨w.heap.size, 0, none⟩) (Nat.le_refl _) _).setCell (p := ⟨w.heap.size, 1, none⟩) (Nat.le_refl _) _).setCell (p := ⟨w.heap.size, 2, none⟩) (Nat.le_refl _) _, Strs.nil _ _⟩
end Go.Proofs.YtenlpbcembadcaaDoor
