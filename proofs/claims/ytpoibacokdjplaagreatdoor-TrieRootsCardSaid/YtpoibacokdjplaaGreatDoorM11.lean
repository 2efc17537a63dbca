/- Parts of the proof, one behind the other: Prove, Times. -/
import Derived.Test.YtpoibacokdjplaaGreatDoorM10
import Derived.Laws.ResultCell
import Derived.Test.YtpoibacokdjplaaGreatDoorM2
import Derived.Test.YtpoibacokdjplaaGreatDoorProg
/- The document's Prove. -/
namespace Go.Proofs.YtpoibacokdjplaaGreatDoor
open Go.RowKit

def proveFrom : Nat → List It → ByteArray → Nat → List ByteArray × It
  | 0, L, _, _ => ([], itAt L 0)
  | f + 1, L, ix, d => if L.length < 2 then ([], itAt L 0) else
      (nodeOf f (half L d (1 - bitOf ix.data.toList d)) (d + 1) :: (proveFrom f (half L d (bitOf ix.data.toList d)) ix (d + 1)).1, (proveFrom f (half L d (bitOf ix.data.toList d)) ix (d + 1)).2)
def noIt : It := (⟨#[]⟩, ⟨#[]⟩)
def proveAns (L : List It) (ix : ByteArray) : List ByteArray × It × Int := if rightItems L = true ∧ ix.size = 16 then ((proveFrom 128 L ix 0).1, (proveFrom 128 L ix 0).2, 0) else ([], noIt, 1)
theorem proveFrom_few (f : Nat) (L : List It) (ix : ByteArray) (d : Nat) (h : L.length < 2) : proveFrom f L ix d = ([], itAt L 0) := by
  cases f with
  | zero => rfl
  | succ f => rw [proveFrom, if_pos h]
theorem results_row_tmp {P : Program} {fn : Func} {p u : Tmp} {ty : TypeId} (h : fn.results = #[.cell p ty, .tmp u]) (tmps : Array Value) (w : World) (g : Nat) (t : TypeId) (cs : Array Value) (fr : Nat × Nat) (d : TypeDesc)
    (hp : tmps.getD p undef = .pointer (some ⟨g, 0, none⟩)) (hg : w.heap[g]? = some (.cells cs t fr))
    (hu : P.underlying ty = some d) (hd : (match d with | .struct _ | .array _ _ => true | _ => false) = true) (hi : (P.info? ty).map (·.size) = some cs.size) :
    (results fn tmps).run P w = .ok (.tuple #[.agg cs, tmps.getD u undef]) w := by
  rw [results_cell_tmp h, hp]
  simp [asAddr, run_loadVar_row w g t ty cs fr d hg hu hd hi, Result.andThen]
theorem infoProof : (Tryz.prog.info? 49).map (·.size) = some 3 := by kernel_rfl

def pCells (v : Value) (x : It) : Nat → Value := fun i => if i = 0 then v else if i = 1 then .string x.1 else .string x.2
structure ProveRel (pb : Nat) (w wr : World) (M : List It) (A : Option Addr) (P : List ByteArray) (v : Value) : Prop where
  below : Below w.heap.size w wr
  lt : w.heap.size < pb
  res : Holds wr w.heap.size 3 (pCells (.slice none 0 0) noIt) 49
  own : Holds wr pb 3 (pCells v noIt) 49
  itms : Itms wr A M
  row : Row wr (pb + 1) 1 v P.length (stCells P)
theorem infoStr : (Tryz.prog.info? 9).map (fun i => (i.zero, i.size, i.bytes)) = some (some (.string ⟨#[]⟩), 1, 16) := by kernel_rfl
/-- A round's end: the path has one mark more. -/
theorem ProveRel.next {pb : Nat} {w wr w3 w4 : World} {M M' : List It} {A A' : Option Addr} {P : List ByteArray} {v v' : Value} {y : ByteArray} {cap' : Nat} (h : ProveRel pb w wr M A P v) (hb : Below wr.heap.size wr w3) (hi : Row w3 wr.heap.size 2 (.slice A' M'.length cap') M'.length (itCells M'))
    (hrow : Row w4 (pb + 1) 1 v' (P.length + 1) (stCells P ++ [.string y])) (hg : w3.grownBy w4 v.ownBlock) : ProveRel pb w (w4.setCell ⟨pb, 0, none⟩ v') M' A' (P ++ [y]) v' := by
  have hrow3 : Row w3 (pb + 1) 1 v P.length (stCells P) := h.row.belowAll hb
  have hne : ∀ c, c < pb + 1 → v.ownBlock ≠ some c := fun c hc => hrow3.fresh hc
  have hown3 := h.own.below hb h.own.lt
  have hres3 := h.res.below hb h.res.lt
  have hpb : pb < w3.heap.size := hown3.lt
  have hlt := h.lt
  have hb3 : Below w.heap.size w w3 := h.below.trans (hb.mono h.below.size)
  have keep : ∀ c, c < w3.heap.size → c < pb + 1 → w4.heap[c]? = w3.heap[c]? := fun c hc hc2 => hg.block c hc (fun e => hne c hc2 e.symm)
  refine ⟨(hb3.grown hg (by omega) (fun k hk => by have := (hrow3.lt k hk).1; omega)).setCell (p := ⟨pb, 0, none⟩) (by show w.heap.size ≤ pb; omega) _, hlt, ?_, ?_, ?_, ?_⟩
  · refine Holds.other ?_ (a := ⟨pb, 0, none⟩) (by show w.heap.size ≠ pb; omega) v'
    unfold Holds at hres3 ⊢; rw [keep _ (lt_of_block hres3) (by omega)]; exact hres3
  · have h4 : Holds w4 pb 3 (pCells v noIt) 49 := by unfold Holds at hown3 ⊢; rw [keep _ hpb (by omega)]; exact hown3
    refine (h4.set 0 v').congr fun i _ => ?_
    unfold upd pCells
    by_cases h : i = 0 <;> simp [h]
  · have hv : ∀ c, v.ownBlock = some c → c < wr.heap.size := fun c hc => (h.row.lt c hc).2
    have hpw : pb < wr.heap.size := h.own.lt
    have hi4 : Row (w4.setCell ⟨pb, 0, none⟩ v') wr.heap.size 2 (.slice A' M'.length cap') M'.length (itCells M') := by
      refine (hi.kept (w' := w4) (fun k hk => ?_) hg.size).setOther (fun e => ?_) _
      · have h1 := hi.lt k hk
        exact hg.block k h1.2 (fun e => by have := hv k e.symm; omega)
      · have h1 := (hi.lt pb e).1; omega
    obtain ⟨_, B, c, hB, hI⟩ := hi4.itms
    injection hB with e1 e2 e3
    subst e1
    exact hI
  · have e : stCells (P ++ [y]) = stCells P ++ [.string y] := by simp [stCells]
    rw [List.length_append, e]
    exact hrow.setOther (hrow.fresh (Nat.lt_succ_self _)) _
theorem undrew {w w' : World} (h : Below w.drew.heap.size w.drew w') : Below w.heap.size w w' := ⟨h.os, h.tape, h.output, h.size, h.block⟩
theorem fin_block {pb : Nat} {w wr w4 w5 w6 : World} {M : List It} {A : Option Addr} {P : List ByteArray} {v : Value} (h : ProveRel pb w wr M A P v) (hb : Below wr.heap.size wr w4) (hb5 : Below w4.heap.size w4 w5) (hg : w5.grownBy w6 v.ownBlock) :
    Holds w6 pb 3 (pCells v noIt) 49 := by
  have h4 := h.own.below hb h.own.lt
  have h5 : Holds w5 pb 3 (pCells v noIt) 49 := h4.below hb5 h4.lt
  have hl := h5.lt
  unfold Holds at h5 ⊢
  rw [hg.block pb hl (fun e => by have := (h.row.lt pb e.symm).1; omega)]
  exact h5
theorem fin_cell {pb : Nat} {w wr w4 w5 w6 : World} {M : List It} {A : Option Addr} {P : List ByteArray} {v : Value} (h : ProveRel pb w wr M A P v) (hb : Below wr.heap.size wr w4) (hb5 : Below w4.heap.size w4 w5) (hg : w5.grownBy w6 v.ownBlock) :
    w6.cell? ⟨pb, 0, none⟩ = some v := (fin_block h hb hb5 hg).cell 0 (by omega)
theorem fin_free {pb : Nat} {w wr w4 w5 w6 : World} {M : List It} {A : Option Addr} {P : List ByteArray} {v : Value} (h : ProveRel pb w wr M A P v) (hb : Below wr.heap.size wr w4) (hb5 : Below w4.heap.size w4 w5) (hg : w5.grownBy w6 v.ownBlock) :
    w6.frozen? ⟨pb, 0, none⟩ = false := (fin_block h hb hb5 hg).free 0
structure LeafRel (pb : Nat) (w wr : World) (M : List It) (A : Option Addr) (P : List ByteArray) (v : Value) (k : Nat) : Prop where
  below : Below w.heap.size w wr
  lt : w.heap.size < pb
  res : Holds wr w.heap.size 3 (pCells (.slice none 0 0) noIt) 49
  own : Holds wr pb 3 (pCells v (if k = 0 then noIt else itAt M 0)) 49
  itms : k = 0 → Itms wr A M
  row : Row wr (pb + 1) 1 v P.length (stCells P)
theorem LeafRel.start {pb : Nat} {w wr : World} {M : List It} {A : Option Addr} {P : List ByteArray} {v : Value} (h : ProveRel pb w wr M A P v) : LeafRel pb w wr M A P v 0 :=
  ⟨h.below, h.lt, h.res, h.own, fun _ => h.itms, h.row⟩
set_option maxHeartbeats 1000000 in
set_option maxRecDepth 100000 in
theorem refProve_is (b : Nat) (L : List It) (A : Option Addr) (cap : Nat) (ix : ByteArray) (T : List ByteArray) (x : It) (n : Int) (w : World) (hl : L.length ≤ 1000000) (hr : Holds w b 72 refCells 60) (hm : Itms w A L) (h : proveAns L ix = (T, x, n)) :
    Calls Tryz.prog 23 #[.pointer (some ⟨b, 0, none⟩), .slice A L.length cap, .string ix] w fun e w' => ∃ v, e = .returned (.tuple #[.agg #[v, .string x.1, .string x.2], .int .i64 n]) ∧ Below w.heap.size w w' ∧ Row w' w.heap.size 1 v T.length (stCells T) := by
  have HR := Lib.hid hr
  have HM := Lib.hid hm
  clear hr hm
  unfold proveAns at h
  by_cases hk : rightItems L = true
  · have HK := Lib.hid hk
    by_cases h16 : ix.size = 16
    · rw [if_pos ⟨hk, h16⟩] at h
      simp only [Prod.mk.injEq] at h
      obtain ⟨hT, hx, rfl⟩ := h
      have HT := Lib.hid hT
      have HX := Lib.hid hx
      clear hT hx
      have HAP := Lib.hid (right_apart hk)
      have HCM := Lib.hid (right_cm hk)
      have H16 := Lib.hid h16
      clear hk h16
      go_enter Tryz.func23, Tryz.ntmps23
      go_wp2_with fail
      have HB0 := Lib.hid (alloc_below w (.cells #[.slice none 0 0, .string ⟨#[]⟩, .string ⟨#[]⟩] 49))
      have HN0 := Lib.hid (show Holds (w.alloc (.cells #[.slice none 0 0, .string ⟨#[]⟩, .string ⟨#[]⟩] 49)) w.heap.size 3 (pCells (.slice none 0 0) noIt) 49 from Holds.new w 3 (pCells (.slice none 0 0) noIt) 49)
      refine (refRight_any L A cap _ (HM.out.below HB0.out) hl).mono ?_
      rintro e w1 ⟨rfl, hb1⟩
      rw [HK.out]
      have HB1 := Lib.hid (HB0.out.trans (hb1.mono HB0.out.size))
      have HN1 := Lib.hid (HN0.out.below hb1 HN0.out.lt)
      have hlt1 : w.heap.size < w1.heap.size := HN1.out.lt
      clear hb1
      go_wp2_with fail
      refine (isMark_t ix _ H16.out).mono ?_
      rintro e w2 ⟨rfl, rfl⟩
      go_wp2
      have HREL := Lib.hid (show ProveRel w2.heap.size w (w2.alloc (.cells #[.slice none 0 0, .string ⟨#[]⟩, .string ⟨#[]⟩] 49)) L A [] (.slice none 0 0) from
        ⟨HB1.out.alloc HB1.out.size _, hlt1, HN1.out.alloc _, Holds.new w2 3 (pCells (.slice none 0 0) noIt) 49, (HM.out.below HB1.out).below (alloc_below _ _), Row.nil _ _ _⟩)
      generalize hpb : w2.heap.size = pb at HREL
      clear hpb
      go_loopw [1, 9] (fun l dv wr => ∃ (d f : Nat) (M : List It) (A' : Option Addr) (cap' : Nat) (P : List ByteArray) (v : Value), d + f = 128 ∧ l = .slice A' M.length cap' ∧ dv = .int .i64 (d : Int) ∧ Apart M d ∧ M.length ≤ 1000000 ∧ (∀ y ∈ M, y.2.size ≤ 1000000) ∧
        P ++ (proveFrom f M ix d).1 = T ∧ (proveFrom f M ix d).2 = x ∧ P.length ≤ d ∧ ProveRel pb w wr M A' P v) (fun _ dv _ => 128 - (intOf dv).toNat)
      case atStart => exact ⟨0, 128, L, A, cap, [], _, rfl, rfl, rfl, HAP.out, hl, HCM.out, HT.out, HX.out, by simp, HREL.out⟩
      case round =>
        obtain ⟨d, f, M, A', cap', P, v, hdf, rfl, rfl, hap, hml, hcm, hT, hx, hpd, hrel⟩ := hrel
        have HDF := Lib.hid hdf
        have HAPM := Lib.hid hap
        have HCMM := Lib.hid hcm
        have HTT := Lib.hid hT
        have HXX := Lib.hid hx
        have HRL := Lib.hid hrel
        clear hdf hap hcm hT hx hrel
        by_cases h2 : 2 ≤ M.length
        · have hd : d < 128 := HAPM.out.lt h2
          obtain ⟨f', rfl⟩ : ∃ f', f = f' + 1 := ⟨f - 1, by have := HDF.out; omega⟩
          have HSTEP := Lib.hid (show proveFrom (f' + 1) M ix d = (nodeOf f' (half M d (1 - bitOf ix.data.toList d)) (d + 1) :: (proveFrom f' (half M d (bitOf ix.data.toList d)) ix (d + 1)).1, (proveFrom f' (half M d (bitOf ix.data.toList d)) ix (d + 1)).2) by rw [proveFrom, if_neg (by omega)])
          have h2i : decide ((2 : Int) ≤ (M.length : Int)) = true := by simp; omega
          go_wp2_with fail
          refine (refHalves_any M A' cap' d _ HRL.out.itms hml HAPM.out.1 hd).mono ?_
          rintro e w3 ⟨v0, v1, rfl, hb3, hr0, hr1⟩
          have HB3 := Lib.hid hb3
          obtain ⟨-, A0, c0, rfl, hi0⟩ := hr0.itms
          obtain ⟨-, A1, c1, rfl, hi1⟩ := hr1.itms
          have HI0 := Lib.hid hi0
          have HI1 := Lib.hid hi1
          have HR0 := Lib.hid hr0
          have HR1 := Lib.hid hr1
          clear hb3 hr0 hr1 hi0 hi1
          have HRD := Lib.hid (show Holds w3 b 72 refCells 60 from HR.out.below (HRL.out.below.trans (HB3.out.mono HRL.out.below.size)) HR.out.lt)
          go_wp2_with fail
          refine (at_any ix d _ H16.out hd).mono ?_
          rintro e w4 ⟨rfl, rfl⟩
          have hb2 : bitOf ix.data.toList d = 0 ∨ bitOf ix.data.toList d = 1 := by have := bitOf_lt ix.data.toList d; omega
          rcases hb2 with hbit | hbit
          · rw [hbit]
            rw [hbit] at HSTEP
            have HBIT := Lib.hid hbit
            clear hbit h2i
            have ED := Lib.hid (show ((d : Int) + 1) = ((d + 1 : Nat) : Int) by omega)
            have q0 : w4.cell? ⟨pb, 0, none⟩ = some v := (HRL.out.own.below HB3.out HRL.out.own.lt).cell 0 (by omega)
            have hpb : pb < w4.heap.size := Nat.lt_of_lt_of_le HRL.out.own.lt HB3.out.size
            obtain ⟨nd, hnd⟩ : ∃ nd, nodeOf f' (half M d 1) (d + 1) = nd := ⟨_, rfl⟩
            have HND := Lib.hid hnd
            clear hnd
            have hC : Calls Tryz.prog 34 #[.pointer (some ⟨b, 0, none⟩), .slice A1 (half M d 1).length c1, .int .i64 ((d : Int) + 1)] w4.drew (fun e w' => e = .returned (.string nd) ∧ Below w4.heap.size w4 w') := by
              rw [ED.out]
              exact (refNode_any b f' (d + 1) (half M d 1) A1 c1 w4.drew (by have := HDF.out; omega) (HAPM.out.half 1) (Nat.le_trans (half_le _ _ _) hml) (fun y hy => HCMM.out y (List.mem_filter.1 hy).1) HRD.out.drew HI1.out.drew).mono fun e w' ⟨he, hb⟩ => ⟨by rw [he, HND.out], undrew hb⟩
            have HC := Lib.hid hC
            clear hC
            have s1 : IntKind.i64.wrap ((d : Int) + 1) = (d : Int) + 1 := IntWalk.i64_in _ (by omega)
            go_wp2_with fail
            go_region_law (first
              | (refine step_of_list rfl ?_; refine wpList_append_one2 rfl (.tmp 45) (.tmp 51) 47 rfl 9 Tryz.underlying47 _ 16 infoStr rfl (by decide) (pb + 1) v P.length (stCells P) rfl HROW5.out (Nat.le_trans hpb hb5.size) (by omega) (.string nd) rfl rfl 9 ?_; intro v' w6 hrow6 hgrow6 hmove6; obtain ⟨p', cap6, rfl⟩ := hrow6.out.any; have t0 := fin_cell HRL.out HB3.out hb5 hgrow6.out; have t1 := fin_free HRL.out HB3.out hb5 hgrow6.out; refine then1 ?_)
              | (go_simp; go_at_call 34; refine HC.out.mono ?_; rintro e w5 ⟨rfl, hb5⟩; have HROW5 := Lib.hid (HRL.out.row.belowAll (HB3.out.trans (hb5.mono HB3.out.size))); have c5 : w5.cell? ⟨pb, 0, none⟩ = some v := (hb5.cell hpb).trans q0; have c6 : (w5.alloc (.cells #[.string nd] 9)).cell? ⟨pb, 0, none⟩ = some v := by rw [World.cell?_alloc_lt _ _ ⟨pb, 0, none⟩ (Nat.lt_of_lt_of_le hpb hb5.size)]; exact c5))
            all_goals
              go_wp2
              go_roundw
              case rel =>
                refine ⟨d + 1, f', half M d 0, A0, c0, P ++ [nd], .slice p' (P.length + 1) cap6, by have := HDF.out; omega, rfl, by go_num, HAPM.out.half 0, Nat.le_trans (half_le _ _ _) hml, fun y hy => HCMM.out y (List.mem_filter.1 hy).1, ?_, ?_, by simp; omega, ?_⟩
                · rw [← HTT.out, HSTEP.out, ← HND.out, List.append_assoc]; rfl
                · rw [← HXX.out, HSTEP.out]
                · exact ProveRel.next HRL.out (HB3.out.trans (hb5.mono HB3.out.size)) (HR0.out.belowAll hb5) hrow6.out hgrow6.out
              case measure => simp [intOf]; omega
          · rw [hbit]
            rw [hbit] at HSTEP
            have HBIT := Lib.hid hbit
            clear hbit h2i
            have ED := Lib.hid (show ((d : Int) + 1) = ((d + 1 : Nat) : Int) by omega)
            have q0 : w4.cell? ⟨pb, 0, none⟩ = some v := (HRL.out.own.below HB3.out HRL.out.own.lt).cell 0 (by omega)
            have hpb : pb < w4.heap.size := Nat.lt_of_lt_of_le HRL.out.own.lt HB3.out.size
            obtain ⟨nd, hnd⟩ : ∃ nd, nodeOf f' (half M d 0) (d + 1) = nd := ⟨_, rfl⟩
            have HND := Lib.hid hnd
            clear hnd
            have hC : Calls Tryz.prog 34 #[.pointer (some ⟨b, 0, none⟩), .slice A0 (half M d 0).length c0, .int .i64 ((d : Int) + 1)] w4.drew (fun e w' => e = .returned (.string nd) ∧ Below w4.heap.size w4 w') := by
              rw [ED.out]
              exact (refNode_any b f' (d + 1) (half M d 0) A0 c0 w4.drew (by have := HDF.out; omega) (HAPM.out.half 0) (Nat.le_trans (half_le _ _ _) hml) (fun y hy => HCMM.out y (List.mem_filter.1 hy).1) HRD.out.drew HI0.out.drew).mono fun e w' ⟨he, hb⟩ => ⟨by rw [he, HND.out], undrew hb⟩
            have HC := Lib.hid hC
            clear hC
            have s1 : IntKind.i64.wrap ((d : Int) + 1) = (d : Int) + 1 := IntWalk.i64_in _ (by omega)
            go_wp2_with fail
            go_region_law (first
              | (refine step_of_list rfl ?_; refine wpList_append_one2 rfl (.tmp 45) (.tmp 51) 47 rfl 9 Tryz.underlying47 _ 16 infoStr rfl (by decide) (pb + 1) v P.length (stCells P) rfl HROW5.out (Nat.le_trans hpb hb5.size) (by omega) (.string nd) rfl rfl 9 ?_; intro v' w6 hrow6 hgrow6 hmove6; obtain ⟨p', cap6, rfl⟩ := hrow6.out.any; have t0 := fin_cell HRL.out HB3.out hb5 hgrow6.out; have t1 := fin_free HRL.out HB3.out hb5 hgrow6.out; refine then1 ?_)
              | (go_simp; go_at_call 34; refine HC.out.mono ?_; rintro e w5 ⟨rfl, hb5⟩; have HROW5 := Lib.hid (HRL.out.row.belowAll (HB3.out.trans (hb5.mono HB3.out.size))); have c5 : w5.cell? ⟨pb, 0, none⟩ = some v := (hb5.cell hpb).trans q0; have c6 : (w5.alloc (.cells #[.string nd] 9)).cell? ⟨pb, 0, none⟩ = some v := by rw [World.cell?_alloc_lt _ _ ⟨pb, 0, none⟩ (Nat.lt_of_lt_of_le hpb hb5.size)]; exact c5))
            all_goals
              go_wp2
              go_roundw
              case rel =>
                refine ⟨d + 1, f', half M d 1, A1, c1, P ++ [nd], .slice p' (P.length + 1) cap6, by have := HDF.out; omega, rfl, by go_num, HAPM.out.half 1, Nat.le_trans (half_le _ _ _) hml, fun y hy => HCMM.out y (List.mem_filter.1 hy).1, ?_, ?_, by simp; omega, ?_⟩
                · rw [← HTT.out, HSTEP.out, ← HND.out, List.append_assoc]; rfl
                · rw [← HXX.out, HSTEP.out]
                · exact ProveRel.next HRL.out (HB3.out.trans (hb5.mono HB3.out.size)) (HR1.out.belowAll hb5) hrow6.out hgrow6.out
              case measure => simp [intOf]; omega
        · have hfew := proveFrom_few f M ix d (by omega)
          have h2i : decide ((2 : Int) ≤ (M.length : Int)) = false := by simp; omega
          have HTT' := Lib.hid (show P = T by have := HTT.out; rw [hfew] at this; simpa using this)
          have HXX' := Lib.hid (show itAt M 0 = x by have := HXX.out; rw [hfew] at this; exact this)
          clear hfew
          go_wp2
          go_loopw [57] (fun i wq => ∃ k : Nat, k ≤ M.length ∧ i = .int .i64 (k : Int) ∧ LeafRel pb w wq M A' P v k) (fun i _ => M.length - (intOf i).toNat)
          case atStart => exact ⟨0, by omega, rfl, LeafRel.start HRL.out⟩
          case round =>
            obtain ⟨k, hk, rfl, hleaf⟩ := hrel
            have HLF := Lib.hid hleaf
            clear hleaf
            by_cases hlt : k < M.length
            · have hk0 : k = 0 := by omega
              subst hk0
              obtain ⟨a, rfl, hal, c0, c1⟩ := (HLF.out.itms rfl).at_ hlt
              rw [Nat.zero_mul, add_zero'] at c0 c1
              rw [HXX'.out] at c0 c1
              have d2 : wr.cell? ⟨a.block, a.off + 1, none⟩ = some (.string x.2) := c1
              have hlti : (0 : Int) < (M.length : Int) := by omega
              have ho := (HLF.out.own.alloc (.cells #[.string x.1, .string x.2] 24))
              have m1 := ho.cell 1 (by omega)
              have m2 := ho.cell 2 (by omega)
              have f1 := ho.free 1
              have f2 := ho.free 2
              have HO := Lib.hid ho
              clear c1 ho
              go_wp2
              go_roundw
              case rel =>
                refine ⟨0 + 1, by omega, by go_num, ?_⟩
                have hb1 : Below w.heap.size w (wr.alloc (.cells #[.string x.1, .string x.2] 24)) := HLF.out.below.alloc HLF.out.below.size _
                have hpl := HLF.out.lt
                refine ⟨(hb1.setCell (p := ⟨pb, 1, none⟩) (Nat.le_of_lt hpl) _).setCell (p := ⟨pb, 2, none⟩) (Nat.le_of_lt hpl) _, hpl, ?_, ?_, ?_, ?_⟩
                · exact (((HLF.out.res.alloc _).other (a := ⟨pb, 1, none⟩) (by show w.heap.size ≠ pb; omega) _).other (a := ⟨pb, 2, none⟩) (by show w.heap.size ≠ pb; omega) _)
                · refine ((HO.out.set 1 (.string x.1)).set 2 (.string x.2)).congr fun i hi => ?_
                  rw [HXX'.out]
                  rcases (show i = 0 ∨ i = 1 ∨ i = 2 by omega) with rfl | rfl | rfl <;> rfl
                · intro h; cases h
                · exact ((HLF.out.row.alloc _).setOther (HLF.out.row.fresh (Nat.lt_succ_self _)) _).setOther (HLF.out.row.fresh (Nat.lt_succ_self _)) _
              case measure => simp [intOf]; omega
            · have hkm : k = M.length := by omega
              have hown : Holds wr pb 3 (pCells v x) 49 := by
                have h := HLF.out.own
                have e : (if k = 0 then noIt else itAt M 0) = x := by
                  rw [← HXX'.out]
                  by_cases h0 : k = 0
                  · rw [if_pos h0]
                    have : M = [] := List.eq_nil_of_length_eq_zero (by omega)
                    rw [this]; rfl
                  · rw [if_neg h0]
                rwa [e] at h
              have hrow := HLF.out.row
              obtain ⟨pv, cv, hv⟩ := hrow.any
              subst hv
              have e0 : wr.cell? ⟨pb, 0, none⟩ = some (.slice pv P.length cv) := hown.cell 0 (by omega)
              have e1 : wr.cell? ⟨pb, 1, none⟩ = some (.string x.1) := hown.cell 1 (by omega)
              have e2 : wr.cell? ⟨pb, 2, none⟩ = some (.string x.2) := hown.cell 2 (by omega)
              have r0 : wr.cell? ⟨w.heap.size, 0, none⟩ = some (.slice none 0 0) := HLF.out.res.cell 0 (by omega)
              have r1 : wr.cell? ⟨w.heap.size, 1, none⟩ = some (.string ⟨#[]⟩) := HLF.out.res.cell 1 (by omega)
              have r2 : wr.cell? ⟨w.heap.size, 2, none⟩ = some (.string ⟨#[]⟩) := HLF.out.res.cell 2 (by omega)
              have g0 := HLF.out.res.free 0
              have g1 := HLF.out.res.free 1
              have g2 := HLF.out.res.free 2
              have HOWN := Lib.hid hown
              have HROW := Lib.hid hrow
              clear hown hrow hkm
              go_wp2
              have hfin : Holds (((wr.setCell ⟨w.heap.size, 0, none⟩ (.slice pv P.length cv)).setCell ⟨w.heap.size, 1, none⟩ (.string x.1)).setCell ⟨w.heap.size, 2, none⟩ (.string x.2)) w.heap.size 3 (pCells (.slice pv P.length cv) x) 49 := by
                refine (((HLF.out.res.set 0 (.slice pv P.length cv)).set 1 (.string x.1)).set 2 (.string x.2)).congr fun i hi => ?_
                rcases (show i = 0 ∨ i = 1 ∨ i = 2 by omega) with rfl | rfl | rfl <;> rfl
              refine bodyPost_ret (results_row_tmp rfl _ _ w.heap.size 49 (arr 3 (pCells (.slice pv P.length cv) x)) (0, 0) _ rfl hfin Tryz.underlying49 rfl (by rw [arr_size]; exact infoProof)) rfl ?_
              have hpl := HLF.out.lt
              have hfr : ∀ c, c < pb + 1 → (Value.slice pv P.length cv).ownBlock ≠ some c := fun c hc => HROW.out.fresh hc
              refine ⟨.slice pv P.length cv, rfl, ((HLF.out.below.setCell (p := ⟨w.heap.size, 0, none⟩) (Nat.le_refl _) _).setCell (p := ⟨w.heap.size, 1, none⟩) (Nat.le_refl _) _).setCell (p := ⟨w.heap.size, 2, none⟩) (Nat.le_refl _) _, ?_⟩
              rw [← HTT'.out]
              exact (((HROW.out.setOther (a := ⟨w.heap.size, 0, none⟩) (hfr w.heap.size (by omega)) _).setOther (a := ⟨w.heap.size, 1, none⟩) (hfr w.heap.size (by omega)) _).setOther (a := ⟨w.heap.size, 2, none⟩) (hfr w.heap.size (by omega)) _).mono (by omega)
    · rw [if_neg (fun hh => h16 hh.2)] at h
      cases h
      have H16 := Lib.hid h16
      clear hk h16
      go_enter Tryz.func23, Tryz.ntmps23
      go_wp2_with fail
      have HB0 := Lib.hid (alloc_below w (.cells #[.slice none 0 0, .string ⟨#[]⟩, .string ⟨#[]⟩] 49))
      have HN0 := Lib.hid (show Holds (w.alloc (.cells #[.slice none 0 0, .string ⟨#[]⟩, .string ⟨#[]⟩] 49)) w.heap.size 3 (pCells (.slice none 0 0) noIt) 49 from Holds.new w 3 (pCells (.slice none 0 0) noIt) 49)
      refine (refRight_any L A cap _ (HM.out.below HB0.out) hl).mono ?_
      rintro e w1 ⟨rfl, hb1⟩
      rw [HK.out]
      have HB1 := Lib.hid (HB0.out.trans (hb1.mono HB0.out.size))
      have HN1 := Lib.hid (HN0.out.below hb1 HN0.out.lt)
      have hlt1 : w.heap.size < w1.heap.size := HN1.out.lt
      clear hb1
      go_wp2_with fail
      refine (isMark_f ix _ H16.out).mono ?_
      rintro e w1 ⟨rfl, rfl⟩
      have r0 : w1.cell? ⟨w.heap.size, 0, none⟩ = some (.slice none 0 0) := HN1.out.cell 0 (by omega)
      have r1 : w1.cell? ⟨w.heap.size, 1, none⟩ = some (.string ⟨#[]⟩) := HN1.out.cell 1 (by omega)
      have r2 : w1.cell? ⟨w.heap.size, 2, none⟩ = some (.string ⟨#[]⟩) := HN1.out.cell 2 (by omega)
      have g0 := HN1.out.free 0
      have g1 := HN1.out.free 1
      have g2 := HN1.out.free 2
      go_wp2
      have hfin : Holds (((w1.setCell ⟨w.heap.size, 0, none⟩ (.slice none 0 0)).setCell ⟨w.heap.size, 1, none⟩ (.string ⟨#[]⟩)).setCell ⟨w.heap.size, 2, none⟩ (.string ⟨#[]⟩)) w.heap.size 3 (pCells (.slice none 0 0) noIt) 49 := by
        refine (((HN1.out.set 0 (.slice none 0 0)).set 1 (.string ⟨#[]⟩)).set 2 (.string ⟨#[]⟩)).congr fun i hi => ?_
        rcases (show i = 0 ∨ i = 1 ∨ i = 2 by omega) with rfl | rfl | rfl <;> rfl
      refine bodyPost_ret (results_row_tmp rfl _ _ w.heap.size 49 (arr 3 (pCells (.slice none 0 0) noIt)) (0, 0) _ rfl hfin Tryz.underlying49 rfl (by rw [arr_size]; exact infoProof)) rfl ?_
      exact ⟨.slice none 0 0, rfl, ((HB1.out.setCell (p := ⟨w.heap.size, 0, none⟩) (Nat.le_refl _) _).setCell (p := ⟨w.heap.size, 1, none⟩) (Nat.le_refl _) _).setCell (p := ⟨w.heap.size, 2, none⟩) (Nat.le_refl _) _, Row.nil _ _ _⟩
  · rw [if_neg (fun hh => hk hh.1)] at h
    cases h
    have HK := Lib.hid (show rightItems L = false by simpa using hk)
    clear hk
    go_enter Tryz.func23, Tryz.ntmps23
    go_wp2_with fail
    have HB0 := Lib.hid (alloc_below w (.cells #[.slice none 0 0, .string ⟨#[]⟩, .string ⟨#[]⟩] 49))
    have HN0 := Lib.hid (show Holds (w.alloc (.cells #[.slice none 0 0, .string ⟨#[]⟩, .string ⟨#[]⟩] 49)) w.heap.size 3 (pCells (.slice none 0 0) noIt) 49 from Holds.new w 3 (pCells (.slice none 0 0) noIt) 49)
    refine (refRight_any L A cap _ (HM.out.below HB0.out) hl).mono ?_
    rintro e w1 ⟨rfl, hb1⟩
    rw [HK.out]
    have HB1 := Lib.hid (HB0.out.trans (hb1.mono HB0.out.size))
    have HN1 := Lib.hid (HN0.out.below hb1 HN0.out.lt)
    have hlt1 : w.heap.size < w1.heap.size := HN1.out.lt
    clear hb1
    have r0 : w1.cell? ⟨w.heap.size, 0, none⟩ = some (.slice none 0 0) := HN1.out.cell 0 (by omega)
    have r1 : w1.cell? ⟨w.heap.size, 1, none⟩ = some (.string ⟨#[]⟩) := HN1.out.cell 1 (by omega)
    have r2 : w1.cell? ⟨w.heap.size, 2, none⟩ = some (.string ⟨#[]⟩) := HN1.out.cell 2 (by omega)
    have g0 := HN1.out.free 0
    have g1 := HN1.out.free 1
    have g2 := HN1.out.free 2
    go_wp2
    have hfin : Holds (((w1.setCell ⟨w.heap.size, 0, none⟩ (.slice none 0 0)).setCell ⟨w.heap.size, 1, none⟩ (.string ⟨#[]⟩)).setCell ⟨w.heap.size, 2, none⟩ (.string ⟨#[]⟩)) w.heap.size 3 (pCells (.slice none 0 0) noIt) 49 := by
      refine (((HN1.out.set 0 (.slice none 0 0)).set 1 (.string ⟨#[]⟩)).set 2 (.string ⟨#[]⟩)).congr fun i hi => ?_
      rcases (show i = 0 ∨ i = 1 ∨ i = 2 by omega) with rfl | rfl | rfl <;> rfl
    refine bodyPost_ret (results_row_tmp rfl _ _ w.heap.size 49 (arr 3 (pCells (.slice none 0 0) noIt)) (0, 0) _ rfl hfin Tryz.underlying49 rfl (by rw [arr_size]; exact infoProof)) rfl ?_
    exact ⟨.slice none 0 0, rfl, ((HB1.out.setCell (p := ⟨w.heap.size, 0, none⟩) (Nat.le_refl _) _).setCell (p := ⟨w.heap.size, 1, none⟩) (Nat.le_refl _) _).setCell (p := ⟨w.heap.size, 2, none⟩) (Nat.le_refl _) _, Row.nil _ _ _⟩
end Go.Proofs.YtpoibacokdjplaaGreatDoor
/- The document's numbers of rounds: times, above, root. -/
namespace Go.Proofs.YtpoibacokdjplaaGreatDoor
open Go.RowKit

def u64s (l : List Nat) : List Value := l.map fun (n : Nat) => Value.int .u64 (n : Int)
theorem u64s_length (l : List Nat) : (u64s l).length = l.length := by simp [u64s]
theorem u64s_append (l m : List Nat) : u64s (l ++ m) = u64s l ++ u64s m := by simp [u64s]
theorem u64s_get (l : List Nat) (i : Nat) (h : i < l.length) : (u64s l)[i]? = some (.int .u64 ((l.getD i 0 : Nat) : Int)) := by simp [u64s, List.getD_eq_getElem?_getD, h]
theorem infoU64 : (Tryz.prog.info? 64).map (fun i => (i.zero, i.size, i.bytes)) = some (some (.int .u64 0), 1, 8) := by kernel_rfl

/-- What is left of a number, digit by digit of 2^16. -/
def digs : Nat → Nat → List Nat
  | 0, _ => []
  | f + 1, c => if c = 0 then [] else (c % 65536) :: digs f (c / 65536)
def timesL (x : Nat) : List Nat → Nat → List Nat
  | [], c => digs 4 c
  | d :: l, c => ((c + d * x) % 65536) :: timesL x l ((c + d * x) / 65536)
theorem digs_step (f c : Nat) (h : 0 < c) : digs (f + 1) c = (c % 65536) :: digs f (c / 65536) := by
  show (if c = 0 then [] else _) = _; rw [if_neg (by omega)]
theorem digs_zero (f : Nat) : digs f 0 = [] := by cases f <;> simp [digs]
/-- Digits of 2^16. -/
def Small (l : List Nat) : Prop := ∀ i, l.getD i 0 < 65536
def sliceN : Value → Nat | .slice _ n _ => n | _ => 0

structure TimesRel (N : Nat) (w wr : World) (v : Value) (done : List Nat) : Prop where
  below : Below N w wr
  row : Row wr N 1 v done.length (u64s done)
theorem TimesRel.grow {N : Nat} {w wr w' : World} {v v' : Value} {l : List Nat} {c : Nat} (h : TimesRel N w wr v l) (hN : N ≤ w.heap.size)
    (hr : Row w' N 1 v' (l.length + 1) (u64s l ++ [.int .u64 (c : Int)])) (hg : wr.grownBy w' v.ownBlock) : TimesRel N w w' v' (l ++ [c]) :=
  ⟨grown_below h.below h.row hg (Nat.le_refl _) (Nat.le_trans hN h.below.size), by simpa [u64s] using hr⟩

set_option maxRecDepth 100000 in
theorem times_any (vs : List Nat) (p : Option Addr) (cap x : Nat) (w : World) (hx : x ≤ 1099511627776) (hsm : Small vs) (hn : vs.length ≤ 1000)
    (hc : ∀ i, i < vs.length → ∃ g, p = some ⟨g, 0, none⟩ ∧ g < w.heap.size ∧ w.cell? ⟨g, i, none⟩ = some (.int .u64 ((vs.getD i 0 : Nat) : Int))) :
    Calls Tryz.prog 62 #[.slice p vs.length cap, .int .u64 (x : Int)] w fun e w' => ∃ v, e = .returned v ∧ TimesRel w.heap.size w w' v (timesL x vs 0) := by
  have HC := Lib.hid hc
  have HS := Lib.hid hsm
  clear hc hsm
  go_enter Tryz.func62, Tryz.ntmps62
  go_wp2
  go_loopw [5, 6, 7] (fun out c i wr => ∃ (cn k f : Nat) (done : List Nat), c = .int .u64 (cn : Int) ∧ i = .int .i64 (k : Int) ∧ cn < 4398046511104 ∧ k ≤ vs.length + 4 ∧
      (k < vs.length → done ++ timesL x (vs.drop k) cn = timesL x vs 0) ∧ (vs.length ≤ k → f + k = vs.length + 4 ∧ cn < 65536 ^ f ∧ done ++ digs f cn = timesL x vs 0) ∧ done.length = k ∧ TimesRel w.heap.size w wr out done)
    (fun _ _ i _ => vs.length + 4 - (intOf i).toNat)
  case atStart =>
    refine ⟨0, 0, 4 + vs.length, [], rfl, rfl, by omega, by omega, fun _ => rfl, fun h => ?_, rfl, ⟨Below.refl _ _, show Row w w.heap.size 1 (.slice none 0 0) 0 [] from Row.nil _ _ _⟩⟩
    have h0 : vs.length = 0 := by omega
    have e : vs = [] := List.eq_nil_of_length_eq_zero h0
    rw [h0, e]; exact ⟨rfl, by omega, rfl⟩
  case round =>
    obtain ⟨cn, k, f, done, rfl, rfl, hcn, hk, h1, h2, hdl, hr⟩ := hrel
    have H1 := Lib.hid h1
    have H2 := Lib.hid h2
    have HR := Lib.hid hr
    clear h1 h2 hr
    by_cases hlt : k < vs.length
    · obtain ⟨g, rfl, hg, hcell⟩ := HC.out k hlt
      have hc1 : wr.cell? ⟨g, k, none⟩ = some (.int .u64 ((vs.getD k 0 : Nat) : Int)) := by rw [HR.out.below.cell hg]; exact hcell
      have hd := HS.out k
      generalize hdk : vs.getD k 0 = d at hc1 hd
      obtain ⟨m, hm⟩ : ∃ m : Nat, d * x = m := ⟨_, rfl⟩
      have hmb : m ≤ 72056494526300160 := by
        rw [← hm]
        exact Nat.le_trans (Nat.mul_le_mul (show d ≤ 65535 by omega) hx) (by omega)
      have hmul : IntKind.u64.wrap ((d : Int) * (x : Int)) = (m : Int) := by
        rw [← Int.natCast_mul, hm]; simp [IntKind.wrap, IntKind.bits, IntKind.signed]; omega
      have HM := Lib.hid hm
      have HD := Lib.hid hdk
      have HDL := Lib.hid hdl
      clear hm hcell hdk hdl
      go_wp2_with (at_builtin; refine wpList_append_one rfl (.tmp 32) (.tmp 35) 114 rfl 64 Tryz.underlying114 (.int .u64 0) 8 infoU64 rfl (by decide) w.heap.size _ done.length _ rfl HR.out.row HR.out.below.size (by have := HDL.out; omega) _ rfl rfl 64 ?_; intro v3 w3 hr3 hg3)
      go_wp2
      go_roundw
      case rel =>
        have hgr := HR.out.grow (c := (cn + m) % 65536) (Nat.le_refl _) (by have := hr3.out; rwa [show ((cn : Int) + (m : Int)) % 65536 = (((cn + m) % 65536 : Nat) : Int) from by omega] at this) hg3.out
        have hlist := H1.out hlt
        have hdrop : vs.drop k = d :: vs.drop (k + 1) := by
          rw [List.drop_eq_getElem_cons hlt]; congr 1
          have := HD.out; rw [List.getD_eq_getElem?_getD, List.getElem?_eq_getElem hlt] at this; exact this
        rw [hdrop] at hlist
        simp only [timesL, HM.out] at hlist
        refine ⟨(cn + m) / 65536, k + 1, vs.length + 4 - (k + 1), done ++ [(cn + m) % 65536], by rw [show ((cn : Int) + (m : Int)) / 65536 = (((cn + m) / 65536 : Nat) : Int) from by omega], by go_num, by omega, by omega, fun h => ?_, fun h => ?_, by rw [List.length_append, HDL.out]; rfl, hgr⟩
        · rw [List.append_assoc]; exact hlist
        · have e : k + 1 = vs.length := by omega
          rw [List.drop_of_length_le (by omega)] at hlist
          refine ⟨by omega, by rw [show vs.length + 4 - (k + 1) = 4 from by omega]; omega, ?_⟩
          rw [List.append_assoc, show vs.length + 4 - (k + 1) = 4 from by omega]; exact hlist
      case measure => simp [intOf]; omega
    · by_cases hc0 : 0 < cn
      · obtain ⟨h2a, h2b, h2c⟩ := H2.out (by omega)
        obtain ⟨f', rfl⟩ : ∃ f', f = f' + 1 := by
          cases f with
          | zero => simp at h2b; omega
          | succ f => exact ⟨f, rfl⟩
        have hkb : k < vs.length + 4 := by omega
        have H2B := Lib.hid h2b
        have H2C := Lib.hid h2c
        have H2A := Lib.hid h2a
        have HDL := Lib.hid hdl
        clear h2a h2b h2c hdl
        go_wp2_with (at_builtin; refine wpList_append_one rfl (.tmp 32) (.tmp 35) 114 rfl 64 Tryz.underlying114 (.int .u64 0) 8 infoU64 rfl (by decide) w.heap.size _ done.length _ rfl HR.out.row HR.out.below.size (by have := HDL.out; omega) _ rfl rfl 64 ?_; intro v3 w3 hr3 hg3)
        go_wp2
        go_roundw
        case rel =>
          have hgr := HR.out.grow (c := cn % 65536) (Nat.le_refl _) (by have := hr3.out; rwa [show (cn : Int) % 65536 = ((cn % 65536 : Nat) : Int) from by omega] at this) hg3.out
          refine ⟨cn / 65536, k + 1, f', done ++ [cn % 65536], by rw [show (cn : Int) / 65536 = ((cn / 65536 : Nat) : Int) from by omega], by go_num, by omega, by omega, fun h => by omega, fun h => ⟨by have := H2A.out; omega, ?_, ?_⟩, by rw [List.length_append, HDL.out]; rfl, hgr⟩
          · have := H2B.out
            rw [Nat.pow_succ] at this
            exact Nat.div_lt_of_lt_mul (by rw [Nat.mul_comm]; exact this)
          · rw [List.append_assoc]
            have := H2C.out
            rw [digs_step f' cn hc0] at this
            exact this
        case measure => simp [intOf]; omega
      · obtain rfl : cn = 0 := by omega
        obtain ⟨h2a, h2b, h2c⟩ := H2.out (by omega)
        have H2C := Lib.hid h2c
        clear h2a h2b h2c hdl
        go_wp2
        go_ret
        refine ⟨_, rfl, ?_⟩
        have := H2C.out
        rw [digs_zero, List.append_nil] at this
        rw [← this]
        exact HR.out
end Go.Proofs.YtpoibacokdjplaaGreatDoor
