/- Parts of the proof, one behind the other: Prove, Index. -/
import Derived.Test.YtcfpmofmjnhonaaGreatDoorM10
import Derived.Laws.ResultCell
import Derived.Test.YtcfpmofmjnhonaaGreatDoorM3
/- The document's Prove. -/
namespace Go.Proofs.YtcfpmofmjnhonaaGreatDoor
open Go.RowKit

def proveFrom : Nat → List It → ByteArray → Nat → List ByteArray × It
  | 0, L, _, _ => ([], itAt L 0)
  | f + 1, L, ix, d => if L.length < 2 then ([], itAt L 0) else
      (nodeOf f (half L d (1 - bitOf ix.data.toList d)) (d + 1) :: (proveFrom f (half L d (bitOf ix.data.toList d)) ix (d + 1)).1, (proveFrom f (half L d (bitOf ix.data.toList d)) ix (d + 1)).2)
def noIt : It := (⟨#[]⟩, ⟨#[]⟩)
def proveAns (L : List It) (ix : ByteArray) : List ByteArray × It × Int := if rightItems L = true ∧ ix.size = 16 then ((proveFrom 128 L ix 0).1, (proveFrom 128 L ix 0).2, 0) else ([], noIt, 1)
theorem proveFrom_few (f : Nat) (L : List It) (ix : ByteArray) (d : Nat) (h : L.length < 2) : proveFrom f L ix d = ([], itAt L 0) := by
  cases f with
  | zero => rfl
  | succ f => rw [proveFrom, if_pos h]
theorem results_row_tmp {P : Program} {fn : Func} {p u : Tmp} {ty : TypeId} (h : fn.results = #[.cell p ty, .tmp u]) (tmps : Array Value) (w : World) (g : Nat) (t : TypeId) (cs : Array Value) (fr : Nat × Nat) (d : TypeDesc)
    (hp : tmps.getD p undef = .pointer (some ⟨g, 0, none⟩)) (hg : w.heap[g]? = some (.cells cs t fr))
    (hu : P.underlying ty = some d) (hd : (match d with | .struct _ | .array _ _ => true | _ => false) = true) (hi : (P.info? ty).map (·.size) = some cs.size) :
    (results fn tmps).run P w = .ok (.tuple #[.agg cs, tmps.getD u undef]) w := by
  rw [results_cell_tmp h, hp]
  simp [asAddr, run_loadVar_row w g t ty cs fr d hg hu hd hi, Result.andThen]
theorem infoProof : (Tryz.prog.info? 63).map (·.size) = some 3 := by kernel_rfl

def pCells (v : Value) (x : It) : Nat → Value := fun i => if i = 0 then v else if i = 1 then .string x.1 else .string x.2
structure ProveRel (pb : Nat) (w wr : World) (M : List It) (A : Option Addr) (P : List ByteArray) (v : Value) : Prop where
  below : Below w.heap.size w wr
  lt : w.heap.size < pb
  res : Holds wr w.heap.size 3 (pCells (.slice none 0 0) noIt) 63
  own : Holds wr pb 3 (pCells v noIt) 63
  itms : Itms wr A M
  row : Row wr (pb + 1) 1 v P.length (stCells P)
theorem infoStr : (Tryz.prog.info? 9).map (fun i => (i.zero, i.size, i.bytes)) = some (some (.string ⟨#[]⟩), 1, 16) := by kernel_rfl
/-- A round's end: the path has one mark more. -/
theorem ProveRel.next {pb : Nat} {w wr w3 w4 : World} {M M' : List It} {A A' : Option Addr} {P : List ByteArray} {v v' : Value} {y : ByteArray} {cap' : Nat} (h : ProveRel pb w wr M A P v) (hb : Below wr.heap.size wr w3) (hi : Row w3 wr.heap.size 2 (.slice A' M'.length cap') M'.length (itCells M'))
    (hrow : Row w4 (pb + 1) 1 v' (P.length + 1) (stCells P ++ [.string y])) (hg : w3.grownBy w4 v.ownBlock) : ProveRel pb w (w4.setCell ⟨pb, 0, none⟩ v') M' A' (P ++ [y]) v' := by
  have hrow3 : Row w3 (pb + 1) 1 v P.length (stCells P) := h.row.belowAll hb
  have hne : ∀ c, c < pb + 1 → v.ownBlock ≠ some c := fun c hc => hrow3.fresh hc
  have hown3 := h.own.below hb h.own.lt
  have hres3 := h.res.below hb h.res.lt
  have hpb : pb < w3.heap.size := hown3.lt
  have hlt := h.lt
  have hb3 : Below w.heap.size w w3 := h.below.trans (hb.mono h.below.size)
  have keep : ∀ c, c < w3.heap.size → c < pb + 1 → w4.heap[c]? = w3.heap[c]? := fun c hc hc2 => hg.block c hc (fun e => hne c hc2 e.symm)
  refine ⟨(hb3.grown hg (by omega) (fun k hk => by have := (hrow3.lt k hk).1; omega)).setCell (p := ⟨pb, 0, none⟩) (by show w.heap.size ≤ pb; omega) _, hlt, ?_, ?_, ?_, ?_⟩
  · refine Holds.other ?_ (a := ⟨pb, 0, none⟩) (by show w.heap.size ≠ pb; omega) v'
    unfold Holds at hres3 ⊢; rw [keep _ (lt_of_block hres3) (by omega)]; exact hres3
  · have h4 : Holds w4 pb 3 (pCells v noIt) 63 := by unfold Holds at hown3 ⊢; rw [keep _ hpb (by omega)]; exact hown3
    refine (h4.set 0 v').congr fun i _ => ?_
    unfold upd pCells
    by_cases h : i = 0 <;> simp [h]
  · have hv : ∀ c, v.ownBlock = some c → c < wr.heap.size := fun c hc => (h.row.lt c hc).2
    have hpw : pb < wr.heap.size := h.own.lt
    have hi4 : Row (w4.setCell ⟨pb, 0, none⟩ v') wr.heap.size 2 (.slice A' M'.length cap') M'.length (itCells M') := by
      refine (hi.kept (w' := w4) (fun k hk => ?_) hg.size).setOther (fun e => ?_) _
      · have h1 := hi.lt k hk
        exact hg.block k h1.2 (fun e => by have := hv k e.symm; omega)
      · have h1 := (hi.lt pb e).1; omega
    obtain ⟨_, B, c, hB, hI⟩ := hi4.itms
    injection hB with e1 e2 e3
    subst e1
    exact hI
  · have e : stCells (P ++ [y]) = stCells P ++ [.string y] := by simp [stCells]
    rw [List.length_append, e]
    exact hrow.setOther (hrow.fresh (Nat.lt_succ_self _)) _
theorem undrew {w w' : World} (h : Below w.drew.heap.size w.drew w') : Below w.heap.size w w' := ⟨h.os, h.tape, h.output, h.size, h.block⟩
theorem fin_block {pb : Nat} {w wr w4 w5 w6 : World} {M : List It} {A : Option Addr} {P : List ByteArray} {v : Value} (h : ProveRel pb w wr M A P v) (hb : Below wr.heap.size wr w4) (hb5 : Below w4.heap.size w4 w5) (hg : w5.grownBy w6 v.ownBlock) :
    Holds w6 pb 3 (pCells v noIt) 63 := by
  have h4 := h.own.below hb h.own.lt
  have h5 : Holds w5 pb 3 (pCells v noIt) 63 := h4.below hb5 h4.lt
  have hl := h5.lt
  unfold Holds at h5 ⊢
  rw [hg.block pb hl (fun e => by have := (h.row.lt pb e.symm).1; omega)]
  exact h5
theorem fin_cell {pb : Nat} {w wr w4 w5 w6 : World} {M : List It} {A : Option Addr} {P : List ByteArray} {v : Value} (h : ProveRel pb w wr M A P v) (hb : Below wr.heap.size wr w4) (hb5 : Below w4.heap.size w4 w5) (hg : w5.grownBy w6 v.ownBlock) :
    w6.cell? ⟨pb, 0, none⟩ = some v := (fin_block h hb hb5 hg).cell 0 (by omega)
theorem fin_free {pb : Nat} {w wr w4 w5 w6 : World} {M : List It} {A : Option Addr} {P : List ByteArray} {v : Value} (h : ProveRel pb w wr M A P v) (hb : Below wr.heap.size wr w4) (hb5 : Below w4.heap.size w4 w5) (hg : w5.grownBy w6 v.ownBlock) :
    w6.frozen? ⟨pb, 0, none⟩ = false := (fin_block h hb hb5 hg).free 0
structure LeafRel (pb : Nat) (w wr : World) (M : List It) (A : Option Addr) (P : List ByteArray) (v : Value) (k : Nat) : Prop where
  below : Below w.heap.size w wr
  lt : w.heap.size < pb
  res : Holds wr w.heap.size 3 (pCells (.slice none 0 0) noIt) 63
  own : Holds wr pb 3 (pCells v (if k = 0 then noIt else itAt M 0)) 63
  itms : k = 0 → Itms wr A M
  row : Row wr (pb + 1) 1 v P.length (stCells P)
theorem LeafRel.start {pb : Nat} {w wr : World} {M : List It} {A : Option Addr} {P : List ByteArray} {v : Value} (h : ProveRel pb w wr M A P v) : LeafRel pb w wr M A P v 0 :=
  ⟨h.below, h.lt, h.res, h.own, fun _ => h.itms, h.row⟩
set_option maxHeartbeats 1000000 in
set_option maxRecDepth 100000 in
theorem refProve_is (b : Nat) (L : List It) (A : Option Addr) (cap : Nat) (ix : ByteArray) (T : List ByteArray) (x : It) (n : Int) (w : World) (hl : L.length ≤ 1000000) (hr : Holds w b 72 refCells 121) (hm : Itms w A L) (h : proveAns L ix = (T, x, n)) :
    Calls Tryz.prog 74 #[.pointer (some ⟨b, 0, none⟩), .slice A L.length cap, .string ix] w fun e w' => ∃ v, e = .returned (.tuple #[.agg #[v, .string x.1, .string x.2], .int .i64 n]) ∧ Below w.heap.size w w' ∧ Row w' w.heap.size 1 v T.length (stCells T) := by
  have HR := Lib.hid hr
  have HM := Lib.hid hm
  clear hr hm
  unfold proveAns at h
  by_cases hk : rightItems L = true
  · have HK := Lib.hid hk
    by_cases h16 : ix.size = 16
    · rw [if_pos ⟨hk, h16⟩] at h
      simp only [Prod.mk.injEq] at h
      obtain ⟨hT, hx, rfl⟩ := h
      have HT := Lib.hid hT
      have HX := Lib.hid hx
      clear hT hx
      have HAP := Lib.hid (right_apart hk)
      have HCM := Lib.hid (right_cm hk)
      have H16 := Lib.hid h16
      clear hk h16
      go_enter Tryz.func74, Tryz.ntmps74
      go_wp2_with fail
      have HB0 := Lib.hid (alloc_below w (.cells #[.slice none 0 0, .string ⟨#[]⟩, .string ⟨#[]⟩] 63))
      have HN0 := Lib.hid (show Holds (w.alloc (.cells #[.slice none 0 0, .string ⟨#[]⟩, .string ⟨#[]⟩] 63)) w.heap.size 3 (pCells (.slice none 0 0) noIt) 63 from Holds.new w 3 (pCells (.slice none 0 0) noIt) 63)
      refine (refRight_any L A cap _ (HM.out.below HB0.out) hl).mono ?_
      rintro e w1 ⟨rfl, hb1⟩
      rw [HK.out]
      have HB1 := Lib.hid (HB0.out.trans (hb1.mono HB0.out.size))
      have HN1 := Lib.hid (HN0.out.below hb1 HN0.out.lt)
      have hlt1 : w.heap.size < w1.heap.size := HN1.out.lt
      clear hb1
      go_wp2_with fail
      refine (isMark_t ix _ H16.out).mono ?_
      rintro e w2 ⟨rfl, rfl⟩
      go_wp2
      have HREL := Lib.hid (show ProveRel w2.heap.size w (w2.alloc (.cells #[.slice none 0 0, .string ⟨#[]⟩, .string ⟨#[]⟩] 63)) L A [] (.slice none 0 0) from
        ⟨HB1.out.alloc HB1.out.size _, hlt1, HN1.out.alloc _, Holds.new w2 3 (pCells (.slice none 0 0) noIt) 63, (HM.out.below HB1.out).below (alloc_below _ _), Row.nil _ _ _⟩)
      generalize hpb : w2.heap.size = pb at HREL
      clear hpb
      go_loopw [1, 9] (fun l dv wr => ∃ (d f : Nat) (M : List It) (A' : Option Addr) (cap' : Nat) (P : List ByteArray) (v : Value), d + f = 128 ∧ l = .slice A' M.length cap' ∧ dv = .int .i64 (d : Int) ∧ Apart M d ∧ M.length ≤ 1000000 ∧ (∀ y ∈ M, y.2.size ≤ 1000000) ∧
        P ++ (proveFrom f M ix d).1 = T ∧ (proveFrom f M ix d).2 = x ∧ P.length ≤ d ∧ ProveRel pb w wr M A' P v) (fun _ dv _ => 128 - (intOf dv).toNat)
      case atStart => exact ⟨0, 128, L, A, cap, [], _, rfl, rfl, rfl, HAP.out, hl, HCM.out, HT.out, HX.out, by simp, HREL.out⟩
      case round =>
        obtain ⟨d, f, M, A', cap', P, v, hdf, rfl, rfl, hap, hml, hcm, hT, hx, hpd, hrel⟩ := hrel
        have HDF := Lib.hid hdf
        have HAPM := Lib.hid hap
        have HCMM := Lib.hid hcm
        have HTT := Lib.hid hT
        have HXX := Lib.hid hx
        have HRL := Lib.hid hrel
        clear hdf hap hcm hT hx hrel
        by_cases h2 : 2 ≤ M.length
        · have hd : d < 128 := HAPM.out.lt h2
          obtain ⟨f', rfl⟩ : ∃ f', f = f' + 1 := ⟨f - 1, by have := HDF.out; omega⟩
          have HSTEP := Lib.hid (show proveFrom (f' + 1) M ix d = (nodeOf f' (half M d (1 - bitOf ix.data.toList d)) (d + 1) :: (proveFrom f' (half M d (bitOf ix.data.toList d)) ix (d + 1)).1, (proveFrom f' (half M d (bitOf ix.data.toList d)) ix (d + 1)).2) by rw [proveFrom, if_neg (by omega)])
          have h2i : decide ((2 : Int) ≤ (M.length : Int)) = true := by simp; omega
          go_wp2_with fail
          refine (refHalves_any M A' cap' d _ HRL.out.itms hml HAPM.out.1 hd).mono ?_
          rintro e w3 ⟨v0, v1, rfl, hb3, hr0, hr1⟩
          have HB3 := Lib.hid hb3
          obtain ⟨-, A0, c0, rfl, hi0⟩ := hr0.itms
          obtain ⟨-, A1, c1, rfl, hi1⟩ := hr1.itms
          have HI0 := Lib.hid hi0
          have HI1 := Lib.hid hi1
          have HR0 := Lib.hid hr0
          have HR1 := Lib.hid hr1
          clear hb3 hr0 hr1 hi0 hi1
          have HRD := Lib.hid (show Holds w3 b 72 refCells 121 from HR.out.below (HRL.out.below.trans (HB3.out.mono HRL.out.below.size)) HR.out.lt)
          go_wp2_with fail
          refine (at_any ix d _ H16.out hd).mono ?_
          rintro e w4 ⟨rfl, rfl⟩
          have hb2 : bitOf ix.data.toList d = 0 ∨ bitOf ix.data.toList d = 1 := by have := bitOf_lt ix.data.toList d; omega
          rcases hb2 with hbit | hbit
          · rw [hbit]
            rw [hbit] at HSTEP
            have HBIT := Lib.hid hbit
            clear hbit h2i
            have ED := Lib.hid (show ((d : Int) + 1) = ((d + 1 : Nat) : Int) by omega)
            have q0 : w4.cell? ⟨pb, 0, none⟩ = some v := (HRL.out.own.below HB3.out HRL.out.own.lt).cell 0 (by omega)
            have hpb : pb < w4.heap.size := Nat.lt_of_lt_of_le HRL.out.own.lt HB3.out.size
            obtain ⟨nd, hnd⟩ : ∃ nd, nodeOf f' (half M d 1) (d + 1) = nd := ⟨_, rfl⟩
            have HND := Lib.hid hnd
            clear hnd
            have hC : Calls Tryz.prog 107 #[.pointer (some ⟨b, 0, none⟩), .slice A1 (half M d 1).length c1, .int .i64 ((d : Int) + 1)] w4.drew (fun e w' => e = .returned (.string nd) ∧ Below w4.heap.size w4 w') := by
              rw [ED.out]
              exact (refNode_any b f' (d + 1) (half M d 1) A1 c1 w4.drew (by have := HDF.out; omega) (HAPM.out.half 1) (Nat.le_trans (half_le _ _ _) hml) (fun y hy => HCMM.out y (List.mem_filter.1 hy).1) HRD.out.drew HI1.out.drew).mono fun e w' ⟨he, hb⟩ => ⟨by rw [he, HND.out], undrew hb⟩
            have HC := Lib.hid hC
            clear hC
            have s1 : IntKind.i64.wrap ((d : Int) + 1) = (d : Int) + 1 := IntWalk.i64_in _ (by omega)
            go_wp2_with fail
            go_region_law (first
              | (refine step_of_list rfl ?_; refine wpList_append_one2 rfl (.tmp 45) (.tmp 51) 50 rfl 9 Tryz.underlying50 _ 16 infoStr rfl (by decide) (pb + 1) v P.length (stCells P) rfl HROW5.out (Nat.le_trans hpb hb5.size) (by omega) (.string nd) rfl rfl 9 ?_; intro v' w6 hrow6 hgrow6 hmove6; obtain ⟨p', cap6, rfl⟩ := hrow6.out.any; have t0 := fin_cell HRL.out HB3.out hb5 hgrow6.out; have t1 := fin_free HRL.out HB3.out hb5 hgrow6.out; refine then1 ?_)
              | (go_simp; go_at_call 107; refine HC.out.mono ?_; rintro e w5 ⟨rfl, hb5⟩; have HROW5 := Lib.hid (HRL.out.row.belowAll (HB3.out.trans (hb5.mono HB3.out.size))); have c5 : w5.cell? ⟨pb, 0, none⟩ = some v := (hb5.cell hpb).trans q0; have c6 : (w5.alloc (.cells #[.string nd] 9)).cell? ⟨pb, 0, none⟩ = some v := by rw [World.cell?_alloc_lt _ _ ⟨pb, 0, none⟩ (Nat.lt_of_lt_of_le hpb hb5.size)]; exact c5))
            all_goals
              go_wp2
              go_roundw
              case rel =>
                refine ⟨d + 1, f', half M d 0, A0, c0, P ++ [nd], .slice p' (P.length + 1) cap6, by have := HDF.out; omega, rfl, by go_num, HAPM.out.half 0, Nat.le_trans (half_le _ _ _) hml, fun y hy => HCMM.out y (List.mem_filter.1 hy).1, ?_, ?_, by simp; omega, ?_⟩
                · rw [← HTT.out, HSTEP.out, ← HND.out, List.append_assoc]; rfl
                · rw [← HXX.out, HSTEP.out]
                · exact ProveRel.next HRL.out (HB3.out.trans (hb5.mono HB3.out.size)) (HR0.out.belowAll hb5) hrow6.out hgrow6.out
              case measure => simp [intOf]; omega
          · rw [hbit]
            rw [hbit] at HSTEP
            have HBIT := Lib.hid hbit
            clear hbit h2i
            have ED := Lib.hid (show ((d : Int) + 1) = ((d + 1 : Nat) : Int) by omega)
            have q0 : w4.cell? ⟨pb, 0, none⟩ = some v := (HRL.out.own.below HB3.out HRL.out.own.lt).cell 0 (by omega)
            have hpb : pb < w4.heap.size := Nat.lt_of_lt_of_le HRL.out.own.lt HB3.out.size
            obtain ⟨nd, hnd⟩ : ∃ nd, nodeOf f' (half M d 0) (d + 1) = nd := ⟨_, rfl⟩
            have HND := Lib.hid hnd
            clear hnd
            have hC : Calls Tryz.prog 107 #[.pointer (some ⟨b, 0, none⟩), .slice A0 (half M d 0).length c0, .int .i64 ((d : Int) + 1)] w4.drew (fun e w' => e = .returned (.string nd) ∧ Below w4.heap.size w4 w') := by
              rw [ED.out]
              exact (refNode_any b f' (d + 1) (half M d 0) A0 c0 w4.drew (by have := HDF.out; omega) (HAPM.out.half 0) (Nat.le_trans (half_le _ _ _) hml) (fun y hy => HCMM.out y (List.mem_filter.1 hy).1) HRD.out.drew HI0.out.drew).mono fun e w' ⟨he, hb⟩ => ⟨by rw [he, HND.out], undrew hb⟩
            have HC := Lib.hid hC
            clear hC
            have s1 : IntKind.i64.wrap ((d : Int) + 1) = (d : Int) + 1 := IntWalk.i64_in _ (by omega)
            go_wp2_with fail
            go_region_law (first
              | (refine step_of_list rfl ?_; refine wpList_append_one2 rfl (.tmp 45) (.tmp 51) 50 rfl 9 Tryz.underlying50 _ 16 infoStr rfl (by decide) (pb + 1) v P.length (stCells P) rfl HROW5.out (Nat.le_trans hpb hb5.size) (by omega) (.string nd) rfl rfl 9 ?_; intro v' w6 hrow6 hgrow6 hmove6; obtain ⟨p', cap6, rfl⟩ := hrow6.out.any; have t0 := fin_cell HRL.out HB3.out hb5 hgrow6.out; have t1 := fin_free HRL.out HB3.out hb5 hgrow6.out; refine then1 ?_)
              | (go_simp; go_at_call 107; refine HC.out.mono ?_; rintro e w5 ⟨rfl, hb5⟩; have HROW5 := Lib.hid (HRL.out.row.belowAll (HB3.out.trans (hb5.mono HB3.out.size))); have c5 : w5.cell? ⟨pb, 0, none⟩ = some v := (hb5.cell hpb).trans q0; have c6 : (w5.alloc (.cells #[.string nd] 9)).cell? ⟨pb, 0, none⟩ = some v := by rw [World.cell?_alloc_lt _ _ ⟨pb, 0, none⟩ (Nat.lt_of_lt_of_le hpb hb5.size)]; exact c5))
            all_goals
              go_wp2
              go_roundw
              case rel =>
                refine ⟨d + 1, f', half M d 1, A1, c1, P ++ [nd], .slice p' (P.length + 1) cap6, by have := HDF.out; omega, rfl, by go_num, HAPM.out.half 1, Nat.le_trans (half_le _ _ _) hml, fun y hy => HCMM.out y (List.mem_filter.1 hy).1, ?_, ?_, by simp; omega, ?_⟩
                · rw [← HTT.out, HSTEP.out, ← HND.out, List.append_assoc]; rfl
                · rw [← HXX.out, HSTEP.out]
                · exact ProveRel.next HRL.out (HB3.out.trans (hb5.mono HB3.out.size)) (HR1.out.belowAll hb5) hrow6.out hgrow6.out
              case measure => simp [intOf]; omega
        · have hfew := proveFrom_few f M ix d (by omega)
          have h2i : decide ((2 : Int) ≤ (M.length : Int)) = false := by simp; omega
          have HTT' := Lib.hid (show P = T by have := HTT.out; rw [hfew] at this; simpa using this)
          have HXX' := Lib.hid (show itAt M 0 = x by have := HXX.out; rw [hfew] at this; exact this)
          clear hfew
          go_wp2
          go_loopw [57] (fun i wq => ∃ k : Nat, k ≤ M.length ∧ i = .int .i64 (k : Int) ∧ LeafRel pb w wq M A' P v k) (fun i _ => M.length - (intOf i).toNat)
          case atStart => exact ⟨0, by omega, rfl, LeafRel.start HRL.out⟩
          case round =>
            obtain ⟨k, hk, rfl, hleaf⟩ := hrel
            have HLF := Lib.hid hleaf
            clear hleaf
            by_cases hlt : k < M.length
            · have hk0 : k = 0 := by omega
              subst hk0
              obtain ⟨a, rfl, hal, c0, c1⟩ := (HLF.out.itms rfl).at_ hlt
              rw [Nat.zero_mul, add_zero'] at c0 c1
              rw [HXX'.out] at c0 c1
              have d2 : wr.cell? ⟨a.block, a.off + 1, none⟩ = some (.string x.2) := c1
              have hlti : (0 : Int) < (M.length : Int) := by omega
              have ho := (HLF.out.own.alloc (.cells #[.string x.1, .string x.2] 61))
              have m1 := ho.cell 1 (by omega)
              have m2 := ho.cell 2 (by omega)
              have f1 := ho.free 1
              have f2 := ho.free 2
              have HO := Lib.hid ho
              clear c1 ho
              go_wp2
              go_roundw
              case rel =>
                refine ⟨0 + 1, by omega, by go_num, ?_⟩
                have hb1 : Below w.heap.size w (wr.alloc (.cells #[.string x.1, .string x.2] 61)) := HLF.out.below.alloc HLF.out.below.size _
                have hpl := HLF.out.lt
                refine ⟨(hb1.setCell (p := ⟨pb, 1, none⟩) (Nat.le_of_lt hpl) _).setCell (p := ⟨pb, 2, none⟩) (Nat.le_of_lt hpl) _, hpl, ?_, ?_, ?_, ?_⟩
                · exact (((HLF.out.res.alloc _).other (a := ⟨pb, 1, none⟩) (by show w.heap.size ≠ pb; omega) _).other (a := ⟨pb, 2, none⟩) (by show w.heap.size ≠ pb; omega) _)
                · refine ((HO.out.set 1 (.string x.1)).set 2 (.string x.2)).congr fun i hi => ?_
                  rw [HXX'.out]
                  rcases (show i = 0 ∨ i = 1 ∨ i = 2 by omega) with rfl | rfl | rfl <;> rfl
                · intro h; cases h
                · exact ((HLF.out.row.alloc _).setOther (HLF.out.row.fresh (Nat.lt_succ_self _)) _).setOther (HLF.out.row.fresh (Nat.lt_succ_self _)) _
              case measure => simp [intOf]; omega
            · have hkm : k = M.length := by omega
              have hown : Holds wr pb 3 (pCells v x) 63 := by
                have h := HLF.out.own
                have e : (if k = 0 then noIt else itAt M 0) = x := by
                  rw [← HXX'.out]
                  by_cases h0 : k = 0
                  · rw [if_pos h0]
                    have : M = [] := List.eq_nil_of_length_eq_zero (by omega)
                    rw [this]; rfl
                  · rw [if_neg h0]
                rwa [e] at h
              have hrow := HLF.out.row
              obtain ⟨pv, cv, hv⟩ := hrow.any
              subst hv
              have e0 : wr.cell? ⟨pb, 0, none⟩ = some (.slice pv P.length cv) := hown.cell 0 (by omega)
              have e1 : wr.cell? ⟨pb, 1, none⟩ = some (.string x.1) := hown.cell 1 (by omega)
              have e2 : wr.cell? ⟨pb, 2, none⟩ = some (.string x.2) := hown.cell 2 (by omega)
              have r0 : wr.cell? ⟨w.heap.size, 0, none⟩ = some (.slice none 0 0) := HLF.out.res.cell 0 (by omega)
              have r1 : wr.cell? ⟨w.heap.size, 1, none⟩ = some (.string ⟨#[]⟩) := HLF.out.res.cell 1 (by omega)
              have r2 : wr.cell? ⟨w.heap.size, 2, none⟩ = some (.string ⟨#[]⟩) := HLF.out.res.cell 2 (by omega)
              have g0 := HLF.out.res.free 0
              have g1 := HLF.out.res.free 1
              have g2 := HLF.out.res.free 2
              have HOWN := Lib.hid hown
              have HROW := Lib.hid hrow
              clear hown hrow hkm
              go_wp2
              have hfin : Holds (((wr.setCell ⟨w.heap.size, 0, none⟩ (.slice pv P.length cv)).setCell ⟨w.heap.size, 1, none⟩ (.string x.1)).setCell ⟨w.heap.size, 2, none⟩ (.string x.2)) w.heap.size 3 (pCells (.slice pv P.length cv) x) 63 := by
                refine (((HLF.out.res.set 0 (.slice pv P.length cv)).set 1 (.string x.1)).set 2 (.string x.2)).congr fun i hi => ?_
                rcases (show i = 0 ∨ i = 1 ∨ i = 2 by omega) with rfl | rfl | rfl <;> rfl
              refine bodyPost_ret (results_row_tmp rfl _ _ w.heap.size 63 (arr 3 (pCells (.slice pv P.length cv) x)) (0, 0) _ rfl hfin Tryz.underlying63 rfl (by rw [arr_size]; exact infoProof)) rfl ?_
              have hpl := HLF.out.lt
              have hfr : ∀ c, c < pb + 1 → (Value.slice pv P.length cv).ownBlock ≠ some c := fun c hc => HROW.out.fresh hc
              refine ⟨.slice pv P.length cv, rfl, ((HLF.out.below.setCell (p := ⟨w.heap.size, 0, none⟩) (Nat.le_refl _) _).setCell (p := ⟨w.heap.size, 1, none⟩) (Nat.le_refl _) _).setCell (p := ⟨w.heap.size, 2, none⟩) (Nat.le_refl _) _, ?_⟩
              rw [← HTT'.out]
              exact (((HROW.out.setOther (a := ⟨w.heap.size, 0, none⟩) (hfr w.heap.size (by omega)) _).setOther (a := ⟨w.heap.size, 1, none⟩) (hfr w.heap.size (by omega)) _).setOther (a := ⟨w.heap.size, 2, none⟩) (hfr w.heap.size (by omega)) _).mono (by omega)
    · rw [if_neg (fun hh => h16 hh.2)] at h
      cases h
      have H16 := Lib.hid h16
      clear hk h16
      go_enter Tryz.func74, Tryz.ntmps74
      go_wp2_with fail
      have HB0 := Lib.hid (alloc_below w (.cells #[.slice none 0 0, .string ⟨#[]⟩, .string ⟨#[]⟩] 63))
      have HN0 := Lib.hid (show Holds (w.alloc (.cells #[.slice none 0 0, .string ⟨#[]⟩, .string ⟨#[]⟩] 63)) w.heap.size 3 (pCells (.slice none 0 0) noIt) 63 from Holds.new w 3 (pCells (.slice none 0 0) noIt) 63)
      refine (refRight_any L A cap _ (HM.out.below HB0.out) hl).mono ?_
      rintro e w1 ⟨rfl, hb1⟩
      rw [HK.out]
      have HB1 := Lib.hid (HB0.out.trans (hb1.mono HB0.out.size))
      have HN1 := Lib.hid (HN0.out.below hb1 HN0.out.lt)
      have hlt1 : w.heap.size < w1.heap.size := HN1.out.lt
      clear hb1
      go_wp2_with fail
      refine (isMark_f ix _ H16.out).mono ?_
      rintro e w1 ⟨rfl, rfl⟩
      have r0 : w1.cell? ⟨w.heap.size, 0, none⟩ = some (.slice none 0 0) := HN1.out.cell 0 (by omega)
      have r1 : w1.cell? ⟨w.heap.size, 1, none⟩ = some (.string ⟨#[]⟩) := HN1.out.cell 1 (by omega)
      have r2 : w1.cell? ⟨w.heap.size, 2, none⟩ = some (.string ⟨#[]⟩) := HN1.out.cell 2 (by omega)
      have g0 := HN1.out.free 0
      have g1 := HN1.out.free 1
      have g2 := HN1.out.free 2
      go_wp2
      have hfin : Holds (((w1.setCell ⟨w.heap.size, 0, none⟩ (.slice none 0 0)).setCell ⟨w.heap.size, 1, none⟩ (.string ⟨#[]⟩)).setCell ⟨w.heap.size, 2, none⟩ (.string ⟨#[]⟩)) w.heap.size 3 (pCells (.slice none 0 0) noIt) 63 := by
        refine (((HN1.out.set 0 (.slice none 0 0)).set 1 (.string ⟨#[]⟩)).set 2 (.string ⟨#[]⟩)).congr fun i hi => ?_
        rcases (show i = 0 ∨ i = 1 ∨ i = 2 by omega) with rfl | rfl | rfl <;> rfl
      refine bodyPost_ret (results_row_tmp rfl _ _ w.heap.size 63 (arr 3 (pCells (.slice none 0 0) noIt)) (0, 0) _ rfl hfin Tryz.underlying63 rfl (by rw [arr_size]; exact infoProof)) rfl ?_
      exact ⟨.slice none 0 0, rfl, ((HB1.out.setCell (p := ⟨w.heap.size, 0, none⟩) (Nat.le_refl _) _).setCell (p := ⟨w.heap.size, 1, none⟩) (Nat.le_refl _) _).setCell (p := ⟨w.heap.size, 2, none⟩) (Nat.le_refl _) _, Row.nil _ _ _⟩
  · rw [if_neg (fun hh => hk hh.1)] at h
    cases h
    have HK := Lib.hid (show rightItems L = false by simpa using hk)
    clear hk
    go_enter Tryz.func74, Tryz.ntmps74
    go_wp2_with fail
    have HB0 := Lib.hid (alloc_below w (.cells #[.slice none 0 0, .string ⟨#[]⟩, .string ⟨#[]⟩] 63))
    have HN0 := Lib.hid (show Holds (w.alloc (.cells #[.slice none 0 0, .string ⟨#[]⟩, .string ⟨#[]⟩] 63)) w.heap.size 3 (pCells (.slice none 0 0) noIt) 63 from Holds.new w 3 (pCells (.slice none 0 0) noIt) 63)
    refine (refRight_any L A cap _ (HM.out.below HB0.out) hl).mono ?_
    rintro e w1 ⟨rfl, hb1⟩
    rw [HK.out]
    have HB1 := Lib.hid (HB0.out.trans (hb1.mono HB0.out.size))
    have HN1 := Lib.hid (HN0.out.below hb1 HN0.out.lt)
    have hlt1 : w.heap.size < w1.heap.size := HN1.out.lt
    clear hb1
    have r0 : w1.cell? ⟨w.heap.size, 0, none⟩ = some (.slice none 0 0) := HN1.out.cell 0 (by omega)
    have r1 : w1.cell? ⟨w.heap.size, 1, none⟩ = some (.string ⟨#[]⟩) := HN1.out.cell 1 (by omega)
    have r2 : w1.cell? ⟨w.heap.size, 2, none⟩ = some (.string ⟨#[]⟩) := HN1.out.cell 2 (by omega)
    have g0 := HN1.out.free 0
    have g1 := HN1.out.free 1
    have g2 := HN1.out.free 2
    go_wp2
    have hfin : Holds (((w1.setCell ⟨w.heap.size, 0, none⟩ (.slice none 0 0)).setCell ⟨w.heap.size, 1, none⟩ (.string ⟨#[]⟩)).setCell ⟨w.heap.size, 2, none⟩ (.string ⟨#[]⟩)) w.heap.size 3 (pCells (.slice none 0 0) noIt) 63 := by
      refine (((HN1.out.set 0 (.slice none 0 0)).set 1 (.string ⟨#[]⟩)).set 2 (.string ⟨#[]⟩)).congr fun i hi => ?_
      rcases (show i = 0 ∨ i = 1 ∨ i = 2 by omega) with rfl | rfl | rfl <;> rfl
    refine bodyPost_ret (results_row_tmp rfl _ _ w.heap.size 63 (arr 3 (pCells (.slice none 0 0) noIt)) (0, 0) _ rfl hfin Tryz.underlying63 rfl (by rw [arr_size]; exact infoProof)) rfl ?_
    exact ⟨.slice none 0 0, rfl, ((HB1.out.setCell (p := ⟨w.heap.size, 0, none⟩) (Nat.le_refl _) _).setCell (p := ⟨w.heap.size, 1, none⟩) (Nat.le_refl _) _).setCell (p := ⟨w.heap.size, 2, none⟩) (Nat.le_refl _) _, Row.nil _ _ _⟩
end Go.Proofs.YtcfpmofmjnhonaaGreatDoor
/- The program's names and indexes: isLetter, isDigit, isMark, bit, Name, Bit. -/
namespace Go.Proofs.YtcfpmofmjnhonaaGreatDoor
open Go.RowKit

theorem and_one (X : Nat) (h : X < 256) : bits BinOp.and IntKind.i64 (wrap64 (X : Int)) 1 = ((X % 2 : Nat) : Int) := by
  have hall : ∀ x : Fin 256, bits BinOp.and IntKind.i64 (wrap64 ((x.val : Nat) : Int)) 1 = ((x.val % 2 : Nat) : Int) := by decide +kernel
  exact hall ⟨X, h⟩
def letterB (c : Nat) : Bool := decide (97 ≤ c ∧ c ≤ 122)
def digitB (c : Nat) : Bool := decide (48 ≤ c ∧ c ≤ 57)
theorem isLetter_any (c : Nat) (w : World) : Calls Tryz.prog 86 #[.int .u8 (c : Int)] w fun e w' => e = .returned (.bool (letterB c)) ∧ w' = w := by
  by_cases c1 : 97 ≤ c
  · by_cases c2 : c ≤ 122
    · have ec1 : decide ((97 : Int) ≤ (c : Int)) = true := by simp; omega
      have ec2 : decide ((c : Int) ≤ 122) = true := by simp; omega
      have e : letterB c = true := by unfold letterB; simp; omega
      rw [e]; clear e
      go_enter Tryz.func86, Tryz.ntmps86
      go_wp2
      go_ret
      exact ⟨rfl, rfl⟩
    · have ec1 : decide ((97 : Int) ≤ (c : Int)) = true := by simp; omega
      have ec2 : decide ((c : Int) ≤ 122) = false := by simp; omega
      have e : letterB c = false := by unfold letterB; simp; omega
      rw [e]; clear e
      go_enter Tryz.func86, Tryz.ntmps86
      go_wp2
      go_ret
      exact ⟨rfl, rfl⟩
  · have ec1 : decide ((97 : Int) ≤ (c : Int)) = false := by simp; omega
    have e : letterB c = false := by unfold letterB; simp; omega
    rw [e]; clear e
    go_enter Tryz.func86, Tryz.ntmps86
    go_wp2
    go_ret
    exact ⟨rfl, rfl⟩
theorem isDigit_any (c : Nat) (w : World) : Calls Tryz.prog 87 #[.int .u8 (c : Int)] w fun e w' => e = .returned (.bool (digitB c)) ∧ w' = w := by
  by_cases c1 : 48 ≤ c
  · by_cases c2 : c ≤ 57
    · have ec1 : decide ((48 : Int) ≤ (c : Int)) = true := by simp; omega
      have ec2 : decide ((c : Int) ≤ 57) = true := by simp; omega
      have e : digitB c = true := by unfold digitB; simp; omega
      rw [e]; clear e
      go_enter Tryz.func87, Tryz.ntmps87
      go_wp2
      go_ret
      exact ⟨rfl, rfl⟩
    · have ec1 : decide ((48 : Int) ≤ (c : Int)) = true := by simp; omega
      have ec2 : decide ((c : Int) ≤ 57) = false := by simp; omega
      have e : digitB c = false := by unfold digitB; simp; omega
      rw [e]; clear e
      go_enter Tryz.func87, Tryz.ntmps87
      go_wp2
      go_ret
      exact ⟨rfl, rfl⟩
  · have ec1 : decide ((48 : Int) ≤ (c : Int)) = false := by simp; omega
    have e : digitB c = false := by unfold digitB; simp; omega
    rw [e]; clear e
    go_enter Tryz.func87, Tryz.ntmps87
    go_wp2
    go_ret
    exact ⟨rfl, rfl⟩
theorem ixIsMark_any (s : ByteArray) (w : World) : Calls Tryz.prog 131 #[.string s] w fun e w' => e = .returned (.bool (decide (s.size = 16))) ∧ w' = w := by
  by_cases h : s.size = 16
  · go_enter Tryz.func131, Tryz.ntmps131
    go_wp2
    go_ret
    exact ⟨by simp [h], rfl⟩
  · go_enter Tryz.func131, Tryz.ntmps131
    go_wp2
    go_ret
    refine ⟨?_, rfl⟩
    simp [h]; omega
set_option maxRecDepth 100000 in
theorem bit_any (ix : ByteArray) (k : Nat) (w : World) (h16 : ix.size = 16) (hk : k < 128) :
    Calls Tryz.prog 132 #[.string ix, .int .i64 (k : Int)] w fun e w' => e = .returned (.int .i64 ((bitOf ix.data.toList k : Nat) : Int)) ∧ w' = w := by
  have hlt : k / 8 < ix.size := by omega
  obtain ⟨B, hB⟩ : ∃ B : Nat, ix[k / 8].toNat = B := ⟨_, rfl⟩
  have hB2 : B < 256 := by rw [← hB]; exact ix[k / 8].toNat_lt
  obtain ⟨D, hD⟩ : ∃ D : Nat, 7 - k % 8 = D := ⟨_, rfl⟩
  have hDi : 7 - (k : Int) % 8 = (D : Int) := by omega
  have hD7 : D < 8 := by omega
  have hbit : bitOf ix.data.toList k = B / 2 ^ D % 2 := by
    unfold bitOf
    rw [hD, ← hB]
    congr 3
    rw [List.getD_eq_getElem?_getD, List.getElem?_eq_getElem (by rw [Array.length_toList]; exact hlt)]; rfl
  have HBIT := Lib.hid hbit
  clear hbit hD
  go_enter Tryz.func132, Tryz.ntmps132
  go_wp2
  go_ret
  refine ⟨?_, rfl⟩
  show Ending.returned (Value.int IntKind.i64 (bits BinOp.and IntKind.i64 (wrap64 ((B : Int) / 2 ^ D)) 1)) = _
  rw [HBIT.out, show ((B : Int) / 2 ^ D) = ((B / 2 ^ D : Nat) : Int) by rw [Int.natCast_ediv, Int.natCast_pow]; rfl, and_one _ (Nat.lt_of_le_of_lt (Nat.div_le_self _ _) hB2)]
end Go.Proofs.YtcfpmofmjnhonaaGreatDoor
