/- Parts of the proof, one behind the other: PNode, PProve, TrieF. -/
import Derived.Test.YtpoibacokdjplaaGreatDoorM17
import Derived.Test.YtpoibacokdjplaaGreatDoorM10
import Derived.Test.YtpoibacokdjplaaGreatDoorM11
import Derived.Test.YtpoibacokdjplaaGreatDoorM15
/- The program's NODE and Root. -/
namespace Go.Proofs.YtpoibacokdjplaaGreatDoor
open Go.RowKit

set_option maxRecDepth 100000 in
theorem tNode_few (f d : Nat) (L : List It) (A : Option Addr) (cap : Nat) (w : World) (h2 : L.length < 2) (hap : Apart L d) (hcm : ∀ x ∈ L, x.2.size ≤ 1000000) (hk : HasK w) (hm : Itms w A L) :
    Calls Tryz.prog 35 #[.slice A L.length cap, .int .i64 (d : Int)] w fun e w' => e = .returned (.string (nodeOf f L d)) ∧ Below w.heap.size w w' := by
  have HK := Lib.hid hk
  have HM := Lib.hid hm
  have HAP := Lib.hid hap
  have HCM := Lib.hid hcm
  clear hk hm hap hcm
  rcases (show L.length = 0 ∨ L.length = 1 by omega) with h | h
  · have HT := Lib.hid (nodeOf_nil f L d h)
    have h0 : ((L.length : Int) == 0) = true := by rw [beq_iff_eq]; omega
    clear h h2
    go_enter Tryz.func35, Tryz.ntmps35
    go_wp2_with fail
    refine (tEmpty_any d _ HK.out).mono ?_
    rintro e w1 ⟨rfl, hb1⟩
    have HB1 := Lib.hid hb1
    clear hb1 h0
    go_wp2
    go_ret
    exact ⟨by rw [HT.out]; rfl, HB1.out⟩
  · have HT := Lib.hid (nodeOf_one f L d h)
    have h0 : ((L.length : Int) == 0) = false := by rw [beq_eq_false_iff_ne]; omega
    have h1 : ((L.length : Int) == 1) = true := by rw [beq_iff_eq]; omega
    have hlt : (0 : Int) < (L.length : Int) := by omega
    obtain ⟨a, rfl, hal, c0, c1⟩ := HM.out.at_ (show 0 < L.length by omega)
    have hx : itAt L 0 ∈ L := by rw [itAt_of (show 0 < L.length by omega)]; exact List.getElem_mem _
    have hx1 := HAP.out.1 _ hx
    have hx2 := HCM.out _ hx
    rw [Nat.zero_mul, add_zero'] at c0 c1
    have d2 : w.cell? ⟨a.block, a.off + 1, none⟩ = some (.string (itAt L 0).2) := c1
    generalize itAt L 0 = x at c0 d2 hx1 hx2 HT
    have HX1 := Lib.hid hx1
    have HX2 := Lib.hid hx2
    clear c1 hx1 hx2 hx h h2
    go_enter Tryz.func35, Tryz.ntmps35
    go_wp2_with fail
    refine (tLeaf_any x d _ HK.out (by have := HX1.out; omega) HX2.out).mono ?_
    rintro e w1 ⟨rfl, hb1⟩
    have HB1 := Lib.hid hb1
    clear hb1 h0 h1
    go_wp2
    go_ret
    exact ⟨by rw [HT.out]; rfl, HB1.out⟩
set_option maxRecDepth 100000 in
theorem tNode_any : ∀ (f d : Nat) (L : List It) (A : Option Addr) (cap : Nat) (w : World), d + f = 128 → Apart L d → L.Pairwise ltI → L.length ≤ 1000000 → L.length ≤ cap → (∀ x ∈ L, x.2.size ≤ 1000000) → HasK w → Itms w A L →
    Calls Tryz.prog 35 #[.slice A L.length cap, .int .i64 (d : Int)] w fun e w' => e = .returned (.string (nodeOf f L d)) ∧ Below w.heap.size w w' := by
  intro f
  induction f with
  | zero =>
    intro d L A cap w hdf hap hs hl hc hcm hk hm
    refine tNode_few 0 d L A cap w ?_ hap hcm hk hm
    rcases Nat.lt_or_ge L.length 2 with h | h
    · exact h
    · have := hap.lt h; omega
  | succ f ih =>
    intro d L A cap w hdf hap hs hl hc hcm hk hm
    rcases Nat.lt_or_ge L.length 2 with h | h
    · exact tNode_few (f + 1) d L A cap w h hap hcm hk hm
    · have IH := Lib.hid ih
      have HK := Lib.hid hk
      have HM := Lib.hid hm
      have HAP := Lib.hid hap
      have HS := Lib.hid hs
      have HCM := Lib.hid hcm
      have HDF := Lib.hid hdf
      have HCAP := Lib.hid hc
      clear ih hk hm hap hs hcm hdf hc
      have hd : d < 128 := HAP.out.lt h
      have HT := Lib.hid (nodeOf_two f L d h)
      have ED := Lib.hid (show ((d : Int) + 1) = ((d + 1 : Nat) : Int) by omega)
      have h0 : ((L.length : Int) == 0) = false := by rw [beq_eq_false_iff_ne]; omega
      have h1 : ((L.length : Int) == 1) = false := by rw [beq_eq_false_iff_ne]; omega
      go_enter Tryz.func35, Tryz.ntmps35
      go_wp2_with fail
      refine (tHalves_any L A cap d _ hl HCAP.out HM.out HS.out HAP.out hd).mono ?_
      rintro e w1 ⟨A0, c0, A1, c1, rfl, hb1, hi0, hi1, hc0, hc1⟩
      have HB1 := Lib.hid hb1
      have HI0 := Lib.hid hi0
      have HI1 := Lib.hid hi1
      have HC0 := Lib.hid hc0
      have HC1 := Lib.hid hc1
      clear hb1 hi0 hi1 hc0 hc1 h0 h1
      go_wp2_with fail
      rw [ED.out]
      refine (IH.out (d + 1) (half L d 0) A0 c0 _ (by have := HDF.out; omega) (HAP.out.half 0) (half_rise HS.out d 0) (Nat.le_trans (half_le _ _ _) hl) HC0.out (fun x hx => HCM.out x (List.mem_filter.1 hx).1) (HK.out.below HB1.out HK.out.lt) HI0.out).mono ?_
      rintro e w2 ⟨rfl, hb2⟩
      have HI1' := Lib.hid (HI1.out.below hb2)
      have HB2 := Lib.hid (HB1.out.trans (hb2.mono HB1.out.size))
      have hs1 := nodeOf_size f (half L d 0) (d + 1)
      generalize nodeOf f (half L d 0) (d + 1) = n0 at hs1 HT
      have HS1 := Lib.hid hs1
      clear hb2 hs1
      go_wp2_with fail
      rw [ED.out]
      refine (IH.out (d + 1) (half L d 1) A1 c1 _ (by have := HDF.out; omega) (HAP.out.half 1) (half_rise HS.out d 1) (Nat.le_trans (half_le _ _ _) hl) HC1.out (fun x hx => HCM.out x (List.mem_filter.1 hx).1) (HK.out.below HB2.out HK.out.lt) HI1'.out).mono ?_
      rintro e w3 ⟨rfl, hb3⟩
      have HB3 := Lib.hid (HB2.out.trans (hb3.mono HB2.out.size))
      have hs2 := nodeOf_size f (half L d 1) (d + 1)
      generalize nodeOf f (half L d 1) (d + 1) = n1 at hs2 HT
      have HS2 := Lib.hid hs2
      clear hb3 hs2
      go_wp2_with fail
      refine (tJoin_any n0 n1 _ (HK.out.below HB3.out HK.out.lt) (by have := HS1.out; omega) (by have := HS2.out; omega)).mono ?_
      rintro e w4 ⟨rfl, hb4⟩
      have HB4 := Lib.hid (HB3.out.trans (hb4.mono HB3.out.size))
      clear hb4
      go_wp2
      go_ret
      exact ⟨by rw [HT.out]; rfl, HB4.out⟩
set_option maxRecDepth 100000 in
theorem tRoot_is (L : List It) (A : Option Addr) (cap : Nat) (x : ByteArray) (n : Int) (w : World) (hk : HasK w) (hl : L.length ≤ 1000000) (hc : L.length ≤ cap) (hm : Itms w A L) (h : rootAns L = (x, n)) :
    Calls Tryz.prog 16 #[.slice A L.length cap] w fun e w' => e = .returned (.tuple #[.string x, errOf n]) ∧ Below w.heap.size w w' := by
  have HK := Lib.hid hk
  have HM := Lib.hid hm
  have HCAP := Lib.hid hc
  clear hk hm hc
  unfold rootAns at h
  by_cases hk : rightItems L = true
  · rw [if_pos hk] at h
    cases h
    have HAP := Lib.hid (right_apart hk)
    have HCM := Lib.hid (right_cm hk)
    have HS := Lib.hid (right_sorted hk)
    have HR := Lib.hid hk
    clear hk
    go_enter Tryz.func16, Tryz.ntmps16
    go_wp2_with fail
    refine (tRight_any L A cap _ hl HM.out).mono ?_
    rintro e w1 ⟨rfl, hb1⟩
    rw [HR.out]
    have HB1 := Lib.hid hb1
    have HM1 := Lib.hid (HM.out.below hb1)
    clear hb1
    go_wp2_with fail
    refine (tNode_any 128 0 L A cap _ rfl HAP.out HS.out hl HCAP.out HCM.out (HK.out.below HB1.out HK.out.lt) HM1.out).mono ?_
    rintro e w2 ⟨rfl, hb2⟩
    have HB2 := Lib.hid (HB1.out.trans (hb2.mono HB1.out.size))
    clear hb2
    go_wp2
    refine bodyPost_ret (results_tmp2 rfl _ _ _) rfl ?_
    exact ⟨rfl, HB2.out⟩
  · rw [if_neg hk] at h
    cases h
    have HR := Lib.hid (show rightItems L = false by simpa using hk)
    clear hk
    go_enter Tryz.func16, Tryz.ntmps16
    go_wp2_with fail
    refine (tRight_any L A cap _ hl HM.out).mono ?_
    rintro e w1 ⟨rfl, hb1⟩
    rw [HR.out]
    have HB1 := Lib.hid hb1
    clear hb1
    go_wp2
    refine bodyPost_ret (results_tmp2 rfl _ _ _) rfl ?_
    exact ⟨rfl, HB1.out⟩
end Go.Proofs.YtpoibacokdjplaaGreatDoor
/- The program's Prove. -/
namespace Go.Proofs.YtpoibacokdjplaaGreatDoor
open Go.RowKit

theorem Row.texts {w : World} {base n c : Nat} {p : Option Addr} {L : List ByteArray} (h : Row w base 1 (.slice p n c) n (stCells L)) : Strs w p L := by
  obtain ⟨_, A', c', hv, hit⟩ := h.strs
  injection hv with e1 _ _
  subst e1
  exact hit
set_option maxHeartbeats 1000000 in
set_option maxRecDepth 100000 in
theorem tProve_is (L : List It) (A : Option Addr) (cap : Nat) (ix : ByteArray) (T : List ByteArray) (x : It) (n : Int) (w : World) (hkk : HasK w) (hl : L.length ≤ 1000000) (hcap : L.length ≤ cap) (hm : Itms w A L) (h : proveAns L ix = (T, x, n)) :
    Calls Tryz.prog 24 #[.slice A L.length cap, .string ix] w fun e w' => ∃ A' c', e = .returned (.tuple #[.agg #[.slice A' T.length c', .string x.1, .string x.2], errOf n]) ∧ Below w.heap.size w w' ∧ Strs w' A' T := by
  have HKK := Lib.hid hkk
  have HM := Lib.hid hm
  have HCAP := Lib.hid hcap
  clear hkk hm hcap
  unfold proveAns at h
  by_cases hk : rightItems L = true
  · have HK := Lib.hid hk
    by_cases h16 : ix.size = 16
    · rw [if_pos ⟨hk, h16⟩] at h
      simp only [Prod.mk.injEq] at h
      obtain ⟨hT, hx, rfl⟩ := h
      have HT := Lib.hid hT
      have HX := Lib.hid hx
      clear hT hx
      have HAP := Lib.hid (right_apart hk)
      have HS := Lib.hid (right_sorted hk)
      have HCM := Lib.hid (right_cm hk)
      have H16 := Lib.hid h16
      have E16 := Lib.hid (show decide (ix.size = 16) = true by simp [h16])
      clear hk h16
      go_enter Tryz.func24, Tryz.ntmps24
      go_wp2_with fail
      have HB0 := Lib.hid (alloc_below w (.cells #[.slice none 0 0, .string ⟨#[]⟩, .string ⟨#[]⟩] 49))
      have HN0 := Lib.hid (show Holds (w.alloc (.cells #[.slice none 0 0, .string ⟨#[]⟩, .string ⟨#[]⟩] 49)) w.heap.size 3 (pCells (.slice none 0 0) noIt) 49 from Holds.new w 3 (pCells (.slice none 0 0) noIt) 49)
      refine (tRight_any L A cap _ hl (HM.out.below HB0.out)).mono ?_
      rintro e w1 ⟨rfl, hb1⟩
      rw [HK.out]
      have HB1 := Lib.hid (HB0.out.trans (hb1.mono HB0.out.size))
      have HN1 := Lib.hid (HN0.out.below hb1 HN0.out.lt)
      have hlt1 : w.heap.size < w1.heap.size := HN1.out.lt
      clear hb1
      go_wp2_with fail
      refine (tMark_any ix _).mono ?_
      rintro e w2 ⟨rfl, rfl⟩
      rw [E16.out]
      go_wp2
      have HREL := Lib.hid (show ProveRel w2.heap.size w (w2.alloc (.cells #[.slice none 0 0, .string ⟨#[]⟩, .string ⟨#[]⟩] 49)) L A [] (.slice none 0 0) from
        ⟨HB1.out.alloc HB1.out.size _, hlt1, HN1.out.alloc _, Holds.new w2 3 (pCells (.slice none 0 0) noIt) 49, (HM.out.below HB1.out).below (alloc_below _ _), Row.nil _ _ _⟩)
      generalize hpb : w2.heap.size = pb at HREL
      clear hpb
      go_loopw [0, 7] (fun l dv wr => ∃ (d f : Nat) (M : List It) (A' : Option Addr) (cap' : Nat) (P : List ByteArray) (v : Value), d + f = 128 ∧ l = .slice A' M.length cap' ∧ dv = .int .i64 (d : Int) ∧ M.length ≤ cap' ∧ M.Pairwise ltI ∧ Apart M d ∧ M.length ≤ 1000000 ∧ (∀ y ∈ M, y.2.size ≤ 1000000) ∧
        P ++ (proveFrom f M ix d).1 = T ∧ (proveFrom f M ix d).2 = x ∧ P.length ≤ d ∧ ProveRel pb w wr M A' P v) (fun _ dv _ => 128 - (intOf dv).toNat)
      case atStart => exact ⟨0, 128, L, A, cap, [], _, rfl, rfl, rfl, HCAP.out, HS.out, HAP.out, hl, HCM.out, HT.out, HX.out, by simp, HREL.out⟩
      case round =>
        obtain ⟨d, f, M, A', cap', P, v, hdf, rfl, rfl, hmc, hms, hap, hml, hcm, hT, hx, hpd, hrel⟩ := hrel
        have HDF := Lib.hid hdf
        have HMC := Lib.hid hmc
        have HMS := Lib.hid hms
        have HAPM := Lib.hid hap
        have HCMM := Lib.hid hcm
        have HTT := Lib.hid hT
        have HXX := Lib.hid hx
        have HRL := Lib.hid hrel
        clear hdf hmc hms hap hcm hT hx hrel
        by_cases h2 : 2 ≤ M.length
        · have hd : d < 128 := HAPM.out.lt h2
          obtain ⟨f', rfl⟩ : ∃ f', f = f' + 1 := ⟨f - 1, by have := HDF.out; omega⟩
          have HSTEP := Lib.hid (show proveFrom (f' + 1) M ix d = (nodeOf f' (half M d (1 - bitOf ix.data.toList d)) (d + 1) :: (proveFrom f' (half M d (bitOf ix.data.toList d)) ix (d + 1)).1, (proveFrom f' (half M d (bitOf ix.data.toList d)) ix (d + 1)).2) by rw [proveFrom, if_neg (by omega)])
          have h2i : (1 : Int) < (M.length : Int) := by omega
          go_wp2_with fail
          refine (tHalves_row M A' cap' d _ hml HMC.out HRL.out.itms HMS.out HAPM.out hd).mono ?_
          rintro e w3 ⟨A0, c0, A1, c1, rfl, hb3, hr0, hr1⟩
          have HB3 := Lib.hid hb3
          have HI0 := Lib.hid hr0.items
          have HI1 := Lib.hid hr1.items
          have HC0 := Lib.hid hr0.cap
          have HC1 := Lib.hid hr1.cap
          have HR0 := Lib.hid hr0
          have HR1 := Lib.hid hr1
          clear hb3 hr0 hr1
          have HKD := Lib.hid (show HasK w3.drew from (HKK.out.below (HRL.out.below.trans (HB3.out.mono HRL.out.below.size)) HKK.out.lt).below (Below.refl w3.heap.size w3).drew (Nat.lt_of_lt_of_le HKK.out.lt (HRL.out.below.trans (HB3.out.mono HRL.out.below.size)).size))
          go_wp2_with fail
          refine (tBit_any ix d _ H16.out hd).mono ?_
          rintro e w4 ⟨rfl, rfl⟩
          have hb2 : bitOf ix.data.toList d = 0 ∨ bitOf ix.data.toList d = 1 := by have := bitOf_lt ix.data.toList d; omega
          rcases hb2 with hbit | hbit
          · rw [hbit]
            rw [hbit] at HSTEP
            have HBIT := Lib.hid hbit
            clear hbit h2i
            have ED := Lib.hid (show ((d : Int) + 1) = ((d + 1 : Nat) : Int) by omega)
            have q0 : w4.cell? ⟨pb, 0, none⟩ = some v := (HRL.out.own.below HB3.out HRL.out.own.lt).cell 0 (by omega)
            have hpb : pb < w4.heap.size := Nat.lt_of_lt_of_le HRL.out.own.lt HB3.out.size
            obtain ⟨nd, hnd⟩ : ∃ nd, nodeOf f' (half M d 1) (d + 1) = nd := ⟨_, rfl⟩
            have HND := Lib.hid hnd
            clear hnd
            have hC : Calls Tryz.prog 35 #[.slice A1 (half M d 1).length c1, .int .i64 ((d : Int) + 1)] w4.drew (fun e w' => e = .returned (.string nd) ∧ Below w4.heap.size w4 w') := by
              rw [ED.out]
              exact (tNode_any f' (d + 1) (half M d 1) A1 c1 w4.drew (by have := HDF.out; omega) (HAPM.out.half 1) (half_rise HMS.out d 1) (Nat.le_trans (half_le _ _ _) hml) HC1.out (fun y hy => HCMM.out y (List.mem_filter.1 hy).1) HKD.out HI1.out.drew).mono fun e w' ⟨he, hb⟩ => ⟨by rw [he, HND.out], undrew hb⟩
            have HC := Lib.hid hC
            clear hC
            have s1 : IntKind.i64.wrap ((d : Int) + 1) = (d : Int) + 1 := IntWalk.i64_in _ (by omega)
            go_wp2_with fail
            go_region_law (first
              | (refine step_of_list rfl ?_; refine wpList_append_one2 rfl (.tmp 38) (.tmp 43) 47 rfl 9 Tryz.underlying47 _ 16 infoStr rfl (by decide) (pb + 1) v P.length (stCells P) rfl HROW5.out (Nat.le_trans hpb hb5.size) (by omega) (.string nd) rfl rfl 9 ?_; intro v' w6 hrow6 hgrow6 hmove6; obtain ⟨p', cap6, rfl⟩ := hrow6.out.any; have t0 := fin_cell HRL.out HB3.out hb5 hgrow6.out; have t1 := fin_free HRL.out HB3.out hb5 hgrow6.out; refine then1 ?_)
              | (go_simp; go_at_call 35; refine HC.out.mono ?_; rintro e w5 ⟨rfl, hb5⟩; have HROW5 := Lib.hid (HRL.out.row.belowAll (HB3.out.trans (hb5.mono HB3.out.size))); have c5 : w5.cell? ⟨pb, 0, none⟩ = some v := (hb5.cell hpb).trans q0; have c6 : (w5.alloc (.cells #[.string nd] 9)).cell? ⟨pb, 0, none⟩ = some v := by rw [World.cell?_alloc_lt _ _ ⟨pb, 0, none⟩ (Nat.lt_of_lt_of_le hpb hb5.size)]; exact c5))
            all_goals
              go_wp2
              go_roundw
              case rel =>
                refine ⟨d + 1, f', half M d 0, A0, c0, P ++ [nd], .slice p' (P.length + 1) cap6, by have := HDF.out; omega, rfl, by go_num, HC0.out, half_rise HMS.out d 0, HAPM.out.half 0, Nat.le_trans (half_le _ _ _) hml, fun y hy => HCMM.out y (List.mem_filter.1 hy).1, ?_, ?_, by simp; omega, ?_⟩
                · rw [← HTT.out, HSTEP.out, ← HND.out, List.append_assoc]; rfl
                · rw [← HXX.out, HSTEP.out]
                · exact ProveRel.next HRL.out (HB3.out.trans (hb5.mono HB3.out.size)) (HR0.out.belowAll hb5) hrow6.out hgrow6.out
              case measure => simp [intOf]; omega
          · rw [hbit]
            rw [hbit] at HSTEP
            have HBIT := Lib.hid hbit
            clear hbit h2i
            have ED := Lib.hid (show ((d : Int) + 1) = ((d + 1 : Nat) : Int) by omega)
            have q0 : w4.cell? ⟨pb, 0, none⟩ = some v := (HRL.out.own.below HB3.out HRL.out.own.lt).cell 0 (by omega)
            have hpb : pb < w4.heap.size := Nat.lt_of_lt_of_le HRL.out.own.lt HB3.out.size
            obtain ⟨nd, hnd⟩ : ∃ nd, nodeOf f' (half M d 0) (d + 1) = nd := ⟨_, rfl⟩
            have HND := Lib.hid hnd
            clear hnd
            have hC : Calls Tryz.prog 35 #[.slice A0 (half M d 0).length c0, .int .i64 ((d : Int) + 1)] w4.drew (fun e w' => e = .returned (.string nd) ∧ Below w4.heap.size w4 w') := by
              rw [ED.out]
              exact (tNode_any f' (d + 1) (half M d 0) A0 c0 w4.drew (by have := HDF.out; omega) (HAPM.out.half 0) (half_rise HMS.out d 0) (Nat.le_trans (half_le _ _ _) hml) HC0.out (fun y hy => HCMM.out y (List.mem_filter.1 hy).1) HKD.out HI0.out.drew).mono fun e w' ⟨he, hb⟩ => ⟨by rw [he, HND.out], undrew hb⟩
            have HC := Lib.hid hC
            clear hC
            have s1 : IntKind.i64.wrap ((d : Int) + 1) = (d : Int) + 1 := IntWalk.i64_in _ (by omega)
            go_wp2_with fail
            go_region_law (first
              | (refine step_of_list rfl ?_; refine wpList_append_one2 rfl (.tmp 38) (.tmp 43) 47 rfl 9 Tryz.underlying47 _ 16 infoStr rfl (by decide) (pb + 1) v P.length (stCells P) rfl HROW5.out (Nat.le_trans hpb hb5.size) (by omega) (.string nd) rfl rfl 9 ?_; intro v' w6 hrow6 hgrow6 hmove6; obtain ⟨p', cap6, rfl⟩ := hrow6.out.any; have t0 := fin_cell HRL.out HB3.out hb5 hgrow6.out; have t1 := fin_free HRL.out HB3.out hb5 hgrow6.out; refine then1 ?_)
              | (go_simp; go_at_call 35; refine HC.out.mono ?_; rintro e w5 ⟨rfl, hb5⟩; have HROW5 := Lib.hid (HRL.out.row.belowAll (HB3.out.trans (hb5.mono HB3.out.size))); have c5 : w5.cell? ⟨pb, 0, none⟩ = some v := (hb5.cell hpb).trans q0; have c6 : (w5.alloc (.cells #[.string nd] 9)).cell? ⟨pb, 0, none⟩ = some v := by rw [World.cell?_alloc_lt _ _ ⟨pb, 0, none⟩ (Nat.lt_of_lt_of_le hpb hb5.size)]; exact c5))
            all_goals
              go_wp2
              go_roundw
              case rel =>
                refine ⟨d + 1, f', half M d 1, A1, c1, P ++ [nd], .slice p' (P.length + 1) cap6, by have := HDF.out; omega, rfl, by go_num, HC1.out, half_rise HMS.out d 1, HAPM.out.half 1, Nat.le_trans (half_le _ _ _) hml, fun y hy => HCMM.out y (List.mem_filter.1 hy).1, ?_, ?_, by simp; omega, ?_⟩
                · rw [← HTT.out, HSTEP.out, ← HND.out, List.append_assoc]; rfl
                · rw [← HXX.out, HSTEP.out]
                · exact ProveRel.next HRL.out (HB3.out.trans (hb5.mono HB3.out.size)) (HR1.out.belowAll hb5) hrow6.out hgrow6.out
              case measure => simp [intOf]; omega
        · have hfew := proveFrom_few f M ix d (by omega)
          have h2i : ¬ (1 : Int) < (M.length : Int) := by omega
          have HTT' := Lib.hid (show P = T by have := HTT.out; rw [hfew] at this; simpa using this)
          have HXX' := Lib.hid (show itAt M 0 = x by have := HXX.out; rw [hfew] at this; exact this)
          clear hfew
          obtain ⟨pv, cv, hv⟩ := HRL.out.row.any
          subst hv
          have hpl := HRL.out.lt
          have hfr : ∀ c, c < pb + 1 → (Value.slice pv P.length cv).ownBlock ≠ some c := fun c hc => HRL.out.row.fresh hc
          have r0 : wr.cell? ⟨w.heap.size, 0, none⟩ = some (.slice none 0 0) := HRL.out.res.cell 0 (by omega)
          have r1 : wr.cell? ⟨w.heap.size, 1, none⟩ = some (.string ⟨#[]⟩) := HRL.out.res.cell 1 (by omega)
          have r2 : wr.cell? ⟨w.heap.size, 2, none⟩ = some (.string ⟨#[]⟩) := HRL.out.res.cell 2 (by omega)
          have g0 := HRL.out.res.free 0
          have g1 := HRL.out.res.free 1
          have g2 := HRL.out.res.free 2
          have e0 : wr.cell? ⟨pb, 0, none⟩ = some (.slice pv P.length cv) := HRL.out.own.cell 0 (by omega)
          have e1 : wr.cell? ⟨pb, 1, none⟩ = some (.string ⟨#[]⟩) := HRL.out.own.cell 1 (by omega)
          have e2 : wr.cell? ⟨pb, 2, none⟩ = some (.string ⟨#[]⟩) := HRL.out.own.cell 2 (by omega)
          have k1 := HRL.out.own.free 1
          have k2 := HRL.out.own.free 2
          rcases (show M.length = 1 ∨ M.length = 0 by omega) with h1 | h1
          · have h1i : ((M.length : Int) == 1) = true := by rw [beq_iff_eq]; omega
            have hlt : (0 : Int) < (M.length : Int) := by omega
            obtain ⟨a, rfl, hal, c0, c1⟩ := HRL.out.itms.at_ (show 0 < M.length by omega)
            rw [Nat.zero_mul, add_zero', HXX'.out] at c0 c1
            have d2 : wr.cell? ⟨a.block, a.off + 1, none⟩ = some (.string x.2) := c1
            clear c1 h1 h2
            go_wp2
            have hfin : Holds (((((wr.setCell ⟨pb, 1, none⟩ (.string x.1)).setCell ⟨pb, 2, none⟩ (.string x.2)).setCell ⟨w.heap.size, 0, none⟩ (.slice pv P.length cv)).setCell ⟨w.heap.size, 1, none⟩ (.string x.1)).setCell ⟨w.heap.size, 2, none⟩ (.string x.2)) w.heap.size 3 (pCells (.slice pv P.length cv) x) 49 := by
              refine (((((HRL.out.res.other (a := ⟨pb, 1, none⟩) (by show w.heap.size ≠ pb; omega) _).other (a := ⟨pb, 2, none⟩) (by show w.heap.size ≠ pb; omega) _).set 0 (.slice pv P.length cv)).set 1 (.string x.1)).set 2 (.string x.2)).congr fun i hi => ?_
              rcases (show i = 0 ∨ i = 1 ∨ i = 2 by omega) with rfl | rfl | rfl <;> rfl
            refine bodyPost_ret (results_row_tmp rfl _ _ w.heap.size 49 (arr 3 (pCells (.slice pv P.length cv) x)) (0, 0) _ rfl hfin Tryz.underlying49 rfl (by rw [arr_size]; exact infoProof)) rfl ?_
            rw [← HTT'.out]
            refine ⟨pv, ⟨cv, rfl⟩, ((((HRL.out.below.setCell (p := ⟨pb, 1, none⟩) (Nat.le_of_lt hpl) _).setCell (p := ⟨pb, 2, none⟩) (Nat.le_of_lt hpl) _).setCell (p := ⟨w.heap.size, 0, none⟩) (Nat.le_refl _) _).setCell (p := ⟨w.heap.size, 1, none⟩) (Nat.le_refl _) _).setCell (p := ⟨w.heap.size, 2, none⟩) (Nat.le_refl _) _, ?_⟩
            exact (((((HRL.out.row.setOther (a := ⟨pb, 1, none⟩) (hfr pb (by omega)) _).setOther (a := ⟨pb, 2, none⟩) (hfr pb (by omega)) _).setOther (a := ⟨w.heap.size, 0, none⟩) (hfr w.heap.size (by omega)) _).setOther (a := ⟨w.heap.size, 1, none⟩) (hfr w.heap.size (by omega)) _).setOther (a := ⟨w.heap.size, 2, none⟩) (hfr w.heap.size (by omega)) _).texts
          · have h1i : ((M.length : Int) == 1) = false := by rw [beq_eq_false_iff_ne]; omega
            obtain rfl : noIt = x := by
              rw [← HXX'.out, List.eq_nil_of_length_eq_zero h1]; rfl
            clear h1 h2
            go_wp2
            have hfin : Holds (((wr.setCell ⟨w.heap.size, 0, none⟩ (.slice pv P.length cv)).setCell ⟨w.heap.size, 1, none⟩ (.string ⟨#[]⟩)).setCell ⟨w.heap.size, 2, none⟩ (.string ⟨#[]⟩)) w.heap.size 3 (pCells (.slice pv P.length cv) noIt) 49 := by
              refine (((HRL.out.res.set 0 (.slice pv P.length cv)).set 1 (.string ⟨#[]⟩)).set 2 (.string ⟨#[]⟩)).congr fun i hi => ?_
              rcases (show i = 0 ∨ i = 1 ∨ i = 2 by omega) with rfl | rfl | rfl <;> rfl
            refine bodyPost_ret (results_row_tmp rfl _ _ w.heap.size 49 (arr 3 (pCells (.slice pv P.length cv) noIt)) (0, 0) _ rfl hfin Tryz.underlying49 rfl (by rw [arr_size]; exact infoProof)) rfl ?_
            rw [← HTT'.out]
            refine ⟨pv, ⟨cv, rfl⟩, ((HRL.out.below.setCell (p := ⟨w.heap.size, 0, none⟩) (Nat.le_refl _) _).setCell (p := ⟨w.heap.size, 1, none⟩) (Nat.le_refl _) _).setCell (p := ⟨w.heap.size, 2, none⟩) (Nat.le_refl _) _, ?_⟩
            exact (((HRL.out.row.setOther (a := ⟨w.heap.size, 0, none⟩) (hfr w.heap.size (by omega)) _).setOther (a := ⟨w.heap.size, 1, none⟩) (hfr w.heap.size (by omega)) _).setOther (a := ⟨w.heap.size, 2, none⟩) (hfr w.heap.size (by omega)) _).texts
    · rw [if_neg (fun hh => h16 hh.2)] at h
      cases h
      have E16 := Lib.hid (show decide (ix.size = 16) = false by simp [h16])
      clear hk h16
      go_enter Tryz.func24, Tryz.ntmps24
      go_wp2_with fail
      have HB0 := Lib.hid (alloc_below w (.cells #[.slice none 0 0, .string ⟨#[]⟩, .string ⟨#[]⟩] 49))
      have HN0 := Lib.hid (show Holds (w.alloc (.cells #[.slice none 0 0, .string ⟨#[]⟩, .string ⟨#[]⟩] 49)) w.heap.size 3 (pCells (.slice none 0 0) noIt) 49 from Holds.new w 3 (pCells (.slice none 0 0) noIt) 49)
      refine (tRight_any L A cap _ hl (HM.out.below HB0.out)).mono ?_
      rintro e w1 ⟨rfl, hb1⟩
      rw [HK.out]
      have HB1 := Lib.hid (HB0.out.trans (hb1.mono HB0.out.size))
      have HN1 := Lib.hid (HN0.out.below hb1 HN0.out.lt)
      have hlt1 : w.heap.size < w1.heap.size := HN1.out.lt
      clear hb1
      go_wp2_with fail
      refine (tMark_any ix _).mono ?_
      rintro e w1 ⟨rfl, rfl⟩
      rw [E16.out]
      have r0 : w1.cell? ⟨w.heap.size, 0, none⟩ = some (.slice none 0 0) := HN1.out.cell 0 (by omega)
      have r1 : w1.cell? ⟨w.heap.size, 1, none⟩ = some (.string ⟨#[]⟩) := HN1.out.cell 1 (by omega)
      have r2 : w1.cell? ⟨w.heap.size, 2, none⟩ = some (.string ⟨#[]⟩) := HN1.out.cell 2 (by omega)
      have g0 := HN1.out.free 0
      have g1 := HN1.out.free 1
      have g2 := HN1.out.free 2
      go_wp2
      have hfin : Holds (((w1.setCell ⟨w.heap.size, 0, none⟩ (.slice none 0 0)).setCell ⟨w.heap.size, 1, none⟩ (.string ⟨#[]⟩)).setCell ⟨w.heap.size, 2, none⟩ (.string ⟨#[]⟩)) w.heap.size 3 (pCells (.slice none 0 0) noIt) 49 := by
        refine (((HN1.out.set 0 (.slice none 0 0)).set 1 (.string ⟨#[]⟩)).set 2 (.string ⟨#[]⟩)).congr fun i hi => ?_
        rcases (show i = 0 ∨ i = 1 ∨ i = 2 by omega) with rfl | rfl | rfl <;> rfl
      refine bodyPost_ret (results_row_tmp rfl _ _ w.heap.size 49 (arr 3 (pCells (.slice none 0 0) noIt)) (0, 0) _ rfl hfin Tryz.underlying49 rfl (by rw [arr_size]; exact infoProof)) rfl ?_
      exact ⟨none, 0, rfl, ((HB1.out.setCell (p := ⟨w.heap.size, 0, none⟩) (Nat.le_refl _) _).setCell (p := ⟨w.heap.size, 1, none⟩) (Nat.le_refl _) _).setCell (p := ⟨w.heap.size, 2, none⟩) (Nat.le_refl _) _, Strs.nil _ _⟩
  · rw [if_neg (fun hh => hk hh.1)] at h
    cases h
    have HK := Lib.hid (show rightItems L = false by simpa using hk)
    clear hk
    go_enter Tryz.func24, Tryz.ntmps24
    go_wp2_with fail
    have HB0 := Lib.hid (alloc_below w (.cells #[.slice none 0 0, .string ⟨#[]⟩, .string ⟨#[]⟩] 49))
    have HN0 := Lib.hid (show Holds (w.alloc (.cells #[.slice none 0 0, .string ⟨#[]⟩, .string ⟨#[]⟩] 49)) w.heap.size 3 (pCells (.slice none 0 0) noIt) 49 from Holds.new w 3 (pCells (.slice none 0 0) noIt) 49)
    refine (tRight_any L A cap _ hl (HM.out.below HB0.out)).mono ?_
    rintro e w1 ⟨rfl, hb1⟩
    rw [HK.out]
    have HB1 := Lib.hid (HB0.out.trans (hb1.mono HB0.out.size))
    have HN1 := Lib.hid (HN0.out.below hb1 HN0.out.lt)
    have hlt1 : w.heap.size < w1.heap.size := HN1.out.lt
    clear hb1
    have r0 : w1.cell? ⟨w.heap.size, 0, none⟩ = some (.slice none 0 0) := HN1.out.cell 0 (by omega)
    have r1 : w1.cell? ⟨w.heap.size, 1, none⟩ = some (.string ⟨#[]⟩) := HN1.out.cell 1 (by omega)
    have r2 : w1.cell? ⟨w.heap.size, 2, none⟩ = some (.string ⟨#[]⟩) := HN1.out.cell 2 (by omega)
    have g0 := HN1.out.free 0
    have g1 := HN1.out.free 1
    have g2 := HN1.out.free 2
    go_wp2
    have hfin : Holds (((w1.setCell ⟨w.heap.size, 0, none⟩ (.slice none 0 0)).setCell ⟨w.heap.size, 1, none⟩ (.string ⟨#[]⟩)).setCell ⟨w.heap.size, 2, none⟩ (.string ⟨#[]⟩)) w.heap.size 3 (pCells (.slice none 0 0) noIt) 49 := by
      refine (((HN1.out.set 0 (.slice none 0 0)).set 1 (.string ⟨#[]⟩)).set 2 (.string ⟨#[]⟩)).congr fun i hi => ?_
      rcases (show i = 0 ∨ i = 1 ∨ i = 2 by omega) with rfl | rfl | rfl <;> rfl
    refine bodyPost_ret (results_row_tmp rfl _ _ w.heap.size 49 (arr 3 (pCells (.slice none 0 0) noIt)) (0, 0) _ rfl hfin Tryz.underlying49 rfl (by rw [arr_size]; exact infoProof)) rfl ?_
    exact ⟨none, 0, rfl, ((HB1.out.setCell (p := ⟨w.heap.size, 0, none⟩) (Nat.le_refl _) _).setCell (p := ⟨w.heap.size, 1, none⟩) (Nat.le_refl _) _).setCell (p := ⟨w.heap.size, 2, none⟩) (Nat.le_refl _) _, Strs.nil _ _⟩
end Go.Proofs.YtpoibacokdjplaaGreatDoor
/- What the program's trie answers is what the document's does: the Face. -/
namespace Go.Proofs.YtpoibacokdjplaaGreatDoor
open Go.RowKit

theorem trieFace : TrieFace where
  right L A cap w _ hl hm := tRight_any L A cap w hl hm
  empty d w hk := tEmpty_any d w hk
  leaf x d w hk h1 h2 := tLeaf_any x d w hk h1 h2
  join a b w hk h1 h2 := tJoin_any a b w hk h1 h2
  root L A cap x n w hk hl hc hm h := tRoot_is L A cap x n w hk hl hc hm h
  halves L A cap w _ hr hc hm := (tHalves_any L A cap 0 w (by have := right_length hr; omega) hc hm (right_sorted hr) (right_apart hr) (by decide)).mono fun _ _ ⟨A0, c0, A1, c1, he, hb, h0, h1, _⟩ => ⟨A0, c0, A1, c1, he, hb, h0, h1⟩
  set L A cap x T n w _ hl hc hm h := tSet_is L A cap x T n w hl hc hm h
  prove L A cap ix T x n w hk hl hc hm h := tProve_is L A cap ix T x n w hk hl hc hm h
end Go.Proofs.YtpoibacokdjplaaGreatDoor
