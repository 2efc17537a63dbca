/- Parts of the proof, one behind the other: RAsk, RDirN, ClientF. -/
import Derived.Test.YtcfpmofmjnhonaaGreatDoorM29
import Derived.Test.YtcfpmofmjnhonaaGreatDoorM24
import Derived.Test.YtcfpmofmjnhonaaGreatDoorM16
import Derived.Test.YtcfpmofmjnhonaaGreatDoorM12
import Derived.Test.YtcfpmofmjnhonaaGreatDoorM19
import Derived.Test.YtcfpmofmjnhonaaGreatDoorM28
import Derived.Test.YtcfpmofmjnhonaaGreatDoorM21
/- The document's client: Ask. -/
namespace Go.Proofs.YtcfpmofmjnhonaaGreatDoor
open Go.RowKit

theorem concat_empty (a b : ByteArray) : (a ++ b = (⟨#[]⟩ : ByteArray)) ↔ a.size = 0 ∧ b.size = 0 := by
  constructor
  · intro h
    have := congrArg ByteArray.size h
    rw [ByteArray.size_append] at this
    have h0 : (⟨#[]⟩ : ByteArray).size = 0 := rfl
    omega
  · rintro ⟨h1, h2⟩
    rw [show a = ⟨#[]⟩ from by obtain ⟨d⟩ := a; congr 1; exact Array.eq_empty_of_size_eq_zero h1, show b = ⟨#[]⟩ from by obtain ⟨d⟩ := b; congr 1; exact Array.eq_empty_of_size_eq_zero h2]
    rfl
theorem ask_cases {c : Cl} {name : ByteArray} {a : Answ} {c1 : Cl} {cm : ByteArray} {tt : Bool} {n3 : Int} (hn : nameOk name.data.toList = true) (hs : seeAns c a.sgn = (c1, 0)) (hv : verifyAns a.sgn.head.root (markOf 105 [name]) a.path a.leaf = (cm, tt, n3)) :
    askAns c name a = if n3 = 0 then (if tt = false ∧ a.opening.size = 0 ∧ a.value.size = 0 then (c1, ⟨#[]⟩, false, 0) else if tt = true ∧ commitAns a.opening a.value = (cm, 0) then (c1, a.value, true, 0) else (c1, ⟨#[]⟩, false, 13)) else (c1, ⟨#[]⟩, false, n3) := by
  have hix : (ofAns name).1 = markOf 105 [name] := by unfold ofAns; rw [if_pos hn]
  unfold askAns
  rw [if_pos hn, hs, hix, hv]
  rfl
set_option maxHeartbeats 4000000 in
set_option maxRecDepth 100000 in
theorem refAsk_at (F : Nat → Prop) (p rb : Nat) (c c' : Cl) (name : ByteArray) (h : Hd) (key : Int) (S P W : List ByteArray) (x : It) (o vl : ByteArray) (A B C : Option Addr) (ca cb cc : Nat) (v : ByteArray) (t : Bool) (n : Int) (w : World) (hc : RCl F w p rb c) (hr : Holds w rb 72 refCells 121) (hrb : ¬ F rb)
    (hl : c.heads.length ≤ 1000000) (hn : name.size ≤ 1000000) (hls : S.length ≤ 1000000) (hlp : P.length ≤ 1000000) (hlw : W.length ≤ 1000000) (ho : o.size ≤ 1000000) (hv : vl.size ≤ 1000000) (he : h.epoch < 9223372036854775808) (hA : Strs w A S) (hB : Strs w B P) (hW : Strs w C W) (hC : ∀ b, C = some b → 0 < W.length → ¬ F b.block) (ha : askAns c name ⟨⟨h, key, S, P⟩, W, x, o, vl⟩ = (c', v, t, n)) :
    Calls Tryz.prog 44 #[.pointer (some ⟨p, 0, none⟩), .string name, .agg #[.int .i64 h.epoch, .string h.root, .string h.prev, .int .i64 key, .slice A S.length ca, .slice B P.length cb, .slice C W.length cc, .string x.1, .string x.2, .string o, .string vl]] w fun e w' => e = .returned (.tuple #[.string v, .bool t, .int .i64 n]) ∧ ∃ F' : Nat → Prop, Off F w w' ∧ Grew w F F' ∧ RCl F' w' p rb c' := by
  obtain ⟨w0, hw0⟩ : ∃ w0, w.alloc (.cells #[.int .i64 h.epoch, .string h.root, .string h.prev, .int .i64 key, .slice A S.length ca, .slice B P.length cb, .slice C W.length cc, .string x.1, .string x.2, .string o, .string vl] 65) = w0 := ⟨_, rfl⟩
  have hb0 : Below w.heap.size w w0 := by rw [← hw0]; exact alloc_below _ _
  have HB0 := Lib.hid hb0
  have HX0 := Lib.hid (show Holds w0 w.heap.size 11 (anF ⟨⟨h, key, S, P⟩, A, ca, B, cb⟩ C W.length cc x o vl) 65 by rw [← hw0]; exact Holds.new w 11 (anF ⟨⟨h, key, S, P⟩, A, ca, B, cb⟩ C W.length cc x o vl) 65)
  have HC0 := Lib.hid (hc.below hb0)
  have HR0 := Lib.hid (hr.below hb0 hr.lt)
  have HA0 := Lib.hid (hA.below hb0)
  have HBB0 := Lib.hid (hB.below hb0)
  have HW0 := Lib.hid (hW.below hb0)
  have HLT := Lib.hid hc.lt
  have HL := Lib.hid hl
  have HN := Lib.hid hn
  have HE := Lib.hid he
  have HANS := Lib.hid ha
  have HRB := Lib.hid hrb
  have HCW := Lib.hid hC
  clear hb0 hc hr hA hB hW ha he hl hn hrb hC
  obtain ⟨ix, n1, hof⟩ : ∃ ix n1, ofAns name = (ix, n1) := ⟨_, _, rfl⟩
  have HOF := Lib.hid hof
  obtain ⟨v0, hcm⟩ := HC0.out
  have p0 : w0.cell? ⟨p, 0, none⟩ = some (.pointer (some ⟨rb, 0, none⟩)) := hcm.own.cell 0 (by omega)
  clear hcm
  go_enter Tryz.func44, Tryz.ntmps44
  go_wp2_with fail
  refine (refOf_is rb name ix n1 _ HR0.out HN.out HOF.out).mono ?_
  rintro e w1 ⟨rfl, hb1⟩
  have HB1 := Lib.hid (HB0.out.trans (hb1.mono HB0.out.size))
  have HX1 := Lib.hid (HX0.out.below hb1 HX0.out.lt)
  have HC1 := Lib.hid (HC0.out.below hb1)
  have HR1 := Lib.hid (HR0.out.below hb1 HR0.out.lt)
  have HA1 := Lib.hid (HA0.out.below hb1)
  have HBB1 := Lib.hid (HBB0.out.below hb1)
  have HW1 := Lib.hid (HW0.out.below hb1)
  clear hb1 p0 hw0 HB0 HX0 HC0 HR0 HA0 HBB0 HW0
  unfold ofAns at hof
  by_cases hnm : nameOk name.data.toList = true
  · rw [if_pos hnm] at hof
    obtain ⟨rfl, rfl⟩ := Prod.mk.inj hof
    have HNM := Lib.hid hnm
    clear hof hnm
    obtain ⟨c1, n2, hse⟩ : ∃ c1 n2, seeAns c ⟨h, key, S, P⟩ = (c1, n2) := ⟨_, _, rfl⟩
    have HSE := Lib.hid hse
    clear hse
    have x0 : w1.cell? ⟨w.heap.size, 0, none⟩ = some (.int .i64 h.epoch) := HX1.out.cell 0 (by omega)
    have x1 : w1.cell? ⟨w.heap.size, 1, none⟩ = some (.string h.root) := HX1.out.cell 1 (by omega)
    have x2 : w1.cell? ⟨w.heap.size, 2, none⟩ = some (.string h.prev) := HX1.out.cell 2 (by omega)
    have x3 : w1.cell? ⟨w.heap.size, 3, none⟩ = some (.int .i64 key) := HX1.out.cell 3 (by omega)
    have x4 : w1.cell? ⟨w.heap.size, 4, none⟩ = some (.slice A S.length ca) := HX1.out.cell 4 (by omega)
    have x5 : w1.cell? ⟨w.heap.size, 5, none⟩ = some (.slice B P.length cb) := HX1.out.cell 5 (by omega)
    go_wp2_with fail
    refine (refSee_is F p rb c c1 h key S P A B ca cb n2 _ HC1.out HR1.out HL.out hls hlp HE.out HA1.out HBB1.out HSE.out).mono ?_
    rintro e w2 ⟨rfl, F2, hoff, hgrew, hcl⟩
    have HOFF := Lib.hid ((Off.of_below HB1.out).trans hoff (fun _ _ h => h))
    have HGR := Lib.hid (show Grew w F F2 from fun k hk => by
      rcases hgrew k hk with e | e
      · exact .inl e
      · exact .inr (Nat.le_trans HB1.out.size e))
    have HQ := Lib.hid (show ¬ F w.heap.size from fun e => by have := HLT.out _ e; omega)
    have HX2 := Lib.hid (show Holds w2 w.heap.size 11 (anF ⟨⟨h, key, S, P⟩, A, ca, B, cb⟩ C W.length cc x o vl) 65 from by
      have h1 := HX1.out
      have h2 := h1.lt
      unfold Holds at h1 ⊢
      rw [hoff.block _ h2 HQ.out]; exact h1)
    have HR2 := Lib.hid (show Holds w2 rb 72 refCells 121 from by
      have h1 := HR1.out
      have h2 := h1.lt
      unfold Holds at h1 ⊢
      rw [hoff.block _ h2 HRB.out]; exact h1)
    have HW2 := Lib.hid (show Strs w2 C W from Strs.same (F := fun k => k < w1.heap.size ∧ ¬ F k) HW1.out (fun a e hl => by
      obtain ⟨a', e', hlt', _⟩ := HW1.out 0 _ (List.getElem?_eq_getElem hl)
      rw [e] at e'
      obtain rfl := Option.some.inj e'
      exact ⟨hlt', HCW.out a e hl⟩) ⟨hoff.size, fun k hk => hoff.block k hk.1 hk.2⟩)
    have HCL := Lib.hid hcl
    clear hoff hgrew hcl x0 x1 x2 x3 x4 x5 HX1 HC1 HR1 HA1 HBB1 HW1
    by_cases hn2 : n2 = 0
    · subst hn2
      obtain ⟨cm, tt, n3, hver⟩ : ∃ cm tt n3, verifyAns h.root (markOf 105 [name]) W x = (cm, tt, n3) := ⟨_, _, _, rfl⟩
      have HVER := Lib.hid hver
      obtain ⟨mm, n4, hcom⟩ : ∃ mm n4, commitAns o vl = (mm, n4) := ⟨_, _, rfl⟩
      have HCOM := Lib.hid hcom
      clear hver hcom
      obtain ⟨v2, hcm2⟩ := HCL.out
      have HP2L := Lib.hid (show p < w2.heap.size from hcm2.own.lt)
      have HQ2L := Lib.hid (show w.heap.size < w2.heap.size from HX2.out.lt)
      have HFZ := Lib.hid (show ∀ z : Later w2.heap.size w2, z.at'.cell? ⟨p, 0, none⟩ = some (.pointer (some ⟨rb, 0, none⟩)) ∧ z.at'.cell? ⟨w.heap.size, 1, none⟩ = some (.string h.root) ∧ z.at'.cell? ⟨w.heap.size, 6, none⟩ = some (.slice C W.length cc) ∧ z.at'.cell? ⟨w.heap.size, 7, none⟩ = some (.string x.1) ∧ z.at'.cell? ⟨w.heap.size, 8, none⟩ = some (.string x.2) from fun z =>
        ⟨(z.below.cell (p := ⟨p, 0, none⟩) HP2L.out).trans (hcm2.own.cell 0 (by omega)), (z.below.cell (p := ⟨w.heap.size, 1, none⟩) HQ2L.out).trans (HX2.out.cell 1 (by omega)), (z.below.cell (p := ⟨w.heap.size, 6, none⟩) HQ2L.out).trans (HX2.out.cell 6 (by omega)), (z.below.cell (p := ⟨w.heap.size, 7, none⟩) HQ2L.out).trans (HX2.out.cell 7 (by omega)), (z.below.cell (p := ⟨w.heap.size, 8, none⟩) HQ2L.out).trans (HX2.out.cell 8 (by omega))⟩)
      clear hcm2
      have z0 : ∀ z : Later w2.heap.size w2, z.at'.cell? ⟨p, 0, none⟩ = some (.pointer (some ⟨rb, 0, none⟩)) := fun z => (HFZ.out z).1
      have z1 : ∀ z : Later w2.heap.size w2, z.at'.cell? ⟨w.heap.size, 1, none⟩ = some (.string h.root) := fun z => (HFZ.out z).2.1
      have z2 : ∀ z : Later w2.heap.size w2, z.at'.cell? ⟨w.heap.size, 6, none⟩ = some (.slice C W.length cc) := fun z => (HFZ.out z).2.2.1
      have z3 : ∀ z : Later w2.heap.size w2, z.at'.cell? ⟨w.heap.size, 7, none⟩ = some (.string x.1) := fun z => (HFZ.out z).2.2.2.1
      have z4 : ∀ z : Later w2.heap.size w2, z.at'.cell? ⟨w.heap.size, 8, none⟩ = some (.string x.2) := fun z => (HFZ.out z).2.2.2.2
      have HVZ := Lib.hid (show ∀ z : Later w2.heap.size w2, Calls Tryz.prog 91 #[.pointer (some ⟨rb, 0, none⟩), .string h.root, .string (markOf 105 [name]), .agg #[.slice C W.length cc, .string x.1, .string x.2]] z.at' fun e w' => e = .returned (.tuple #[.string cm, .bool tt, .int .i64 n3]) ∧ Below z.at'.heap.size z.at' w' from fun z =>
        refVerify_is rb h.root (markOf 105 [name]) W C cc x cm tt n3 _ (HR2.out.below z.below HR2.out.lt) (HW2.out.below z.below) hlw HVER.out)
      go_wp2
      refine wp_region_later (by kernel_rfl) (by kernel_rfl) ?_
      repeat (go_big_quiet_step ((first | (go_at_call 91; refine later_of (HVZ.out _)))))
      refine wpQuiet_nil ?_
      rintro w3 ⟨⟨w3, hb3⟩, rfl⟩
      have HB3 := Lib.hid hb3
      clear z0 z1 z2 z3 z4 hb3 HFZ HVZ
      have HR3 := Lib.hid (HR2.out.below HB3.out HR2.out.lt)
      have HX3 := Lib.hid (HX2.out.below HB3.out HX2.out.lt)
      have HC3 := Lib.hid (HCL.out.below HB3.out)
      have HO3 := Lib.hid (HOFF.out.then HB3.out)
      have HAN2 := Lib.hid ((ask_cases (a := ⟨⟨h, key, S, P⟩, W, x, o, vl⟩) HNM.out HSE.out HVER.out).symm.trans HANS.out)
      clear HR2 HX2 HCL HOFF HANS
      by_cases hn3 : n3 = 0
      · subst hn3
        have HP3L := Lib.hid (show p < w3.heap.size from Nat.lt_of_lt_of_le HP2L.out HB3.out.size)
        have HQ3L := Lib.hid (show w.heap.size < w3.heap.size from HX3.out.lt)
        obtain ⟨v3, hcm3⟩ := HC3.out
        have HFZ := Lib.hid (show ∀ z : Later w3.heap.size w3, z.at'.cell? ⟨p, 0, none⟩ = some (.pointer (some ⟨rb, 0, none⟩)) ∧ z.at'.cell? ⟨w.heap.size, 9, none⟩ = some (.string o) ∧ z.at'.cell? ⟨w.heap.size, 10, none⟩ = some (.string vl) from fun z =>
          ⟨(z.below.cell (p := ⟨p, 0, none⟩) HP3L.out).trans (hcm3.own.cell 0 (by omega)), (z.below.cell (p := ⟨w.heap.size, 9, none⟩) HQ3L.out).trans (HX3.out.cell 9 (by omega)), (z.below.cell (p := ⟨w.heap.size, 10, none⟩) HQ3L.out).trans (HX3.out.cell 10 (by omega))⟩)
        clear hcm3
        have z0 : ∀ z : Later w3.heap.size w3, z.at'.cell? ⟨p, 0, none⟩ = some (.pointer (some ⟨rb, 0, none⟩)) := fun z => (HFZ.out z).1
        have z1 : ∀ z : Later w3.heap.size w3, z.at'.cell? ⟨w.heap.size, 9, none⟩ = some (.string o) := fun z => (HFZ.out z).2.1
        have z2 : ∀ z : Later w3.heap.size w3, z.at'.cell? ⟨w.heap.size, 10, none⟩ = some (.string vl) := fun z => (HFZ.out z).2.2
        have HKZ := Lib.hid (show ∀ z : Later w3.heap.size w3, Calls Tryz.prog 92 #[.pointer (some ⟨rb, 0, none⟩), .string o, .string vl] z.at' fun e w' => e = .returned (.tuple #[.string mm, .int .i64 n4]) ∧ Below z.at'.heap.size z.at' w' from fun z =>
          refCommit_is rb o vl mm n4 _ (HR3.out.below z.below HR3.out.lt) HCOM.out)
        go_wp2
        refine wp_region_later (by kernel_rfl) (by kernel_rfl) ?_
        repeat (go_big_quiet_step ((first | (go_at_call 92; refine later_of (HKZ.out _)))))
        refine wpQuiet_nil ?_
        rintro w4 ⟨⟨w4, hb4⟩, rfl⟩
        have HB4 := Lib.hid hb4
        clear z0 z1 z2 hb4 HFZ HKZ
        have HX4 := Lib.hid (HX3.out.below HB4.out HX3.out.lt)
        have HC4 := Lib.hid (HC3.out.below HB4.out)
        have HO4 := Lib.hid (HO3.out.then HB4.out)
        clear HX3 HC3 HO3 HR3 HB3 HB4
        have y9 : w4.cell? ⟨w.heap.size, 9, none⟩ = some (.string o) := HX4.out.cell 9 (by omega)
        have y10 : w4.cell? ⟨w.heap.size, 10, none⟩ = some (.string vl) := HX4.out.cell 10 (by omega)
        cases tt
        · by_cases hoe : o.size = 0 ∧ vl.size = 0
          · have q1 : o ++ vl = (⟨#[]⟩ : ByteArray) := (concat_empty o vl).2 hoe
            have HOE := Lib.hid hoe
            clear hoe
            go_wp2
            refine bodyPost_ret (results_tmp3' rfl _ _ _) rfl ?_
            have hh := HAN2.out
            simp only [if_true, true_and] at hh
            rw [if_pos HOE.out] at hh
            simp only [Prod.mk.injEq] at hh
            obtain ⟨rfl, rfl, rfl, rfl⟩ := hh
            first | exact ⟨rfl, F2, HO4.out, HGR.out, HC4.out⟩ | exact ⟨rfl, HO4.out, F2, HGR.out, HC4.out⟩
          · have q1 : ((o ++ vl).toList == (⟨#[]⟩ : ByteArray).toList) = false := by
              rw [beq_eq_false_iff_ne]
              intro e
              exact hoe ((concat_empty o vl).1 ((text_eq _ _).1 e))
            have q2 : (o ++ vl).toList.isEmpty = false := by
              cases e : (o ++ vl).toList.isEmpty with
              | false => rfl
              | true =>
                rw [List.isEmpty_iff.1 e, show (⟨#[]⟩ : ByteArray).toList = [] from by rw [ByteArray.toList_eq]] at q1
                exact absurd q1 (by decide)
            have HOE := Lib.hid hoe
            clear hoe
            go_wp2
            refine bodyPost_ret (results_tmp3' rfl _ _ _) rfl ?_
            have hh := HAN2.out
            simp only [if_true, true_and] at hh
            rw [if_neg HOE.out, if_neg (by rintro ⟨e, _⟩; cases e)] at hh
            simp only [Prod.mk.injEq] at hh
            obtain ⟨rfl, rfl, rfl, rfl⟩ := hh
            first | exact ⟨rfl, F2, HO4.out, HGR.out, HC4.out⟩ | exact ⟨rfl, HO4.out, F2, HGR.out, HC4.out⟩
        · by_cases hn4 : n4 = 0
          · subst hn4
            by_cases hmc : mm = cm
            · subst hmc
              go_wp2
              refine bodyPost_ret (results_tmp3' rfl _ _ _) rfl ?_
              have hh := HAN2.out
              simp only [if_true, true_and] at hh
              rw [if_neg (by rintro ⟨e, _⟩; cases e), if_pos HCOM.out] at hh
              simp only [Prod.mk.injEq] at hh
              obtain ⟨rfl, rfl, rfl, rfl⟩ := hh
              first | exact ⟨rfl, F2, HO4.out, HGR.out, HC4.out⟩ | exact ⟨rfl, HO4.out, F2, HGR.out, HC4.out⟩
            · have q1 : (mm.toList == cm.toList) = false := by rw [beq_eq_false_iff_ne]; exact fun e => hmc ((text_eq _ _).1 e)
              have HMC := Lib.hid hmc
              clear hmc
              go_wp2
              refine bodyPost_ret (results_tmp3' rfl _ _ _) rfl ?_
              have hh := HAN2.out
              simp only [if_true, true_and] at hh
              rw [if_neg (by rintro ⟨e, _⟩; cases e), if_neg (fun e => HMC.out (Prod.mk.inj (HCOM.out.symm.trans e)).1)] at hh
              simp only [Prod.mk.injEq] at hh
              obtain ⟨rfl, rfl, rfl, rfl⟩ := hh
              first | exact ⟨rfl, F2, HO4.out, HGR.out, HC4.out⟩ | exact ⟨rfl, HO4.out, F2, HGR.out, HC4.out⟩
          · have e1 : (n4 == 0) = false := by rw [beq_eq_false_iff_ne]; exact hn4
            have e2 : (n4 != 0) = true := by simpa using hn4
            have HN4 := Lib.hid hn4
            clear hn4
            go_wp2
            refine bodyPost_ret (results_tmp3' rfl _ _ _) rfl ?_
            have hh := HAN2.out
            simp only [if_true, true_and] at hh
            rw [if_neg (by rintro ⟨e, _⟩; cases e), if_neg (fun e => HN4.out (Prod.mk.inj (HCOM.out.symm.trans e)).2)] at hh
            simp only [Prod.mk.injEq] at hh
            obtain ⟨rfl, rfl, rfl, rfl⟩ := hh
            first | exact ⟨rfl, F2, HO4.out, HGR.out, HC4.out⟩ | exact ⟨rfl, HO4.out, F2, HGR.out, HC4.out⟩
      · have e1 : (n3 == 0) = false := by rw [beq_eq_false_iff_ne]; exact hn3
        have e2 : (n3 != 0) = true := by simpa using hn3
        have HN3 := Lib.hid hn3
        clear hn3
        go_wp2
        refine bodyPost_ret (results_tmp3' rfl _ _ _) rfl ?_
        have hh := HAN2.out
        rw [if_neg HN3.out] at hh
        simp only [Prod.mk.injEq] at hh
        obtain ⟨rfl, rfl, rfl, rfl⟩ := hh
        first | exact ⟨rfl, F2, HO3.out, HGR.out, HC3.out⟩ | exact ⟨rfl, HO3.out, F2, HGR.out, HC3.out⟩
    · have e1 : (n2 == 0) = false := by rw [beq_eq_false_iff_ne]; exact hn2
      have e2 : (n2 != 0) = true := by simpa using hn2
      have HN2 := Lib.hid hn2
      clear hn2
      go_wp2
      refine bodyPost_ret (results_tmp3' rfl _ _ _) rfl ?_
      have hh := HANS.out
      unfold askAns at hh
      rw [if_pos HNM.out, if_neg (by show ¬ (seeAns c ⟨h, key, S, P⟩).2 = 0; rw [HSE.out]; exact HN2.out)] at hh
      rw [show (seeAns c (⟨⟨h, key, S, P⟩, W, x, o, vl⟩ : Answ).sgn) = (c1, n2) from HSE.out] at hh
      simp only [Prod.mk.injEq] at hh
      obtain ⟨rfl, rfl, rfl, rfl⟩ := hh
      first | exact ⟨rfl, F2, HOFF.out, HGR.out, HCL.out⟩ | exact ⟨rfl, HOFF.out, F2, HGR.out, HCL.out⟩
  · rw [if_neg hnm] at hof
    obtain ⟨rfl, rfl⟩ := Prod.mk.inj hof
    clear hof
    go_wp2
    refine bodyPost_ret (results_tmp3' rfl _ _ _) rfl ?_
    have hh := HANS.out
    unfold askAns at hh
    rw [if_neg hnm] at hh
    simp only [Prod.mk.injEq] at hh
    obtain ⟨rfl, rfl, rfl, rfl⟩ := hh
    exact ⟨rfl, F, Off.of_below HB1.out, Grew.refl _ _, HC1.out⟩
theorem refAsk_is (F : Nat → Prop) (p rb : Nat) (c c' : Cl) (name : ByteArray) (m : AnM) (a : Answ) (v : ByteArray) (t : Bool) (n : Int) (w : World) (hc : RCl F w p rb c) (hr : Holds w rb 72 refCells 121) (hrb : ¬ F rb)
    (hl : c.heads.length ≤ 1000000) (hn : name.size ≤ 1000000) (hls : a.sgn.sig.length ≤ 1000000) (hlp : a.sgn.path.length ≤ 1000000) (hlw : a.path.length ≤ 1000000) (ho : a.opening.size ≤ 1000000) (hv : a.value.size ≤ 1000000) (he : a.sgn.head.epoch < 9223372036854775808) (hm : AnIn w m a) (hC : ∀ b, m.C = some b → 0 < a.path.length → ¬ F b.block) (ha : askAns c name a = (c', v, t, n)) :
    Calls Tryz.prog 44 #[.pointer (some ⟨p, 0, none⟩), .string name, .agg m.cells] w fun e w' => e = .returned (.tuple #[.string v, .bool t, .int .i64 n]) ∧ ∃ F' : Nat → Prop, Off F w w' ∧ Grew w F F' ∧ RCl F' w' p rb c' := by
  obtain ⟨⟨s, A, ca, B, cb⟩, C, cc, a'⟩ := m
  obtain ⟨e1, e2, e3, e4, e5, _⟩ := hm
  have e1 : a' = a := e1
  subst e1
  have e2 : s = a'.sgn := e2
  subst e2
  obtain ⟨⟨h, key, S, P⟩, W, x, o, vl⟩ := a'
  exact refAsk_at F p rb c c' name h key S P W x o vl A B C ca cb cc v t n w hc hr hrb hl hn hls hlp hlw ho hv he e3 e4 e5 hC ha
end Go.Proofs.YtcfpmofmjnhonaaGreatDoor
/- The document's NewDir. -/
namespace Go.Proofs.YtcfpmofmjnhonaaGreatDoor
open Go.RowKit

theorem BoxRel.at' {bb : Nat} {w wr : World} {seed : ByteArray} {v : Value} (h : BoxRel bb w wr seed (rowsOf seed) v) : ∃ g, bb + 1 ≤ g ∧ BoxAt wr bb g seed := by
  have hl : (rowsOf seed).length = 15 := rowsUpto_length seed 7
  obtain ⟨g, rc, rfl, hgb, hg, _, hc, _⟩ := h.row.shape (by omega)
  refine ⟨g, hgb, h.own.lt, hg, h.own.cell 0 (by omega), rc, by have := h.own.cell 1 (by omega); rw [hl] at this; exact this, fun k hk => hc k _ ?_⟩
  unfold stCells
  rw [List.getElem?_map, List.getD_eq_getElem?_getD, List.getElem?_eq_getElem (by omega)]
  rfl
theorem refNewDir_f (b : Nat) (secret : ByteArray) (w : World) (h16 : ¬ secret.size = 16) :
    Calls Tryz.prog 12 #[.pointer (some ⟨b, 0, none⟩), .string secret] w fun e w' => e = .returned (.tuple #[.pointer none, .int .i64 1]) ∧ w' = w := by
  go_enter Tryz.func12, Tryz.ntmps12
  go_wp2_with fail
  refine (isMark_f secret _ h16).mono ?_
  rintro e w0 ⟨rfl, rfl⟩
  go_wp2
  refine bodyPost_ret (results_tmp2 rfl _ _ _) rfl ?_
  exact ⟨rfl, rfl⟩
set_option maxRecDepth 100000 in
theorem refNewDir_t (rb : Nat) (secret : ByteArray) (w : World) (hr : Holds w rb 72 refCells 121) (h16 : secret.size = 16) :
    Calls Tryz.prog 12 #[.pointer (some ⟨rb, 0, none⟩), .string secret] w fun e w' => ∃ (p : Nat) (F : Nat → Prop), e = .returned (.tuple #[.pointer (some ⟨p, 0, none⟩), .int .i64 0]) ∧ Below w.heap.size w w' ∧ RDir F w' p rb (newDst secret) ∧ ∀ k, F k → w.heap.size ≤ k := by
  have HR := Lib.hid hr
  have H16 := Lib.hid h16
  clear hr
  go_enter Tryz.func12, Tryz.ntmps12
  go_wp2_with fail
  refine (isMark_t secret _ h16).mono ?_
  rintro e w0 ⟨rfl, rfl⟩
  clear h16
  go_wp2_with fail
  refine (refMark_any rb 107 [secret] (some ⟨w0.heap.size, 0, none⟩) 1 _ (HR.out.alloc _) (by have := H16.out; simp [total]; omega) (by simp) (strs_new w0 [secret] 9)).mono ?_
  rintro e w1 ⟨rfl, hb1⟩
  have HB1 := Lib.hid ((alloc_below w0 (.cells #[.string secret] 9)).trans (hb1.mono (by simp)))
  have HR1 := Lib.hid (HR.out.below HB1.out HR.out.lt)
  have HS := Lib.hid (show (markOf 107 [secret]).size = 16 from markOf_len _ _)
  clear hb1
  go_wp2_with fail
  refine (refNewBox_t rb (markOf 107 [secret]) _ HR1.out HS.out).mono ?_
  rintro e w2 ⟨bb, bv, rfl, hbx⟩
  obtain ⟨g, hgb, hba⟩ := hbx.at'
  have HB2 := Lib.hid (HB1.out.trans (hbx.below.mono HB1.out.size))
  have HBL := Lib.hid (show w0.heap.size ≤ bb from Nat.le_trans HB1.out.size hbx.lt)
  have HGB := Lib.hid hgb
  have HBA := Lib.hid hba
  clear hbx hgb hba
  have hmm := @run_makeMap Tryz.prog
  go_wp2
  clear hmm
  refine bodyPost_ret (results_tmp2 rfl _ _ _) rfl ?_
  have l1 := HBA.out.lt
  have l2 := HBA.out.ltg
  have l3 := HB2.out.size
  have l4 := HBL.out
  have l5 := HGB.out
  obtain ⟨w3, h3⟩ : ∃ w3, w2.alloc (.map #[] 0) = w3 := ⟨_, rfl⟩
  obtain ⟨w4, h4⟩ : ∃ w4, w3.alloc (.map #[] 0) = w4 := ⟨_, rfl⟩
  obtain ⟨w5, h5⟩ : ∃ w5, w4.alloc (.map #[] 0) = w5 := ⟨_, rfl⟩
  rw [h3, h4, h5]
  have z3 : w3.heap.size = w2.heap.size + 1 := by rw [← h3]; simp
  have z4 : w4.heap.size = w2.heap.size + 2 := by rw [← h4, World.size_alloc, z3]
  have z5 : w5.heap.size = w2.heap.size + 3 := by rw [← h5, World.size_alloc, z4]
  have b3 : Below w2.heap.size w2 w3 := by rw [← h3]; exact alloc_below _ _
  have b4 : Below w3.heap.size w3 w4 := by rw [← h4]; exact alloc_below _ _
  have b5 : Below w4.heap.size w4 w5 := by rw [← h5]; exact alloc_below _ _
  have m3 : MapIs kS w3 w2.heap.size [] := by rw [← h3]; exact MapIs.made kS w2
  have m4 : MapIs kS w4 (w2.heap.size + 1) [] := by rw [← h4, ← z3]; exact MapIs.made kS w3
  have m5 : MapIs kI w5 (w2.heap.size + 2) [] := by rw [← h5, ← z4]; exact MapIs.made kI w4
  clear h3 h4 h5
  have b6 := alloc_below w5 (.cells #[.pointer (some ⟨rb, 0, none⟩), .string secret, .pointer (some ⟨bb, 0, none⟩), .map (some w2.heap.size), .map (some (w2.heap.size + 1)), .map (some (w2.heap.size + 2)), .slice none 0 0] 43)
  have hall : Below w2.heap.size w2 (w5.alloc (.cells #[.pointer (some ⟨rb, 0, none⟩), .string secret, .pointer (some ⟨bb, 0, none⟩), .map (some w2.heap.size), .map (some (w2.heap.size + 1)), .map (some (w2.heap.size + 2)), .slice none 0 0] 43)) :=
    ((b3.trans (b4.mono (by omega))).trans (b5.mono (by omega))).trans (b6.mono (by omega))
  refine ⟨w5.heap.size, fun k => w0.heap.size ≤ k ∧ k < w5.heap.size + 1, (by rw [z5]; rfl), HB2.out.trans (hall.mono l3), ⟨bb, g, w2.heap.size, w2.heap.size + 1, w2.heap.size + 2, .slice none 0 0, [], ?_⟩, fun k hk => hk.1⟩
  exact {
    own := Holds.new w5 7 (rdF rb bb w2.heap.size (w2.heap.size + 1) (w2.heap.size + 2) secret (.slice none 0 0)) 43
    box := HBA.out.same (F := fun k => k < w2.heap.size) (same_of_below hall fun k hk => hk) l1 l2
    wait := m3.block ((b6.block _ (by omega)).trans ((b5.block _ (by omega)).trans (b4.block _ (by omega))))
    vals := m4.block ((b6.block _ (by omega)).trans (b5.block _ (by omega)))
    since := m5.block (b6.block _ (by omega))
    row := Row.nil _ _ _
    eps := rfl
    sgs := fun m hm => by cases hm
    fp := ⟨by omega, by omega⟩
    fb := ⟨by omega, by omega⟩
    fg := ⟨by omega, by omega⟩
    f1 := ⟨by omega, by omega⟩
    f2 := ⟨by omega, by omega⟩
    f3 := ⟨by omega, by omega⟩
    fv := fun k hk => by cases hk
    n12 := by omega
    n13 := by omega
    n23 := by omega
    lb := by omega
    lg := by omega
    out := fun k hk => by rcases hk with rfl | rfl | hk; exact ⟨by omega, by omega, by omega⟩; exact ⟨by omega, by omega, by omega⟩; cases hk
    lt := fun k hk => by rw [World.size_alloc]; exact hk.2 }
end Go.Proofs.YtcfpmofmjnhonaaGreatDoor
/- What the program's client answers (a Face), and what ClientSees keeps from deed to deed. -/
namespace Go.Proofs.YtcfpmofmjnhonaaGreatDoor
open Go.RowKit

/-- A deed. -/
structure Dd where
  what : Int
  epoch : Int
  spoil : Int
  other : Bool
  name : ByteArray
def noDd : Dd := ⟨0, 0, 0, false, ⟨#[]⟩⟩
def ddAt (L : List Dd) (i : Nat) : Dd := L.getD i noDd
theorem ddAt_of {L : List Dd} {i : Nat} (h : i < L.length) : ddAt L i = L[i] := by unfold ddAt; rw [List.getD_eq_getElem?_getD, List.getElem?_eq_getElem h]; rfl
def ddF (x : Dd) : Nat → Value := fun i => [Value.int .i64 x.what, .int .i64 x.epoch, .int .i64 x.spoil, .bool x.other, .string x.name].getD i undef
/-- The deeds L lie at A. -/
def Dds (w : World) (A : Option Addr) (L : List Dd) : Prop := ∀ (i : Nat) x, L[i]? = some x → ∃ a, A = some a ∧ a.block < w.heap.size ∧ w.cell? (a.add (i * 5)) = some (.int .i64 x.what) ∧ w.cell? ((a.add (i * 5)).add 1) = some (.int .i64 x.epoch) ∧ w.cell? ((a.add (i * 5)).add 2) = some (.int .i64 x.spoil) ∧ w.cell? ((a.add (i * 5)).add 3) = some (.bool x.other) ∧ w.cell? ((a.add (i * 5)).add 4) = some (.string x.name)
theorem Dds.nil (w : World) (A : Option Addr) : Dds w A [] := fun i p h => by simp at h
theorem Dds.below {w w' : World} {A : Option Addr} {L : List Dd} {B : Nat} (h : Dds w A L) (hb : Below B w w') (hB : ∀ a, A = some a → 0 < L.length → a.block < B) : Dds w' A L := fun i p hp => by
  obtain ⟨a, ha, hl, c0, c1, c2, c3, c4⟩ := h i p hp
  have hlt := hB a ha (by have := (List.getElem?_eq_some_iff.1 hp).1; omega)
  exact ⟨a, ha, Nat.lt_of_lt_of_le hl hb.size, (hb.cell (by rw [block_add]; exact hlt)).trans c0, (hb.cell (by rw [block_add, block_add]; exact hlt)).trans c1, (hb.cell (by rw [block_add, block_add]; exact hlt)).trans c2, (hb.cell (by rw [block_add, block_add]; exact hlt)).trans c3, (hb.cell (by rw [block_add, block_add]; exact hlt)).trans c4⟩
theorem Dds.lt {w : World} {A : Option Addr} {L : List Dd} (h : Dds w A L) : ∀ a, A = some a → 0 < L.length → a.block < w.heap.size := fun a ha hl => by
  obtain ⟨a', e, hlt, _⟩ := h 0 _ (List.getElem?_eq_getElem hl)
  rw [ha] at e
  obtain rfl := Option.some.inj e
  exact hlt
theorem Dds.at_ {w : World} {A : Option Addr} {L : List Dd} (h : Dds w A L) {i : Nat} (hi : i < L.length) : ∃ a, A = some a ∧ a.block < w.heap.size ∧ w.cell? (a.add (i * 5)) = some (.int .i64 (ddAt L i).what) ∧ w.cell? ((a.add (i * 5)).add 1) = some (.int .i64 (ddAt L i).epoch) ∧ w.cell? ((a.add (i * 5)).add 2) = some (.int .i64 (ddAt L i).spoil) ∧ w.cell? ((a.add (i * 5)).add 3) = some (.bool (ddAt L i).other) ∧ w.cell? ((a.add (i * 5)).add 4) = some (.string (ddAt L i).name) :=
  h i _ (by rw [List.getElem?_eq_getElem hi, ddAt_of hi])

/-- What the program's client answers. -/
structure ClientFace where
  Is : (Nat → Prop) → World → Nat → Cl → Prop
  lt : ∀ {F : Nat → Prop} {w : World} {p : Nat} {c : Cl}, Is F w p c → ∀ k, F k → k < w.heap.size
  same : ∀ {F : Nat → Prop} {w w' : World} {p : Nat} {c : Cl}, Is F w p c → Same F w w' → Is F w' p c
  new : ∀ (pub : ByteArray) (w : World), pub.size = 16 → HasK w → Calls Tryz.prog 32 #[.string pub] w fun e w' => ∃ (p : Nat) (F : Nat → Prop), e = .returned (.tuple #[.pointer (some ⟨p, 0, none⟩), .nilIface]) ∧ Below w.heap.size w w' ∧ Is F w' p ⟨pub, []⟩ ∧ ∀ k, F k → w.heap.size ≤ k
  see : ∀ (F : Nat → Prop) (p : Nat) (c c' : Cl) (h : Hd) (key : Int) (S P : List ByteArray) (A B : Option Addr) (ca cb : Nat) (n : Int) (w : World), Is F w p c → HasK w → c.heads.length ≤ 1000 → S.length ≤ 1000 → P.length ≤ 1000 → h.epoch < 9223372036854775808 → Strs w A S → Strs w B P →
    (∀ a, A = some a → 0 < S.length → ¬ F a.block) → (∀ a, B = some a → 0 < P.length → ¬ F a.block) → seeAns c ⟨h, key, S, P⟩ = (c', n) →
    Calls Tryz.prog 33 #[.pointer (some ⟨p, 0, none⟩), .agg #[.int .i64 h.epoch, .string h.root, .string h.prev, .int .i64 key, .slice A S.length ca, .slice B P.length cb]] w fun e w' => e = .returned (errOf n) ∧ ∃ F' : Nat → Prop, Off F w w' ∧ Grew w F F' ∧ Is F' w' p c'
  ask : ∀ (F : Nat → Prop) (p : Nat) (c c' : Cl) (name : ByteArray) (m : AnM) (a : Answ) (v : ByteArray) (t : Bool) (n : Int) (w : World), Is F w p c → HasK w → c.heads.length ≤ 1000 → name.size ≤ 1000000 → SpDim a → AnIn w m a →
    (∀ b, m.sg.A = some b → 0 < a.sgn.sig.length → ¬ F b.block) → (∀ b, m.sg.B = some b → 0 < a.sgn.path.length → ¬ F b.block) → (∀ b, m.C = some b → 0 < a.path.length → ¬ F b.block) → askAns c name a = (c', v, t, n) →
    Calls Tryz.prog 36 #[.pointer (some ⟨p, 0, none⟩), .string name, .agg m.cells] w fun e w' => e = .returned (.tuple #[.string v, .bool t, errOf n]) ∧ ∃ F' : Nat → Prop, Off F w w' ∧ Grew w F F' ∧ Is F' w' p c'
  heads : ∀ (F : Nat → Prop) (p : Nat) (c : Cl) (w : World), Is F w p c → HasK w → c.heads.length ≤ 1000 → Calls Tryz.prog 46 #[.pointer (some ⟨p, 0, none⟩)] w fun e w' => ∃ A cap, e = .returned (.slice A c.heads.length cap) ∧ Below w.heap.size w w' ∧ Hds w' A c.heads

/-- Two directories, the document's client and the program's, each apart from the others. -/
structure Cs (FC : ClientFace) (w1 wr : World) (pa pb pw pc rb : Nat) (Fa Fb Fw Fc : Nat → Prop) (da db : Dst) (c c2 : Cl) : Prop where
  below : Below w1.heap.size w1 wr
  da : RDir Fa wr pa rb da
  db : RDir Fb wr pb rb db
  rc : RCl Fw wr pw rb c
  pc : FC.Is Fc wr pc c2
  bw : ∀ k, Fw k → w1.heap.size ≤ k
  bc : ∀ k, Fc k → w1.heap.size ≤ k
  aw : ∀ k, Fa k → ¬ Fw k
  ac : ∀ k, Fa k → ¬ Fc k
  dw : ∀ k, Fb k → ¬ Fw k
  dc : ∀ k, Fb k → ¬ Fc k
  cw : ∀ k, Fc k → ¬ Fw k
theorem Cs.calm {FC : ClientFace} {w1 wr w2 : World} {pa pb pw pc rb : Nat} {Fa Fb Fw Fc : Nat → Prop} {da db : Dst} {c c2 : Cl} (h : Cs FC w1 wr pa pb pw pc rb Fa Fb Fw Fc da db c c2) (hb : Below wr.heap.size wr w2) : Cs FC w1 w2 pa pb pw pc rb Fa Fb Fw Fc da db c c2 where
  below := h.below.trans (hb.mono h.below.size)
  da := h.da.below hb
  db := h.db.below hb
  rc := h.rc.below hb
  pc := FC.same h.pc (same_of_below hb (FC.lt h.pc))
  bw := h.bw
  bc := h.bc
  aw := h.aw
  ac := h.ac
  dw := h.dw
  dc := h.dc
  cw := h.cw
theorem Cs.ref {FC : ClientFace} {w1 wr w2 : World} {pa pb pw pc rb : Nat} {Fa Fb Fw Fw' Fc : Nat → Prop} {da db : Dst} {c c' c2 : Cl} (h : Cs FC w1 wr pa pb pw pc rb Fa Fb Fw Fc da db c c2) (ho : Off Fw wr w2) (hg : Grew wr Fw Fw') (hr : RCl Fw' w2 pw rb c') : Cs FC w1 w2 pa pb pw pc rb Fa Fb Fw' Fc da db c' c2 where
  below := h.below.trans (ho.below h.bw h.below.size)
  da := h.da.same (ho.same h.da.lt h.aw)
  db := h.db.same (ho.same h.db.lt h.dw)
  rc := hr
  pc := FC.same h.pc (ho.same (FC.lt h.pc) h.cw)
  bw := hg.base h.bw h.below.size
  bc := h.bc
  aw := hg.apart h.da.lt h.aw
  ac := h.ac
  dw := hg.apart h.db.lt h.dw
  dc := h.dc
  cw := hg.apart (FC.lt h.pc) h.cw
theorem Cs.prog {FC : ClientFace} {w1 wr w2 : World} {pa pb pw pc rb : Nat} {Fa Fb Fw Fc Fc' : Nat → Prop} {da db : Dst} {c c2 c2' : Cl} (h : Cs FC w1 wr pa pb pw pc rb Fa Fb Fw Fc da db c c2) (ho : Off Fc wr w2) (hg : Grew wr Fc Fc') (hp : FC.Is Fc' w2 pc c2') : Cs FC w1 w2 pa pb pw pc rb Fa Fb Fw Fc' da db c c2' where
  below := h.below.trans (ho.below h.bc h.below.size)
  da := h.da.same (ho.same h.da.lt h.ac)
  db := h.db.same (ho.same h.db.lt h.dc)
  rc := h.rc.same (ho.same h.rc.lt fun k hw hc => h.cw k hc hw)
  pc := hp
  bw := h.bw
  bc := hg.base h.bc h.below.size
  aw := h.aw
  ac := hg.apart h.da.lt h.ac
  dw := h.dw
  dc := hg.apart h.db.lt h.dc
  cw := fun k hk hw => by
    rcases hg k hk with e | e
    · exact h.cw k e hw
    · have := h.rc.lt k hw; omega
/-- Texts that are apart from F stay. -/
theorem Strs.off {F : Nat → Prop} {w w' : World} {A : Option Addr} {L : List ByteArray} (h : Strs w A L) (ho : Off F w w') (hn : ∀ a, A = some a → 0 < L.length → ¬ F a.block) : Strs w' A L :=
  Strs.same (F := fun k => k < w.heap.size ∧ ¬ F k) h (fun a e hl => ⟨h.lt a e hl, hn a e hl⟩) ⟨ho.size, fun k hk => ho.block k hk.1 hk.2⟩
theorem AnIn.off {F : Nat → Prop} {w w' : World} {m : AnM} {a : Answ} (h : AnIn w m a) (ho : Off F w w') (h1 : ∀ b, m.sg.A = some b → 0 < a.sgn.sig.length → ¬ F b.block) (h2 : ∀ b, m.sg.B = some b → 0 < a.sgn.path.length → ¬ F b.block) (h3 : ∀ b, m.C = some b → 0 < a.path.length → ¬ F b.block) : AnIn w' m a :=
  ⟨h.is, h.sgn, h.sig.off ho h1, h.path.off ho h2, h.way.off ho h3, h.cap⟩
theorem AnIn.below {w w' : World} {m : AnM} {a : Answ} (h : AnIn w m a) (hb : Below w.heap.size w w') : AnIn w' m a := ⟨h.is, h.sgn, h.sig.below hb, h.path.below hb, h.way.below hb, h.cap⟩
end Go.Proofs.YtcfpmofmjnhonaaGreatDoor
