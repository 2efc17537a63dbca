/- Parts of the proof, one behind the other: PAsk, PClientF, SpoiltB. -/
import Derived.Test.YtcfpmofmjnhonaaGreatDoorM35
import Derived.Test.YtcfpmofmjnhonaaGreatDoorM30
import Derived.Test.YtcfpmofmjnhonaaGreatDoorM37
import Derived.Test.YtcfpmofmjnhonaaGreatDoorM28
/- The program's client: Ask. -/
namespace Go.Proofs.YtcfpmofmjnhonaaGreatDoor
open Go.RowKit

theorem text_empty {o : ByteArray} (h : ¬ o.size = 0) : (o.toList == (⟨#[]⟩ : ByteArray).toList) = false ∧ o.toList.isEmpty = false := by
  have hne : o.toList ≠ [] := fun e => h (by
    have h1 : (⟨#[]⟩ : ByteArray).toList = [] := by rw [ByteArray.toList_eq]
    rw [← h1] at e
    rw [(text_eq _ _).1 e]; rfl)
  refine ⟨?_, ?_⟩
  · rw [beq_eq_false_iff_ne, show (⟨#[]⟩ : ByteArray).toList = [] from by rw [ByteArray.toList_eq]]
    exact hne
  · cases e : o.toList.isEmpty with
    | false => rfl
    | true => exact absurd (List.isEmpty_iff.1 e) hne
theorem empty_text {o : ByteArray} (h : o.size = 0) : o = ⟨#[]⟩ := by
  obtain ⟨d⟩ := o
  congr 1
  exact Array.eq_empty_of_size_eq_zero h
def opensOk (cm : ByteArray) (tt : Bool) (o vl : ByteArray) : Bool := if tt = true then decide (commitAns o vl = (cm, 0)) else (decide (o.size = 0) && decide (vl.size = 0))
set_option maxHeartbeats 2000000 in
set_option maxRecDepth 100000 in
theorem pOpens_is (cm : ByteArray) (tt : Bool) (h : Hd) (key : Int) (s4 s5 s6 : Value) (x : It) (o vl : ByteArray) (T : Bool) (w : World) (hk : HasK w) (ht : opensOk cm tt o vl = T) :
    Calls Tryz.prog 89 #[.string cm, .bool tt, .agg #[.int .i64 h.epoch, .string h.root, .string h.prev, .int .i64 key, s4, s5, s6, .string x.1, .string x.2, .string o, .string vl]] w fun e w' => e = .returned (.bool T) ∧ Below w.heap.size w w' := by
  have HT := Lib.hid ht
  have HK := Lib.hid hk
  have hb0 := alloc_below w (.cells #[.int .i64 h.epoch, .string h.root, .string h.prev, .int .i64 key, s4, s5, s6, .string x.1, .string x.2, .string o, .string vl] 65)
  have HB0 := Lib.hid hb0
  have HK0 := Lib.hid (hk.below hb0 hk.lt)
  clear ht hk hb0
  cases tt
  · by_cases ho : o.size = 0
    · obtain rfl := empty_text ho
      by_cases hv : vl.size = 0
      · obtain rfl := empty_text hv
        clear ho hv
        go_enter Tryz.func89, Tryz.ntmps89
        go_wp2
        go_ret
        exact ⟨by rw [← HT.out]; rfl, HB0.out⟩
      · obtain ⟨q1, q2⟩ := text_empty hv
        have HTF := Lib.hid (show T = false from by rw [← HT.out]; unfold opensOk; rw [if_neg (by decide), show decide (vl.size = 0) = false from decide_eq_false hv, Bool.and_false])
        clear ho hv
        go_enter Tryz.func89, Tryz.ntmps89
        go_wp2
        go_ret
        exact ⟨by rw [HTF.out]; rfl, HB0.out⟩
    · obtain ⟨q1, q2⟩ := text_empty ho
      have HTF := Lib.hid (show T = false from by rw [← HT.out]; unfold opensOk; rw [if_neg (by decide), show decide (o.size = 0) = false from decide_eq_false ho, Bool.false_and])
      clear ho
      go_enter Tryz.func89, Tryz.ntmps89
      go_wp2
      go_ret
      exact ⟨by rw [HTF.out]; rfl, HB0.out⟩
  · obtain ⟨mm, n4, hcom⟩ : ∃ mm n4, commitAns o vl = (mm, n4) := ⟨_, _, rfl⟩
    have HCOM := Lib.hid hcom
    have HT2 := Lib.hid (show T = decide ((mm, n4) = (cm, (0 : Int))) from by rw [← HT.out]; unfold opensOk; rw [if_pos rfl, hcom])
    clear hcom
    go_enter Tryz.func89, Tryz.ntmps89
    go_wp2_with fail
    refine (pCommit_is o vl mm n4 _ HK0.out HCOM.out).mono ?_
    rintro e w1 ⟨rfl, hb1⟩
    have HB1 := Lib.hid (HB0.out.trans (hb1.mono HB0.out.size))
    clear hb1
    by_cases hn4 : n4 = 0
    · subst hn4
      rw [show errOf 0 = .nilIface from rfl]
      by_cases hmc : mm = cm
      · subst hmc
        go_wp2
        go_ret
        exact ⟨by rw [HT2.out]; simp, HB1.out⟩
      · have q1 : (mm.toList == cm.toList) = false := by rw [beq_eq_false_iff_ne]; exact fun e => hmc ((text_eq _ _).1 e)
        have HMC := Lib.hid hmc
        clear hmc
        go_wp2
        go_ret
        exact ⟨by rw [HT2.out, decide_eq_false (fun e => HMC.out (Prod.mk.inj e).1)]; rfl, HB1.out⟩
    · rw [show errOf n4 = .iface 28 (.int .i64 n4) from if_neg hn4]
      have HN4 := Lib.hid hn4
      clear hn4
      go_wp2
      go_ret
      exact ⟨by rw [HT2.out, decide_eq_false (fun e => HN4.out (Prod.mk.inj e).2)]; rfl, HB1.out⟩
theorem errOf_ne {n : Int} (h : ¬ n = 0) : errOf n = .iface 28 (.int .i64 n) := by unfold errOf; rw [if_neg h]
theorem HasK.off {F : Nat → Prop} {w u : World} (h : HasK w) (ho : Off F w u) (hn : ¬ F 1) : HasK u := fun i hi => by
  rw [← h i hi]; exact World.cell?_of_block (w := w) (ho.block _ h.lt hn)
set_option maxHeartbeats 4000000 in
set_option maxRecDepth 100000 in
theorem pAsk_at (F : Nat → Prop) (p : Nat) (c c' : Cl) (name : ByteArray) (h : Hd) (key : Int) (S P W : List ByteArray) (x : It) (o vl : ByteArray) (A B C : Option Addr) (ca cb cc : Nat) (v : ByteArray) (t : Bool) (n : Int) (w : World) (hc : PCl F w p c) (hk : HasK w) (hkn : ¬ F 1)
    (hl : c.heads.length ≤ 1000000) (hls : S.length ≤ 1000000) (hlp : P.length ≤ 1000000) (hlw : W.length ≤ 1000000) (hx1 : x.1.size ≤ 1000000) (hx2 : x.2.size ≤ 1000000) (he : h.epoch < 9223372036854775808) (hA : Strs w A S) (hB : Strs w B P) (hW : Strs w C W)
    (hC : ∀ b, C = some b → 0 < W.length → ¬ F b.block) (ha : askAns c name ⟨⟨h, key, S, P⟩, W, x, o, vl⟩ = (c', v, t, n)) :
    Calls Tryz.prog 36 #[.pointer (some ⟨p, 0, none⟩), .string name, .agg #[.int .i64 h.epoch, .string h.root, .string h.prev, .int .i64 key, .slice A S.length ca, .slice B P.length cb, .slice C W.length cc, .string x.1, .string x.2, .string o, .string vl]] w fun e w' => e = .returned (.tuple #[.string v, .bool t, errOf n]) ∧ ∃ F' : Nat → Prop, Off F w w' ∧ Grew w F F' ∧ PCl F' w' p c' := by
  have hb0 := alloc_below w (.cells #[.int .i64 h.epoch, .string h.root, .string h.prev, .int .i64 key, .slice A S.length ca, .slice B P.length cb, .slice C W.length cc, .string x.1, .string x.2, .string o, .string vl] 65)
  have HB0 := Lib.hid hb0
  have HX0 := Lib.hid (show Holds (w.alloc (.cells #[.int .i64 h.epoch, .string h.root, .string h.prev, .int .i64 key, .slice A S.length ca, .slice B P.length cb, .slice C W.length cc, .string x.1, .string x.2, .string o, .string vl] 65)) w.heap.size 11 (anF ⟨⟨h, key, S, P⟩, A, ca, B, cb⟩ C W.length cc x o vl) 65 from Holds.new w 11 (anF ⟨⟨h, key, S, P⟩, A, ca, B, cb⟩ C W.length cc x o vl) 65)
  have HC0 := Lib.hid (hc.below hb0)
  have HK0 := Lib.hid (hk.below hb0 hk.lt)
  have HA0 := Lib.hid (hA.below hb0)
  have HBB0 := Lib.hid (hB.below hb0)
  have HW0 := Lib.hid (hW.below hb0)
  have HLT := Lib.hid hc.lt
  have HL := Lib.hid hl
  have HE := Lib.hid he
  have HANS := Lib.hid ha
  have HKN := Lib.hid hkn
  have HCW := Lib.hid hC
  have HX12 := Lib.hid (show x.1.size ≤ 1000000 ∧ x.2.size ≤ 1000000 from ⟨hx1, hx2⟩)
  clear hb0 hc hk hA hB hW hl he ha hkn hC hx1 hx2
  obtain ⟨ix, n1, hof⟩ : ∃ ix n1, ofAns name = (ix, n1) := ⟨_, _, rfl⟩
  have HOF := Lib.hid hof
  go_enter Tryz.func36, Tryz.ntmps36
  go_wp2_with fail
  generalize w.alloc (.cells #[.int .i64 h.epoch, .string h.root, .string h.prev, .int .i64 key, .slice A S.length ca, .slice B P.length cb, .slice C W.length cc, .string x.1, .string x.2, .string o, .string vl] 65) = w0 at HB0 HX0 HC0 HK0 HA0 HBB0 HW0 ⊢
  refine (of_is name ix n1 _ HK0.out HOF.out).mono ?_
  rintro e w1 ⟨rfl, hb1⟩
  have HB1 := Lib.hid (HB0.out.trans (hb1.mono HB0.out.size))
  have HX1 := Lib.hid (HX0.out.below hb1 HX0.out.lt)
  have HC1 := Lib.hid (HC0.out.below hb1)
  have HK1 := Lib.hid (HK0.out.below hb1 HK0.out.lt)
  have HA1 := Lib.hid (HA0.out.below hb1)
  have HBB1 := Lib.hid (HBB0.out.below hb1)
  have HW1 := Lib.hid (HW0.out.below hb1)
  clear hb1 HB0 HX0 HC0 HK0 HA0 HBB0 HW0
  unfold ofAns at hof
  by_cases hnm : nameOk name.data.toList = true
  · rw [if_pos hnm] at hof
    obtain ⟨rfl, rfl⟩ := Prod.mk.inj hof
    rw [show errOf 0 = .nilIface from rfl]
    have HNM := Lib.hid hnm
    clear hof hnm
    obtain ⟨c1, n2, hse⟩ : ∃ c1 n2, seeAns c ⟨h, key, S, P⟩ = (c1, n2) := ⟨_, _, rfl⟩
    have HSE := Lib.hid hse
    clear hse
    obtain ⟨x0, x1, x2, x3, x4, x5, -, -, -, -, -⟩ := an_cells (m := ⟨⟨h, key, S, P⟩, A, ca, B, cb⟩) HX1.out
    go_wp2_with fail
    refine (pSee_is F p c c1 h key S P A B ca cb n2 _ HC1.out HK1.out HL.out hls hlp HE.out HA1.out HBB1.out HSE.out).mono ?_
    rintro e w2 ⟨rfl, F2, hoff, hgrew, hcl⟩
    have HOFF := Lib.hid ((Off.of_below HB1.out).trans hoff (fun _ _ h => h))
    have HGR := Lib.hid (show Grew w F F2 from fun k hk => by
      rcases hgrew k hk with e | e
      · exact .inl e
      · exact .inr (Nat.le_trans HB1.out.size e))
    have HQ := Lib.hid (show ¬ F w.heap.size from fun e => by have := HLT.out _ e; omega)
    have HX2 := Lib.hid (show Holds w2 w.heap.size 11 (anF ⟨⟨h, key, S, P⟩, A, ca, B, cb⟩ C W.length cc x o vl) 65 from by
      have h1 := HX1.out
      have h2 := h1.lt
      unfold Holds at h1 ⊢
      rw [hoff.block _ h2 HQ.out]; exact h1)
    have HK2 := Lib.hid (HK1.out.off hoff HKN.out)
    have HW2 := Lib.hid (show Strs w2 C W from Strs.same (F := fun k => k < w1.heap.size ∧ ¬ F k) HW1.out (fun a e hl => by
      obtain ⟨a', e', hlt', _⟩ := HW1.out 0 _ (List.getElem?_eq_getElem hl)
      rw [e] at e'
      obtain rfl := Option.some.inj e'
      exact ⟨hlt', HCW.out a e hl⟩) ⟨hoff.size, fun k hk => hoff.block k hk.1 hk.2⟩)
    have HCL := Lib.hid hcl
    clear hoff hgrew hcl x0 x1 x2 x3 x4 x5 HX1 HC1 HK1 HA1 HBB1 HW1
    by_cases hn2 : n2 = 0
    · subst hn2
      rw [show errOf 0 = .nilIface from rfl]
      obtain ⟨cm, tt, n3, hver⟩ : ∃ cm tt n3, verifyAns h.root (markOf 105 [name]) W x = (cm, tt, n3) := ⟨_, _, _, rfl⟩
      have HVER := Lib.hid hver
      clear hver
      obtain ⟨-, x1, -, -, -, -, x6, x7, x8, -, -⟩ := an_cells (m := ⟨⟨h, key, S, P⟩, A, ca, B, cb⟩) HX2.out
      have HM16 := Lib.hid (show (markOf 105 [name]).size ≤ 1000000 from by rw [markOf_len]; omega)
      go_wp2_with fail
      clear x1 x6 x7 x8
      refine (pVerify_is h.root (markOf 105 [name]) W C cc x cm tt n3 _ HK2.out hlw HW2.out HM16.out HX12.out.1 HX12.out.2 HVER.out).mono ?_
      rintro e w3 ⟨rfl, hb3⟩
      have HB3 := Lib.hid hb3
      have HK3 := Lib.hid (HK2.out.below HB3.out HK2.out.lt)
      have HX3 := Lib.hid (HX2.out.below HB3.out HX2.out.lt)
      have HC3 := Lib.hid (HCL.out.below HB3.out)
      have HO3 := Lib.hid (HOFF.out.then HB3.out)
      have HAN2 := Lib.hid ((ask_cases (a := ⟨⟨h, key, S, P⟩, W, x, o, vl⟩) HNM.out HSE.out HVER.out).symm.trans HANS.out)
      clear hb3 HK2 HX2 HCL HOFF HANS
      by_cases hn3 : n3 = 0
      · subst hn3
        rw [show errOf 0 = .nilIface from rfl]
        obtain ⟨T, hT⟩ : ∃ T, opensOk cm tt o vl = T := ⟨_, rfl⟩
        have HT := Lib.hid hT
        clear hT
        obtain ⟨y0, y1, y2, y3, y4, y5, y6, y7, y8, y9, y10⟩ := an_cells (m := ⟨⟨h, key, S, P⟩, A, ca, B, cb⟩) HX3.out
        go_wp2_with fail
        clear y0 y1 y2 y3 y4 y5 y6 y7 y8 y9 y10
        refine (pOpens_is cm tt h key (.slice A S.length ca) (.slice B P.length cb) (.slice C W.length cc) x o vl T _ HK3.out HT.out).mono ?_
        rintro e w4 ⟨rfl, hb4⟩
        have HX4 := Lib.hid (HX3.out.below hb4 HX3.out.lt)
        have HC4 := Lib.hid (HC3.out.below hb4)
        have HO4 := Lib.hid (HO3.out.then hb4)
        clear hb4 HX3 HC3 HO3 HK3 HB3
        have y10 : w4.cell? ⟨w.heap.size, 10, none⟩ = some (.string vl) := HX4.out.cell 10 (by omega)
        cases T
        · go_wp2
          refine bodyPost_ret (results_tmp3' rfl _ _ _) rfl ?_
          have hh := HAN2.out
          have hT := HT.out
          unfold opensOk at hT
          rw [if_pos trivial] at hh
          cases tt
          · rw [if_neg (by decide)] at hT
            rw [if_neg (fun e => by rw [decide_eq_true e.2.1, decide_eq_true e.2.2] at hT; cases hT), if_neg (by rintro ⟨e, _⟩; cases e)] at hh
            simp only [Prod.mk.injEq] at hh
            obtain ⟨rfl, rfl, rfl, rfl⟩ := hh
            exact ⟨rfl, F2, HO4.out, HGR.out, HC4.out⟩
          · rw [if_pos rfl] at hT
            rw [if_neg (by rintro ⟨e, _⟩; cases e), if_neg (fun e => of_decide_eq_false hT e.2)] at hh
            simp only [Prod.mk.injEq] at hh
            obtain ⟨rfl, rfl, rfl, rfl⟩ := hh
            exact ⟨rfl, F2, HO4.out, HGR.out, HC4.out⟩
        · go_wp2
          refine bodyPost_ret (results_tmp3' rfl _ _ _) rfl ?_
          have hh := HAN2.out
          have hT := HT.out
          unfold opensOk at hT
          rw [if_pos trivial] at hh
          cases tt
          · rw [if_neg (by decide), Bool.and_eq_true, decide_eq_true_eq, decide_eq_true_eq] at hT
            rw [if_pos ⟨rfl, hT⟩] at hh
            simp only [Prod.mk.injEq] at hh
            obtain ⟨rfl, rfl, rfl, rfl⟩ := hh
            exact ⟨by rw [empty_text hT.2]; rfl, F2, HO4.out, HGR.out, HC4.out⟩
          · rw [if_pos rfl, decide_eq_true_eq] at hT
            rw [if_neg (by rintro ⟨e, _⟩; cases e), if_pos ⟨rfl, hT⟩] at hh
            simp only [Prod.mk.injEq] at hh
            obtain ⟨rfl, rfl, rfl, rfl⟩ := hh
            exact ⟨rfl, F2, HO4.out, HGR.out, HC4.out⟩
      · rw [errOf_ne hn3]
        have HN3 := Lib.hid hn3
        clear hn3
        go_wp2
        refine bodyPost_ret (results_tmp3' rfl _ _ _) rfl ?_
        have hh := HAN2.out
        rw [if_neg HN3.out] at hh
        simp only [Prod.mk.injEq] at hh
        obtain ⟨rfl, rfl, rfl, rfl⟩ := hh
        exact ⟨by rw [errOf_ne HN3.out]; rfl, F2, HO3.out, HGR.out, HC3.out⟩
    · rw [errOf_ne hn2]
      have HN2 := Lib.hid hn2
      clear hn2
      go_wp2
      refine bodyPost_ret (results_tmp3' rfl _ _ _) rfl ?_
      have hh := HANS.out
      unfold askAns at hh
      rw [if_pos HNM.out, if_neg (by show ¬ (seeAns c ⟨h, key, S, P⟩).2 = 0; rw [HSE.out]; exact HN2.out)] at hh
      rw [show (seeAns c (⟨⟨h, key, S, P⟩, W, x, o, vl⟩ : Answ).sgn) = (c1, n2) from HSE.out] at hh
      simp only [Prod.mk.injEq] at hh
      obtain ⟨rfl, rfl, rfl, rfl⟩ := hh
      exact ⟨by rw [errOf_ne HN2.out]; rfl, F2, HOFF.out, HGR.out, HCL.out⟩
  · rw [if_neg hnm] at hof
    obtain ⟨rfl, rfl⟩ := Prod.mk.inj hof
    rw [show errOf 5 = .iface 28 (.int .i64 5) from rfl]
    clear hof
    go_wp2
    refine bodyPost_ret (results_tmp3' rfl _ _ _) rfl ?_
    have hh := HANS.out
    unfold askAns at hh
    rw [if_neg hnm] at hh
    simp only [Prod.mk.injEq] at hh
    obtain ⟨rfl, rfl, rfl, rfl⟩ := hh
    exact ⟨rfl, F, Off.of_below HB1.out, Grew.refl _ _, HC1.out⟩
theorem pAsk_is (F : Nat → Prop) (p : Nat) (c c' : Cl) (name : ByteArray) (m : AnM) (a : Answ) (v : ByteArray) (t : Bool) (n : Int) (w : World) (hc : PCl F w p c) (hk : HasK w) (hkn : ¬ F 1)
    (hl : c.heads.length ≤ 1000000) (hls : a.sgn.sig.length ≤ 1000000) (hlp : a.sgn.path.length ≤ 1000000) (hlw : a.path.length ≤ 1000000) (hx1 : a.leaf.1.size ≤ 1000000) (hx2 : a.leaf.2.size ≤ 1000000) (he : a.sgn.head.epoch < 9223372036854775808) (hm : AnIn w m a) (hC : ∀ b, m.C = some b → 0 < a.path.length → ¬ F b.block) (ha : askAns c name a = (c', v, t, n)) :
    Calls Tryz.prog 36 #[.pointer (some ⟨p, 0, none⟩), .string name, .agg m.cells] w fun e w' => e = .returned (.tuple #[.string v, .bool t, errOf n]) ∧ ∃ F' : Nat → Prop, Off F w w' ∧ Grew w F F' ∧ PCl F' w' p c' := by
  obtain ⟨⟨s, A, ca, B, cb⟩, C, cc, a'⟩ := m
  obtain ⟨e1, e2, e3, e4, e5, _⟩ := hm
  have e1 : a' = a := e1
  subst e1
  have e2 : s = a'.sgn := e2
  subst e2
  obtain ⟨⟨h, key, S, P⟩, W, x, o, vl⟩ := a'
  exact pAsk_at F p c c' name h key S P W x o vl A B C ca cb cc v t n w hc hk hkn hl hls hlp hlw hx1 hx2 he e3 e4 e5 hC ha
end Go.Proofs.YtcfpmofmjnhonaaGreatDoor
/- What the program's client answers: all contracts of the Face. -/
namespace Go.Proofs.YtcfpmofmjnhonaaGreatDoor
open Go.RowKit

theorem Grew.kept {w : World} {F F' : Nat → Prop} (hk : HasK w) (hn : ¬ F 1) (hg : Grew w F F') : ¬ F' 1 := fun h => by
  rcases hg _ h with e | e
  · exact hn e
  · have := hk.lt; omega
def clientFace : ClientFace where
  Is F w p c := PCl F w p c ∧ ¬ F 1
  lt h := h.1.lt
  same h hs := ⟨h.1.same hs, h.2⟩
  new := fun pub w h16 hk => by
    refine (pNewClient_t pub w h16).mono ?_
    rintro e w' ⟨p, F, rfl, hb, hc, hf⟩
    exact ⟨p, F, rfl, hb, ⟨hc, fun h => by have := hf _ h; have := hk.lt; omega⟩, hf⟩
  see := fun F p c c' h key S P A B ca cb n w hc hk hl hls hlp he hs hp _ _ ha => by
    refine (pSee_is F p c c' h key S P A B ca cb n w hc.1 hk (by omega) (by omega) (by omega) he hs hp ha).mono ?_
    rintro e w' ⟨rfl, F', ho, hg, hc'⟩
    exact ⟨rfl, F', ho, hg, hc', Grew.kept hk hc.2 hg⟩
  ask := fun F p c c' name m a v t n w hc hk hl _ hd hm _ _ hC ha => by
    refine (pAsk_is F p c c' name m a v t n w hc.1 hk hc.2 (by omega) (by have := hd.sig; omega) (by have := hd.path; omega) (by have := hd.way; omega) (by have := hd.l1; omega) (by have := hd.l2; omega) hd.ep hm hC ha).mono ?_
    rintro e w' ⟨rfl, F', ho, hg, hc'⟩
    exact ⟨rfl, F', ho, hg, hc', Grew.kept hk hc.2 hg⟩
  heads := fun F p c w hc _ hl => by
    refine (pHeads_any F p c w hc.1 (by omega)).mono ?_
    rintro e w' ⟨A, cap, rfl, hb, hh⟩
    exact ⟨A, cap, rfl, hb, hh⟩
end Go.Proofs.YtcfpmofmjnhonaaGreatDoor
/- The law's spoilt: one more mark, another first text. -/
namespace Go.Proofs.YtcfpmofmjnhonaaGreatDoor
open Go.RowKit

set_option maxHeartbeats 4000000 in
set_option maxRecDepth 100000 in
theorem spoilt_7 (h : Hd) (key : Int) (S P W : List ByteArray) (x : It) (o vl : ByteArray) (A B C : Option Addr) (ca cb cc : Nat) (w : World) (hA : Strs w A S) (hB : Strs w B P) (hW : Strs w C W) (_hls : S.length ≤ 1000) (hlw : W.length ≤ 1000)
    (_ho : o.size ≤ 1000000) (_hv : vl.size ≤ 1000000) (_hx2 : x.2.size ≤ 1000000) (_hrt : h.root.size ≤ 1000000) (hca : S.length ≤ ca) (hsg : ∀ p ∈ S, p.size ≤ 1000000) :
    Calls Tryz.prog 43 #[.agg #[.int .i64 h.epoch, .string h.root, .string h.prev, .int .i64 key, .slice A S.length ca, .slice B P.length cb, .slice C W.length cc, .string x.1, .string x.2, .string o, .string vl], .int .i64 7] w fun e w' => ∃ m' : AnM,
      e = .returned (.agg m'.cells) ∧ AnIn w' m' (spoiltA ⟨⟨h, key, S, P⟩, W, x, o, vl⟩ 7) ∧ AnNear w ⟨⟨⟨h, key, S, P⟩, A, ca, B, cb⟩, C, cc, ⟨⟨h, key, S, P⟩, W, x, o, vl⟩⟩ m' ∧ Below w.heap.size w w' := by
  have HA := Lib.hid hA
  have HB := Lib.hid hB
  have HW := Lib.hid hW
  have HAL := Lib.hid hA.lt
  have HBL := Lib.hid hB.lt
  have HWL := Lib.hid hW.lt
  have HSG := Lib.hid hsg
  have HB0 := Lib.hid (show Below w.heap.size w ((w.alloc (.cells #[.int .i64 h.epoch, .string h.root, .string h.prev, .int .i64 key, .slice A S.length ca, .slice B P.length cb, .slice C W.length cc, .string x.1, .string x.2, .string o, .string vl] 65)).alloc (.cells #[.int .i64 0, .string ⟨#[]⟩, .string ⟨#[]⟩, .int .i64 0, .slice none 0 0, .slice none 0 0, .slice none 0 0, .string ⟨#[]⟩, .string ⟨#[]⟩, .string ⟨#[]⟩, .string ⟨#[]⟩] 65)) from
    ((Below.refl _ w).alloc (Nat.le_refl _) _).alloc (by simp) _)
  have HX0 := Lib.hid (show Holds ((w.alloc (.cells #[.int .i64 h.epoch, .string h.root, .string h.prev, .int .i64 key, .slice A S.length ca, .slice B P.length cb, .slice C W.length cc, .string x.1, .string x.2, .string o, .string vl] 65)).alloc (.cells #[.int .i64 0, .string ⟨#[]⟩, .string ⟨#[]⟩, .int .i64 0, .slice none 0 0, .slice none 0 0, .slice none 0 0, .string ⟨#[]⟩, .string ⟨#[]⟩, .string ⟨#[]⟩, .string ⟨#[]⟩] 65)) w.heap.size 11 (anF ⟨⟨h, key, S, P⟩, A, ca, B, cb⟩ C W.length cc x o vl) 65 from
    (Holds.new w 11 (anF ⟨⟨h, key, S, P⟩, A, ca, B, cb⟩ C W.length cc x o vl) 65).alloc _)
  have HZ0 := Lib.hid (show Holds ((w.alloc (.cells #[.int .i64 h.epoch, .string h.root, .string h.prev, .int .i64 key, .slice A S.length ca, .slice B P.length cb, .slice C W.length cc, .string x.1, .string x.2, .string o, .string vl] 65)).alloc (.cells #[.int .i64 0, .string ⟨#[]⟩, .string ⟨#[]⟩, .int .i64 0, .slice none 0 0, .slice none 0 0, .slice none 0 0, .string ⟨#[]⟩, .string ⟨#[]⟩, .string ⟨#[]⟩, .string ⟨#[]⟩] 65)) (w.heap.size + 1) 11 noAnF 65 from by
    have h1 := Holds.new (w.alloc (.cells #[.int .i64 h.epoch, .string h.root, .string h.prev, .int .i64 key, .slice A S.length ca, .slice B P.length cb, .slice C W.length cc, .string x.1, .string x.2, .string o, .string vl] 65)) 11 noAnF 65
    rw [World.size_alloc] at h1
    exact h1)
  clear hA hB hW hsg
  go_enter Tryz.func43, Tryz.ntmps43
  go_upto_region 1 with (fail)
  generalize ((w.alloc (.cells #[.int .i64 h.epoch, .string h.root, .string h.prev, .int .i64 key, .slice A S.length ca, .slice B P.length cb, .slice C W.length cc, .string x.1, .string x.2, .string o, .string vl] 65)).alloc (.cells #[.int .i64 0, .string ⟨#[]⟩, .string ⟨#[]⟩, .int .i64 0, .slice none 0 0, .slice none 0 0, .slice none 0 0, .string ⟨#[]⟩, .string ⟨#[]⟩, .string ⟨#[]⟩, .string ⟨#[]⟩] 65)) = w0 at HB0 HX0 HZ0 ⊢
  obtain ⟨c0, c1, c2, c3, c4, c5, c6, c7, c8, c9, c10⟩ := an_cells HX0.out
  have HROW := Lib.hid (show Row (w0.alloc (.cells #[.string ⟨#[48, 49, 50, 51, 52, 53, 54, 55, 56, 57, 97, 98, 99, 100, 101, 102]⟩] 9)) w0.heap.size 1 (.slice (some ⟨w0.heap.size, 0, none⟩) 1 1) 1 (stCells [text16]) from row_oneS w0 text16 9)
  have t6 : (w0.alloc (.cells #[.string ⟨#[48, 49, 50, 51, 52, 53, 54, 55, 56, 57, 97, 98, 99, 100, 101, 102]⟩] 9)).cell? ⟨w.heap.size, 6, none⟩ = some (.slice C W.length cc) := ((alloc_below w0 _).cell (p := ⟨w.heap.size, 6, none⟩) HX0.out.lt).trans c6
  go_upto_region 16 with (fail)
  go_upto_region 20 with (first | (at_builtin; go_loud (refine wpList_append_texts rfl (.tmp 65) (.tmp 68) 50 rfl 9 Tryz.underlying50 _ infoStr rfl w0.heap.size 1 [text16] rfl ⟨w0.heap.size, 0, none⟩ 1 rfl HROW.out (by simp) (by omega) W W.length rfl C cc rfl ((HW.out.below HB0.out).below (alloc_below _ _)) (by omega) ?_); intro v' w2 hrow2 hg2; have hrow3 := hrow2.out; rw [Nat.add_comm 1 W.length] at hrow3; obtain ⟨-, C', cc', rfl, hst⟩ := (show Row w2 w0.heap.size 1 v' (W.length + 1) (stCells (text16 :: W)) from hrow3).strs; have hb2 : Below w0.heap.size w0 w2 := ((Below.refl w0.heap.size w0).alloc (Nat.le_refl _) _).grown hg2.out (by simp) (fun j hj => (HROW.out.lt j hj).1); have HB1 := Lib.hid (HB0.out.trans (hb2.mono HB0.out.size)); have HX1 := Lib.hid (HX0.out.below hb2 HX0.out.lt); have HZ1 := Lib.hid (HZ0.out.below hb2 HZ0.out.lt); have HCB := Lib.hid (show ∀ a, C' = some a → w0.heap.size ≤ a.block from fun a e => hrow3.above a e (Nat.succ_pos _)); have HST := Lib.hid hst; clear t6 hrow2 hrow3 hg2 hb2 hst c0 c1 c2 c3 c4 c5 c6 c7 c8 c9 c10; have t0 : w2.cell? ⟨w.heap.size, 6, none⟩ = some (.slice C W.length cc) := HX1.out.cell 6 (by omega); have t1 : w2.frozen? ⟨w.heap.size, 6, none⟩ = false := HX1.out.free 6))
  have HQL := Lib.hid (show w.heap.size + 1 < w0.heap.size from HZ0.out.lt)
  have HP := Lib.hid (show ∃ m' : AnM, SpAt w (w2.setCell ⟨w.heap.size, 6, none⟩ (.slice C' (W.length + 1) cc')) ⟨⟨⟨h, key, S, P⟩, A, ca, B, cb⟩, C, cc, ⟨⟨h, key, S, P⟩, W, x, o, vl⟩⟩ m' (spoiltA ⟨⟨h, key, S, P⟩, W, x, o, vl⟩ 7) from ⟨⟨⟨⟨h, key, S, P⟩, A, ca, B, cb⟩, C', cc', ⟨⟨h, key, S, P⟩, text16 :: W, x, o, vl⟩⟩,
    ⟨HX1.out.one 6 _ (fun j hj => by rcases (show j = 0 ∨ j = 1 ∨ j = 2 ∨ j = 3 ∨ j = 4 ∨ j = 5 ∨ j = 6 ∨ j = 7 ∨ j = 8 ∨ j = 9 ∨ j = 10 by omega) with rfl | rfl | rfl | rfl | rfl | rfl | rfl | rfl | rfl | rfl | rfl <;> rfl), HZ1.out.other (show w.heap.size + 1 ≠ w.heap.size by omega) _, HB1.out.setCell (Nat.le_refl _) _,
      ⟨rfl, rfl, Strs.box (HA.out.below HB1.out) (fun a e l => by have := HAL.out a e l; omega) _ _, Strs.box (HB.out.below HB1.out) (fun a e l => by have := HBL.out a e l; omega) _ _, Strs.box HST.out (fun a e l => by have := HCB.out a e; have := HQL.out; omega) _ _, hca⟩,
      ⟨.inl ⟨rfl, rfl⟩, ⟨rfl, rfl⟩, .inr fun a e => by have := HCB.out a e; have := HQL.out; omega⟩, (fun a e l => by have := HAL.out a e l; omega), (fun a e l => by have := HBL.out a e l; omega), (fun a e l => by have := HCB.out a e; have := HQL.out; omega)⟩⟩)
  clear t0 t1 HB1 HX1 HZ1 HB0 HX0 HZ0 HROW HST
  generalize w2.setCell ⟨w.heap.size, 6, none⟩ (.slice C' (W.length + 1) cc') = wz at HP ⊢
  all_goals
    obtain ⟨m', hsp⟩ := HP.out
    have HSP := Lib.hid hsp
    obtain ⟨d0, d1, d2, d3, d4, d5, d6, d7, d8, d9, d10⟩ := an_cells (show Holds wz w.heap.size 11 (anF m'.sg m'.C m'.a.path.length m'.cc m'.a.leaf m'.a.opening m'.a.value) 65 from hsp.box)
    obtain ⟨z0, z1, z2, z3, z4, z5, z6, z7, z8, z9, z10⟩ := an_cells (show Holds wz (w.heap.size + 1) 11 (anF noM none 0 0 noIt ⟨#[]⟩ ⟨#[]⟩) 65 from hsp.res)
    have f0 := hsp.res.free 0
    have f1 := hsp.res.free 1
    have f2 := hsp.res.free 2
    have f3 := hsp.res.free 3
    have f4 := hsp.res.free 4
    have f5 := hsp.res.free 5
    have f6 := hsp.res.free 6
    have f7 := hsp.res.free 7
    have f8 := hsp.res.free 8
    have f9 := hsp.res.free 9
    have f10 := hsp.res.free 10
    have HFIN := Lib.hid (put11_holds hsp.res m'.sg m'.C m'.a.path.length m'.cc m'.a.leaf m'.a.opening m'.a.value)
    have HFB := Lib.hid (put11_below hsp.below (Nat.le_succ _) m'.sg m'.C m'.a.path.length m'.cc m'.a.leaf m'.a.opening m'.a.value)
    have HAN := Lib.hid (show AnIn (put11 wz (w.heap.size + 1) m'.sg m'.C m'.a.path.length m'.cc m'.a.leaf m'.a.opening m'.a.value) m' _ from
      ⟨hsp.is.is, hsp.is.sgn, put11_box hsp.is.sig (fun a e l => hsp.ga a e (by rw [hsp.is.sgn]; exact l)) _ _ _ _ _ _ _, put11_box hsp.is.path (fun a e l => hsp.gb a e (by rw [hsp.is.sgn]; exact l)) _ _ _ _ _ _ _, put11_box hsp.is.way (fun a e l => hsp.gc a e (by rw [hsp.is.is]; exact l)) _ _ _ _ _ _ _, hsp.is.cap⟩)
    clear hsp HP
    go_wp2
    refine bodyPost_ret (results_cell_row rfl _ _ (w.heap.size + 1) 65 (arr 11 (anFM m')) (0, 0) _ rfl HFIN.out Tryz.underlying65 rfl (by rw [arr_size]; exact infoAnsw)) rfl ?_
    exact ⟨m', rfl, HAN.out, HSP.out.near, HFB.out⟩
set_option maxHeartbeats 4000000 in
set_option maxRecDepth 100000 in
theorem spoilt_8f (h : Hd) (key : Int) (S P W : List ByteArray) (x : It) (o vl : ByteArray) (A B C : Option Addr) (ca cb cc : Nat) (hs3 : ¬ 3 < S.length) (w : World) (hA : Strs w A S) (hB : Strs w B P) (hW : Strs w C W) (_hls : S.length ≤ 1000) (_hlw : W.length ≤ 1000)
    (_ho : o.size ≤ 1000000) (_hv : vl.size ≤ 1000000) (_hx2 : x.2.size ≤ 1000000) (_hrt : h.root.size ≤ 1000000) (hca : S.length ≤ ca) (hsg : ∀ p ∈ S, p.size ≤ 1000000) :
    Calls Tryz.prog 43 #[.agg #[.int .i64 h.epoch, .string h.root, .string h.prev, .int .i64 key, .slice A S.length ca, .slice B P.length cb, .slice C W.length cc, .string x.1, .string x.2, .string o, .string vl], .int .i64 8] w fun e w' => ∃ m' : AnM,
      e = .returned (.agg m'.cells) ∧ AnIn w' m' (spoiltA ⟨⟨h, key, S, P⟩, W, x, o, vl⟩ 8) ∧ AnNear w ⟨⟨⟨h, key, S, P⟩, A, ca, B, cb⟩, C, cc, ⟨⟨h, key, S, P⟩, W, x, o, vl⟩⟩ m' ∧ Below w.heap.size w w' := by
  have HA := Lib.hid hA
  have HB := Lib.hid hB
  have HW := Lib.hid hW
  have HAL := Lib.hid hA.lt
  have HBL := Lib.hid hB.lt
  have HWL := Lib.hid hW.lt
  have HSG := Lib.hid hsg
  have HB0 := Lib.hid (show Below w.heap.size w ((w.alloc (.cells #[.int .i64 h.epoch, .string h.root, .string h.prev, .int .i64 key, .slice A S.length ca, .slice B P.length cb, .slice C W.length cc, .string x.1, .string x.2, .string o, .string vl] 65)).alloc (.cells #[.int .i64 0, .string ⟨#[]⟩, .string ⟨#[]⟩, .int .i64 0, .slice none 0 0, .slice none 0 0, .slice none 0 0, .string ⟨#[]⟩, .string ⟨#[]⟩, .string ⟨#[]⟩, .string ⟨#[]⟩] 65)) from
    ((Below.refl _ w).alloc (Nat.le_refl _) _).alloc (by simp) _)
  have HX0 := Lib.hid (show Holds ((w.alloc (.cells #[.int .i64 h.epoch, .string h.root, .string h.prev, .int .i64 key, .slice A S.length ca, .slice B P.length cb, .slice C W.length cc, .string x.1, .string x.2, .string o, .string vl] 65)).alloc (.cells #[.int .i64 0, .string ⟨#[]⟩, .string ⟨#[]⟩, .int .i64 0, .slice none 0 0, .slice none 0 0, .slice none 0 0, .string ⟨#[]⟩, .string ⟨#[]⟩, .string ⟨#[]⟩, .string ⟨#[]⟩] 65)) w.heap.size 11 (anF ⟨⟨h, key, S, P⟩, A, ca, B, cb⟩ C W.length cc x o vl) 65 from
    (Holds.new w 11 (anF ⟨⟨h, key, S, P⟩, A, ca, B, cb⟩ C W.length cc x o vl) 65).alloc _)
  have HZ0 := Lib.hid (show Holds ((w.alloc (.cells #[.int .i64 h.epoch, .string h.root, .string h.prev, .int .i64 key, .slice A S.length ca, .slice B P.length cb, .slice C W.length cc, .string x.1, .string x.2, .string o, .string vl] 65)).alloc (.cells #[.int .i64 0, .string ⟨#[]⟩, .string ⟨#[]⟩, .int .i64 0, .slice none 0 0, .slice none 0 0, .slice none 0 0, .string ⟨#[]⟩, .string ⟨#[]⟩, .string ⟨#[]⟩, .string ⟨#[]⟩] 65)) (w.heap.size + 1) 11 noAnF 65 from by
    have h1 := Holds.new (w.alloc (.cells #[.int .i64 h.epoch, .string h.root, .string h.prev, .int .i64 key, .slice A S.length ca, .slice B P.length cb, .slice C W.length cc, .string x.1, .string x.2, .string o, .string vl] 65)) 11 noAnF 65
    rw [World.size_alloc] at h1
    exact h1)
  clear hA hB hW hsg
  go_enter Tryz.func43, Tryz.ntmps43
  go_upto_region 1 with (fail)
  generalize ((w.alloc (.cells #[.int .i64 h.epoch, .string h.root, .string h.prev, .int .i64 key, .slice A S.length ca, .slice B P.length cb, .slice C W.length cc, .string x.1, .string x.2, .string o, .string vl] 65)).alloc (.cells #[.int .i64 0, .string ⟨#[]⟩, .string ⟨#[]⟩, .int .i64 0, .slice none 0 0, .slice none 0 0, .slice none 0 0, .string ⟨#[]⟩, .string ⟨#[]⟩, .string ⟨#[]⟩, .string ⟨#[]⟩] 65)) = w0 at HB0 HX0 HZ0 ⊢
  obtain ⟨c0, c1, c2, c3, c4, c5, c6, c7, c8, c9, c10⟩ := an_cells HX0.out
  have hs3' : ¬ (3 : Int) < (S.length : Int) := by omega
  have HP := Lib.hid (show ∃ m' : AnM, SpAt w w0 ⟨⟨⟨h, key, S, P⟩, A, ca, B, cb⟩, C, cc, ⟨⟨h, key, S, P⟩, W, x, o, vl⟩⟩ m' (spoiltA ⟨⟨h, key, S, P⟩, W, x, o, vl⟩ 8) from ⟨⟨⟨⟨h, key, S, P⟩, A, ca, B, cb⟩, C, cc, ⟨⟨h, key, S, P⟩, W, x, o, vl⟩⟩, by
    rw [show spoiltA ⟨⟨h, key, S, P⟩, W, x, o, vl⟩ 8 = ⟨⟨h, key, S, P⟩, W, x, o, vl⟩ from if_neg hs3]
    exact ⟨HX0.out, HZ0.out, HB0.out, ⟨rfl, rfl, HA.out.below HB0.out, HB.out.below HB0.out, HW.out.below HB0.out, hca⟩, ⟨.inl ⟨rfl, rfl⟩, ⟨rfl, rfl⟩, .inl ⟨rfl, rfl⟩⟩, (fun a e l => by have := HAL.out a e l; omega), (fun a e l => by have := HBL.out a e l; omega), (fun a e l => by have := HWL.out a e l; omega)⟩⟩)
  go_upto_region 20 with (fail)
  clear HB0 HX0 HZ0 c0 c1 c2 c3 c4 c5 c6 c7 c8 c9 c10 hs3'
  generalize w0 = wz at HP ⊢
  all_goals
    obtain ⟨m', hsp⟩ := HP.out
    have HSP := Lib.hid hsp
    obtain ⟨d0, d1, d2, d3, d4, d5, d6, d7, d8, d9, d10⟩ := an_cells (show Holds wz w.heap.size 11 (anF m'.sg m'.C m'.a.path.length m'.cc m'.a.leaf m'.a.opening m'.a.value) 65 from hsp.box)
    obtain ⟨z0, z1, z2, z3, z4, z5, z6, z7, z8, z9, z10⟩ := an_cells (show Holds wz (w.heap.size + 1) 11 (anF noM none 0 0 noIt ⟨#[]⟩ ⟨#[]⟩) 65 from hsp.res)
    have f0 := hsp.res.free 0
    have f1 := hsp.res.free 1
    have f2 := hsp.res.free 2
    have f3 := hsp.res.free 3
    have f4 := hsp.res.free 4
    have f5 := hsp.res.free 5
    have f6 := hsp.res.free 6
    have f7 := hsp.res.free 7
    have f8 := hsp.res.free 8
    have f9 := hsp.res.free 9
    have f10 := hsp.res.free 10
    have HFIN := Lib.hid (put11_holds hsp.res m'.sg m'.C m'.a.path.length m'.cc m'.a.leaf m'.a.opening m'.a.value)
    have HFB := Lib.hid (put11_below hsp.below (Nat.le_succ _) m'.sg m'.C m'.a.path.length m'.cc m'.a.leaf m'.a.opening m'.a.value)
    have HAN := Lib.hid (show AnIn (put11 wz (w.heap.size + 1) m'.sg m'.C m'.a.path.length m'.cc m'.a.leaf m'.a.opening m'.a.value) m' _ from
      ⟨hsp.is.is, hsp.is.sgn, put11_box hsp.is.sig (fun a e l => hsp.ga a e (by rw [hsp.is.sgn]; exact l)) _ _ _ _ _ _ _, put11_box hsp.is.path (fun a e l => hsp.gb a e (by rw [hsp.is.sgn]; exact l)) _ _ _ _ _ _ _, put11_box hsp.is.way (fun a e l => hsp.gc a e (by rw [hsp.is.is]; exact l)) _ _ _ _ _ _ _, hsp.is.cap⟩)
    clear hsp HP
    go_wp2
    refine bodyPost_ret (results_cell_row rfl _ _ (w.heap.size + 1) 65 (arr 11 (anFM m')) (0, 0) _ rfl HFIN.out Tryz.underlying65 rfl (by rw [arr_size]; exact infoAnsw)) rfl ?_
    exact ⟨m', rfl, HAN.out, HSP.out.near, HFB.out⟩
end Go.Proofs.YtcfpmofmjnhonaaGreatDoor
