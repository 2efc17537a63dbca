/- Parts of the proof, one behind the other: PPub2, PPut2. -/
import Derived.Test.YtcfpmofmjnhonaaGreatDoorM25
import Derived.Test.YtcfpmofmjnhonaaGreatDoorM6
/- The program's directory: Publish, one more epoch. -/
namespace Go.Proofs.YtcfpmofmjnhonaaGreatDoor
open Go.RowKit Go.Maps

theorem SgLie.below {G : Nat → Prop} {w w' : World} {m : SgM} (h : SgLie G w m) (hb : Below w.heap.size w w') : SgLie G w' m := ⟨h.sig.below hb, h.path.below hb, h.fs, h.fp⟩
theorem strs_lt {w : World} {A : Option Addr} {L : List ByteArray} (h : Strs w A L) : ∀ a, A = some a → 0 < L.length → a.block < w.heap.size := fun a e hl => by
  obtain ⟨a', e', hlt', _⟩ := h 0 _ (List.getElem?_eq_getElem hl)
  rw [e] at e'
  obtain rfl := Option.some.inj e'
  exact hlt'
theorem itms_lt {w : World} {A : Option Addr} {L : List It} (h : Itms w A L) : ∀ a, A = some a → 0 < L.length → a.block < w.heap.size := fun a e hl => by
  obtain ⟨a', e', hlt', _⟩ := h 0 _ (List.getElem?_eq_getElem hl)
  rw [e] at e'
  obtain rfl := Option.some.inj e'
  exact hlt'
theorem SgLie.held {G : Nat → Prop} {w : World} {m : SgM} (h : SgLie G w m) : SgLie (fun k => G k ∧ k < w.heap.size) w m :=
  ⟨h.sig, h.path, fun a e l => ⟨h.fs a e l, strs_lt h.sig a e l⟩, fun a e l => ⟨h.fp a e l, strs_lt h.path a e l⟩⟩
set_option maxHeartbeats 4000000 in
set_option maxRecDepth 100000 in
theorem pPublish_next (F : Nat → Prop) (p : Nat) (d : Dst) (w : World) (h : PDir F w p d) (hc : Chained d) (hok : DOk d) (hk : HasK w) (hkn : ¬ F 1) (h8 : d.eps.length < 8) :
    Calls Tryz.prog 20 #[.pointer (some ⟨p, 0, none⟩)] w fun e w' => ∃ (m : SgM) (F' : Nat → Prop), m.s = Pub.over.sgn d ∧ e = .returned (.tuple #[.agg #[.int .i64 m.s.head.epoch, .string m.s.head.root, .string m.s.head.prev, .int .i64 m.s.key, .slice m.A m.s.sig.length m.ca, .slice m.B m.s.path.length m.cb], .nilIface]) ∧ Off F w w' ∧ Grew w F F' ∧ PDir F' w' p (Pub.over.next d) ∧ SgIn (fun k => w.heap.size ≤ k) w' m := by
  obtain ⟨bb, mh, mw, vi, ve, H, M, h, hme, hsy⟩ := h
  have hM : M.length = d.eps.length := by have := congrArg List.length hme; rwa [List.length_map] at this
  have hds : M.map (·.s.head) = headsOf d := by unfold headsOf; rw [← hme, List.map_map]; rfl
  have hgd := Pub.over.next_good hok h8
  obtain ⟨y, hy, hyr⟩ := next_of_chain hc h8 (root := rootOf (overIts (settled d))) (nodeOf_size _ _ _)
  have HSG := Lib.hid (show Pub.over.sgn d = signOf d.secret M.length y from by
    have hy' : nextAns (d.eps.map (·.head)) (rootOf (overIts (settled d))) = (y, 0) := hy
    show signOf d.secret d.eps.length (nextAns (d.eps.map (·.head)) (rootOf (overIts (settled d)))).1 = _
    rw [hy', hM])
  rw [← hds] at hy
  have HD := Lib.hid h
  have HME := Lib.hid hme
  have HSY := Lib.hid hsy
  have HOK := Lib.hid hok
  have HK := Lib.hid hk
  have HKN := Lib.hid hkn
  have HMD := Lib.hid hM
  have H8 := Lib.hid h8
  have HY := Lib.hid hy
  have HYR := Lib.hid hyr
  have HGD := Lib.hid (show rightItems (overIts (settled d)) = true from hgd)
  have HHL := Lib.hid (show H.length ≤ 60 ∧ d.wait.length ≤ 61 from ⟨by have := names_room hok h.has.keys hsy; omega, hok.wait_len⟩)
  have h8i : (M.length : Int) < 8 := by omega
  obtain ⟨AE, cE, rfl, hcE, -⟩ := h.row.sixes
  obtain ⟨AI, cI, rfl, hcI, hII, hAI⟩ := h.its
  have HCI := Lib.hid hcI
  have HB0 := Lib.hid (alloc_below w (.cells #[.int .i64 0, .string ⟨#[]⟩, .string ⟨#[]⟩, .int .i64 0, .slice none 0 0, .slice none 0 0] 54))
  have HZ0 := Lib.hid (show Holds (w.alloc (.cells #[.int .i64 0, .string ⟨#[]⟩, .string ⟨#[]⟩, .int .i64 0, .slice none 0 0, .slice none 0 0] 54)) w.heap.size 6 (sgF noHd 0 (.slice none 0 0) (.slice none 0 0)) 54 from Holds.new w 6 (sgF noHd 0 (.slice none 0 0) (.slice none 0 0)) 54)
  have HD0 := Lib.hid (HD.out.same (same_of_below HB0.out HD.out.lt))
  clear h hme hsy hok hk hkn hM hds hgd hy hyr hc hcI hII hAI hcE
  go_enter Tryz.func20, Tryz.ntmps20
  go_upto_region 1 with (fail)
  generalize w.alloc (.cells #[.int .i64 0, .string ⟨#[]⟩, .string ⟨#[]⟩, .int .i64 0, .slice none 0 0, .slice none 0 0] 54) = w0 at HB0 HZ0 HD0 ⊢
  have c5 : w0.cell? ⟨p, 5, none⟩ = some (.slice AE M.length cE) := HD0.out.own.cell 5 (by omega)
  go_wp2_with fail
  clear c5
  refine (pOpen_is ((M.length : Int) + 1) _ HD0.out (HK.out.below HB0.out HK.out.lt) (by have := HOK.out.secret; omega) (by have := HHL.out.2; omega)).mono ?_
  rintro e w1 ⟨mf, Fr, rfl, hb1, hmf, hmF, hfl, hfr⟩
  have HB1 := Lib.hid (HB0.out.trans (hb1.mono HB0.out.size))
  have HZ1 := Lib.hid (HZ0.out.below hb1 HZ0.out.lt)
  have HD1 := Lib.hid (HD.out.same (same_of_below HB1.out HD.out.lt))
  have HMF := Lib.hid (show w.heap.size < mf from Nat.lt_of_lt_of_le HZ0.out.lt hmf)
  have HMFR := Lib.hid hmF
  have HFL := Lib.hid (show Fr.length ≤ 61 from by have := HHL.out.2; omega)
  have HFRE := Lib.hid (show Fresh d Fr from open_fresh HOK.out (by rw [← HMD.out]; exact hfr))
  clear hb1 hmf hmF hfl hfr HD0 HZ0 HB0
  have c4 : w1.cell? ⟨p, 4, none⟩ = some (.slice AI (overIts d).length cI) := HD1.out.own.cell 4 (by omega)
  have HI1 := Lib.hid (show Itms w1 AI (overIts d) ∧ ∀ a, AI = some a → 0 < (overIts d).length → Calm F p mh mw (.slice AE M.length cE) a.block from by
    obtain ⟨A', c', e, _, h3, h4⟩ := HD1.out.its
    injection e with e1 _ _
    rw [e1]
    exact ⟨h3, h4⟩)
  go_wp2_with fail
  clear c4
  refine (pLay_is d HOK.out H8.out AI cI mf Fr _ (HK.out.below HB1.out HK.out.lt) HI1.out.1 HCI.out HMFR.out (by have := HFL.out; omega) HFRE.out).mono ?_
  rintro e w2 ⟨A2, c2, rfl, hb2, hi2, hc2, hn2⟩
  have HB2 := Lib.hid (HB1.out.trans (hb2.mono HB1.out.size))
  have HZ2 := Lib.hid (HZ1.out.below hb2 HZ1.out.lt)
  have HD2 := Lib.hid (HD.out.same (same_of_below HB2.out HD.out.lt))
  have HMF2 := Lib.hid (HMFR.out.block (hb2.block _ HMFR.out.lt))
  have HI2 := Lib.hid hi2
  have HC2 := Lib.hid hc2
  have HQ1 := Lib.hid (show w.heap.size < w1.heap.size from HZ1.out.lt)
  have HA2 := Lib.hid (show ∀ a, A2 = some a → 0 < (overIts (settled d)).length → Calm F p mh mw (.slice AE M.length cE) a.block ∨ w.heap.size < a.block from fun a e l => by
    rcases hn2 with ⟨e2, e3⟩ | e2
    · rw [e3] at l
      exact .inl (HI1.out.2 a (e2 ▸ e) l)
    · have := e2 a e l; have := HQ1.out; exact .inr (by omega))
  clear hb2 hi2 hc2 hn2 HD1 HZ1 HB1 HMFR HI1 HCI
  obtain ⟨J, hJ⟩ : ∃ J, overIts (settled d) = J := ⟨_, rfl⟩
  have HJ := Lib.hid hJ
  rw [hJ] at HI2 HC2 HA2 HGD HY ⊢
  clear hJ
  go_wp2_with fail
  refine (pSignDir_is F p d.secret bb mh mw (.slice AI (overIts d).length cI) (.slice AE M.length cE) H d.wait (overIts d) J M A2 c2 _ HD2.out (HK.out.below HB2.out HK.out.lt) (by have := HMD.out; have := H8.out; omega) HI2.out HC2.out HGD.out HY.out HYR.out).mono ?_
  rintro e w3 ⟨m, hms, rfl, hb3, hsl⟩
  have HMS := Lib.hid hms
  have HDIM := Lib.hid (show m.s.sig.length ≤ 35 ∧ m.s.path.length ≤ 3 from by rw [hms, ← HSG.out]; exact ⟨(Pub.over.sgn_dim d).sig, (Pub.over.sgn_dim d).path⟩)
  have hb4 := alloc_below w3 (.cells #[.int .i64 m.s.head.epoch, .string m.s.head.root, .string m.s.head.prev, .int .i64 m.s.key, .slice m.A m.s.sig.length m.ca, .slice m.B m.s.path.length m.cb] 54)
  have hb24 := hb3.trans (hb4.mono hb3.size)
  have HX4 := Lib.hid (show Holds (w3.alloc (.cells #[.int .i64 m.s.head.epoch, .string m.s.head.root, .string m.s.head.prev, .int .i64 m.s.key, .slice m.A m.s.sig.length m.ca, .slice m.B m.s.path.length m.cb] 54)) w3.heap.size 6 (sgF m.s.head m.s.key (.slice m.A m.s.sig.length m.ca) (.slice m.B m.s.path.length m.cb)) 54 from Holds.new w3 6 (sgF m.s.head m.s.key (.slice m.A m.s.sig.length m.ca) (.slice m.B m.s.path.length m.cb)) 54)
  have HB4 := Lib.hid (HB2.out.trans (hb24.mono HB2.out.size))
  have HZ4 := Lib.hid (HZ2.out.below hb24 HZ2.out.lt)
  have HMF4 := Lib.hid (HMF2.out.block (hb24.block _ HMF2.out.lt))
  have HI4 := Lib.hid (HI2.out.below hb24)
  have HM4 := Lib.hid (hsl.held.below hb4)
  have HSB := Lib.hid (show w2.heap.size ≤ w3.heap.size ∧ w.heap.size < w2.heap.size from ⟨hb3.size, HZ2.out.lt⟩)
  have HW34 := Lib.hid (show w3.heap.size < (w3.alloc (.cells #[.int .i64 m.s.head.epoch, .string m.s.head.root, .string m.s.head.prev, .int .i64 m.s.key, .slice m.A m.s.sig.length m.ca, .slice m.B m.s.path.length m.cb] 54)).heap.size from by simp)
  clear hms hb3 hsl hb4 hb24
  go_upto_region 11 with (fail)
  generalize w3.alloc (.cells #[.int .i64 m.s.head.epoch, .string m.s.head.root, .string m.s.head.prev, .int .i64 m.s.key, .slice m.A m.s.sig.length m.ca, .slice m.B m.s.path.length m.cb] 54) = w4 at HX4 HB4 HZ4 HMF4 HI4 HM4 HW34 ⊢
  obtain ⟨sb, hsb⟩ : ∃ sb, w3.heap.size = sb := ⟨_, rfl⟩
  rw [hsb] at HX4 HSB HM4 HW34 ⊢
  have HQ := Lib.hid (show w.heap.size < w2.heap.size ∧ w2.heap.size ≤ sb ∧ sb < w4.heap.size from ⟨HSB.out.2, HSB.out.1, HW34.out⟩)
  clear hsb HSB HW34 HB2 HZ2 HD2 HMF2 HI2
  have HPS := Lib.hid (show p < w.heap.size ∧ mh < w.heap.size ∧ mw < w.heap.size ∧ (∀ k, F k → k < w.heap.size) from ⟨HD.out.own.lt, HD.out.has.lt, HD.out.wait.lt, HD.out.lt⟩)
  have HD4 := Lib.hid (show DMem (fun k => F k ∨ (w.heap.size < k ∧ k < w4.heap.size)) w4 p d.secret bb mh mw (.slice AI (overIts d).length cI) (.slice AE M.length cE) H d.wait (overIts d) M from
    (HD.out.same (same_of_below HB4.out HD.out.lt)).wide (fun k hk => .inl hk) (fun k hk => by
      rcases hk with e | e
      · have := HD.out.lt k e; have := HB4.out.size; omega
      · exact e.2))
  have c2 : w4.cell? ⟨p, 2, none⟩ = some (.map (some mh)) := HD4.out.own.cell 2 (by omega)
  go_wp2_with fail
  clear c2
  refine (mapsCopy_is mh mf H Fr _ HD4.out.has HMF4.out (by have := HMF.out; have := HPS.out.2.1; omega) (by have := HHL.out.1; omega) (by have := HFL.out; omega)).mono ?_
  rintro e w5 ⟨N, rfl, ho5, hm5, hn5⟩
  have HO5 := Lib.hid ((Off.of_below (F := F) HB4.out).trans ho5 (fun k _ e => e ▸ HD.out.fh))
  have HD5 := Lib.hid (HD4.out.putH ⟨ho5.size, fun k hk => ho5.block k (HD4.out.lt k hk.1) hk.2⟩ hm5)
  have HN5 := Lib.hid hn5
  have HX5 := Lib.hid (HX4.out.off ho5 (show ¬ sb = mh by have := HQ.out; have := HPS.out.2.1; omega))
  have HZ5 := Lib.hid (HZ4.out.off ho5 (show ¬ w.heap.size = mh by have := HPS.out.2.1; omega))
  have HI5 := Lib.hid (show Itms w5 A2 J ∧ SgLie (fun k => w2.heap.size ≤ k ∧ k < sb) w5 m from
    ⟨HI4.out.same (F := fun k => k < w4.heap.size ∧ k ≠ mh) (fun a e l => ⟨itms_lt HI4.out a e l, fun e2 => by
      rcases HA2.out a e l with e3 | e3
      · exact e3.2.2.1 e2
      · have := HPS.out.2.1; omega⟩) ⟨ho5.size, fun k hk => ho5.block k hk.1 hk.2⟩,
     HM4.out.same ⟨ho5.size, fun k hk => ho5.block k (by have := HQ.out; omega) (by have := HQ.out; have := HPS.out.2.1; omega)⟩⟩)
  obtain ⟨w6, hcl, hm6, hg6, hz6⟩ := HD5.out.wait.cleared
  have hcl' : ∀ ty, (Builtin.clear_ #[39] ty #[.map (some mw)]).run Tryz.prog w5 = .ok (.tuple #[]) w6 := hcl
  have HD6 := Lib.hid (HD5.out.putW hg6 hm6)
  have HO6 := Lib.hid (HO5.out.trans (Off.of_grown hg6 (F := F) (fun k hk => by cases hk; exact HD.out.fw)) (fun _ _ h => h))
  have HX6 := Lib.hid (grown_keeps HX5.out hg6 (show sb ≠ mw by have := HQ.out; have := HPS.out.2.2.1; omega))
  have HZ6 := Lib.hid (grown_keeps HZ5.out hg6 (show w.heap.size ≠ mw by have := HPS.out.2.2.1; omega))
  have HI6 := Lib.hid (show Itms w6 A2 J ∧ SgLie (fun k => w2.heap.size ≤ k ∧ k < sb) w6 m from
    ⟨HI5.out.1.same (F := fun k => k < w5.heap.size ∧ k ≠ mw) (fun a e l => ⟨itms_lt HI5.out.1 a e l, fun e2 => by
      rcases HA2.out a e l with e3 | e3
      · exact e3.2.2.2.1 e2
      · have := HPS.out.2.2.1; omega⟩) ⟨hg6.size, fun k hk => hg6.block k hk.1 (fun e => hk.2 (Option.some.inj e))⟩,
     HI5.out.2.same ⟨hg6.size, fun k hk => hg6.block k (by have := HQ.out; have := ho5.size; omega) (fun e => by have := HQ.out; have := HPS.out.2.2.1; have := Option.some.inj e; omega)⟩⟩)
  have c3 : w5.cell? ⟨p, 3, none⟩ = some (.map (some mw)) := HD5.out.own.cell 3 (by omega)
  have HVJ := Lib.hid (show ItsIn (Calm (fun k => F k ∨ (w.heap.size < k ∧ k < w4.heap.size)) p mh mw (.slice AE M.length cE)) w6 (.slice A2 J.length c2) J from
    ⟨A2, c2, rfl, HC2.out, HI6.out.1, fun a e l => by
      have hl4 := itms_lt HI4.out a e l
      rcases HA2.out a e l with e3 | e3
      · exact ⟨.inl e3.1, e3.2⟩
      · have h1 := HPS.out
        exact ⟨.inr ⟨e3, hl4⟩, by omega, by omega, by omega, fun e4 => by have := h1.2.2.2 _ (HD.out.fv _ e4); omega⟩⟩)
  have HD7 := Lib.hid (HD6.out.setI HVJ.out)
  have HO7 := Lib.hid (HO6.out.setCell (a := ⟨p, 4, none⟩) (.inr HD.out.fp) (.slice A2 J.length c2))
  have HX7 := Lib.hid (HX6.out.other (a := ⟨p, 4, none⟩) (show sb ≠ p by have := HQ.out; have := HPS.out.1; omega) (.slice A2 J.length c2))
  have HZ7 := Lib.hid (HZ6.out.other (a := ⟨p, 4, none⟩) (show w.heap.size ≠ p by have := HPS.out.1; omega) (.slice A2 J.length c2))
  have HM7 := Lib.hid (show SgLie (fun k => w2.heap.size ≤ k ∧ k < sb) (w6.setCell ⟨p, 4, none⟩ (.slice A2 J.length c2)) m from HI6.out.2.same ⟨by rw [setCell_size]; exact Nat.le_refl _, fun k hk => Below.heap_setCell _ _ _ _ (show k ≠ p by have := HQ.out; have := HPS.out.1; omega)⟩)
  have d4 : w6.cell? ⟨p, 4, none⟩ = some (.slice AI (overIts d).length cI) := HD6.out.own.cell 4 (by omega)
  have d4f : w6.frozen? ⟨p, 4, none⟩ = false := HD6.out.own.free 4
  have d3 : w6.cell? ⟨p, 3, none⟩ = some (.map (some mw)) := HD6.out.own.cell 3 (by omega)
  have HS7 := Lib.hid (show (w6.setCell ⟨p, 4, none⟩ (.slice A2 J.length c2)).heap.size = w6.heap.size ∧ w4.heap.size ≤ w6.heap.size from ⟨setCell_size _ _ _, Nat.le_trans ho5.size hg6.size⟩)
  clear ho5 hm5 hn5 hcl hm6 hg6 hz6 HD4 HX4 HZ4 HI4 HM4 HMF4 HO5 HX5 HZ5 HI5 HD5 HX6 HZ6 HI6 HVJ HD6 HO6 HB4
  go_upto_region 14 with (fail)
  generalize w6.setCell ⟨p, 4, none⟩ (.slice A2 J.length c2) = w7 at HD7 HO7 HX7 HZ7 HM7 HS7 ⊢
  clear hcl' c3 d4 d4f d3
  have HVB := Lib.hid (show ∀ k, (Value.slice AE M.length cE).ownBlock = some k → k < w.heap.size from fun k e => HPS.out.2.2.2 _ (HD.out.fv k e))
  have HW7 := Lib.hid (show w4.heap.size ≤ w7.heap.size from by have := HS7.out; omega)
  clear HS7
  have r0 : w7.cell? ⟨p, 5, none⟩ = some (.slice AE M.length cE) := HD7.out.own.cell 5 (by omega)
  obtain ⟨l0, l1, l2, l3, l4, l5⟩ := sg_cells HX7.out
  have z0 : ∀ z : PbZ p sb (.slice AE M.length cE) m, z.at'.cell? ⟨p, 5, none⟩ = some (.slice AE M.length cE) := fun z => z.h0
  have z1 : ∀ z : PbZ p sb (.slice AE M.length cE) m, z.at'.cell? ⟨sb, 0, none⟩ = some (.int .i64 m.s.head.epoch) := fun z => z.h1
  have z2 : ∀ z : PbZ p sb (.slice AE M.length cE) m, z.at'.cell? ⟨sb, 1, none⟩ = some (.string m.s.head.root) := fun z => z.h2
  have z3 : ∀ z : PbZ p sb (.slice AE M.length cE) m, z.at'.cell? ⟨sb, 2, none⟩ = some (.string m.s.head.prev) := fun z => z.h3
  have z4 : ∀ z : PbZ p sb (.slice AE M.length cE) m, z.at'.cell? ⟨sb, 3, none⟩ = some (.int .i64 m.s.key) := fun z => z.h4
  have z5 : ∀ z : PbZ p sb (.slice AE M.length cE) m, z.at'.cell? ⟨sb, 4, none⟩ = some (.slice m.A m.s.sig.length m.ca) := fun z => z.h5
  have z6 : ∀ z : PbZ p sb (.slice AE M.length cE) m, z.at'.cell? ⟨sb, 5, none⟩ = some (.slice m.B m.s.path.length m.cb) := fun z => z.h6
  have zn : Nonempty (PbZ p sb (.slice AE M.length cE) m) := ⟨⟨w7.drew, r0, l0, l1, l2, l3, l4, l5⟩⟩
  refine wp_region_taken (fun w' => ∃ z : PbZ p sb (.slice AE M.length cE) m, w' = z.at') [0, 1, 2, 3, 4, 5] [6, 7, 8, 9, 10] (by kernel_rfl) (by kernel_rfl) (by intro c d v a w h; cases d <;> exact h) ⟨⟨w7.drew, r0, l0, l1, l2, l3, l4, l5⟩, rfl⟩ ?_
  simp only [pickOps, List.filterMap_cons, List.filterMap_nil, List.getElem?_cons_zero, List.getElem?_cons_succ]
  repeat (first | go_big_quiet_step (fail) | quiet_step (fail))
  refine wpQuiet_nil ?_
  have HPL := Lib.hid (show p < w7.heap.size ∧ sb < w7.heap.size from by have := HPS.out.1; have := HQ.out; have := HW7.out; omega)
  have HZZ := Lib.hid (show ∀ u : World, Below w7.heap.size w7 u → ∃ z : PbZ p sb (.slice AE M.length cE) m, u = z.at' from fun u hu =>
    Holds.pbZ ((hu.cell (p := ⟨p, 5, none⟩) HPL.out.1).trans r0) (HX7.out.below hu HPL.out.2))
  clear z0 z1 z2 z3 z4 z5 z6 zn
  refine wpSeq_one rfl (fun K' hK => ?_)
  go_wp2
  refine hK _ _ (HZZ.out _ ((Below.refl _ _).alloc (Nat.le_refl _) _).drew) ?_
  clear hK K'
  have HROW := Lib.hid (show Row w7.drew (p + 1) 6 (.slice AE M.length cE) M.length (sgCells M) from HD7.out.row.drew)
  refine wpSeq_one rfl (fun K' hK => ?_)
  refine wpList_append_cells rfl (.tmp 64) (.tmp 66) 41 rfl 54 Tryz.underlying41 _ 6 96 infoSg rfl (by decide) (by decide) (p + 1) (.slice AE M.length cE) M.length (sgCells M) rfl (HROW.out.alloc _) (by have := HPL.out.1; simp; omega) (by have := HMD.out; have := H8.out; omega) m.cells rfl (by intro u hu; simp [SgM.cells] at hu; rcases hu with rfl | rfl | rfl | rfl | rfl | rfl <;> rfl) w7.heap.size rfl 54 (heap_alloc_new _ _) ?_
  intro v9 w9 hrow9 hgrow9 hmove9
  obtain ⟨q9, cap9, rfl⟩ := hrow9.out.any
  have HLM := Lib.hid (show SgLie (Calm (fun k => F k ∨ (w.heap.size < k ∧ k < w4.heap.size)) p mh mw (.slice AE M.length cE)) w7.drew m from
    (HM7.out.same (w' := w7.drew) ⟨Nat.le_refl _, fun _ _ => rfl⟩).mono fun k hk => by
      have h1 := HPS.out
      have h2 := HQ.out
      exact ⟨.inr ⟨by omega, by omega⟩, by omega, by omega, by omega, fun e => by have := HVB.out k e; omega⟩)
  have HPU := Lib.hid (DMem.pushE (u := w7.drew) (HD7.out.same ⟨Nat.le_refl _, fun _ _ => rfl⟩) m HLM.out hrow9.out hgrow9.out hmove9.out)
  have HBLK := Lib.hid (show ∀ k, k < w7.heap.size → (Value.slice AE M.length cE).ownBlock ≠ some k → w9.heap[k]? = w7.heap[k]? from fun k hk hv =>
    (hgrow9.out.block k (by simp; omega) (fun e => hv e.symm)).trans ((alloc_below w7.drew _).block k hk))
  have HPV := Lib.hid (show (Value.slice AE M.length cE).ownBlock ≠ some p from HD7.out.row.fresh (Nat.lt_succ_self p))
  have HSV := Lib.hid (show (Value.slice AE M.length cE).ownBlock ≠ some sb ∧ (Value.slice AE M.length cE).ownBlock ≠ some w.heap.size from ⟨fun e => by have := HVB.out _ e; have := HQ.out; omega, fun e => by have := HVB.out _ e; omega⟩)
  have HX9 := Lib.hid (show Holds w9 sb 6 (sgF m.s.head m.s.key (.slice m.A m.s.sig.length m.ca) (.slice m.B m.s.path.length m.cb)) 54 from by
    have h1 := HX7.out
    unfold Holds at h1 ⊢
    rw [HBLK.out sb HPL.out.2 HSV.out.1]; exact h1)
  have HQ9 := Lib.hid (show Holds w9 w.heap.size 6 (sgF noHd 0 (.slice none 0 0) (.slice none 0 0)) 54 from by
    have h1 := HZ7.out
    unfold Holds at h1 ⊢
    rw [HBLK.out w.heap.size HZ7.out.lt HSV.out.2]; exact h1)
  have HP9 := Lib.hid (show Holds w9 p 6 (pdF d.secret bb mh mw (.slice A2 J.length c2) (.slice AE M.length cE)) 134 from by
    have h1 := HD7.out.own
    unfold Holds at h1 ⊢
    rw [HBLK.out p HPL.out.1 HPV.out]; exact h1)
  have HZ9 := Lib.hid (show ∃ z : PbZ p sb (.slice AE M.length cE) m, w9 = z.at' from Holds.pbZ (HP9.out.cell 5 (by omega)) HX9.out)
  have t6 : w9.cell? ⟨p, 5, none⟩ = some (.slice AE M.length cE) := HP9.out.cell 5 (by omega)
  have t6f : w9.frozen? ⟨p, 5, none⟩ = false := HP9.out.free 5
  have HOFF := Lib.hid (show Off F w (w9.setCell ⟨p, 5, none⟩ (.slice q9 (M.length + 1) cap9)) from
    (((HO7.out.drew.alloc _).trans (Off.of_grown hgrow9.out (F := F) (fun k hk => HD.out.fv k hk)) (fun _ _ h => h)).setCell (.inr HD.out.fp) _))
  have HXA := Lib.hid (HX9.out.other (a := ⟨p, 5, none⟩) (show sb ≠ p by have := HQ.out; have := HPS.out.1; omega) (.slice q9 (M.length + 1) cap9))
  have HQA := Lib.hid (HQ9.out.other (a := ⟨p, 5, none⟩) (show w.heap.size ≠ p by have := HPS.out.1; omega) (.slice q9 (M.length + 1) cap9))
  have HSA := Lib.hid (show w7.heap.size ≤ (w9.setCell ⟨p, 5, none⟩ (.slice q9 (M.length + 1) cap9)).heap.size from by rw [setCell_size]; have := hgrow9.out.size; simp at this; omega)
  clear r0 l0 l1 l2 l3 l4 l5 HX9 HQ9 HP9 hrow9 hgrow9 hmove9 HROW HLM
  refine hK _ _ HZ9.out ?_
  clear hK K'
  refine wpSeq_one rfl (fun K' hK => ?_)
  go_wp2
  refine hK _ _ HZ9.out ?_
  clear hK K'
  refine wpSeq_one rfl (fun K' hK => ?_)
  go_wp2
  refine hK _ _ HZ9.out ?_
  clear hK K'
  refine wpSeq_last rfl (fun K' hK => ?_)
  go_wp2
  refine hK _ _ ?_
  clear hK K' t6 t6f
  clear HZ9 HZZ HBLK HPV HSV HX7 HZ7 HM7 HD7 HO7
  generalize hwA : w9.setCell ⟨p, 5, none⟩ (.slice q9 (M.length + 1) cap9) = wA at HPU HOFF HXA HQA HSA ⊢
  have HWA := Lib.hid (show w9.heap.size = wA.heap.size from by rw [← hwA, setCell_size])
  clear hwA
  obtain ⟨l0, l1, l2, l3, l4, l5⟩ := sg_cells HXA.out
  go_wp2_with fail
  clear l0 l1 l2 l3 l4 l5
  have HMA := Lib.hid (HPU.out.sgs m (List.mem_append_right _ (List.mem_singleton.2 rfl)))
  refine (pCopyOf_is m _ (by have := HDIM.out.1; omega) (by have := HDIM.out.2; omega) HMA.out.sig HMA.out.path).mono ?_
  rintro e wB ⟨mm, rfl, hmm, hbB, hin⟩
  obtain ⟨⟨x, kk, S, P⟩, A, ca, B, cb⟩ := mm
  have HBB := Lib.hid hbB
  have HMM := Lib.hid (show (⟨x, kk, S, P⟩ : Sgn) = m.s from hmm)
  have HIN := Lib.hid hin
  have HQB := Lib.hid (HQA.out.below hbB HQA.out.lt)
  obtain ⟨z0, z1, z2, z3, z4, z5⟩ := sg_cells HQB.out
  have q0 : wB.frozen? ⟨w.heap.size, 0, none⟩ = false := HQB.out.free 0
  have q1 : wB.frozen? ⟨w.heap.size, 1, none⟩ = false := HQB.out.free 1
  have q2 : wB.frozen? ⟨w.heap.size, 2, none⟩ = false := HQB.out.free 2
  have q3 : wB.frozen? ⟨w.heap.size, 3, none⟩ = false := HQB.out.free 3
  have q4 : wB.frozen? ⟨w.heap.size, 4, none⟩ = false := HQB.out.free 4
  have q5 : wB.frozen? ⟨w.heap.size, 5, none⟩ = false := HQB.out.free 5
  have HFIN := Lib.hid (put6_holds HQB.out x kk (.slice A S.length ca) (.slice B P.length cb))
  have HWW := Lib.hid (show w.heap.size < wA.heap.size from HQA.out.lt)
  have HFS := Lib.hid (put6_strs HIN.out.sig (fun a e l => by have := HIN.out.fs a e l; have := HWW.out; show w.heap.size < a.block; omega) x kk (.slice A S.length ca) (.slice B P.length cb))
  have HFP := Lib.hid (put6_strs HIN.out.path (fun a e l => by have := HIN.out.fp a e l; have := HWW.out; show w.heap.size < a.block; omega) x kk (.slice A S.length ca) (.slice B P.length cb))
  clear hmm hbB hin
  go_wp2
  refine bodyPost_ret (results_row2 rfl _ _ w.heap.size 54 (arr 6 (sgF x kk (.slice A S.length ca) (.slice B P.length cb))) (0, 0) _ rfl HFIN.out Tryz.underlying54 rfl (by rw [arr_size]; exact infoSg6)) rfl ?_
  clear q0 q1 q2 q3 q4 q5
  have HZF := Lib.hid (show (put6 wB w.heap.size x kk (.slice A S.length ca) (.slice B P.length cb)).heap.size = wB.heap.size from put6_size _ _ _ _ _ _)
  have HOF := Lib.hid (show Off F w (put6 wB w.heap.size x kk (.slice A S.length ca) (.slice B P.length cb)) from
    (((((((HOFF.out.then HBB.out).setCell (a := ⟨w.heap.size, 0, none⟩) (.inl (Nat.le_refl _)) _).setCell (a := ⟨w.heap.size, 1, none⟩) (.inl (Nat.le_refl _)) _).setCell (a := ⟨w.heap.size, 2, none⟩) (.inl (Nat.le_refl _)) _).setCell (a := ⟨w.heap.size, 3, none⟩) (.inl (Nat.le_refl _)) _).setCell (a := ⟨w.heap.size, 4, none⟩) (.inl (Nat.le_refl _)) _).setCell (a := ⟨w.heap.size, 5, none⟩) (.inl (Nat.le_refl _)) _))
  have HFD := Lib.hid (HPU.out.same (w' := put6 wB w.heap.size x kk (.slice A S.length ca) (.slice B P.length cb)) ⟨by rw [HZF.out]; exact HBB.out.size, fun k hk => by
    have h1 := hk.2
    have h2 := HWA.out
    have h3 := HPS.out
    have h4 := HQ.out
    have h5 := HW7.out
    have h6 : k ≠ w.heap.size := by
      rcases hk.1 with (e | e) | e
      · have := h3.2.2.2 k e; omega
      · omega
      · have e : w7.heap.size ≤ k := e
        omega
    exact (put6_block _ _ _ _ _ _ k h6).trans (HBB.out.block k (by omega))⟩)
  have hms := HMS.out
  have hsg := HSG.out
  have hnx : (M ++ [m]).map (·.s) = (Pub.over.next d).eps := by
    rw [List.map_append, HME.out]
    show d.eps ++ [m.s] = d.eps ++ [Pub.over.sgn d]
    rw [hsg, hms]
  have hits : overIts (Pub.over.next d) = J := HJ.out
  have hsay : Says (Pub.over.next d) N := says_next HOK.out HSY.out HFRE.out HN5.out _
  refine ⟨⟨⟨x, kk, S, P⟩, A, ca, B, cb⟩, (fun k => ((F k ∨ (w.heap.size < k ∧ k < w4.heap.size)) ∨ w7.drew.heap.size ≤ k) ∧ k < w9.heap.size), ?_, rfl, HOF.out, ?_, ⟨bb, mh, mw, (.slice A2 J.length c2), (.slice q9 (M.length + 1) cap9), N, M ++ [m], ?_, hnx, hsay⟩, HFS.out, HFP.out, ?_, ?_, HIN.out.cp⟩
  · show (⟨x, kk, S, P⟩ : Sgn) = _
    rw [HMM.out, hms, hsg]
  · exact fun k hk => by
      rcases hk.1 with (e | e) | e
      · exact .inl e
      · exact .inr (by omega)
      · have e : w7.heap.size ≤ k := e
        have := HQ.out
        have := HW7.out
        exact .inr (by omega)
  · rw [hits]
    exact HFD.out
  · intro a e l
    have := HIN.out.fs a e l
    have := HWW.out
    show w.heap.size ≤ a.block
    omega
  · intro a e l
    have := HIN.out.fp a e l
    have := HWW.out
    show w.heap.size ≤ a.block
    omega
end Go.Proofs.YtcfpmofmjnhonaaGreatDoor
/- The program's directory: Put. -/
namespace Go.Proofs.YtcfpmofmjnhonaaGreatDoor
open Go.RowKit Go.Maps

set_option maxHeartbeats 1000000 in
set_option maxRecDepth 100000 in
theorem pPut_is (F : Nat → Prop) (p : Nat) (d d' : Dst) (name value : ByteArray) (n : Int) (w : World) (hd : PDir F w p d) (hok : DOk d) (hn : name.size ≤ 1000000) (h : putAns d name value = (d', n)) :
    Calls Tryz.prog 17 #[.pointer (some ⟨p, 0, none⟩), .string name, .string value] w fun e w' => e = .returned (errOf n) ∧ Off F w w' ∧ PDir F w' p d' := by
  obtain ⟨bb, mh, mw, vi, ve, H, M, hd, hME, hSy⟩ := hd
  have HD := Lib.hid hd
  have HN := Lib.hid hn
  have HME := Lib.hid hME
  have HSY := Lib.hid hSy
  have HOK := Lib.hid hok
  have hHL : H.length ≤ 60 ∧ d.wait.length ≤ 61 := ⟨by have := names_room hok hd.has.keys hSy; omega, hok.wait_len⟩
  have HHL := Lib.hid hHL
  have HCT := Lib.hid (names_count hok hd.has.keys hSy name)
  have HRM := Lib.hid (names_room hok hd.has.keys hSy)
  clear hd hn hME hSy hok hHL
  unfold putAns at h
  by_cases hnm : nameOk name.data.toList = true
  · rw [if_pos hnm] at h
    have HNM := Lib.hid hnm
    clear hnm
    by_cases h0 : value.size = 0
    · rw [if_neg (by omega)] at h
      obtain ⟨rfl, rfl⟩ := Prod.mk.inj h
      have hv0 : ((value.size : Nat) : Int) < 1 := by omega
      clear h h0
      go_enter Tryz.func17, Tryz.ntmps17
      go_wp2_with fail
      refine (name_any name _).mono ?_
      rintro e w ⟨rfl, rfl⟩
      rw [HNM.out]
      go_wp2
      go_ret
      exact ⟨rfl, Off.refl _ _, bb, mh, mw, vi, ve, H, M, HD.out, HME.out, HSY.out⟩
    by_cases h24 : 24 < value.size
    · rw [if_neg (by omega)] at h
      obtain ⟨rfl, rfl⟩ := Prod.mk.inj h
      have hv0 : ¬ ((value.size : Nat) : Int) < 1 := by omega
      have hv1 : 24 < ((value.size : Nat) : Int) := by omega
      clear h h0 h24
      go_enter Tryz.func17, Tryz.ntmps17
      go_wp2_with fail
      refine (name_any name _).mono ?_
      rintro e w ⟨rfl, rfl⟩
      rw [HNM.out]
      go_wp2
      go_ret
      exact ⟨rfl, Off.refl _ _, bb, mh, mw, vi, ve, H, M, HD.out, HME.out, HSY.out⟩
    rw [if_pos (show 1 ≤ value.size ∧ value.size ≤ 24 by omega)] at h
    have hv0 : ¬ ((value.size : Nat) : Int) < 1 := by omega
    have hv1 : ¬ 24 < ((value.size : Nat) : Int) := by omega
    have HVS := Lib.hid (show value.size ≤ maxLen by unfold maxLen; omega)
    have HH := Lib.hid h
    clear h h0 h24
    go_enter Tryz.func17, Tryz.ntmps17
    go_wp2_with fail
    refine (name_any name _).mono ?_
    rintro e w ⟨rfl, rfl⟩
    rw [HNM.out]
    go_wp2_with fail
    clear hv0 hv1
    refine (pIsNew_any name _ HD.out HN.out).mono ?_
    rintro e w1 ⟨rfl, hb1⟩
    have HB1 := Lib.hid hb1
    have HD1 := Lib.hid (HD.out.same (same_of_below hb1 HD.out.lt))
    clear hb1
    obtain ⟨B, hB⟩ : ∃ B, newName H d.wait name = B := ⟨_, rfl⟩
    have HBN := Lib.hid hB
    rw [hB] at HCT ⊢
    clear hB
    cases B
    · have hh := HH.out
      rw [if_pos (by have := HCT.out; have := HRM.out; rw [HCT.out, if_neg (by decide)]; omega)] at hh
      obtain ⟨rfl, rfl⟩ := Prod.mk.inj hh
      have c3 : w1.cell? ⟨p, 3, none⟩ = some (.map (some mw)) := HD1.out.own.cell 3 (by omega)
      clear hh
      go_wp2_with (first | (at_mapUpdate; refine wpList_mapPut kS rfl (.tmp 32) (.tmp 33) (.tmp 34) rfl mw d.wait rfl HD1.out.wait (by have := HHL.out.2; omega) name HN.out rfl value HVS.out rfl ?_; intro w7 hm7 hg7))
      go_wp2
      go_ret
      exact ⟨rfl, (Off.of_below HB1.out).trans (Off.of_grown hg7.out (F := F) (fun k hk => by cases hk; exact HD.out.fw)) (fun _ _ h => h), bb, mh, mw, vi, ve, H, M, HD1.out.putW hg7.out hm7.out, HME.out, HSY.out⟩
    · go_wp2_with fail
      refine (pNames_any _ HD1.out (by have := HHL.out.1; omega) (by have := HHL.out.2; omega)).mono ?_
      rintro e w2 ⟨rfl, hb2⟩
      have HB2 := Lib.hid (HB1.out.trans (hb2.mono HB1.out.size))
      have HD2 := Lib.hid (HD1.out.same (same_of_below hb2 HD1.out.lt))
      clear hb2 HD1
      obtain ⟨q, hq⟩ : ∃ q, H.length + countNew H (keysL d.wait) = q := ⟨_, rfl⟩
      rw [hq] at HCT HRM ⊢
      clear hq
      by_cases h60 : q < 60
      · have hh := HH.out
        rw [if_pos (by have := HCT.out; rw [HCT.out, if_pos trivial]; omega)] at hh
        obtain ⟨rfl, rfl⟩ := Prod.mk.inj hh
        have c3 : w2.cell? ⟨p, 3, none⟩ = some (.map (some mw)) := HD2.out.own.cell 3 (by omega)
        have hq60 : ¬ (60 : Int) ≤ (q : Int) := by omega
        clear hh h60
        go_wp2_with (first | (at_mapUpdate; refine wpList_mapPut kS rfl (.tmp 32) (.tmp 33) (.tmp 34) rfl mw d.wait rfl HD2.out.wait (by have := HHL.out.2; omega) name HN.out rfl value HVS.out rfl ?_; intro w7 hm7 hg7))
        go_wp2
        go_ret
        exact ⟨rfl, (Off.of_below HB2.out).trans (Off.of_grown hg7.out (F := F) (fun k hk => by cases hk; exact HD.out.fw)) (fun _ _ h => h), bb, mh, mw, vi, ve, H, M, HD2.out.putW hg7.out hm7.out, HME.out, HSY.out⟩
      · have hh := HH.out
        rw [if_neg (by rw [HCT.out, if_pos trivial]; omega)] at hh
        obtain ⟨rfl, rfl⟩ := Prod.mk.inj hh
        have hq60 : (60 : Int) ≤ (q : Int) := by omega
        clear hh h60
        go_wp2
        go_ret
        exact ⟨rfl, Off.of_below HB2.out, bb, mh, mw, vi, ve, H, M, HD2.out, HME.out, HSY.out⟩
  · rw [if_neg hnm] at h
    obtain ⟨rfl, rfl⟩ := Prod.mk.inj h
    have HNM := Lib.hid (show nameOk name.data.toList = false by simpa using hnm)
    clear hnm h
    go_enter Tryz.func17, Tryz.ntmps17
    go_wp2_with fail
    refine (name_any name _).mono ?_
    rintro e w ⟨rfl, rfl⟩
    rw [HNM.out]
    go_wp2
    go_ret
    exact ⟨rfl, Off.refl _ _, bb, mh, mw, vi, ve, H, M, HD.out, HME.out, HSY.out⟩
end Go.Proofs.YtcfpmofmjnhonaaGreatDoor
