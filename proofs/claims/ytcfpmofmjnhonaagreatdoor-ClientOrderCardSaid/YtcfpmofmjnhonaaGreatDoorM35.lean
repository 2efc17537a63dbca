/- Parts of the proof, one behind the other: StepLaw, OpenN. -/
import Derived.Test.YtcfpmofmjnhonaaGreatDoorM34
import Derived.Test.YtcfpmofmjnhonaaGreatDoorM31
import Derived.Test.YtcfpmofmjnhonaaGreatDoorM32
import Derived.Test.YtcfpmofmjnhonaaGreatDoorM33
import Derived.ChangeSlices
/- ClientOrder, the walk, over whatever contracts the program's directory and client keep, where Publish tells right items only. -/
namespace Go.Proofs.YtcfpmofmjnhonaaGreatDoor
open Go.RowKit Go.Maps

/-- Where ClientOrder stands. -/
structure CoAt (DF : DirFace) (FC : ClientFace) (w wr : World) (p pc : Nat) (F G : Nat → Prop) (d : Dst) (c : Cl) (AE : Option Addr) (ME : List SgM) : Prop where
  below : Below w.heap.size w wr
  di : DF.Is F wr p d
  ci : FC.Is G wr pc c
  fg : ∀ k, F k → ¬ G k
  gb : ∀ k, G k → w.heap.size ≤ k
  sg : Sgs wr AE ME
  ae : ∀ a, AE = some a → 0 < ME.length → ¬ G a.block
  tx : ∀ m ∈ ME, (∀ a, m.A = some a → 0 < m.s.sig.length → ¬ G a.block) ∧ (∀ a, m.B = some a → 0 < m.s.path.length → ¬ G a.block)
theorem CoAt.calm {DF : DirFace} {FC : ClientFace} {w wr w' : World} {p pc : Nat} {F G : Nat → Prop} {d : Dst} {c : Cl} {AE : Option Addr} {ME : List SgM} (h : CoAt DF FC w wr p pc F G d c AE ME) (hb : Below wr.heap.size wr w') : CoAt DF FC w w' p pc F G d c AE ME :=
  ⟨h.below.trans (hb.mono h.below.size), DF.same h.di (same_of_below hb (DF.lt h.di)), FC.same h.ci (same_of_below hb (FC.lt h.ci)), h.fg, h.gb, h.sg.below hb, h.ae, h.tx⟩
theorem CoAt.prog {DF : DirFace} {FC : ClientFace} {w wr w' : World} {p pc : Nat} {F G G' : Nat → Prop} {d : Dst} {c c' : Cl} {AE : Option Addr} {ME : List SgM} (h : CoAt DF FC w wr p pc F G d c AE ME) (ho : Off G wr w') (hg : Grew wr G G') (hi : FC.Is G' w' pc c') : CoAt DF FC w w' p pc F G' d c' AE ME where
  below := h.below.trans (ho.below h.gb h.below.size)
  di := DF.same h.di (ho.same (DF.lt h.di) h.fg)
  ci := hi
  fg := hg.apart (DF.lt h.di) h.fg
  gb := hg.base h.gb h.below.size
  sg := h.sg.aside ho h.ae h.tx
  ae a e l hf := by
    rcases hg _ hf with g | g
    · exact h.ae a e l g
    · obtain ⟨a', e', hl, _⟩ := h.sg 0 _ (List.getElem?_eq_getElem l)
      rw [e] at e'
      obtain rfl := Option.some.inj e'
      omega
  tx m hm := by
    obtain ⟨i, hi⟩ := List.getElem?_of_mem hm
    obtain ⟨_, _, _, _, _, _, _, _, _, hs, hp, _⟩ := h.sg i m hi
    obtain ⟨h1, h2⟩ := h.tx m hm
    refine ⟨fun a e l hf => ?_, fun a e l hf => ?_⟩
    · rcases hg _ hf with g | g
      · exact h1 a e l g
      · have := hs.lt a e l; omega
    · rcases hg _ hf with g | g
      · exact h2 a e l g
      · have := hp.lt a e l; omega

set_option maxHeartbeats 8000000 in
set_option maxRecDepth 100000 in
theorem clientOrder_any (DF : DirFace) (FC : ClientFace) (L : List Hd) (A : Option Addr) (ca : Nat) (S : List Int) (AS : Option Addr) (cs : Nat) (other : ByteArray) (w : World) (hk : HasK w) (ha : Hds w A L) (hs : Nums w AS S) (hg : w.cell? ⟨0, 0, none⟩ = some (.iface 290 (.agg #[hand 33]))) :
    Calls Tryz.prog 8 #[.slice A L.length ca, .slice AS S.length cs, .string other] w fun e w' => e = .returned (.bool true) ∧ Below w.heap.size w w' := by
  have HK := Lib.hid hk
  have HA := Lib.hid ha
  have HS := Lib.hid hs
  have HG := Lib.hid hg
  have HGL := Lib.hid (show (0 : Nat) < w.heap.size from block_lt_of_cell hg)
  have HE0 := Lib.hid (show errOf 0 = Value.nilIface from rfl)
  clear hk ha hg hs
  go_enter Tryz.func8, Tryz.ntmps8
  go_wp2_with fail
  refine (few_any L A ca _ HA.out).mono ?_
  rintro e w1 ⟨hb1, b, rfl, hf⟩
  have HB1 := Lib.hid hb1
  clear hb1
  cases b
  case false =>
    go_wp2
    go_ret
    exact ⟨rfl, HB1.out⟩
  have HL := Lib.hid (hf rfl)
  clear hf
  by_cases hsl : 20 < S.length
  · have hsl2 : (20 : Int) < (S.length : Int) := by omega
    go_wp2
    go_ret
    exact ⟨rfl, HB1.out⟩
  have hsl2 : ¬ (20 : Int) < (S.length : Int) := by omega
  by_cases hnm : 40 < other.size
  · go_wp2
    go_ret
    exact ⟨rfl, HB1.out⟩
  have HNM := Lib.hid (show other.size ≤ 40 ∧ S.length ≤ 20 by omega)
  go_wp2_with fail
  clear hnm hsl hsl2
  refine (told_any DF FC _ (HK.out.below HB1.out HK.out.lt)).mono ?_
  rintro e w2 ⟨rfl, hb2⟩
  have HB2 := Lib.hid (HB1.out.trans (hb2.mono HB1.out.size))
  clear hb2
  go_wp2_with fail
  refine (play_any DF L A ca _ (HK.out.below HB2.out HK.out.lt) (HA.out.below HB2.out) (by have := HL.out.1; omega) (fun x hx => by have := HL.out.2 x hx; omega)).mono ?_
  rintro e w5 ⟨p, F, v, rfl, hb5, hd5, hf5, -⟩
  have HB5 := Lib.hid (HB2.out.trans (hb5.mono HB2.out.size))
  have HD5 := Lib.hid hd5
  have HF5 := Lib.hid (show ∀ k, F k → w.heap.size ≤ k from fun k hk => Nat.le_trans HB2.out.size (hf5 k hk))
  have HOK := Lib.hid (show DOk (playK DF.pa (newDst sec16) L) ∧ EpsDim (playK DF.pa (newDst sec16) L) ∧ (playK DF.pa (newDst sec16) L).secret = sec16 from ⟨playK_ok (newDst_ok sec16_size) L, playK_dim' DF.pa L, playK_sec DF.pa L⟩)
  have HCH := Lib.hid (playK_linked (pa := DF.pa) L (newDst_chained sec16))
  clear hb5 hd5 hf5
  generalize playK DF.pa (newDst sec16) L = d at HD5 HOK HCH
  go_wp2_with fail
  refine (DF.pub F p d _ HD5.out HOK.out.1 (HK.out.below HB5.out HK.out.lt)).mono ?_
  rintro e w6 ⟨rfl, hb6⟩
  obtain ⟨pub, hpub⟩ : ∃ pub, boxPub (dirSeed d.secret) = pub := ⟨_, rfl⟩
  have HPUB := Lib.hid (show dirPub d.secret = pub from hpub)
  rw [hpub]
  have HP16 := Lib.hid (show pub.size = 16 from by rw [← hpub]; exact rowsOf_size _ _ (by omega))
  have HB6 := Lib.hid (HB5.out.trans (hb6.mono HB5.out.size))
  have HD6 := Lib.hid (DF.same HD5.out (same_of_below hb6 (DF.lt HD5.out)))
  clear hb6 hpub HD5
  go_wp2_with fail
  refine (FC.new pub _ HP16.out (HK.out.below HB6.out HK.out.lt)).mono ?_
  rintro e w7 ⟨pc, G0, rfl, hb7, hc7, hgf⟩
  have HB7 := Lib.hid (HB6.out.trans (hb7.mono HB6.out.size))
  have HD7 := Lib.hid (DF.same HD6.out (same_of_below hb7 (DF.lt HD6.out)))
  have HC7 := Lib.hid hc7
  have HGF := Lib.hid (show (∀ k, F k → ¬ G0 k) ∧ (∀ k, G0 k → w.heap.size ≤ k) ∧ ∀ k, G0 k → k < w7.heap.size from ⟨fun k h1 h2 => by have := DF.lt HD6.out k h1; have := hgf k h2; omega, fun k h => Nat.le_trans HB6.out.size (hgf k h), FC.lt hc7⟩)
  clear hb7 hc7 hgf HD6
  go_wp2_with fail
  refine (DF.epochs F p d _ HD7.out HOK.out.1 (HK.out.below HB7.out HK.out.lt)).mono ?_
  rintro e w8 ⟨AE, ce, ME, rfl, hme, hmc, hb8, hsg8, hna, hnt⟩
  have HGA := Lib.hid hna
  have HGT := Lib.hid hnt
  have HME := Lib.hid hme
  have HLN := Lib.hid (show ME.length = d.eps.length by rw [← hme, List.length_map])
  have hm8 : ME.length ≤ 8 := by rw [HLN.out]; exact HOK.out.1.few
  have HDM := Lib.hid (show ∀ m ∈ ME, SgnDim m.s from fun m hm => HOK.out.2.1 m.s (by rw [← HME.out]; exact List.mem_map_of_mem hm))
  have HCO := Lib.hid (show CoAt DF FC w w8 p pc F G0 d ⟨pub, (headsOf d).take 0⟩ AE ME from
    ⟨HB7.out.trans (hb8.mono HB7.out.size), DF.same HD7.out (same_of_below hb8 (DF.lt HD7.out)), FC.same HC7.out (same_of_below hb8 (FC.lt HC7.out)), HGF.out.1, HGF.out.2.1, hsg8, HGA.out.apart HGF.out.1 HGF.out.2.2, fun m hm => ⟨(HGT.out m hm).1.apart HGF.out.1 HGF.out.2.2, (HGT.out m hm).2.apart HGF.out.1 HGF.out.2.2⟩⟩)
  clear hme hmc hb8 hsg8 hna hnt HC7 HD7
  go_wp2
  go_loopw [12, 13] (fun hn i wr => ∃ (k n : Nat), k ≤ S.length ∧ n ≤ ME.length ∧ i = .int .i64 (k : Int) ∧ hn = .int .i64 (n : Int) ∧ Hid (∃ G, CoAt DF FC w wr p pc F G d ⟨pub, (headsOf d).take n⟩ AE ME)) (fun _ i _ => S.length - (intOf i).toNat)
  case atStart => exact ⟨0, 0, by omega, by omega, rfl, rfl, Lib.hid ⟨G0, HCO.out⟩⟩
  case round =>
    clear HCO
    obtain ⟨k, n, hk, hn, rfl, rfl, HU⟩ := hrel
    obtain ⟨G, hco⟩ := HU.out
    have HCO := Lib.hid hco
    clear hco HU
    by_cases hlt : k < S.length ∧ 0 < ME.length
    · obtain ⟨hlt, h0⟩ := hlt
      have h0i : (0 : Int) < (ME.length : Int) := by omega
      obtain ⟨v, hv⟩ : ∃ v, S[k]? = some v := ⟨_, List.getElem?_eq_getElem hlt⟩
      obtain ⟨qs, rfl, -, c0⟩ := (HS.out.below HCO.out.below HS.out.lt) k v hv
      have hk0 : (0 : Int) ≤ (k : Int) := by omega
      have hk1 : (k : Int) < (S.length : Int) := by omega
      clear hv
      go_wp2_with fail
      refine (pick_any v ME.length _ h0 (by omega)).mono ?_
      rintro e w9 ⟨hw9, r, hr, rfl⟩
      subst hw9
      clear c0
      obtain ⟨m, hm⟩ : ∃ m, ME[r]? = some m := ⟨_, List.getElem?_eq_getElem hr⟩
      have HDE := Lib.hid (show d.eps[r]? = some m.s by rw [← HME.out, List.getElem?_map, hm]; rfl)
      have HMM := Lib.hid (List.mem_of_getElem? hm)
      obtain ⟨a, rfl, hal, c0, c1, c2, c3, c4, c5, hs, hp⟩ := HCO.out.sg.six' hm
      have HSS := Lib.hid hs
      have HPP := Lib.hid hp
      have hr0 : (0 : Int) ≤ (r : Int) := by omega
      have hr1 : (r : Int) < (ME.length : Int) := by omega
      have HHL := Lib.hid (show ∀ j, j ≤ ME.length → ((headsOf d).take j).length = j from fun j hj => by rw [List.length_take]; unfold headsOf; rw [List.length_map, ← HLN.out]; omega)
      have HSEE := Lib.hid (show seeAns ⟨pub, (headsOf d).take n⟩ m.s = if n < r then (⟨pub, (headsOf d).take n⟩, 10) else if n = r then (⟨pub, (headsOf d).take (n + 1)⟩, 0) else (⟨pub, (headsOf d).take n⟩, 0) from by
        have h := see_eps HOK.out.1 HCH.out HDE.out (n := n) (by rw [← HLN.out]; omega)
        rwa [HPUB.out] at h)
      obtain ⟨n', er, hn', hse, hcase⟩ : ∃ (n' : Nat) (er : Int), n' ≤ ME.length ∧ seeAns ⟨pub, (headsOf d).take n⟩ m.s = (⟨pub, (headsOf d).take n'⟩, er) ∧ ((n < r ∧ n' = n ∧ er = 10) ∨ (r = n ∧ n' = n + 1 ∧ er = 0) ∨ (r < n ∧ n' = n ∧ er = 0)) := by
        have h := HSEE.out
        by_cases c1 : n < r
        · rw [if_pos c1] at h
          exact ⟨n, 10, hn, h, .inl ⟨c1, rfl, rfl⟩⟩
        · rw [if_neg c1] at h
          by_cases c2 : n = r
          · rw [if_pos c2] at h
            exact ⟨n + 1, 0, by omega, h, .inr (.inl ⟨c2.symm, rfl, rfl⟩)⟩
          · rw [if_neg c2] at h
            exact ⟨n, 0, hn, h, .inr (.inr ⟨by omega, rfl, rfl⟩)⟩
      have HSE := Lib.hid hse
      have HCS := Lib.hid hcase
      clear hm hs hp hal hse hcase HSEE
      go_wp2_with fail
      clear c0 c1 c2 c3 c4 c5
      refine (FC.see G pc ⟨pub, (headsOf d).take n⟩ ⟨pub, (headsOf d).take n'⟩ m.s.head m.s.key m.s.sig m.s.path m.A m.B m.ca m.cb er _ HCO.out.ci (HK.out.below HCO.out.below HK.out.lt) (by show ((headsOf d).take n).length ≤ 1000; rw [HHL.out n hn]; omega) (by have := (HDM.out m HMM.out).sig; omega) (by have := (HDM.out m HMM.out).path; omega) (HDM.out m HMM.out).ep HSS.out HPP.out (HCO.out.tx m HMM.out).1 (HCO.out.tx m HMM.out).2 HSE.out).mono ?_
      rintro e w10 ⟨rfl, G2, ho10, hg10, hc10⟩
      have HCO2 := Lib.hid (HCO.out.prog ho10 hg10 hc10)
      clear ho10 hg10 hc10 HCO HSE HSS HPP
      rcases HCS.out with ⟨h1, rfl, rfl⟩ | ⟨rfl, rfl, rfl⟩ | ⟨h1, rfl, rfl⟩
      · have H10 := Lib.hid (show errOf 10 = .iface 28 (.int .i64 10) from by unfold errOf; rw [if_neg (by decide)])
        rw [H10.out]
        have h2 : (n' : Int) < (r : Int) := by omega
        clear HCS
        go_wp2_with fail
        refine (tell_errno 10 _ ((HCO2.out.below.cell HGL.out).trans HG.out)).mono ?_
        rintro e w11 ⟨rfl, hb11⟩
        have HCO3 := Lib.hid (HCO2.out.calm hb11)
        clear hb11 HCO2
        go_wp2_with fail
        refine (FC.heads G2 pc ⟨pub, (headsOf d).take n'⟩ _ HCO3.out.ci (HK.out.below HCO3.out.below HK.out.lt) (by show ((headsOf d).take n').length ≤ 1000; rw [HHL.out n' hn']; omega)).mono ?_
        rintro e w12 ⟨AH, cH, rfl, hb12, -⟩
        have HCO4 := Lib.hid (HCO3.out.calm hb12)
        clear hb12 HCO3
        rw [show (Cl.mk pub ((headsOf d).take n')).heads.length = n' from HHL.out n' hn']
        go_wp2
        go_roundw
        case rel => exact ⟨k + 1, n', by omega, hn', by go_num, rfl, Lib.hid ⟨G2, HCO4.out⟩⟩
        case measure => simp [intOf]; omega
      · rw [HE0.out]
        clear HCS
        have h2 : ¬ (r : Int) < (r : Int) := by omega
        go_wp2_with fail
        refine (FC.heads G2 pc ⟨pub, (headsOf d).take (r + 1)⟩ _ HCO2.out.ci (HK.out.below HCO2.out.below HK.out.lt) (by show ((headsOf d).take (r + 1)).length ≤ 1000; rw [HHL.out (r + 1) hn']; omega)).mono ?_
        rintro e w12 ⟨AH, cH, rfl, hb12, -⟩
        have HCO4 := Lib.hid (HCO2.out.calm hb12)
        clear hb12 HCO2
        rw [show (Cl.mk pub ((headsOf d).take (r + 1))).heads.length = r + 1 from HHL.out (r + 1) hn']
        go_wp2
        go_roundw
        case rel => exact ⟨k + 1, r + 1, by omega, hn', by go_num, by go_num, Lib.hid ⟨G2, HCO4.out⟩⟩
        case measure => simp [intOf]; omega
      · rw [HE0.out]
        clear HCS
        have h2 : ¬ (n' : Int) < (r : Int) := by omega
        have h3 : ((r : Int) == (n' : Int)) = false := by rw [beq_eq_false_iff_ne]; omega
        go_wp2_with fail
        refine (FC.heads G2 pc ⟨pub, (headsOf d).take n'⟩ _ HCO2.out.ci (HK.out.below HCO2.out.below HK.out.lt) (by show ((headsOf d).take n').length ≤ 1000; rw [HHL.out n' hn']; omega)).mono ?_
        rintro e w12 ⟨AH, cH, rfl, hb12, -⟩
        have HCO4 := Lib.hid (HCO2.out.calm hb12)
        clear hb12 HCO2
        rw [show (Cl.mk pub ((headsOf d).take n')).heads.length = n' from HHL.out n' hn']
        go_wp2
        go_roundw
        case rel => exact ⟨k + 1, n', by omega, hn', by go_num, rfl, Lib.hid ⟨G2, HCO4.out⟩⟩
        case measure => simp [intOf]; omega
    · have HHN := Lib.hid (show ((headsOf d).take n).length ≤ 1000 from by rw [List.length_take]; omega)
      by_cases hks : k < S.length
      case' pos =>
        have hk1 : (k : Int) < (S.length : Int) := by omega
        have h0 : ¬ (0 : Int) < (ME.length : Int) := by omega
      case' neg =>
        have hk1 : ¬ (k : Int) < (S.length : Int) := by omega
      all_goals
        clear hlt hks hk
        go_wp2_with fail
        clear hk1
        try clear h0
        by_cases h16 : other.size = 16
        · have h16i : ((other.size : Int) != 16) = false := by rw [h16]; rfl
          refine (DF.new_t other _ h16 (HK.out.below HCO.out.below HK.out.lt)).mono ?_
          rintro e w9 ⟨px, F9, rfl, hb9, hd9, hf9⟩
          have HCO9 := Lib.hid (HCO.out.calm hb9)
          have HB9 := Lib.hid hb9
          have HD9 := Lib.hid hd9
          have HF9 := Lib.hid hf9
          clear hb9 hd9 hf9
          by_cases he : other.toList = [48, 49, 50, 51, 52, 53, 54, 55, 56, 57, 97, 98, 99, 100, 101, 102]
          · have heq : (other.toList == [48, 49, 50, 51, 52, 53, 54, 55, 56, 57, 97, 98, 99, 100, 101, 102]) = true := by rw [beq_iff_eq]; exact he
            clear he
            go_wp2
            go_ret
            exact ⟨rfl, HCO9.out.below⟩
          · have heq : (other.toList == [48, 49, 50, 51, 52, 53, 54, 55, 56, 57, 97, 98, 99, 100, 101, 102]) = false := by rw [beq_eq_false_iff_ne]; exact he
            have H16 := Lib.hid h16
            clear he h16 h16i
            obtain ⟨d', sg, hpa, hok', hsec', hdim', hseal⟩ := first_pub DF.pa H16.out
            have HPA := Lib.hid hpa
            have HOK' := Lib.hid hok'
            have HSEC := Lib.hid hsec'
            have HDIM := Lib.hid hdim'
            have HSEAL := Lib.hid hseal
            clear hpa hok' hsec' hdim' hseal
            go_wp2_with fail
            clear heq
            refine (DF.publish F9 px (newDst other) d' sg 0 _ HD9.out (newDst_ok H16.out) (HK.out.below HCO9.out.below HK.out.lt) HPA.out).mono ?_
            rintro e w10 ⟨m, F10, hm, rfl, ho10, hg10, hd10, hs10, hp10, na10, nb10⟩
            rw [HE0.out]
            have hb10 := HB9.out.trans (ho10.below HF9.out HB9.out.size)
            have HCO10 := Lib.hid (HCO.out.calm hb10)
            have HGL10 := Lib.hid (FC.lt HCO.out.ci)
            have HAP := Lib.hid (show (∀ a, m.A = some a → 0 < sg.sig.length → ¬ G a.block) ∧ (∀ a, m.B = some a → 0 < sg.path.length → ¬ G a.block) from
              ⟨fun a e l g => by
                have h1 := HGL10.out _ g
                rcases na10 a e l with h | h
                · have := HF9.out _ h; omega
                · have := HB9.out.size; omega, fun a e l g => by
                have h1 := HGL10.out _ g
                rcases nb10 a e l with h | h
                · have := HF9.out _ h; omega
                · have := HB9.out.size; omega⟩)
            have hb11 := alloc_below w10 (.cells #[.int .i64 sg.head.epoch, .string sg.head.root, .string sg.head.prev, .int .i64 sg.key, .slice m.A sg.sig.length m.ca, .slice m.B sg.path.length m.cb] 54)
            have HH := Lib.hid (show Holds (w10.alloc (.cells #[.int .i64 sg.head.epoch, .string sg.head.root, .string sg.head.prev, .int .i64 sg.key, .slice m.A sg.sig.length m.ca, .slice m.B sg.path.length m.cb] 54)) w10.heap.size 6 (sgF sg.head sg.key (.slice m.A sg.sig.length m.ca) (.slice m.B sg.path.length m.cb)) 54 from Holds.new w10 6 (sgF sg.head sg.key (.slice m.A sg.sig.length m.ca) (.slice m.B sg.path.length m.cb)) 54)
            have HD11 := Lib.hid (DF.same hd10 (same_of_below hb11 (DF.lt hd10)))
            have HCO11 := Lib.hid (HCO10.out.calm hb11)
            have HS11 := Lib.hid (hs10.below hb11)
            have HP11 := Lib.hid (hp10.below hb11)
            clear hm ho10 hg10 hd10 hs10 hp10 na10 nb10 hb10 hb11 HCO10 HCO9 HD9 HCO
            go_wp2_with fail
            obtain ⟨b, hb⟩ : ∃ b, w10.heap.size = b := ⟨_, rfl⟩
            rw [hb] at HH ⊢
            generalize w10.alloc (.cells #[.int .i64 sg.head.epoch, .string sg.head.root, .string sg.head.prev, .int .i64 sg.key, .slice m.A sg.sig.length m.ca, .slice m.B sg.path.length m.cb] 54) = w11 at HH HD11 HCO11 HS11 HP11 ⊢
            clear hb
            refine (DF.pub F10 px d' _ HD11.out HOK'.out (HK.out.below HCO11.out.below HK.out.lt)).mono ?_
            rintro e w12 ⟨rfl, hb12⟩
            rw [HSEC.out]
            obtain ⟨opub, hop⟩ : ∃ opub, boxPub (dirSeed other) = opub := ⟨_, rfl⟩
            have HOP := Lib.hid hop
            rw [hop]
            have HCO12 := Lib.hid (HCO11.out.calm hb12)
            have HH12 := Lib.hid (HH.out.below hb12 HH.out.lt)
            have HS12 := Lib.hid (HS11.out.below hb12)
            have HP12 := Lib.hid (HP11.out.below hb12)
            clear hb12 hop HCO11 HH HS11 HP11 HD11
            go_wp2_with fail
            refine (DF.pub F p d _ HCO12.out.di HOK.out.1 (HK.out.below HCO12.out.below HK.out.lt)).mono ?_
            rintro e w13 ⟨rfl, hb13⟩
            rw [show boxPub (dirSeed d.secret) = pub from HPUB.out]
            have HCO13 := Lib.hid (HCO12.out.calm hb13)
            have HH13 := Lib.hid (HH12.out.below hb13 HH12.out.lt)
            have HS13 := Lib.hid (HS12.out.below hb13)
            have HP13 := Lib.hid (HP12.out.below hb13)
            clear hb13 HCO12 HH12 HS12 HP12
            by_cases hq : opub = pub
            · have hqe : (opub.toList == pub.toList) = true := by rw [hq]; exact text_same _
              clear hq
              go_wp2
              go_ret
              exact ⟨rfl, HCO13.out.below⟩
            · have hqe : (opub.toList == pub.toList) = false := text_ne hq
              have HSE := Lib.hid (show seeAns ⟨pub, (headsOf d).take n⟩ ⟨sg.head, sg.key, sg.sig, sg.path⟩ = (⟨pub, (headsOf d).take n⟩, 15) from see_other (c := ⟨pub, (headsOf d).take n⟩) (s := sg) (by have h := HSEAL.out; rwa [HOP.out] at h) hq)
              have p0 : w13.cell? ⟨b, 0, none⟩ = some (.int .i64 sg.head.epoch) := HH13.out.cell 0 (by omega)
              have p1 : w13.cell? ⟨b, 1, none⟩ = some (.string sg.head.root) := HH13.out.cell 1 (by omega)
              have p2 : w13.cell? ⟨b, 2, none⟩ = some (.string sg.head.prev) := HH13.out.cell 2 (by omega)
              have p3 : w13.cell? ⟨b, 3, none⟩ = some (.int .i64 sg.key) := HH13.out.cell 3 (by omega)
              have p4 : w13.cell? ⟨b, 4, none⟩ = some (.slice m.A sg.sig.length m.ca) := HH13.out.cell 4 (by omega)
              have p5 : w13.cell? ⟨b, 5, none⟩ = some (.slice m.B sg.path.length m.cb) := HH13.out.cell 5 (by omega)
              clear hq
              go_wp2_with fail
              clear p0 p1 p2 p3 p4 p5 hqe
              refine (FC.see G pc ⟨pub, (headsOf d).take n⟩ ⟨pub, (headsOf d).take n⟩ sg.head sg.key sg.sig sg.path m.A m.B m.ca m.cb 15 _ HCO13.out.ci (HK.out.below HCO13.out.below HK.out.lt) HHN.out (by have := HDIM.out.sig; omega) (by have := HDIM.out.path; omega) HDIM.out.ep HS13.out HP13.out HAP.out.1 HAP.out.2 HSE.out).mono ?_
              rintro e w14 ⟨rfl, G2, ho14, hg14, hc14⟩
              have HCO14 := Lib.hid (HCO13.out.prog ho14 hg14 hc14)
              have H15 := Lib.hid (show errOf 15 = .iface 28 (.int .i64 15) from by unfold errOf; rw [if_neg (by decide)])
              rw [H15.out]
              clear ho14 hg14 hc14 HCO13 HS13 HP13 HH13
              go_wp2_with fail
              refine (tell_errno 15 _ ((HCO14.out.below.cell HGL.out).trans HG.out)).mono ?_
              rintro e w15 ⟨rfl, hb15⟩
              have HCO15 := Lib.hid (HCO14.out.calm hb15)
              clear hb15 HCO14
              go_wp2
              go_ret
              exact ⟨rfl, HCO15.out.below⟩
        · have h16i : ((other.size : Int) != 16) = true := by simp; omega
          have H1 := Lib.hid (show errOf 1 = .iface 28 (.int .i64 1) from by unfold errOf; rw [if_neg (by decide)])
          refine (DF.new_f other _ h16 (HK.out.below HCO.out.below HK.out.lt) (by have := HNM.out.1; omega)).mono ?_
          rintro e w9 ⟨rfl, hb9⟩
          rw [H1.out]
          have HCO9 := Lib.hid (HCO.out.calm hb9)
          clear hb9 HCO h16
          go_wp2
          go_ret
          exact ⟨rfl, HCO9.out.below⟩
end Go.Proofs.YtcfpmofmjnhonaaGreatDoor
/- Arguments opened: lists of numbers. -/
namespace Go.Proofs.YtcfpmofmjnhonaaGreatDoor
open Go.ChangeShapes Go.WideShapes Go.Deep Go.RowKit

section
variable {H : Type} {enc : TypeId × Value → H} {P : Program} {w : World} {base : Nat} {spare : Nat → Bool} {held : Bool}
theorem open_nums {t e : TypeId} {a0 : Option Addr} {len cap : Nat} {d : DataW H} {p : List MemPlace} (ht : P.underlying t = some (.slice e)) (he : P.underlying e = some (.int .i64)) (hc : P.cellsOf e = 1)
    (h : DataW.Trod enc P w base spare held t (.slice a0 len cap) d p) : ∃ L : List Int, L.length = len ∧ Nums w a0 L := by
  obtain ⟨fuel, hf⟩ := h
  rcases open_ints ht he hc hf with ⟨hcs, hx⟩ | ⟨a, len', cap', zs, hcs, _, hl, hm, hz, hx, hcell, hws⟩
  · simp [Value.cells] at hcs
    obtain ⟨rfl, rfl, rfl⟩ := hcs
    exact ⟨[], rfl, fun i x h => by simp at h⟩
  · simp [Value.cells] at hcs
    obtain ⟨rfl, rfl, rfl⟩ := hcs
    have hle : len ≤ zs.length := by rw [hz]; split <;> omega
    refine ⟨zs.take len, by rw [List.length_take]; omega, fun i p hp => ?_⟩
    have hi : i < len := by have := (List.getElem?_eq_some_iff.1 hp).1; rw [List.length_take] at this; omega
    have hcl := hcell i (by omega)
    have hp' : zs.getD i 0 = p := by
      rw [List.getElem?_take_of_lt hi] at hp
      rw [List.getD_eq_getElem?_getD, hp]; rfl
    rw [hp'] at hcl
    exact ⟨a, rfl, by have := block_lt_of_cell hcl; rwa [block_add] at this, hcl⟩
end
end Go.Proofs.YtcfpmofmjnhonaaGreatDoor
