/- Parts of the proof, one behind the other: VVerify, PSealed, PSee. -/
import Derived.Test.YtcfpmofmjnhonaaGreatDoorM13
import Derived.Test.YtcfpmofmjnhonaaGreatDoorM29
import Derived.Test.YtcfpmofmjnhonaaGreatDoorM18
import Derived.Test.YtcfpmofmjnhonaaGreatDoorM10
import Derived.Test.YtcfpmofmjnhonaaGreatDoorM28
/- The program's seal: Verify. -/
namespace Go.Proofs.YtcfpmofmjnhonaaGreatDoor
open Go.RowKit

set_option maxHeartbeats 2000000 in
set_option maxRecDepth 100000 in
theorem vVerify_any (pub m : ByteArray) (key : Int) (S P : List ByteArray) (A B : Option Addr) (ca cb : Nat) (w : World) (hk : HasK w) (hls : S.length ≤ 1000000) (hlp : P.length ≤ 1000000) (hs : Strs w A S) (hp : Strs w B P) :
    Calls Tryz.prog 137 #[.string pub, .string m, .agg #[.int .i64 key, .slice A S.length ca, .slice B P.length cb]] w fun e w' => e = .returned (.bool (sealOk pub m key S P)) ∧ Below w.heap.size w w' := by
  have HB0 := Lib.hid (alloc_below w (.cells #[.int .i64 key, .slice A S.length ca, .slice B P.length cb] 52))
  have HH0 := Lib.hid (show Holds (w.alloc (.cells #[.int .i64 key, .slice A S.length ca, .slice B P.length cb] 52)) w.heap.size 3 (slF key (.slice A S.length ca) (.slice B P.length cb)) 52 from Holds.new w 3 (slF key (.slice A S.length ca) (.slice B P.length cb)) 52)
  have HK := Lib.hid (hk.below HB0.out hk.lt)
  have HSS := Lib.hid (hs.below HB0.out)
  have HPP := Lib.hid (hp.below HB0.out)
  have HE0 := Lib.hid (show errOf 0 = Value.nilIface from rfl)
  clear hk hs hp
  obtain ⟨T, hT⟩ : ∃ T, sealOk pub m key S P = T := ⟨_, rfl⟩
  rw [hT]
  have HT := Lib.hid hT
  clear hT
  go_enter Tryz.func137, Tryz.ntmps137
  have c0 : (w.alloc (.cells #[.int .i64 key, .slice A S.length ca, .slice B P.length cb] 52)).cell? ⟨w.heap.size, 0, none⟩ = some (.int .i64 key) := HH0.out.cell 0 (by omega)
  have c1 : (w.alloc (.cells #[.int .i64 key, .slice A S.length ca, .slice B P.length cb] 52)).cell? ⟨w.heap.size, 1, none⟩ = some (.slice A S.length ca) := HH0.out.cell 1 (by omega)
  have c2 : (w.alloc (.cells #[.int .i64 key, .slice A S.length ca, .slice B P.length cb] 52)).cell? ⟨w.heap.size, 2, none⟩ = some (.slice B P.length cb) := HH0.out.cell 2 (by omega)
  by_cases hkey : 0 ≤ key ∧ key ≤ 7
  · by_cases h3 : P.length = 3
    · have e2 : ((P.length : Int) != 3) = false := by simp; omega
      have e3 : ((P.length : Int) == 3) = true := by rw [beq_iff_eq]; omega
      have H3 := Lib.hid h3
      clear h3
      go_wp2_with fail
      generalize w.alloc (.cells #[.int .i64 key, .slice A S.length ca, .slice B P.length cb] 52) = w0 at HB0 HH0 HK HSS HPP c0 c1 c2
      refine (vKey_any key _).mono ?_
      rintro e w1 ⟨rfl, rfl⟩
      rw [decide_eq_true hkey]
      go_wp2_with fail
      refine (vAre_any P B cb _ hlp HPP.out).mono ?_
      rintro e w1 ⟨rfl, rfl⟩
      clear e2 e3
      obtain ⟨mk, hmk⟩ : ∃ mk, marksOk P = mk := ⟨_, rfl⟩
      rw [hmk]
      cases mk
      · have HF := Lib.hid (show T = false by rw [← HT.out]; unfold sealOk; rw [hmk]; simp)
        clear hmk hkey
        go_wp2
        go_ret
        exact ⟨by rw [HF.out]; rfl, HB0.out⟩
      · have HMK := Lib.hid hmk
        clear hmk
        obtain ⟨x, n, hx⟩ : ∃ x n, fromAns m S = (x, n) := ⟨_, _, rfl⟩
        have HX := Lib.hid hx
        clear hx
        go_wp2_with fail
        refine (qFrom_is m S A ca x n _ HK.out hls HSS.out HX.out).mono ?_
        rintro e w2 ⟨rfl, hb2⟩
        have HB2 := Lib.hid (HB0.out.trans (hb2.mono HB0.out.size))
        have HK2 := Lib.hid (HK.out.below hb2 HK.out.lt)
        have HPP2 := Lib.hid (HPP.out.below hb2)
        have HH2 := Lib.hid (HH0.out.below hb2 HH0.out.lt)
        clear hb2 c0 c1 c2
        by_cases hn : n = 0
        · subst hn
          rw [HE0.out]
          have HXS := Lib.hid (fromAns_size HX.out)
          have HTT := Lib.hid (show decide (upFrom P (sLeaf key x) key.toNat = pub) = T by
            rw [← HT.out]; unfold sealOk sLeaf; rw [HX.out, HMK.out, H3.out]; simp [hkey])
          obtain ⟨kk, rfl⟩ : ∃ kk : Nat, key = (kk : Int) := ⟨key.toNat, by omega⟩
          have hkk : kk ≤ 7 := by omega
          rw [Int.toNat_natCast] at HTT
          have c0 : w2.cell? ⟨w.heap.size, 0, none⟩ = some (.int .i64 (kk : Int)) := HH2.out.cell 0 (by omega)
          have c2 : w2.cell? ⟨w.heap.size, 2, none⟩ = some (.slice B P.length cb) := HH2.out.cell 2 (by omega)
          clear hkey
          go_wp2_with fail
          refine (vClimb_any kk x P B cb _ HK2.out hkk HXS.out H3.out HMK.out HPP2.out).mono ?_
          rintro e w3 ⟨rfl, hb3⟩
          have HB3 := Lib.hid (HB2.out.trans (hb3.mono HB2.out.size))
          clear hb3 c0 c2
          generalize upFrom P (sLeaf (kk : Int) x) kk = t at HTT ⊢
          have HEQ := Lib.hid (show (t.toList == pub.toList) = T by
            rw [← HTT.out, Bool.eq_iff_iff, beq_iff_eq, decide_eq_true_eq, ByteArray.toList_eq, ByteArray.toList_eq]
            exact ⟨text_of, fun h => by rw [h]⟩)
          go_wp2
          go_ret
          exact ⟨by rw [← HEQ.out]; rfl, HB3.out⟩
        · have HEL := Lib.hid (show errOf n = Value.iface 28 (.int .i64 n) by unfold errOf; rw [if_neg hn])
          have HF := Lib.hid (show T = false by rw [← HT.out]; unfold sealOk; rw [HX.out]; simp [hn])
          rw [HEL.out]
          clear hn hkey
          go_wp2
          go_ret
          exact ⟨by rw [HF.out]; rfl, HB2.out⟩
    · have e2 : ((P.length : Int) != 3) = true := by simp; omega
      have e3 : ((P.length : Int) == 3) = false := by rw [beq_eq_false_iff_ne]; omega
      have HF := Lib.hid (show T = false by rw [← HT.out]; unfold sealOk; rw [decide_eq_false h3]; simp)
      clear h3
      go_wp2_with fail
      generalize w.alloc (.cells #[.int .i64 key, .slice A S.length ca, .slice B P.length cb] 52) = w0 at HB0 HH0 HK HSS HPP c0 c1 c2
      refine (vKey_any key _).mono ?_
      rintro e w1 ⟨rfl, rfl⟩
      rw [decide_eq_true hkey]
      clear hkey
      go_wp2
      go_ret
      exact ⟨by rw [HF.out]; rfl, HB0.out⟩
  · have HF := Lib.hid (show T = false by rw [← HT.out]; unfold sealOk; rw [decide_eq_false hkey]; simp)
    go_wp2_with fail
    generalize w.alloc (.cells #[.int .i64 key, .slice A S.length ca, .slice B P.length cb] 52) = w0 at HB0 HH0 HK HSS HPP c0 c1 c2
    refine (vKey_any key _).mono ?_
    rintro e w1 ⟨rfl, rfl⟩
    rw [decide_eq_false hkey]
    clear hkey
    go_wp2
    go_ret
    exact ⟨by rw [HF.out]; rfl, HB0.out⟩
end Go.Proofs.YtcfpmofmjnhonaaGreatDoor
/- The program's client: whether a head has its own epoch's seal. -/
namespace Go.Proofs.YtcfpmofmjnhonaaGreatDoor
open Go.RowKit

def sealedOk (pub : ByteArray) (h : Hd) (key : Int) (S P : List ByteArray) : Bool := rightHead h && (decide (key = h.epoch - 1) && sealOk pub (headMark h) key S P)
set_option maxHeartbeats 2000000 in
set_option maxRecDepth 100000 in
theorem pSealed_is (F : Nat → Prop) (p : Nat) (c : Cl) (h : Hd) (key : Int) (S P : List ByteArray) (A B : Option Addr) (ca cb : Nat) (T : Bool) (w : World) (hc : PCl F w p c) (hk : HasK w)
    (hls : S.length ≤ 1000000) (hlp : P.length ≤ 1000000) (he : h.epoch < 9223372036854775808) (hs : Strs w A S) (hp : Strs w B P) (ht : sealedOk c.pub h key S P = T) :
    Calls Tryz.prog 84 #[.pointer (some ⟨p, 0, none⟩), .agg #[.int .i64 h.epoch, .string h.root, .string h.prev, .int .i64 key, .slice A S.length ca, .slice B P.length cb]] w fun e w' => e = .returned (.bool T) ∧ Below w.heap.size w w' := by
  obtain ⟨v, hc⟩ := hc
  have HB0 := Lib.hid (alloc_below w (.cells #[.int .i64 h.epoch, .string h.root, .string h.prev, .int .i64 key, .slice A S.length ca, .slice B P.length cb] 54))
  have HX0 := Lib.hid (show Holds (w.alloc (.cells #[.int .i64 h.epoch, .string h.root, .string h.prev, .int .i64 key, .slice A S.length ca, .slice B P.length cb] 54)) w.heap.size 6 (sgF h key (.slice A S.length ca) (.slice B P.length cb)) 54 from Holds.new w 6 (sgF h key (.slice A S.length ca) (.slice B P.length cb)) 54)
  have HK0 := Lib.hid (hk.below HB0.out hk.lt)
  have HC0 := Lib.hid (hc.same (same_of_below HB0.out hc.lt))
  have HS0 := Lib.hid (hs.below HB0.out)
  have HP0 := Lib.hid (hp.below HB0.out)
  have HE := Lib.hid he
  have HT := Lib.hid ht
  clear hc hk hs hp he ht
  obtain ⟨mk, m, hmk⟩ : ∃ mk m, headMarkAns h = (mk, m) := ⟨_, _, rfl⟩
  have HMK := Lib.hid hmk
  go_enter Tryz.func84, Tryz.ntmps84
  go_wp2_with fail
  generalize w.alloc (.cells #[.int .i64 h.epoch, .string h.root, .string h.prev, .int .i64 key, .slice A S.length ca, .slice B P.length cb] 54) = w0 at HB0 HX0 HK0 HC0 HS0 HP0 ⊢
  refine (pHdMark_is h mk m _ HK0.out HMK.out).mono ?_
  rintro e w1 ⟨rfl, hb1⟩
  have HB1 := Lib.hid (HB0.out.trans (hb1.mono HB0.out.size))
  have HK1 := Lib.hid (HK0.out.below hb1 HK0.out.lt)
  have HC1 := Lib.hid (HC0.out.same (same_of_below hb1 HC0.out.lt))
  have HX1 := Lib.hid (HX0.out.below hb1 HX0.out.lt)
  have HS1 := Lib.hid (HS0.out.below hb1)
  have HP1 := Lib.hid (HP0.out.below hb1)
  have HP1L := Lib.hid (show p < w1.heap.size from HC1.out.own.lt)
  have HQ1L := Lib.hid (show w.heap.size < w1.heap.size from HX1.out.lt)
  clear hb1 HK0 HC0 HX0 HS0 HP0 HB0
  have HF2 := Lib.hid (show ∀ z : Later w1.heap.size w1, z.at'.cell? ⟨p, 0, none⟩ = some (.string c.pub) ∧ (z.at'.cell? ⟨w.heap.size, 0, none⟩ = some (.int .i64 h.epoch) ∧ z.at'.cell? ⟨w.heap.size, 3, none⟩ = some (.int .i64 key)) ∧ z.at'.cell? ⟨w.heap.size, 4, none⟩ = some (.slice A S.length ca) ∧ z.at'.cell? ⟨w.heap.size, 5, none⟩ = some (.slice B P.length cb) from fun z =>
    ⟨(z.below.cell (p := ⟨p, 0, none⟩) HP1L.out).trans (HC1.out.own.cell 0 (by omega)), ⟨(z.below.cell (p := ⟨w.heap.size, 0, none⟩) HQ1L.out).trans (HX1.out.cell 0 (by omega)), (z.below.cell (p := ⟨w.heap.size, 3, none⟩) HQ1L.out).trans (HX1.out.cell 3 (by omega))⟩, (z.below.cell (p := ⟨w.heap.size, 4, none⟩) HQ1L.out).trans (HX1.out.cell 4 (by omega)), (z.below.cell (p := ⟨w.heap.size, 5, none⟩) HQ1L.out).trans (HX1.out.cell 5 (by omega))⟩)
  have z1 : ∀ z : Later w1.heap.size w1, z.at'.cell? ⟨p, 0, none⟩ = some (.string c.pub) := fun z => (HF2.out z).1
  have z2 : ∀ z : Later w1.heap.size w1, z.at'.cell? ⟨w.heap.size, 0, none⟩ = some (.int .i64 h.epoch) := fun z => (HF2.out z).2.1.1
  have z3 : ∀ z : Later w1.heap.size w1, z.at'.cell? ⟨w.heap.size, 3, none⟩ = some (.int .i64 key) := fun z => (HF2.out z).2.1.2
  have z4 : ∀ z : Later w1.heap.size w1, z.at'.cell? ⟨w.heap.size, 4, none⟩ = some (.slice A S.length ca) := fun z => (HF2.out z).2.2.1
  have z5 : ∀ z : Later w1.heap.size w1, z.at'.cell? ⟨w.heap.size, 5, none⟩ = some (.slice B P.length cb) := fun z => (HF2.out z).2.2.2
  unfold headMarkAns at hmk
  by_cases hrt : rightHead h = true
  · rw [if_pos hrt] at hmk
    obtain ⟨rfl, rfl⟩ := Prod.mk.inj hmk
    rw [show errOf 0 = .nilIface from rfl]
    obtain ⟨k, hk⟩ : ∃ k : Nat, h.epoch = (k : Int) + 1 := ⟨(h.epoch - 1).toNat, by have := (rightHead_facts hrt).1; omega⟩
    have HK := Lib.hid hk
    have hwk : wrap64 (h.epoch - 1) = (k : Int) := by have := HE.out; unfold wrap64; omega
    have HRT := Lib.hid hrt
    clear hrt hmk hk
    by_cases hkey : key = (k : Int)
    · have e1 : (key == (k : Int)) = true := by rw [beq_iff_eq]; exact hkey
      have HKEY := Lib.hid hkey
      clear hkey
      have HT2 := Lib.hid (show sealOk c.pub (headMark h) key S P = T from by
        have := HT.out
        unfold sealedOk at this
        rw [HRT.out, show decide (key = h.epoch - 1) = true from decide_eq_true (by rw [HK.out, HKEY.out]; omega)] at this
        simpa using this)
      have HVZ := Lib.hid (show ∀ z : Later w1.heap.size w1, Calls Tryz.prog 137 #[.string c.pub, .string (headMark h), .agg #[.int .i64 key, .slice A S.length ca, .slice B P.length cb]] z.at' fun e w' => e = .returned (.bool T) ∧ Below z.at'.heap.size z.at' w' from fun z => by
        rw [← HT2.out]
        exact vVerify_any c.pub (headMark h) key S P A B ca cb z.at' (HK1.out.below z.below HK1.out.lt) hls hlp (HS1.out.below z.below) (HP1.out.below z.below))
      go_wp2
      refine wp_region_later (by kernel_rfl) (by kernel_rfl) ?_
      repeat (go_big_quiet_step ((first | (go_at_call 137; refine later_of (HVZ.out _)))))
      refine wpQuiet_nil ?_
      rintro w2 ⟨⟨w2, hb2⟩, rfl⟩
      have HB2 := Lib.hid (HB1.out.trans (hb2.mono HB1.out.size))
      clear z1 z2 z3 z4 z5 hb2 HF2 HVZ
      go_wp2
      go_ret
      exact ⟨rfl, HB2.out⟩
    · have e1 : (key == (k : Int)) = false := by rw [beq_eq_false_iff_ne]; exact hkey
      have HT2 := Lib.hid (show T = false from by
        have := HT.out
        unfold sealedOk at this
        rw [HRT.out, show decide (key = h.epoch - 1) = false from decide_eq_false (by rw [HK.out]; intro e; exact hkey (by rw [e]; omega))] at this
        simpa using this.symm)
      clear hkey
      go_wp2
      refine wp_region_later (by kernel_rfl) (by kernel_rfl) ?_
      repeat (go_big_quiet_step (fail))
      refine wpQuiet_nil ?_
      rintro w2 ⟨⟨w2, hb2⟩, rfl⟩
      have HB2 := Lib.hid (HB1.out.trans (hb2.mono HB1.out.size))
      clear z1 z2 z3 z4 z5 hb2 HF2
      go_wp2
      go_ret
      exact ⟨by rw [HT2.out]; rfl, HB2.out⟩
  · rw [if_neg hrt] at hmk
    obtain ⟨rfl, rfl⟩ := Prod.mk.inj hmk
    rw [show errOf 1 = .iface 28 (.int .i64 1) from rfl]
    have HT2 := Lib.hid (show T = false from by
      have := HT.out
      unfold sealedOk at this
      rw [show rightHead h = false from by simpa using hrt] at this
      simpa using this.symm)
    clear hmk hrt
    go_wp2
    refine wp_region_later (by kernel_rfl) (by kernel_rfl) ?_
    repeat (go_big_quiet_step (fail))
    refine wpQuiet_nil ?_
    rintro w2 ⟨⟨w2, hb2⟩, rfl⟩
    have HB2 := Lib.hid (HB1.out.trans (hb2.mono HB1.out.size))
    clear z1 z2 z3 z4 z5 hb2 HF2
    go_wp2
    go_ret
    exact ⟨by rw [HT2.out]; rfl, HB2.out⟩
end Go.Proofs.YtcfpmofmjnhonaaGreatDoor
/- The program's client: See. -/
namespace Go.Proofs.YtcfpmofmjnhonaaGreatDoor
open Go.RowKit

structure SawZ (p q : Nat) (v : Value) (h : Hd) where
  at' : World
  h0 : at'.cell? ⟨p, 1, none⟩ = some v
  h1 : at'.cell? ⟨q, 0, none⟩ = some (.int .i64 h.epoch)
  h2 : at'.cell? ⟨q, 1, none⟩ = some (.string h.root)
  h3 : at'.cell? ⟨q, 2, none⟩ = some (.string h.prev)
/-- One more head was appended, and the new list stored. -/
theorem PClM.pushed {F : Nat → Prop} {u w7 : World} {X : Obj} {p : Nat} {c : Cl} {v v' : Value} {h : Hd} (hc : PClM F u p c v) (hrow : Row w7 (p + 1) 3 v' (c.heads.length + 1) (hdCells c.heads ++ h.cells)) (hg : (u.alloc X).grownBy w7 v.ownBlock) (hm : Moved (u.alloc X) v v') :
    PClM (fun k => (F k ∨ u.heap.size ≤ k) ∧ k < w7.heap.size) (w7.setCell ⟨p, 1, none⟩ v') p { c with heads := c.heads ++ [h] } v' := by
  have hz : u.heap.size < w7.heap.size := by have := hg.size; simp at this; omega
  have hvp : v.ownBlock ≠ some p := hc.row.fresh (Nat.lt_succ_self p)
  have hvp' : v'.ownBlock ≠ some p := hrow.fresh (Nat.lt_succ_self p)
  have hpu := hc.own.lt
  exact {
    own := by
      have h0 : Holds w7 p 2 (pcF c.pub v) 175 := by
        have h1 := hc.own
        unfold Holds at h1 ⊢
        rw [hg.block p (by simp; omega) (fun e => hvp e.symm), (alloc_below u X).block p hpu]
        exact h1
      refine (h0.set 1 v').congr fun i hi => ?_
      unfold upd pcF
      rcases (show i = 0 ∨ i = 1 by omega) with rfl | rfl <;> rfl
    row := by
      rw [List.length_append, hdCells_append]
      have e : hdCells [h] = h.cells := by simp [hdCells]
      rw [e]
      exact hrow.setOther hvp' _
    fp := ⟨.inl hc.fp, by omega⟩
    fv := fun k hk => by
      refine ⟨?_, (hrow.lt k hk).2⟩
      rcases hm with e | e
      · exact .inl (hc.fv k (e ▸ hk))
      · have := e k hk
        simp at this
        exact .inr (by omega)
    lt := fun k hk => by
      have : (w7.setCell ⟨p, 1, none⟩ v').heap.size = w7.heap.size := by simp [World.setCell]
      rw [this]
      exact hk.2 }
set_option maxHeartbeats 4000000 in
set_option maxRecDepth 100000 in
theorem pSee_is (F : Nat → Prop) (p : Nat) (c c' : Cl) (h : Hd) (key : Int) (S P : List ByteArray) (A B : Option Addr) (ca cb : Nat) (n : Int) (w : World) (hc : PCl F w p c) (hk : HasK w)
    (hl : c.heads.length ≤ 1000000) (hls : S.length ≤ 1000000) (hlp : P.length ≤ 1000000) (he : h.epoch < 9223372036854775808) (hs : Strs w A S) (hp : Strs w B P) (ha : seeAns c ⟨h, key, S, P⟩ = (c', n)) :
    Calls Tryz.prog 33 #[.pointer (some ⟨p, 0, none⟩), .agg #[.int .i64 h.epoch, .string h.root, .string h.prev, .int .i64 key, .slice A S.length ca, .slice B P.length cb]] w fun e w' => e = .returned (errOf n) ∧ ∃ F' : Nat → Prop, Off F w w' ∧ Grew w F F' ∧ PCl F' w' p c' := by
  obtain ⟨v, hc⟩ := hc
  obtain ⟨pv, cv, rfl⟩ := hc.row.any
  have HB0 := Lib.hid (alloc_below w (.cells #[.int .i64 h.epoch, .string h.root, .string h.prev, .int .i64 key, .slice A S.length ca, .slice B P.length cb] 54))
  have HX0 := Lib.hid (show Holds (w.alloc (.cells #[.int .i64 h.epoch, .string h.root, .string h.prev, .int .i64 key, .slice A S.length ca, .slice B P.length cb] 54)) w.heap.size 6 (sgF h key (.slice A S.length ca) (.slice B P.length cb)) 54 from Holds.new w 6 (sgF h key (.slice A S.length ca) (.slice B P.length cb)) 54)
  have HK0 := Lib.hid (hk.below HB0.out hk.lt)
  have HC0 := Lib.hid (hc.same (same_of_below HB0.out hc.lt))
  have HS0 := Lib.hid (hs.below HB0.out)
  have HP0 := Lib.hid (hp.below HB0.out)
  have HCW := Lib.hid hc
  have HE := Lib.hid he
  have HA := Lib.hid ha
  have HL := Lib.hid hl
  obtain ⟨L, hLe⟩ : ∃ L, c.heads.length = L := ⟨_, rfl⟩
  have HLE := Lib.hid hLe
  rw [hLe] at HC0 HCW hl
  clear hc hk hs hp he ha hLe
  obtain ⟨T, ht⟩ : ∃ T, sealedOk c.pub h key S P = T := ⟨_, rfl⟩
  have HT := Lib.hid ht
  clear ht
  go_enter Tryz.func33, Tryz.ntmps33
  go_wp2_with fail
  generalize w.alloc (.cells #[.int .i64 h.epoch, .string h.root, .string h.prev, .int .i64 key, .slice A S.length ca, .slice B P.length cb] 54) = w0 at HB0 HX0 HK0 HC0 HS0 HP0 ⊢
  refine (pSealed_is F p c h key S P A B ca cb T _ ⟨_, by have := HC0.out; exact this⟩ HK0.out hls hlp HE.out HS0.out HP0.out HT.out).mono ?_
  rintro e w1 ⟨rfl, hb1⟩
  have HB1 := Lib.hid (HB0.out.trans (hb1.mono HB0.out.size))
  have HK1 := Lib.hid (HK0.out.below hb1 HK0.out.lt)
  have HC1 := Lib.hid (HC0.out.same (same_of_below hb1 HC0.out.lt))
  have HX1 := Lib.hid (HX0.out.below hb1 HX0.out.lt)
  have HP1L := Lib.hid (show p < w1.heap.size from HC1.out.own.lt)
  have HQ1L := Lib.hid (show w.heap.size < w1.heap.size from HX1.out.lt)
  clear hb1 HK0 HC0 HX0 HS0 HP0 HB0
  cases T
  · go_wp2
    go_ret
    have hh := HA.out
    unfold seeAns at hh
    rw [if_neg (fun e => by
      have h4 := HT.out
      unfold sealedOk at h4
      simp only [Bool.and_eq_false_iff, decide_eq_false_iff_not] at h4
      rcases h4 with h4 | h4 | h4
      · rw [e.1] at h4; cases h4
      · exact h4 e.2.1
      · have e3 := e.2.2; rw [h4] at e3; cases e3)] at hh
    obtain ⟨rfl, rfl⟩ := Prod.mk.inj hh
    exact ⟨rfl, F, Off.of_below HB1.out, Grew.refl _ _, ⟨_, HC1.out⟩⟩
  · have HT3 := Lib.hid (show rightHead h = true ∧ key = h.epoch - 1 ∧ sealOk c.pub (headMark h) key S P = true from by
      have h4 := HT.out
      unfold sealedOk at h4
      simp only [Bool.and_eq_true, decide_eq_true_eq] at h4
      exact h4)
    have HH := Lib.hid (show (if (c.heads.length : Int) < h.epoch - 1 then (c, 10)
      else if h.epoch - 1 < (c.heads.length : Int) then (if hdAt c.heads (h.epoch - 1).toNat = h then (c, 0) else (c, 13))
      else if nextAns c.heads h.root = (h, 0) then ({ c with heads := c.heads ++ [h] }, 0) else (c, 13)) = (c', n) from by
      have hh := HA.out
      unfold seeAns at hh
      rw [if_pos HT3.out] at hh
      exact hh)
    obtain ⟨k, hk⟩ : ∃ k : Nat, h.epoch = (k : Int) + 1 := ⟨(h.epoch - 1).toNat, by have := (rightHead_facts HT3.out.1).1; omega⟩
    have HKE := Lib.hid hk
    clear hk HA
    have c1 : w1.cell? ⟨p, 1, none⟩ = some (.slice pv L cv) := HC1.out.own.cell 1 (by omega)
    have x0 : w1.cell? ⟨w.heap.size, 0, none⟩ = some (.int .i64 h.epoch) := HX1.out.cell 0 (by omega)
    have x1 : w1.cell? ⟨w.heap.size, 1, none⟩ = some (.string h.root) := HX1.out.cell 1 (by omega)
    have x2 : w1.cell? ⟨w.heap.size, 2, none⟩ = some (.string h.prev) := HX1.out.cell 2 (by omega)
    have HSS := Lib.hid (show ∀ u : World, Below w1.heap.size w1 u → (u.cell? ⟨p, 1, none⟩ = some (.slice pv L cv) ∧ u.cell? ⟨w.heap.size, 0, none⟩ = some (.int .i64 h.epoch) ∧ u.cell? ⟨w.heap.size, 1, none⟩ = some (.string h.root) ∧ u.cell? ⟨w.heap.size, 2, none⟩ = some (.string h.prev)) ∧ Below w1.heap.size w1 u from fun u hu =>
      ⟨⟨(hu.cell (p := ⟨p, 1, none⟩) HP1L.out).trans c1, (hu.cell (p := ⟨w.heap.size, 0, none⟩) HQ1L.out).trans x0, (hu.cell (p := ⟨w.heap.size, 1, none⟩) HQ1L.out).trans x1, (hu.cell (p := ⟨w.heap.size, 2, none⟩) HQ1L.out).trans x2⟩, hu⟩)
    go_wp2
    go_region_held3 (fun w' => (w'.cell? ⟨p, 1, none⟩ = some (.slice pv L cv) ∧ w'.cell? ⟨w.heap.size, 0, none⟩ = some (.int .i64 h.epoch) ∧ w'.cell? ⟨w.heap.size, 1, none⟩ = some (.string h.root) ∧ w'.cell? ⟨w.heap.size, 2, none⟩ = some (.string h.prev)) ∧ Below w1.heap.size w1 w')
      (first
        | exact HSS.out _ (Below.refl _ _).drew
        | exact HSS.out _ ((Below.refl _ _).alloc (Nat.le_refl _) _).drew
        | exact HSS.out _ ((Below.refl _ _).drew.alloc (Nat.le_refl _) _)
        | exact HSS.out _ ((((((Below.refl _ _).alloc (Nat.le_refl _) _).drew).setCell (Nat.le_refl _) _).setCell (Nat.le_refl _) _).setCell (Nat.le_refl _) _))
      (first | fail)
    rename_i hheld
    clear hheld c1 x0 x1 x2 HSS
    have HB2 := Lib.hid (show Below w1.heap.size w1 (w1.alloc (.cells #[.int .i64 h.epoch, .string h.root, .string h.prev] 49)).drew from ((Below.refl _ _).alloc (Nat.le_refl _) _).drew)
    have HY2 := Lib.hid (show Holds (w1.alloc (.cells #[.int .i64 h.epoch, .string h.root, .string h.prev] 49)).drew w1.heap.size 3 (hdF h) 49 from (Holds.new w1 3 (hdF h) 49).drew)
    generalize (w1.alloc (.cells #[.int .i64 h.epoch, .string h.root, .string h.prev] 49)).drew = w2 at HB2 HY2 ⊢
    have HBW := Lib.hid (HB1.out.trans (HB2.out.mono HB1.out.size))
    have HK2 := Lib.hid (HK1.out.below HB2.out HK1.out.lt)
    have HC2 := Lib.hid (HC1.out.same (same_of_below HB2.out HC1.out.lt))
    obtain ⟨q, hq⟩ : ∃ q, w1.heap.size = q := ⟨_, rfl⟩
    have HQE := Lib.hid (show w.heap.size ≤ q ∧ p < q from by rw [← hq]; exact ⟨HB1.out.size, HP1L.out⟩)
    rw [hq] at HY2 ⊢
    clear hq HC1 HX1 HK1 HP1L HQ1L HB1 HB2
    have HHD := Lib.hid (show Hds w2 pv c.heads from by
      obtain ⟨hn, A', cap', e', hd'⟩ := HC2.out.row.hds
      injection e' with e1' e2' e3'
      rw [e1']; exact hd')
    have y0 : w2.cell? ⟨q, 0, none⟩ = some (.int .i64 h.epoch) := HY2.out.cell 0 (by omega)
    have hee := HE.out
    by_cases g1 : (L : Int) + 1 < h.epoch
    · go_wp2
      go_ret
      have hh := HH.out
      rw [HLE.out, if_pos (by omega)] at hh
      obtain ⟨rfl, rfl⟩ := Prod.mk.inj hh
      exact ⟨rfl, F, Off.of_below HBW.out, Grew.refl _ _, ⟨_, HC2.out⟩⟩
    by_cases g2 : h.epoch ≤ (L : Int)
    · have hwk : wrap64 (h.epoch - 1) = (k : Int) := by have := HKE.out; unfold wrap64; omega
      have c1 : w2.cell? ⟨p, 1, none⟩ = some (.slice pv L cv) := HC2.out.own.cell 1 (by omega)
      obtain ⟨a, rfl, hal, b0, b1, b2⟩ := HHD.out.at_ (i := k) (by have := HLE.out; have := HKE.out; omega)
      have d1 : w2.cell? ⟨(a.add (k * 3)).block, (a.add (k * 3)).off + 1, none⟩ = some (.string (hdAt c.heads k).root) := b1
      have d2 : w2.cell? ⟨(a.add (k * 3)).block, (a.add (k * 3)).off + 2, none⟩ = some (.string (hdAt c.heads k).prev) := b2
      have y1 : w2.cell? ⟨q, 1, none⟩ = some (.string h.root) := HY2.out.cell 1 (by omega)
      have y2 : w2.cell? ⟨q, 2, none⟩ = some (.string h.prev) := HY2.out.cell 2 (by omega)
      obtain ⟨X, hX⟩ : ∃ X, hdAt c.heads k = X := ⟨_, rfl⟩
      rw [hX] at b0 d1 d2
      have HX := Lib.hid hX
      have hk0 : (0 : Int) ≤ (k : Int) := by omega
      have hk1 : (k : Int) < (L : Int) := by have := HKE.out; omega
      clear b1 b2 hX hal
      by_cases hxh : X = h
      · have hne : ∀ u : World, (binOp .neq 49 (.agg #[.int .i64 X.epoch, .string X.root, .string X.prev]) (.agg #[.int .i64 h.epoch, .string h.root, .string h.prev])).run Tryz.prog u = .ok (.bool false) u := fun u => by rw [run_neq_heads, decide_eq_true hxh]; rfl
        have HXH := Lib.hid hxh
        clear hxh
        go_wp2
        go_quiet (fail)
        go_wp2
        go_ret
        have hh := HH.out
        rw [HLE.out, if_neg (by omega), if_pos (by omega), show (h.epoch - 1).toNat = k by have := HKE.out; omega, HX.out, if_pos HXH.out] at hh
        obtain ⟨rfl, rfl⟩ := Prod.mk.inj hh
        exact ⟨rfl, F, (Off.of_below HBW.out).drewN _, Grew.refl _ _, ⟨_, HCW.out.same (same_of_below (below_drewP HBW.out _) HCW.out.lt)⟩⟩
      · have hne : ∀ u : World, (binOp .neq 49 (.agg #[.int .i64 X.epoch, .string X.root, .string X.prev]) (.agg #[.int .i64 h.epoch, .string h.root, .string h.prev])).run Tryz.prog u = .ok (.bool true) u := fun u => by rw [run_neq_heads, decide_eq_false hxh]; rfl
        have HXH := Lib.hid hxh
        clear hxh
        go_wp2
        go_quiet (fail)
        go_wp2
        go_ret
        have hh := HH.out
        rw [HLE.out, if_neg (by omega), if_pos (by omega), show (h.epoch - 1).toNat = k by have := HKE.out; omega, HX.out, if_neg HXH.out] at hh
        obtain ⟨rfl, rfl⟩ := Prod.mk.inj hh
        exact ⟨rfl, F, (Off.of_below HBW.out).drewN _, Grew.refl _ _, ⟨_, HCW.out.same (same_of_below (below_drewP HBW.out _) HCW.out.lt)⟩⟩
    have HKL := Lib.hid (show h.epoch = (L : Int) + 1 by omega)
    obtain ⟨Y, my, hn⟩ : ∃ Y m, nextAns c.heads h.root = (Y, m) := ⟨_, _, rfl⟩
    have HN := Lib.hid hn
    have HH' := Lib.hid (show (if (Y, my) = (h, (0 : Int)) then ({ c with heads := c.heads ++ [h] }, (0 : Int)) else (c, 13)) = (c', n) from by
      have hh := HH.out
      rw [HLE.out, if_neg (by omega), if_neg (by omega), hn] at hh
      exact hh)
    clear hn HH
    have c1 : w2.cell? ⟨p, 1, none⟩ = some (.slice pv L cv) := HC2.out.own.cell 1 (by omega)
    have y1 : w2.cell? ⟨q, 1, none⟩ = some (.string h.root) := HY2.out.cell 1 (by omega)
    have HP2L := Lib.hid (show p < w2.heap.size from HC2.out.own.lt)
    have HQ2L := Lib.hid (show q < w2.heap.size from HY2.out.lt)
    have HSS := Lib.hid (show ∀ u : World, Below w2.heap.size w2 u → (u.cell? ⟨p, 1, none⟩ = some (.slice pv L cv) ∧ u.cell? ⟨q, 1, none⟩ = some (.string h.root)) ∧ Below w2.heap.size w2 u from fun u hu =>
      ⟨⟨(hu.cell (p := ⟨p, 1, none⟩) HP2L.out).trans c1, (hu.cell (p := ⟨q, 1, none⟩) HQ2L.out).trans y1⟩, hu⟩)
    obtain ⟨E, hE⟩ : ∃ E, errOf my = E := ⟨_, rfl⟩
    have HEE := Lib.hid hE
    clear hE
    have HCALL := Lib.hid (show ∀ u : World, Below w2.heap.size w2 u → Calls Tryz.prog 85 #[.slice pv L cv, .string h.root] u (fun e w' => e = .returned (.tuple #[.agg #[.int .i64 Y.epoch, .string Y.root, .string Y.prev], E]) ∧ Below u.heap.size u w') from fun u hu => by
      have := pNext_is c.heads pv cv h.root Y my u (HK2.out.below hu HK2.out.lt) HL.out (HHD.out.below hu) HN.out
      rwa [HLE.out, HEE.out] at this)
    go_wp2
    go_region_held3 (fun w' => (w'.cell? ⟨p, 1, none⟩ = some (.slice pv L cv) ∧ w'.cell? ⟨q, 1, none⟩ = some (.string h.root)) ∧ Below w2.heap.size w2 w')
      (first
        | exact HSS.out _ (Below.refl _ _).drew
        | exact HSS.out _ ((Below.refl _ _).alloc (Nat.le_refl _) _).drew
        | exact HSS.out _ ((Below.refl _ _).drew.trans (hb3.mono (Nat.le_refl _)))
        | exact HSS.out _ (((Below.refl _ _).drew.trans (hb3.mono (Nat.le_refl _))).alloc hb3.size _)
        | exact HSS.out _ (((Below.refl _ _).alloc (Nat.le_refl _) _).drew.trans (hb3.mono (by simp)))
        | exact HSS.out _ ((((((Below.refl _ _).alloc (Nat.le_refl _) _).drew.trans (hb3.mono (by simp))).setCell (Nat.le_refl _) _).setCell (Nat.le_refl _) _).setCell (Nat.le_refl _) _))
      (first | (go_at_call 85; refine (HCALL.out _ (And.right (by assumption))).mono ?_; rintro e w3 ⟨rfl, hb3⟩; try (have hnew := newFacts hb3; obtain ⟨q0, q1, q2, f0, f1, f2⟩ := hnew)))
    all_goals
      first
        | (have HXB := Lib.hid (newHolds hb3 Y).1
           have HBX := Lib.hid (newHolds hb3 Y).2
           generalize (((w3.setCell ⟨w2.heap.size, 0, none⟩ (.int .i64 Y.epoch)).setCell ⟨w2.heap.size, 1, none⟩ (.string Y.root)).setCell ⟨w2.heap.size, 2, none⟩ (.string Y.prev)) = W at HXB HBX ⊢
           have v0 : W.cell? ⟨w2.heap.size, 0, none⟩ = some (.int .i64 Y.epoch) := HXB.out.cell 0 (by omega)
           have v1 : W.cell? ⟨w2.heap.size, 1, none⟩ = some (.string Y.root) := HXB.out.cell 1 (by omega)
           have v2 : W.cell? ⟨w2.heap.size, 2, none⟩ = some (.string Y.prev) := HXB.out.cell 2 (by omega)
           clear q0 q1 q2 f0 f1 f2)
        | (have HXB := Lib.hid (show Holds (w3.alloc (.cells #[.int .i64 Y.epoch, .string Y.root, .string Y.prev] 49)) w3.heap.size 3 (hdF Y) 49 from Holds.new w3 3 (hdF Y) 49)
           have HBX := Lib.hid (show Below w2.heap.size w2 (w3.alloc (.cells #[.int .i64 Y.epoch, .string Y.root, .string Y.prev] 49)) from ((Below.refl _ _).drew.trans (hb3.mono (Nat.le_refl _))).alloc hb3.size _)
           generalize (w3.alloc (.cells #[.int .i64 Y.epoch, .string Y.root, .string Y.prev] 49)) = W at HXB HBX ⊢
           have v0 : W.cell? ⟨w3.heap.size, 0, none⟩ = some (.int .i64 Y.epoch) := HXB.out.cell 0 (by omega)
           have v1 : W.cell? ⟨w3.heap.size, 1, none⟩ = some (.string Y.root) := HXB.out.cell 1 (by omega)
           have v2 : W.cell? ⟨w3.heap.size, 2, none⟩ = some (.string Y.prev) := HXB.out.cell 2 (by omega))
      rename_i hheld
      have HBT := Lib.hid (HBW.out.trans (HBX.out.mono HBW.out.size))
      have HYW := Lib.hid (HY2.out.below HBX.out HY2.out.lt)
      have HCT := Lib.hid (HC2.out.same (same_of_below HBX.out HC2.out.lt))
      clear hheld hb3 c1 y0 y1 HSS HCALL
      have l0 : W.cell? ⟨q, 0, none⟩ = some (.int .i64 h.epoch) := HYW.out.cell 0 (by omega)
      have l1 : W.cell? ⟨q, 1, none⟩ = some (.string h.root) := HYW.out.cell 1 (by omega)
      have l2 : W.cell? ⟨q, 2, none⟩ = some (.string h.prev) := HYW.out.cell 2 (by omega)
      by_cases hm0 : my = 0
      · have hEn : E = .nilIface := by rw [← HEE.out, hm0]; rfl
        subst hEn
        have HM0 := Lib.hid hm0
        clear hm0
        by_cases hyx : Y = h
        · have hne : ∀ u : World, (binOp .neq 49 (.agg #[.int .i64 Y.epoch, .string Y.root, .string Y.prev]) (.agg #[.int .i64 h.epoch, .string h.root, .string h.prev])).run Tryz.prog u = .ok (.bool false) u := fun u => by rw [run_neq_heads, decide_eq_true hyx]; rfl
          have HYX := Lib.hid hyx
          clear hyx
          have r0 : W.cell? ⟨p, 1, none⟩ = some (.slice pv L cv) := HCT.out.own.cell 1 (by omega)
          have z0 : ∀ z : SawZ p q (.slice pv L cv) h, z.at'.cell? ⟨p, 1, none⟩ = some (.slice pv L cv) := fun z => z.h0
          have z1 : ∀ z : SawZ p q (.slice pv L cv) h, z.at'.cell? ⟨q, 0, none⟩ = some (.int .i64 h.epoch) := fun z => z.h1
          have z2 : ∀ z : SawZ p q (.slice pv L cv) h, z.at'.cell? ⟨q, 1, none⟩ = some (.string h.root) := fun z => z.h2
          have z3 : ∀ z : SawZ p q (.slice pv L cv) h, z.at'.cell? ⟨q, 2, none⟩ = some (.string h.prev) := fun z => z.h3
          have zn : Nonempty (SawZ p q (.slice pv L cv) h) := ⟨⟨W.drew, r0, l0, l1, l2⟩⟩
          go_wp2
          refine wp_region_taken (fun w' => ∃ z : SawZ p q (.slice pv L cv) h, w' = z.at') [0, 1, 2, 3, 4, 5] [6, 7, 8, 9, 10] (by kernel_rfl) (by kernel_rfl) (by intro c d v a w h; cases d <;> exact h) ⟨⟨W.drew, r0, l0, l1, l2⟩, rfl⟩ ?_
          simp only [pickOps, List.filterMap_cons, List.filterMap_nil, List.getElem?_cons_zero, List.getElem?_cons_succ]
          repeat (first | go_big_quiet_step (fail) | quiet_step (fail))
          refine wpQuiet_nil ?_
          have HZZ := Lib.hid (show ∀ u : World, Below W.heap.size W u → ∃ z : SawZ p q (.slice pv L cv) h, u = z.at' from fun u hu =>
            ⟨⟨u, (hu.cell (p := ⟨p, 1, none⟩) HCT.out.own.lt).trans r0, (hu.cell (p := ⟨q, 0, none⟩) HYW.out.lt).trans l0, (hu.cell (p := ⟨q, 1, none⟩) HYW.out.lt).trans l1, (hu.cell (p := ⟨q, 2, none⟩) HYW.out.lt).trans l2⟩, rfl⟩)
          clear z0 z1 z2 z3 zn
          refine wpSeq_one rfl (fun K' hK => ?_)
          go_wp2
          refine hK _ _ (HZZ.out _ ((Below.refl _ _).alloc (Nat.le_refl _) _).drew) ?_
          clear hK K'
          have HROW := Lib.hid (show Row W.drew (p + 1) 3 (.slice pv L cv) L (hdCells c.heads) from by have := HCT.out.row.drew; rwa [HLE.out] at this)
          refine wpSeq_one rfl (fun K' hK => ?_)
          refine wpList_append_cells rfl (.tmp 65) (.tmp 67) 84 rfl 49 Tryz.underlying84 _ 3 40 infoHd rfl (by decide) (by decide) (p + 1) (.slice pv L cv) L (hdCells c.heads) rfl (HROW.out.alloc _) (by have := HCT.out.own.lt; simp; omega) hl h.cells rfl (by intro u hu; simp [Hd.cells] at hu; rcases hu with rfl | rfl | rfl <;> rfl) W.heap.size rfl 49 (heap_alloc_new _ _) ?_
          intro v7 w7 hrow7 hgrow7 hmove7
          obtain ⟨q7, cap7, rfl⟩ := hrow7.out.any
          have HPU := Lib.hid (PClM.pushed (u := W.drew) (h := h) (HCT.out.same ⟨Nat.le_refl _, fun _ _ => rfl⟩) (by rw [HLE.out]; exact hrow7.out) hgrow7.out hmove7.out)
          have HBLK := Lib.hid (show ∀ k, k < W.heap.size → (Value.slice pv L cv).ownBlock ≠ some k → w7.heap[k]? = W.heap[k]? from fun k hk hv =>
            (hgrow7.out.block k (by simp; omega) (fun e => hv e.symm)).trans ((alloc_below W.drew _).block k hk))
          have HPV := Lib.hid (show (Value.slice pv L cv).ownBlock ≠ some p from HCT.out.row.fresh (Nat.lt_succ_self p))
          have HQV := Lib.hid (show (Value.slice pv L cv).ownBlock ≠ some q from fun e => by have := HCW.out.lt _ (HCW.out.fv _ e); have := HQE.out.1; omega)
          have HZ7 := Lib.hid (show ∃ z : SawZ p q (.slice pv L cv) h, w7 = z.at' from by
            have b1 := HBLK.out p HCT.out.own.lt HPV.out
            have b2 := HBLK.out q HYW.out.lt HQV.out
            exact ⟨⟨w7, (World.cell?_of_block (w := W) (a := ⟨p, 1, none⟩) b1).trans r0, (World.cell?_of_block (w := W) (a := ⟨q, 0, none⟩) b2).trans l0, (World.cell?_of_block (w := W) (a := ⟨q, 1, none⟩) b2).trans l1, (World.cell?_of_block (w := W) (a := ⟨q, 2, none⟩) b2).trans l2⟩, rfl⟩)
          have HP7 := Lib.hid (show Holds w7 p 2 (pcF c.pub (.slice pv L cv)) 175 from by
            have h1 := HCT.out.own
            unfold Holds at h1 ⊢
            rw [HBLK.out p HCT.out.own.lt HPV.out]; exact h1)
          have t6 : w7.cell? ⟨p, 1, none⟩ = some (.slice pv L cv) := HP7.out.cell 1 (by omega)
          have t6f : w7.frozen? ⟨p, 1, none⟩ = false := HP7.out.free 1
          have HOFF := Lib.hid (show Off F w (w7.setCell ⟨p, 1, none⟩ (.slice q7 (L + 1) cap7)) from
            ((((Off.of_below HBT.out).drew.alloc _).trans (Off.of_grown hgrow7.out (F := F) (fun k hk => HCW.out.fv k hk)) (fun _ _ h => h)).setCell (.inr HCW.out.fp) _))
          clear r0 l0 l1 l2 v0 v1 v2
          refine hK _ _ HZ7.out ?_
          clear hK K'
          refine wpSeq_one rfl (fun K' hK => ?_)
          go_wp2
          refine hK _ _ HZ7.out ?_
          clear hK K'
          refine wpSeq_one rfl (fun K' hK => ?_)
          go_wp2
          refine hK _ _ HZ7.out ?_
          clear hK K'
          refine wpSeq_last rfl (fun K' hK => ?_)
          go_wp2
          refine hK _ _ ?_
          clear hK K' t6 t6f
          go_wp2
          go_ret
          have hh := HH'.out
          rw [if_pos (by rw [HYX.out, HM0.out])] at hh
          obtain ⟨rfl, rfl⟩ := Prod.mk.inj hh
          exact ⟨rfl, _, HOFF.out, (fun k hk => by
            rcases hk.1 with e | e
            · exact .inl e
            · exact .inr (Nat.le_trans HBT.out.size e)), ⟨_, HPU.out⟩⟩
        · have hne : ∀ u : World, (binOp .neq 49 (.agg #[.int .i64 Y.epoch, .string Y.root, .string Y.prev]) (.agg #[.int .i64 h.epoch, .string h.root, .string h.prev])).run Tryz.prog u = .ok (.bool true) u := fun u => by rw [run_neq_heads, decide_eq_false hyx]; rfl
          have HYX := Lib.hid hyx
          clear hyx
          go_wp2
          go_ret
          have hh := HH'.out
          rw [if_neg (fun e => HYX.out (Prod.mk.inj e).1)] at hh
          obtain ⟨rfl, rfl⟩ := Prod.mk.inj hh
          exact ⟨rfl, F, Off.of_below HBT.out, Grew.refl _ _, ⟨_, HCT.out⟩⟩
      · have hEn : E = .iface 28 (.int .i64 my) := by rw [← HEE.out]; unfold errOf; rw [if_neg hm0]
        subst hEn
        have HM0 := Lib.hid hm0
        clear hm0
        go_wp2
        go_ret
        have hh := HH'.out
        rw [if_neg (fun e => HM0.out (Prod.mk.inj e).2)] at hh
        obtain ⟨rfl, rfl⟩ := Prod.mk.inj hh
        exact ⟨rfl, F, Off.of_below HBT.out, Grew.refl _ _, ⟨_, HCT.out⟩⟩
end Go.Proofs.YtcfpmofmjnhonaaGreatDoor
