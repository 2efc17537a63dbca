/- Parts of the proof, one behind the other: PSee, Back, PMarks. -/
import Derived.Test.YtcfpmofmjnhonaaGreatDoorM33
import Derived.Test.YtcfpmofmjnhonaaGreatDoorM34
import Derived.Test.YtcfpmofmjnhonaaGreatDoorM29
import Derived.RangeFuncNested
import Derived.RangeFuncBound
import Derived.RangeFuncCalls
import Derived.RangeFuncLeaves
import Derived.Shelf.Abstract
import Derived.Shelf.RegionOpen
import Derived.WalkKit
import Derived.OwnWalkIn
import Derived.TacticsInMore
import Derived.LoopNIn
import Derived.LoopIn
import Derived.Test.YtcfpmofmjnhonaaGreatDoorM5
import Derived.Test.YtcfpmofmjnhonaaGreatDoorM13
import Derived.Test.YtcfpmofmjnhonaaGreatDoorM12
import Derived.Test.YtcfpmofmjnhonaaGreatDoorM31
/- The program's client: See. -/
namespace Go.Proofs.YtcfpmofmjnhonaaGreatDoor
open Go.RowKit

structure SawZ (p q : Nat) (v : Value) (h : Hd) where
  at' : World
  h0 : at'.cell? ⟨p, 1, none⟩ = some v
  h1 : at'.cell? ⟨q, 0, none⟩ = some (.int .i64 h.epoch)
  h2 : at'.cell? ⟨q, 1, none⟩ = some (.string h.root)
  h3 : at'.cell? ⟨q, 2, none⟩ = some (.string h.prev)
/-- One more head was appended, and the new list stored. -/
theorem PClM.pushed {F : Nat → Prop} {u w7 : World} {X : Obj} {p : Nat} {c : Cl} {v v' : Value} {h : Hd} (hc : PClM F u p c v) (hrow : Row w7 (p + 1) 3 v' (c.heads.length + 1) (hdCells c.heads ++ h.cells)) (hg : (u.alloc X).grownBy w7 v.ownBlock) (hm : Moved (u.alloc X) v v') :
    PClM (fun k => (F k ∨ u.heap.size ≤ k) ∧ k < w7.heap.size) (w7.setCell ⟨p, 1, none⟩ v') p { c with heads := c.heads ++ [h] } v' := by
  have hz : u.heap.size < w7.heap.size := by have := hg.size; simp at this; omega
  have hvp : v.ownBlock ≠ some p := hc.row.fresh (Nat.lt_succ_self p)
  have hvp' : v'.ownBlock ≠ some p := hrow.fresh (Nat.lt_succ_self p)
  have hpu := hc.own.lt
  exact {
    own := by
      have h0 : Holds w7 p 2 (pcF c.pub v) 175 := by
        have h1 := hc.own
        unfold Holds at h1 ⊢
        rw [hg.block p (by simp; omega) (fun e => hvp e.symm), (alloc_below u X).block p hpu]
        exact h1
      refine (h0.set 1 v').congr fun i hi => ?_
      unfold upd pcF
      rcases (show i = 0 ∨ i = 1 by omega) with rfl | rfl <;> rfl
    row := by
      rw [List.length_append, hdCells_append]
      have e : hdCells [h] = h.cells := by simp [hdCells]
      rw [e]
      exact hrow.setOther hvp' _
    fp := ⟨.inl hc.fp, by omega⟩
    fv := fun k hk => by
      refine ⟨?_, (hrow.lt k hk).2⟩
      rcases hm with e | e
      · exact .inl (hc.fv k (e ▸ hk))
      · have := e k hk
        simp at this
        exact .inr (by omega)
    lt := fun k hk => by
      have : (w7.setCell ⟨p, 1, none⟩ v').heap.size = w7.heap.size := by simp [World.setCell]
      rw [this]
      exact hk.2 }
set_option maxHeartbeats 4000000 in
set_option maxRecDepth 100000 in
theorem pSee_is (F : Nat → Prop) (p : Nat) (c c' : Cl) (h : Hd) (key : Int) (S P : List ByteArray) (A B : Option Addr) (ca cb : Nat) (n : Int) (w : World) (hc : PCl F w p c) (hk : HasK w)
    (hl : c.heads.length ≤ 1000000) (hls : S.length ≤ 1000000) (hlp : P.length ≤ 1000000) (he : h.epoch < 9223372036854775808) (hs : Strs w A S) (hp : Strs w B P) (ha : seeAns c ⟨h, key, S, P⟩ = (c', n)) :
    Calls Tryz.prog 33 #[.pointer (some ⟨p, 0, none⟩), .agg #[.int .i64 h.epoch, .string h.root, .string h.prev, .int .i64 key, .slice A S.length ca, .slice B P.length cb]] w fun e w' => e = .returned (errOf n) ∧ ∃ F' : Nat → Prop, Off F w w' ∧ Grew w F F' ∧ PCl F' w' p c' := by
  obtain ⟨v, hc⟩ := hc
  obtain ⟨pv, cv, rfl⟩ := hc.row.any
  have HB0 := Lib.hid (alloc_below w (.cells #[.int .i64 h.epoch, .string h.root, .string h.prev, .int .i64 key, .slice A S.length ca, .slice B P.length cb] 54))
  have HX0 := Lib.hid (show Holds (w.alloc (.cells #[.int .i64 h.epoch, .string h.root, .string h.prev, .int .i64 key, .slice A S.length ca, .slice B P.length cb] 54)) w.heap.size 6 (sgF h key (.slice A S.length ca) (.slice B P.length cb)) 54 from Holds.new w 6 (sgF h key (.slice A S.length ca) (.slice B P.length cb)) 54)
  have HK0 := Lib.hid (hk.below HB0.out hk.lt)
  have HC0 := Lib.hid (hc.same (same_of_below HB0.out hc.lt))
  have HS0 := Lib.hid (hs.below HB0.out)
  have HP0 := Lib.hid (hp.below HB0.out)
  have HCW := Lib.hid hc
  have HE := Lib.hid he
  have HA := Lib.hid ha
  have HL := Lib.hid hl
  obtain ⟨L, hLe⟩ : ∃ L, c.heads.length = L := ⟨_, rfl⟩
  have HLE := Lib.hid hLe
  rw [hLe] at HC0 HCW hl
  clear hc hk hs hp he ha hLe
  obtain ⟨T, ht⟩ : ∃ T, sealedOk c.pub h key S P = T := ⟨_, rfl⟩
  have HT := Lib.hid ht
  clear ht
  go_enter Tryz.func33, Tryz.ntmps33
  go_wp2_with fail
  generalize w.alloc (.cells #[.int .i64 h.epoch, .string h.root, .string h.prev, .int .i64 key, .slice A S.length ca, .slice B P.length cb] 54) = w0 at HB0 HX0 HK0 HC0 HS0 HP0 ⊢
  refine (pSealed_is F p c h key S P A B ca cb T _ ⟨_, by have := HC0.out; exact this⟩ HK0.out hls hlp HE.out HS0.out HP0.out HT.out).mono ?_
  rintro e w1 ⟨rfl, hb1⟩
  have HB1 := Lib.hid (HB0.out.trans (hb1.mono HB0.out.size))
  have HK1 := Lib.hid (HK0.out.below hb1 HK0.out.lt)
  have HC1 := Lib.hid (HC0.out.same (same_of_below hb1 HC0.out.lt))
  have HX1 := Lib.hid (HX0.out.below hb1 HX0.out.lt)
  have HP1L := Lib.hid (show p < w1.heap.size from HC1.out.own.lt)
  have HQ1L := Lib.hid (show w.heap.size < w1.heap.size from HX1.out.lt)
  clear hb1 HK0 HC0 HX0 HS0 HP0 HB0
  cases T
  · go_wp2
    go_ret
    have hh := HA.out
    unfold seeAns at hh
    rw [if_neg (fun e => by
      have h4 := HT.out
      unfold sealedOk at h4
      simp only [Bool.and_eq_false_iff, decide_eq_false_iff_not] at h4
      rcases h4 with h4 | h4 | h4
      · rw [e.1] at h4; cases h4
      · exact h4 e.2.1
      · have e3 := e.2.2; rw [h4] at e3; cases e3)] at hh
    obtain ⟨rfl, rfl⟩ := Prod.mk.inj hh
    exact ⟨rfl, F, Off.of_below HB1.out, Grew.refl _ _, ⟨_, HC1.out⟩⟩
  · have HT3 := Lib.hid (show rightHead h = true ∧ key = h.epoch - 1 ∧ sealOk c.pub (headMark h) key S P = true from by
      have h4 := HT.out
      unfold sealedOk at h4
      simp only [Bool.and_eq_true, decide_eq_true_eq] at h4
      exact h4)
    have HH := Lib.hid (show (if (c.heads.length : Int) < h.epoch - 1 then (c, 10)
      else if h.epoch - 1 < (c.heads.length : Int) then (if hdAt c.heads (h.epoch - 1).toNat = h then (c, 0) else (c, 13))
      else if nextAns c.heads h.root = (h, 0) then ({ c with heads := c.heads ++ [h] }, 0) else (c, 13)) = (c', n) from by
      have hh := HA.out
      unfold seeAns at hh
      rw [if_pos HT3.out] at hh
      exact hh)
    obtain ⟨k, hk⟩ : ∃ k : Nat, h.epoch = (k : Int) + 1 := ⟨(h.epoch - 1).toNat, by have := (rightHead_facts HT3.out.1).1; omega⟩
    have HKE := Lib.hid hk
    clear hk HA
    have c1 : w1.cell? ⟨p, 1, none⟩ = some (.slice pv L cv) := HC1.out.own.cell 1 (by omega)
    have x0 : w1.cell? ⟨w.heap.size, 0, none⟩ = some (.int .i64 h.epoch) := HX1.out.cell 0 (by omega)
    have x1 : w1.cell? ⟨w.heap.size, 1, none⟩ = some (.string h.root) := HX1.out.cell 1 (by omega)
    have x2 : w1.cell? ⟨w.heap.size, 2, none⟩ = some (.string h.prev) := HX1.out.cell 2 (by omega)
    have HSS := Lib.hid (show ∀ u : World, Below w1.heap.size w1 u → (u.cell? ⟨p, 1, none⟩ = some (.slice pv L cv) ∧ u.cell? ⟨w.heap.size, 0, none⟩ = some (.int .i64 h.epoch) ∧ u.cell? ⟨w.heap.size, 1, none⟩ = some (.string h.root) ∧ u.cell? ⟨w.heap.size, 2, none⟩ = some (.string h.prev)) ∧ Below w1.heap.size w1 u from fun u hu =>
      ⟨⟨(hu.cell (p := ⟨p, 1, none⟩) HP1L.out).trans c1, (hu.cell (p := ⟨w.heap.size, 0, none⟩) HQ1L.out).trans x0, (hu.cell (p := ⟨w.heap.size, 1, none⟩) HQ1L.out).trans x1, (hu.cell (p := ⟨w.heap.size, 2, none⟩) HQ1L.out).trans x2⟩, hu⟩)
    go_wp2
    go_region_held3 (fun w' => (w'.cell? ⟨p, 1, none⟩ = some (.slice pv L cv) ∧ w'.cell? ⟨w.heap.size, 0, none⟩ = some (.int .i64 h.epoch) ∧ w'.cell? ⟨w.heap.size, 1, none⟩ = some (.string h.root) ∧ w'.cell? ⟨w.heap.size, 2, none⟩ = some (.string h.prev)) ∧ Below w1.heap.size w1 w')
      (first
        | exact HSS.out _ (Below.refl _ _).drew
        | exact HSS.out _ ((Below.refl _ _).alloc (Nat.le_refl _) _).drew
        | exact HSS.out _ ((Below.refl _ _).drew.alloc (Nat.le_refl _) _)
        | exact HSS.out _ ((((((Below.refl _ _).alloc (Nat.le_refl _) _).drew).setCell (Nat.le_refl _) _).setCell (Nat.le_refl _) _).setCell (Nat.le_refl _) _))
      (first | fail)
    rename_i hheld
    clear hheld c1 x0 x1 x2 HSS
    have HB2 := Lib.hid (show Below w1.heap.size w1 (w1.alloc (.cells #[.int .i64 h.epoch, .string h.root, .string h.prev] 49)).drew from ((Below.refl _ _).alloc (Nat.le_refl _) _).drew)
    have HY2 := Lib.hid (show Holds (w1.alloc (.cells #[.int .i64 h.epoch, .string h.root, .string h.prev] 49)).drew w1.heap.size 3 (hdF h) 49 from (Holds.new w1 3 (hdF h) 49).drew)
    generalize (w1.alloc (.cells #[.int .i64 h.epoch, .string h.root, .string h.prev] 49)).drew = w2 at HB2 HY2 ⊢
    have HBW := Lib.hid (HB1.out.trans (HB2.out.mono HB1.out.size))
    have HK2 := Lib.hid (HK1.out.below HB2.out HK1.out.lt)
    have HC2 := Lib.hid (HC1.out.same (same_of_below HB2.out HC1.out.lt))
    obtain ⟨q, hq⟩ : ∃ q, w1.heap.size = q := ⟨_, rfl⟩
    have HQE := Lib.hid (show w.heap.size ≤ q ∧ p < q from by rw [← hq]; exact ⟨HB1.out.size, HP1L.out⟩)
    rw [hq] at HY2 ⊢
    clear hq HC1 HX1 HK1 HP1L HQ1L HB1 HB2
    have HHD := Lib.hid (show Hds w2 pv c.heads from by
      obtain ⟨hn, A', cap', e', hd'⟩ := HC2.out.row.hds
      injection e' with e1' e2' e3'
      rw [e1']; exact hd')
    have y0 : w2.cell? ⟨q, 0, none⟩ = some (.int .i64 h.epoch) := HY2.out.cell 0 (by omega)
    have hee := HE.out
    by_cases g1 : (L : Int) + 1 < h.epoch
    · go_wp2
      go_ret
      have hh := HH.out
      rw [HLE.out, if_pos (by omega)] at hh
      obtain ⟨rfl, rfl⟩ := Prod.mk.inj hh
      exact ⟨rfl, F, Off.of_below HBW.out, Grew.refl _ _, ⟨_, HC2.out⟩⟩
    by_cases g2 : h.epoch ≤ (L : Int)
    · have hwk : wrap64 (h.epoch - 1) = (k : Int) := by have := HKE.out; unfold wrap64; omega
      have c1 : w2.cell? ⟨p, 1, none⟩ = some (.slice pv L cv) := HC2.out.own.cell 1 (by omega)
      obtain ⟨a, rfl, hal, b0, b1, b2⟩ := HHD.out.at_ (i := k) (by have := HLE.out; have := HKE.out; omega)
      have d1 : w2.cell? ⟨(a.add (k * 3)).block, (a.add (k * 3)).off + 1, none⟩ = some (.string (hdAt c.heads k).root) := b1
      have d2 : w2.cell? ⟨(a.add (k * 3)).block, (a.add (k * 3)).off + 2, none⟩ = some (.string (hdAt c.heads k).prev) := b2
      have y1 : w2.cell? ⟨q, 1, none⟩ = some (.string h.root) := HY2.out.cell 1 (by omega)
      have y2 : w2.cell? ⟨q, 2, none⟩ = some (.string h.prev) := HY2.out.cell 2 (by omega)
      obtain ⟨X, hX⟩ : ∃ X, hdAt c.heads k = X := ⟨_, rfl⟩
      rw [hX] at b0 d1 d2
      have HX := Lib.hid hX
      have hk0 : (0 : Int) ≤ (k : Int) := by omega
      have hk1 : (k : Int) < (L : Int) := by have := HKE.out; omega
      clear b1 b2 hX hal
      by_cases hxh : X = h
      · have hne : ∀ u : World, (binOp .neq 49 (.agg #[.int .i64 X.epoch, .string X.root, .string X.prev]) (.agg #[.int .i64 h.epoch, .string h.root, .string h.prev])).run Tryz.prog u = .ok (.bool false) u := fun u => by rw [run_neq_heads, decide_eq_true hxh]; rfl
        have HXH := Lib.hid hxh
        clear hxh
        go_wp2
        go_quiet (fail)
        go_wp2
        go_ret
        have hh := HH.out
        rw [HLE.out, if_neg (by omega), if_pos (by omega), show (h.epoch - 1).toNat = k by have := HKE.out; omega, HX.out, if_pos HXH.out] at hh
        obtain ⟨rfl, rfl⟩ := Prod.mk.inj hh
        exact ⟨rfl, F, (Off.of_below HBW.out).drewN _, Grew.refl _ _, ⟨_, HCW.out.same (same_of_below (below_drewP HBW.out _) HCW.out.lt)⟩⟩
      · have hne : ∀ u : World, (binOp .neq 49 (.agg #[.int .i64 X.epoch, .string X.root, .string X.prev]) (.agg #[.int .i64 h.epoch, .string h.root, .string h.prev])).run Tryz.prog u = .ok (.bool true) u := fun u => by rw [run_neq_heads, decide_eq_false hxh]; rfl
        have HXH := Lib.hid hxh
        clear hxh
        go_wp2
        go_quiet (fail)
        go_wp2
        go_ret
        have hh := HH.out
        rw [HLE.out, if_neg (by omega), if_pos (by omega), show (h.epoch - 1).toNat = k by have := HKE.out; omega, HX.out, if_neg HXH.out] at hh
        obtain ⟨rfl, rfl⟩ := Prod.mk.inj hh
        exact ⟨rfl, F, (Off.of_below HBW.out).drewN _, Grew.refl _ _, ⟨_, HCW.out.same (same_of_below (below_drewP HBW.out _) HCW.out.lt)⟩⟩
    have HKL := Lib.hid (show h.epoch = (L : Int) + 1 by omega)
    obtain ⟨Y, my, hn⟩ : ∃ Y m, nextAns c.heads h.root = (Y, m) := ⟨_, _, rfl⟩
    have HN := Lib.hid hn
    have HH' := Lib.hid (show (if (Y, my) = (h, (0 : Int)) then ({ c with heads := c.heads ++ [h] }, (0 : Int)) else (c, 13)) = (c', n) from by
      have hh := HH.out
      rw [HLE.out, if_neg (by omega), if_neg (by omega), hn] at hh
      exact hh)
    clear hn HH
    have c1 : w2.cell? ⟨p, 1, none⟩ = some (.slice pv L cv) := HC2.out.own.cell 1 (by omega)
    have y1 : w2.cell? ⟨q, 1, none⟩ = some (.string h.root) := HY2.out.cell 1 (by omega)
    have HP2L := Lib.hid (show p < w2.heap.size from HC2.out.own.lt)
    have HQ2L := Lib.hid (show q < w2.heap.size from HY2.out.lt)
    have HSS := Lib.hid (show ∀ u : World, Below w2.heap.size w2 u → (u.cell? ⟨p, 1, none⟩ = some (.slice pv L cv) ∧ u.cell? ⟨q, 1, none⟩ = some (.string h.root)) ∧ Below w2.heap.size w2 u from fun u hu =>
      ⟨⟨(hu.cell (p := ⟨p, 1, none⟩) HP2L.out).trans c1, (hu.cell (p := ⟨q, 1, none⟩) HQ2L.out).trans y1⟩, hu⟩)
    obtain ⟨E, hE⟩ : ∃ E, errOf my = E := ⟨_, rfl⟩
    have HEE := Lib.hid hE
    clear hE
    have HCALL := Lib.hid (show ∀ u : World, Below w2.heap.size w2 u → Calls Tryz.prog 85 #[.slice pv L cv, .string h.root] u (fun e w' => e = .returned (.tuple #[.agg #[.int .i64 Y.epoch, .string Y.root, .string Y.prev], E]) ∧ Below u.heap.size u w') from fun u hu => by
      have := pNext_is c.heads pv cv h.root Y my u (HK2.out.below hu HK2.out.lt) HL.out (HHD.out.below hu) HN.out
      rwa [HLE.out, HEE.out] at this)
    go_wp2
    go_region_held3 (fun w' => (w'.cell? ⟨p, 1, none⟩ = some (.slice pv L cv) ∧ w'.cell? ⟨q, 1, none⟩ = some (.string h.root)) ∧ Below w2.heap.size w2 w')
      (first
        | exact HSS.out _ (Below.refl _ _).drew
        | exact HSS.out _ ((Below.refl _ _).alloc (Nat.le_refl _) _).drew
        | exact HSS.out _ ((Below.refl _ _).drew.trans (hb3.mono (Nat.le_refl _)))
        | exact HSS.out _ (((Below.refl _ _).drew.trans (hb3.mono (Nat.le_refl _))).alloc hb3.size _)
        | exact HSS.out _ (((Below.refl _ _).alloc (Nat.le_refl _) _).drew.trans (hb3.mono (by simp)))
        | exact HSS.out _ ((((((Below.refl _ _).alloc (Nat.le_refl _) _).drew.trans (hb3.mono (by simp))).setCell (Nat.le_refl _) _).setCell (Nat.le_refl _) _).setCell (Nat.le_refl _) _))
      (first | (go_at_call 85; refine (HCALL.out _ (And.right (by assumption))).mono ?_; rintro e w3 ⟨rfl, hb3⟩; try (have hnew := newFacts hb3; obtain ⟨q0, q1, q2, f0, f1, f2⟩ := hnew)))
    all_goals
      first
        | (have HXB := Lib.hid (newHolds hb3 Y).1
           have HBX := Lib.hid (newHolds hb3 Y).2
           generalize (((w3.setCell ⟨w2.heap.size, 0, none⟩ (.int .i64 Y.epoch)).setCell ⟨w2.heap.size, 1, none⟩ (.string Y.root)).setCell ⟨w2.heap.size, 2, none⟩ (.string Y.prev)) = W at HXB HBX ⊢
           have v0 : W.cell? ⟨w2.heap.size, 0, none⟩ = some (.int .i64 Y.epoch) := HXB.out.cell 0 (by omega)
           have v1 : W.cell? ⟨w2.heap.size, 1, none⟩ = some (.string Y.root) := HXB.out.cell 1 (by omega)
           have v2 : W.cell? ⟨w2.heap.size, 2, none⟩ = some (.string Y.prev) := HXB.out.cell 2 (by omega)
           clear q0 q1 q2 f0 f1 f2)
        | (have HXB := Lib.hid (show Holds (w3.alloc (.cells #[.int .i64 Y.epoch, .string Y.root, .string Y.prev] 49)) w3.heap.size 3 (hdF Y) 49 from Holds.new w3 3 (hdF Y) 49)
           have HBX := Lib.hid (show Below w2.heap.size w2 (w3.alloc (.cells #[.int .i64 Y.epoch, .string Y.root, .string Y.prev] 49)) from ((Below.refl _ _).drew.trans (hb3.mono (Nat.le_refl _))).alloc hb3.size _)
           generalize (w3.alloc (.cells #[.int .i64 Y.epoch, .string Y.root, .string Y.prev] 49)) = W at HXB HBX ⊢
           have v0 : W.cell? ⟨w3.heap.size, 0, none⟩ = some (.int .i64 Y.epoch) := HXB.out.cell 0 (by omega)
           have v1 : W.cell? ⟨w3.heap.size, 1, none⟩ = some (.string Y.root) := HXB.out.cell 1 (by omega)
           have v2 : W.cell? ⟨w3.heap.size, 2, none⟩ = some (.string Y.prev) := HXB.out.cell 2 (by omega))
      rename_i hheld
      have HBT := Lib.hid (HBW.out.trans (HBX.out.mono HBW.out.size))
      have HYW := Lib.hid (HY2.out.below HBX.out HY2.out.lt)
      have HCT := Lib.hid (HC2.out.same (same_of_below HBX.out HC2.out.lt))
      clear hheld hb3 c1 y0 y1 HSS HCALL
      have l0 : W.cell? ⟨q, 0, none⟩ = some (.int .i64 h.epoch) := HYW.out.cell 0 (by omega)
      have l1 : W.cell? ⟨q, 1, none⟩ = some (.string h.root) := HYW.out.cell 1 (by omega)
      have l2 : W.cell? ⟨q, 2, none⟩ = some (.string h.prev) := HYW.out.cell 2 (by omega)
      by_cases hm0 : my = 0
      · have hEn : E = .nilIface := by rw [← HEE.out, hm0]; rfl
        subst hEn
        have HM0 := Lib.hid hm0
        clear hm0
        by_cases hyx : Y = h
        · have hne : ∀ u : World, (binOp .neq 49 (.agg #[.int .i64 Y.epoch, .string Y.root, .string Y.prev]) (.agg #[.int .i64 h.epoch, .string h.root, .string h.prev])).run Tryz.prog u = .ok (.bool false) u := fun u => by rw [run_neq_heads, decide_eq_true hyx]; rfl
          have HYX := Lib.hid hyx
          clear hyx
          have r0 : W.cell? ⟨p, 1, none⟩ = some (.slice pv L cv) := HCT.out.own.cell 1 (by omega)
          have z0 : ∀ z : SawZ p q (.slice pv L cv) h, z.at'.cell? ⟨p, 1, none⟩ = some (.slice pv L cv) := fun z => z.h0
          have z1 : ∀ z : SawZ p q (.slice pv L cv) h, z.at'.cell? ⟨q, 0, none⟩ = some (.int .i64 h.epoch) := fun z => z.h1
          have z2 : ∀ z : SawZ p q (.slice pv L cv) h, z.at'.cell? ⟨q, 1, none⟩ = some (.string h.root) := fun z => z.h2
          have z3 : ∀ z : SawZ p q (.slice pv L cv) h, z.at'.cell? ⟨q, 2, none⟩ = some (.string h.prev) := fun z => z.h3
          have zn : Nonempty (SawZ p q (.slice pv L cv) h) := ⟨⟨W.drew, r0, l0, l1, l2⟩⟩
          go_wp2
          refine wp_region_taken (fun w' => ∃ z : SawZ p q (.slice pv L cv) h, w' = z.at') [0, 1, 2, 3, 4, 5] [6, 7, 8, 9, 10] (by kernel_rfl) (by kernel_rfl) (by intro c d v a w h; cases d <;> exact h) ⟨⟨W.drew, r0, l0, l1, l2⟩, rfl⟩ ?_
          simp only [pickOps, List.filterMap_cons, List.filterMap_nil, List.getElem?_cons_zero, List.getElem?_cons_succ]
          repeat (first | go_big_quiet_step (fail) | quiet_step (fail))
          refine wpQuiet_nil ?_
          have HZZ := Lib.hid (show ∀ u : World, Below W.heap.size W u → ∃ z : SawZ p q (.slice pv L cv) h, u = z.at' from fun u hu =>
            ⟨⟨u, (hu.cell (p := ⟨p, 1, none⟩) HCT.out.own.lt).trans r0, (hu.cell (p := ⟨q, 0, none⟩) HYW.out.lt).trans l0, (hu.cell (p := ⟨q, 1, none⟩) HYW.out.lt).trans l1, (hu.cell (p := ⟨q, 2, none⟩) HYW.out.lt).trans l2⟩, rfl⟩)
          clear z0 z1 z2 z3 zn
          refine wpSeq_one rfl (fun K' hK => ?_)
          go_wp2
          refine hK _ _ (HZZ.out _ ((Below.refl _ _).alloc (Nat.le_refl _) _).drew) ?_
          clear hK K'
          have HROW := Lib.hid (show Row W.drew (p + 1) 3 (.slice pv L cv) L (hdCells c.heads) from by have := HCT.out.row.drew; rwa [HLE.out] at this)
          refine wpSeq_one rfl (fun K' hK => ?_)
          refine wpList_append_cells rfl (.tmp 65) (.tmp 67) 84 rfl 49 Tryz.underlying84 _ 3 40 infoHd rfl (by decide) (by decide) (p + 1) (.slice pv L cv) L (hdCells c.heads) rfl (HROW.out.alloc _) (by have := HCT.out.own.lt; simp; omega) hl h.cells rfl (by intro u hu; simp [Hd.cells] at hu; rcases hu with rfl | rfl | rfl <;> rfl) W.heap.size rfl 49 (heap_alloc_new _ _) ?_
          intro v7 w7 hrow7 hgrow7 hmove7
          obtain ⟨q7, cap7, rfl⟩ := hrow7.out.any
          have HPU := Lib.hid (PClM.pushed (u := W.drew) (h := h) (HCT.out.same ⟨Nat.le_refl _, fun _ _ => rfl⟩) (by rw [HLE.out]; exact hrow7.out) hgrow7.out hmove7.out)
          have HBLK := Lib.hid (show ∀ k, k < W.heap.size → (Value.slice pv L cv).ownBlock ≠ some k → w7.heap[k]? = W.heap[k]? from fun k hk hv =>
            (hgrow7.out.block k (by simp; omega) (fun e => hv e.symm)).trans ((alloc_below W.drew _).block k hk))
          have HPV := Lib.hid (show (Value.slice pv L cv).ownBlock ≠ some p from HCT.out.row.fresh (Nat.lt_succ_self p))
          have HQV := Lib.hid (show (Value.slice pv L cv).ownBlock ≠ some q from fun e => by have := HCW.out.lt _ (HCW.out.fv _ e); have := HQE.out.1; omega)
          have HZ7 := Lib.hid (show ∃ z : SawZ p q (.slice pv L cv) h, w7 = z.at' from by
            have b1 := HBLK.out p HCT.out.own.lt HPV.out
            have b2 := HBLK.out q HYW.out.lt HQV.out
            exact ⟨⟨w7, (World.cell?_of_block (w := W) (a := ⟨p, 1, none⟩) b1).trans r0, (World.cell?_of_block (w := W) (a := ⟨q, 0, none⟩) b2).trans l0, (World.cell?_of_block (w := W) (a := ⟨q, 1, none⟩) b2).trans l1, (World.cell?_of_block (w := W) (a := ⟨q, 2, none⟩) b2).trans l2⟩, rfl⟩)
          have HP7 := Lib.hid (show Holds w7 p 2 (pcF c.pub (.slice pv L cv)) 175 from by
            have h1 := HCT.out.own
            unfold Holds at h1 ⊢
            rw [HBLK.out p HCT.out.own.lt HPV.out]; exact h1)
          have t6 : w7.cell? ⟨p, 1, none⟩ = some (.slice pv L cv) := HP7.out.cell 1 (by omega)
          have t6f : w7.frozen? ⟨p, 1, none⟩ = false := HP7.out.free 1
          have HOFF := Lib.hid (show Off F w (w7.setCell ⟨p, 1, none⟩ (.slice q7 (L + 1) cap7)) from
            ((((Off.of_below HBT.out).drew.alloc _).trans (Off.of_grown hgrow7.out (F := F) (fun k hk => HCW.out.fv k hk)) (fun _ _ h => h)).setCell (.inr HCW.out.fp) _))
          clear r0 l0 l1 l2 v0 v1 v2
          refine hK _ _ HZ7.out ?_
          clear hK K'
          refine wpSeq_one rfl (fun K' hK => ?_)
          go_wp2
          refine hK _ _ HZ7.out ?_
          clear hK K'
          refine wpSeq_one rfl (fun K' hK => ?_)
          go_wp2
          refine hK _ _ HZ7.out ?_
          clear hK K'
          refine wpSeq_last rfl (fun K' hK => ?_)
          go_wp2
          refine hK _ _ ?_
          clear hK K' t6 t6f
          go_wp2
          go_ret
          have hh := HH'.out
          rw [if_pos (by rw [HYX.out, HM0.out])] at hh
          obtain ⟨rfl, rfl⟩ := Prod.mk.inj hh
          exact ⟨rfl, _, HOFF.out, (fun k hk => by
            rcases hk.1 with e | e
            · exact .inl e
            · exact .inr (Nat.le_trans HBT.out.size e)), ⟨_, HPU.out⟩⟩
        · have hne : ∀ u : World, (binOp .neq 49 (.agg #[.int .i64 Y.epoch, .string Y.root, .string Y.prev]) (.agg #[.int .i64 h.epoch, .string h.root, .string h.prev])).run Tryz.prog u = .ok (.bool true) u := fun u => by rw [run_neq_heads, decide_eq_false hyx]; rfl
          have HYX := Lib.hid hyx
          clear hyx
          go_wp2
          go_ret
          have hh := HH'.out
          rw [if_neg (fun e => HYX.out (Prod.mk.inj e).1)] at hh
          obtain ⟨rfl, rfl⟩ := Prod.mk.inj hh
          exact ⟨rfl, F, Off.of_below HBT.out, Grew.refl _ _, ⟨_, HCT.out⟩⟩
      · have hEn : E = .iface 28 (.int .i64 my) := by rw [← HEE.out]; unfold errOf; rw [if_neg hm0]
        subst hEn
        have HM0 := Lib.hid hm0
        clear hm0
        go_wp2
        go_ret
        have hh := HH'.out
        rw [if_neg (fun e => HM0.out (Prod.mk.inj e).2)] at hh
        obtain ⟨rfl, rfl⟩ := Prod.mk.inj hh
        exact ⟨rfl, F, Off.of_below HBT.out, Grew.refl _ _, ⟨_, HCT.out⟩⟩
end Go.Proofs.YtcfpmofmjnhonaaGreatDoor
/- slices.Backward over strings: what its rounds are handed, in what order. -/
namespace Go.Proofs.YtcfpmofmjnhonaaGreatDoor
open Go.RowKit Go.Shelf
attribute [local go_sem] Oper.semAt_some

/-- What has come when k rounds are over: the last places first. -/
def backTo (n k : Nat) : List Nat := (List.range k).map fun j => n - 1 - j
theorem backTo_succ (n k : Nat) : backTo n (k + 1) = backTo n k ++ [n - 1 - k] := by simp [backTo, List.range_succ]
theorem backTo_length (n k : Nat) : (backTo n k).length = k := by simp [backTo]
def back (P : List ByteArray) (ys : List (Fin P.length)) (k : Nat) : Prop := ys.map (·.val) = backTo P.length k
theorem back_snoc {P : List ByteArray} {ys : List (Fin P.length)} {k : Nat} (h : back P ys k) (x : Fin P.length) (hx : x.val = P.length - 1 - k) : back P (ys ++ [x]) (k + 1) := by
  unfold back at h ⊢
  rw [backTo_succ, List.map_append, h, List.map_singleton, hx]
theorem back_len {P : List ByteArray} {ys : List (Fin P.length)} {k : Nat} (h : back P ys k) : ys.length = k := by
  have := congrArg List.length h
  rwa [List.length_map, backTo_length] at this
def placed (P : List ByteArray) (x : Fin P.length) : ByteArray := P.getD x.val ⟨#[]⟩
/-- The texts lie below n₀. -/
def StrsAt (n₀ : Nat) (w : World) (A : Option Addr) (L : List ByteArray) : Prop := ∀ (i : Nat) p, L[i]? = some p → ∃ a, A = some a ∧ a.block < n₀ ∧ w.cell? (a.add i) = some (.string p)
theorem StrsAt.below {n₀ : Nat} {w w' : World} {A : Option Addr} {L : List ByteArray} (h : StrsAt n₀ w A L) (hb : Below n₀ w w') : StrsAt n₀ w' A L := fun i p hp => by
  obtain ⟨a, ha, hl, hc⟩ := h i p hp
  exact ⟨a, ha, hl, (hb.cell (by rw [block_add]; exact hl)).trans hc⟩

/-- What a round that goes on keeps: what lies below n₀, and the box with the slice. -/
def KeepBox (n₀ Bs : Nat) (v : Value) (W W' : World) : Prop := Below n₀ W W' ∧ (W.cell? ⟨Bs, 0, none⟩ = some v → W'.cell? ⟨Bs, 0, none⟩ = some v)
theorem keepBox_t {n₀ Bs : Nat} {v : Value} {A B C : World} (h : KeepBox n₀ Bs v A B) (k : KeepBox n₀ Bs v B C) : KeepBox n₀ Bs v A C := ⟨h.1.trans k.1, fun e => k.2 (h.2 e)⟩
theorem keepBox_b {n₀ Bs : Nat} {v : Value} {w : World} (hn : n₀ ≤ w.heap.size) (W : World) (l : Nat) (o o' : Obj) (hl : w.heap.size ≤ l) (h : W.heap[l]? = some o) (hc : o.isCells = false) (hw : o.isWalk = false) : KeepBox n₀ Bs v W (W.putObj l o') :=
  ⟨belowK_b hn W l o o' hl h hc hw, fun e => cell_kept e (grownBy_putObj' W l o') (fun r e => by cases e; exact ⟨_, h, hc⟩)⟩

set_option maxRecDepth 100000 in
set_option maxHeartbeats 2000000 in
theorem back1_in (F : Fence) (n : Nat) (h8 : F.fn 232) (hro : F.round = none) (hn : 1 ≤ n) (l Bs n₀ cap : Nat) (A : Option Addr) (P : List ByteArray) (hlen : P.length ≤ 1000000) (J Jx : List (Fin P.length) → World → Prop)
    (hY : ∀ pre x W, J pre W → pre.length < P.length → YieldAt F (n - 1) Tryz.prog l #[.int .i64 (x.val : Int), .string (placed P x)] W fun e W' =>
      (e = .returned (.bool true) ∧ J (pre ++ [x]) W' ∧ KeepBox n₀ Bs (.slice A P.length cap) W W') ∨ (e = .returned (.bool false) ∧ Jx (pre ++ [x]) W'))
    (W : World) (hBs : W.cell? ⟨Bs, 0, none⟩ = some (.slice A P.length cap)) (hc : StrsAt n₀ W A P) (h0 : J [] W) :
    CallsIn F n Tryz.prog 232 #[.func (.yield l) #[] #[], .pointer (some ⟨Bs, 0, none⟩)] W fun e W' => (∃ v, e = .returned v) ∧
      ((∃ ys, back P ys P.length ∧ J ys W') ∨ (∃ pre, (∃ k, k ≤ P.length ∧ back P pre k) ∧ Jx pre W')) := by
  refine callsIn_of_wp Tryz.func232 rfl h8 ?_ hro
  simp only [Tryz.ntmps232, List.size_toArray, List.length_cons, List.length_nil, Nat.reduceAdd, Nat.reduceSub, Array.replicate_succ, Array.replicate_zero, List.push_toArray, List.append_toArray, List.nil_append, List.cons_append]
  have hw0 : IntKind.i64.wrap ((P.length : Int) - 1) = (P.length : Int) - 1 := IntWalk.i64_in _ (by omega)
  gi_wp2
  gi_loopw [3] (fun i wr => ∃ k : Nat, k ≤ P.length ∧ i = .int .i64 ((P.length : Int) - 1 - k) ∧ (∃ ys, back P ys k ∧ J ys wr) ∧ Below n₀ W wr ∧ wr.cell? ⟨Bs, 0, none⟩ = some (.slice A P.length cap))
    (fun i _ => (intOf i + 1).toNat)
  case atStart => exact ⟨0, Nat.zero_le _, by simp, ⟨[], rfl, h0⟩, Below.refl _ _, hBs⟩
  case round =>
    obtain ⟨k, hk, rfl, ⟨ys, hys, hJs⟩, hnx, hcs⟩ := hrel
    by_cases hlt : k < P.length
    · obtain ⟨m, hm⟩ : ∃ m : Nat, P.length - 1 - k = m := ⟨_, rfl⟩
      have hmi : (P.length : Int) - 1 - k = (m : Int) := by omega
      have hml : (m : Int) < (P.length : Int) := by omega
      have hw1 : IntKind.i64.wrap ((m : Int) - 1) = (m : Int) - 1 := IntWalk.i64_in _ (by omega)
      obtain ⟨a, rfl, hal, hcc⟩ := hc m (P.getD m ⟨#[]⟩) (by rw [List.getD_eq_getElem?_getD, List.getElem?_eq_getElem (by omega)]; rfl)
      have hcx : wr.cell? (a.add m) = some (.string (P.getD m ⟨#[]⟩)) := (hnx.cell (by rw [block_add]; exact hal)).trans hcc
      obtain ⟨fn, tmps, assign, body, hy, hR⟩ := hY ys ⟨m, by omega⟩ wr hJs (by rw [back_len hys]; exact hlt)
      dsimp only [placed] at hy
      have hbs := back_snoc hys ⟨m, by omega⟩ hm.symm
      rw [hmi]
      generalize P.getD m ⟨#[]⟩ = p at hcx hy
      gi_wp2
      refine hR.mono ?_
      rintro e W3 (⟨rfl, hJ3, hk3⟩ | ⟨rfl, hJx3⟩)
      · gi_wp2
        go_roundw
        case rel => exact ⟨k + 1, by omega, by congr 1; omega, ⟨_, hbs, hJ3⟩, hnx.trans hk3.1, hk3.2 hcs⟩
        case measure => simp only [intOf]; omega
      · gi_wp2
        refine bodyPost_ret (results_none rfl _ _ _) rfl ?_
        exact ⟨⟨_, rfl⟩, .inr ⟨_, ⟨k + 1, by omega, hbs⟩, hJx3⟩⟩
    · obtain rfl : k = P.length := by omega
      rw [show (P.length : Int) - 1 - P.length = -1 by omega]
      gi_wp2
      go_end0
      exact ⟨⟨_, rfl⟩, .inl ⟨_, hys, hJs⟩⟩

set_option maxHeartbeats 1000000 in
theorem back_in (F : Fence) (n : Nat) (h6 : F.fn 193) (hro : F.round = none) (a : Option Addr) (len cap : Nat) (w : World) :
    CallsIn F n Tryz.prog 193 #[.slice a len cap] w fun e w' => e = .returned (.func (.func 232) #[] #[.pointer (some ⟨w.heap.size, 0, none⟩)]) ∧ w' = w.alloc (.cells #[.slice a len cap] 50) := by
  refine callsIn_of_wp Tryz.func193 rfl h6 ?_ hro
  simp only [Tryz.ntmps193, List.size_toArray, List.length_cons, List.length_nil, Nat.reduceAdd, Nat.reduceSub, Array.replicate_succ, Array.replicate_zero, List.push_toArray, List.append_toArray, List.nil_append, List.cons_append]
  gi_wp2
  go_ret
  exact ⟨rfl, rfl⟩

/-- What slices.Backward hands back stops after all the texts, the last first; or a round said no more. -/
theorem back_stops (F : Fence) (n : Nat) (h8 : F.fn 232) (hro : F.round = none) (hn : 1 ≤ n) (Bs n₀ cap : Nat) (A : Option Addr) (P : List ByteArray) (hlen : P.length ≤ 1000000) (w : World) (hBs : Bs < w.heap.size) (hn₀ : n₀ ≤ w.heap.size)
    (hc : w.cell? ⟨Bs, 0, none⟩ = some (.slice A P.length cap)) (hI : StrsAt n₀ w A P) :
    SeqStopsK F n Tryz.prog 232 #[.pointer (some ⟨Bs, 0, none⟩)] (fun x : Fin P.length => #[Value.int .i64 (x.val : Int), Value.string (placed P x)]) (KeepBox n₀ Bs (.slice A P.length cap)) (fun ys => back P ys P.length)
      (fun pre => ∃ k, k ≤ P.length ∧ back P pre k) P.length w := fun l J Jx W hW _ _ hY h0 =>
  back1_in F n h8 hro hn l Bs n₀ cap A P hlen J Jx hY W ((hW.cell (p := ⟨Bs, 0, none⟩) hBs).trans hc) (hI.below (hW.mono hn₀)) h0
end Go.Proofs.YtcfpmofmjnhonaaGreatDoor
/- Whether some text is no mark, by slices.ContainsFunc. -/
namespace Go.Proofs.YtcfpmofmjnhonaaGreatDoor
open Go.RowKit

theorem pNoMark_any (s : ByteArray) (w : World) : Calls Tryz.prog 144 #[.string s] w fun e w' => e = .returned (.bool (!decide (s.size = 16))) ∧ w' = w := by
  by_cases h : s.size = 16
  · rw [decide_eq_true h]
    have hi : ((s.size : Int) == 16) = true := by rw [beq_iff_eq]; omega
    have hj : ((s.size : Int) != 16) = false := by simp [bne, hi]
    go_enter Tryz.func144, Tryz.ntmps144
    go_wp2
    go_ret
    exact ⟨rfl, rfl⟩
  · rw [decide_eq_false h]
    have hi : ((s.size : Int) == 16) = false := by rw [beq_eq_false_iff_ne]; omega
    have hj : ((s.size : Int) != 16) = true := by simp [bne, hi]
    go_enter Tryz.func144, Tryz.ntmps144
    go_wp2
    go_ret
    exact ⟨rfl, rfl⟩
set_option maxRecDepth 100000 in
theorem pMarksIx_any (P : List ByteArray) (A : Option Addr) (cap : Nat) (w : World) (hl : P.length ≤ 1000000) (hm : Strs w A P) :
    Calls Tryz.prog 195 #[.slice A P.length cap, .func (.func 144) #[] #[]] w fun e w' => w' = w ∧ ∃ n : Int, e = .returned (.int .i64 n) ∧ ((0 ≤ n ∧ marksOk P = false) ∨ (n = -1 ∧ marksOk P = true)) := by
  have HM := Lib.hid hm
  clear hm
  go_enter Tryz.func195, Tryz.ntmps195
  go_wp2
  go_loopw [8] (fun t wr => ∃ j : Nat, j ≤ P.length ∧ t = .int .i64 (j : Int) ∧ wr = w ∧ marksUpto P j = true) (fun t _ => P.length - (intOf t).toNat)
  case atStart => exact ⟨0, by omega, rfl, rfl, rfl⟩
  case round =>
    obtain ⟨j, hj, rfl, rfl, hall⟩ := hrel
    have HALL := Lib.hid hall
    clear hall
    by_cases hlt : j < P.length
    · obtain ⟨p, hp⟩ : ∃ p, P[j]? = some p := ⟨_, List.getElem?_eq_getElem hlt⟩
      obtain ⟨a, rfl, hal, c0⟩ := HM.out j p hp
      have HP := Lib.hid hp
      clear hp
      go_wp2_with fail
      refine (pNoMark_any p _).mono ?_
      rintro e w1 ⟨rfl, rfl⟩
      by_cases he : p.size = 16
      · rw [decide_eq_true he]
        have HE := Lib.hid he
        clear he
        go_wp2
        go_roundw
        case rel =>
          refine ⟨j + 1, by omega, by go_num, ?_, ?_⟩
          · first | rfl | trivial
          · have := HALL.out
            unfold marksUpto marksOk at this ⊢
            rw [List.take_add_one, HP.out, List.all_append, this]
            simp [HE.out]
        case measure => simp [intOf]; omega
      · rw [decide_eq_false he]
        have HE := Lib.hid he
        clear he
        go_wp2
        go_ret
        exact ⟨rfl, j, rfl, .inl ⟨by omega, marksOk_false HP.out HE.out⟩⟩
    · go_wp2
      go_ret
      exact ⟨rfl, -1, rfl, .inr ⟨rfl, by have h := HALL.out; unfold marksUpto at h; rwa [List.take_of_length_le (by omega)] at h⟩⟩
theorem pMarks_any (P : List ByteArray) (A : Option Addr) (cap : Nat) (w : World) (hl : P.length ≤ 1000000) (hm : Strs w A P) :
    Calls Tryz.prog 143 #[.slice A P.length cap, .func (.func 144) #[] #[]] w fun e w' => e = .returned (.bool (!marksOk P)) ∧ w' = w := by
  go_enter Tryz.func143, Tryz.ntmps143
  go_wp2_with fail
  refine (pMarksIx_any P A cap _ hl hm).mono ?_
  rintro e w1 ⟨rfl, n, rfl, ⟨h0, hf⟩ | ⟨rfl, hf⟩⟩
  · have HF := Lib.hid hf
    clear hf
    go_wp2
    go_ret
    exact ⟨by rw [HF.out]; rfl, rfl⟩
  · have HF := Lib.hid hf
    clear hf
    go_wp2
    go_ret
    exact ⟨by rw [HF.out]; rfl, rfl⟩
theorem pAre_any (P : List ByteArray) (A : Option Addr) (cap : Nat) (w : World) (hl : P.length ≤ 1000000) (hm : Strs w A P) :
    Calls Tryz.prog 95 #[.slice A P.length cap] w fun e w' => e = .returned (.bool (marksOk P)) ∧ w' = w := by
  obtain ⟨M, hM⟩ : ∃ M, marksOk P = M := ⟨_, rfl⟩
  have HM := Lib.hid hM
  rw [hM]
  clear hM
  go_enter Tryz.func95, Tryz.ntmps95
  go_wp2_with fail
  refine (pMarks_any P A cap _ hl hm).mono ?_
  rintro e w1 ⟨rfl, rfl⟩
  rw [HM.out]
  go_wp2
  go_ret
  exact ⟨rfl, rfl⟩
theorem pAreOne_any (s : ByteArray) (a : Nat) (w : World) (hm : Strs w (some ⟨a, 0, none⟩) [s]) :
    Calls Tryz.prog 95 #[.slice (some ⟨a, 0, none⟩) 1 1] w fun e w' => e = .returned (.bool (decide (s.size = 16))) ∧ w' = w :=
  (pAre_any [s] (some ⟨a, 0, none⟩) 1 w (by simp) hm).mono fun e w' h => ⟨h.1.trans (by simp [marksOk]), h.2⟩
theorem empty_of {s : ByteArray} (h : s.size = 0) : s = ⟨#[]⟩ := by
  obtain ⟨d⟩ := s
  congr 1
  exact Array.eq_empty_of_size_eq_zero h
theorem pEmpty_any (x : It) (w : World) : Calls Tryz.prog 231 #[.agg #[.string x.1, .string x.2]] w fun e w' => e = .returned (.bool (decide (x.1.size = 0 ∧ x.2.size = 0))) ∧ Below w.heap.size w w' := by
  have HBW := Lib.hid (alloc_below w (.cells #[.string x.1, .string x.2] 61))
  have he : decide (x.1.size = 0 ∧ x.2.size = 0) = decide (x = (⟨#[]⟩, ⟨#[]⟩)) := by
    by_cases h : x.1.size = 0 ∧ x.2.size = 0
    · rw [decide_eq_true h, decide_eq_true (Prod.ext (empty_of h.1) (empty_of h.2))]
    · rw [decide_eq_false h, decide_eq_false (fun e => h (by subst e; exact ⟨rfl, rfl⟩))]
  obtain ⟨T, hT⟩ : ∃ T, decide (x.1.size = 0 ∧ x.2.size = 0) = T := ⟨_, rfl⟩
  have hne : ∀ u : World, (binOp .eql 61 (.agg #[.string x.1, .string x.2]) (.agg #[.string ⟨#[]⟩, .string ⟨#[]⟩])).run Tryz.prog u = .ok (.bool T) u := fun u => by rw [← hT, he]; exact run_eql_items x (⟨#[]⟩, ⟨#[]⟩) u
  rw [hT]
  clear hT he
  go_enter Tryz.func231, Tryz.ntmps231
  go_wp2
  go_ret
  exact ⟨rfl, HBW.out⟩
end Go.Proofs.YtcfpmofmjnhonaaGreatDoor
