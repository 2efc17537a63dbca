/- Parts of the proof, one behind the other: PCopy, PTrie, Cut. -/
import Derived.Test.YtcfpmofmjnhonaaGreatDoorM15
import Derived.Test.YtcfpmofmjnhonaaGreatDoorM11
import Derived.Test.YtcfpmofmjnhonaaGreatDoorM5
import Derived.Test.YtcfpmofmjnhonaaGreatDoorM7
import Derived.Test.YtcfpmofmjnhonaaGreatDoorM4
import Derived.Test.YtcfpmofmjnhonaaGreatDoorM8
/- The program's directory: a signed head with lists of its own. -/
namespace Go.Proofs.YtcfpmofmjnhonaaGreatDoor
open Go.RowKit Go.Maps

theorem infoText : (Tryz.prog.info? 9).map (fun i => (i.zero, i.size, i.bytes)) = some (some (.string ⟨#[]⟩), 1, 16) := by kernel_rfl
theorem cloneTexts_any (L : List ByteArray) (A : Option Addr) (cap : Nat) (w : World) (hl : L.length ≤ 1000000) (hm : Strs w A L) :
    Calls Tryz.prog 121 #[.slice A L.length cap] w fun e w' => ∃ v, e = .returned v ∧ Below w.heap.size w w' ∧ Row w' w.heap.size 1 v L.length (stCells L) := by
  have HM := Lib.hid hm
  clear hm
  cases A with
  | none =>
    obtain rfl : L = [] := by
      match L, HM with
      | [], _ => rfl
      | x :: r, HM =>
        obtain ⟨a, h, _⟩ := HM.out 0 x rfl
        cases h
    have hnil : ∀ u : World, (binOp .eql 50 (.slice none 0 cap) (.slice none 0 0)).run Tryz.prog u = .ok (.bool true) u := fun u => by kernel_rfl
    go_enter Tryz.func121, Tryz.ntmps121
    go_wp2
    go_ret
    exact ⟨_, rfl, Below.refl _ _, Row.nil _ _ _⟩
  | some x =>
    have hnil : ∀ u : World, (binOp .eql 50 (.slice (some x) L.length cap) (.slice none 0 0)).run Tryz.prog u = .ok (.bool false) u := fun u => by kernel_rfl
    have hb0 : Below w.heap.size w (w.alloc (.cells #[] 9)) := alloc_below w _
    go_enter Tryz.func121, Tryz.ntmps121
    go_wp2_with (at_builtin; refine wpList_append_texts rfl (.tmp 5) (.tmp 6) 50 rfl 9 Tryz.underlying50 _ infoText rfl w.heap.size 0 [] rfl ⟨w.heap.size, 0, none⟩ 0 rfl ⟨rfl, .inr ⟨w.heap.size, 0, rfl, Nat.le_refl _, by simp, Nat.le_refl 0, (fun j u h => by cases h), fun j h => by omega⟩⟩ (by simp) (by omega) L L.length rfl (some x) cap rfl (HM.out.below hb0) hl ?_; intro v' w7 hr7 hg7)
    go_wp2
    go_ret
    refine ⟨_, rfl, hb0.grown hg7.out hb0.size (fun k e => by cases e; exact Nat.le_refl _), ?_⟩
    have h := hr7.out
    rw [Nat.zero_add, List.nil_append] at h
    exact h
theorem sgF_four (h : Hd) (key : Int) (u v u' : Value) (i : Nat) (hi : i < 6) : upd (sgF h key u v) 4 u' i = sgF h key u' v i := by
  rcases (show i = 0 ∨ i = 1 ∨ i = 2 ∨ i = 3 ∨ i = 4 ∨ i = 5 by omega) with rfl | rfl | rfl | rfl | rfl | rfl <;> rfl
theorem sgF_five (h : Hd) (key : Int) (u v v' : Value) (i : Nat) (hi : i < 6) : upd (sgF h key u v) 5 v' i = sgF h key u v' i := by
  rcases (show i = 0 ∨ i = 1 ∨ i = 2 ∨ i = 3 ∨ i = 4 ∨ i = 5 by omega) with rfl | rfl | rfl | rfl | rfl | rfl <;> rfl
/-- A row of texts of the call's own, cut free of later writes below it. -/
theorem row_texts {w : World} {base : Nat} {v : Value} {L : List ByteArray} (h : Row w base 1 v L.length (stCells L)) : ∃ A c, v = .slice A L.length c ∧ Strs w A L ∧ L.length ≤ c ∧ ∀ a, A = some a → 0 < L.length → base ≤ a.block := by
  obtain ⟨-, A, c, hv, hs⟩ := h.strs
  refine ⟨A, c, hv, hs, ?_, fun a ha hl => ?_⟩
  · by_cases h0 : 0 < L.length
    · obtain ⟨g, c', hv', _, _, hc, _⟩ := h.shape h0
      rw [hv] at hv'
      injection hv' with _ _ e
      omega
    · omega
  · obtain ⟨g, c', hv', hb, _⟩ := h.shape hl
    rw [hv] at hv'
    injection hv' with e _ _
    rw [ha] at e
    injection e with e
    rw [e]; exact hb
theorem put6_strs {w : World} {A : Option Addr} {L : List ByteArray} (h : Strs w A L) {b : Nat} (hb : ∀ a, A = some a → 0 < L.length → b < a.block) (x : Hd) (key : Int) (u v : Value) : Strs (put6 w b x key u v) A L :=
  (((((h.keep ⟨b, 0, none⟩ _ hb).keep ⟨b, 1, none⟩ _ hb).keep ⟨b, 2, none⟩ _ hb).keep ⟨b, 3, none⟩ _ hb).keep ⟨b, 4, none⟩ _ hb).keep ⟨b, 5, none⟩ _ hb
set_option maxHeartbeats 1000000 in
set_option maxRecDepth 100000 in
theorem pCopyOf_is (m : SgM) (w : World) (hls : m.s.sig.length ≤ 1000000) (hlp : m.s.path.length ≤ 1000000) (hs : Strs w m.A m.s.sig) (hp : Strs w m.B m.s.path) :
    Calls Tryz.prog 71 #[.agg #[.int .i64 m.s.head.epoch, .string m.s.head.root, .string m.s.head.prev, .int .i64 m.s.key, .slice m.A m.s.sig.length m.ca, .slice m.B m.s.path.length m.cb]] w fun e w' =>
      ∃ m' : SgM, e = .returned (.agg #[.int .i64 m'.s.head.epoch, .string m'.s.head.root, .string m'.s.head.prev, .int .i64 m'.s.key, .slice m'.A m'.s.sig.length m'.ca, .slice m'.B m'.s.path.length m'.cb]) ∧ m'.s = m.s ∧ Below w.heap.size w w' ∧ SgIn (fun k => w.heap.size + 1 < k) w' m' := by
  obtain ⟨⟨h, key, S, P⟩, A, ca, B, cb⟩ := m
  have hls : S.length ≤ 1000000 := hls
  have hlp : P.length ≤ 1000000 := hlp
  have hs : Strs w A S := hs
  have hp : Strs w B P := hp
  show Calls _ _ #[.agg #[.int .i64 h.epoch, .string h.root, .string h.prev, .int .i64 key, .slice A S.length ca, .slice B P.length cb]] _ _
  obtain ⟨w0, hw0⟩ : ∃ w0, (w.alloc (.cells #[.int .i64 h.epoch, .string h.root, .string h.prev, .int .i64 key, .slice A S.length ca, .slice B P.length cb] 54)).alloc (.cells #[.int .i64 0, .string ⟨#[]⟩, .string ⟨#[]⟩, .int .i64 0, .slice none 0 0, .slice none 0 0] 54) = w0 := ⟨_, rfl⟩
  have HB0 := Lib.hid (show Below w.heap.size w w0 from by rw [← hw0]; exact (alloc_below w _).alloc (by simp) _)
  have HX0 := Lib.hid (show Holds w0 w.heap.size 6 (sgF h key (.slice A S.length ca) (.slice B P.length cb)) 54 from by
    rw [← hw0]; exact (Holds.new w 6 (sgF h key (.slice A S.length ca) (.slice B P.length cb)) 54).alloc _)
  have HZ0 := Lib.hid (show Holds w0 (w.heap.size + 1) 6 (sgF noHd 0 (.slice none 0 0) (.slice none 0 0)) 54 from by
    rw [← hw0]
    have := Holds.new (w.alloc (.cells #[.int .i64 h.epoch, .string h.root, .string h.prev, .int .i64 key, .slice A S.length ca, .slice B P.length cb] 54)) 6 (sgF noHd 0 (.slice none 0 0) (.slice none 0 0)) 54
    rwa [World.size_alloc] at this)
  have HS0 := Lib.hid (hs.below HB0.out)
  have HP0 := Lib.hid (hp.below HB0.out)
  have HQ0 := Lib.hid (show w0.heap.size = w.heap.size + 2 from by rw [← hw0]; simp)
  have hPW := hp
  clear hs hp
  go_enter Tryz.func71, Tryz.ntmps71
  have d4 : w0.cell? ⟨w.heap.size, 4, none⟩ = some (.slice A S.length ca) := HX0.out.cell 4 (by omega)
  go_wp2_with fail
  clear hw0 d4
  refine (cloneTexts_any S A ca _ hls HS0.out).mono ?_
  rintro e w1 ⟨v1, rfl, hb1, hr1⟩
  obtain ⟨A1, c1, rfl, hst1, hcp1, hA1⟩ := row_texts hr1
  have HX1 := Lib.hid (HX0.out.below hb1 HX0.out.lt)
  have HZ1 := Lib.hid (HZ0.out.below hb1 HZ0.out.lt)
  have HB1 := Lib.hid (HB0.out.trans (hb1.mono HB0.out.size))
  have HP1 := Lib.hid (HP0.out.below hb1)
  have HA1 := Lib.hid (show ∀ a, A1 = some a → 0 < S.length → w.heap.size + 1 < a.block from fun a e l => by have := hA1 a e l; have := HQ0.out; omega)
  have HST1 := Lib.hid hst1
  have HCP1 := Lib.hid hcp1
  have HPL := Lib.hid (show ∀ a, B = some a → 0 < P.length → a.block < w.heap.size from fun a e l => by
    obtain ⟨a', e', hlt', _⟩ := hPW 0 _ (List.getElem?_eq_getElem l)
    rw [e] at e'
    obtain rfl := Option.some.inj e'
    exact hlt')
  clear hb1 hr1 hst1 hA1 hcp1 hPW HX0 HZ0 HS0 HP0 HB0
  have c4 : w1.cell? ⟨w.heap.size, 4, none⟩ = some (.slice A S.length ca) := HX1.out.cell 4 (by omega)
  have f4 : w1.frozen? ⟨w.heap.size, 4, none⟩ = false := HX1.out.free 4
  have c5 : w1.cell? ⟨w.heap.size, 5, none⟩ = some (.slice B P.length cb) := HX1.out.cell 5 (by omega)
  have HX2 := Lib.hid ((HX1.out.set 4 (.slice A1 S.length c1)).congr fun i hi => sgF_four h key _ (.slice B P.length cb) _ i hi)
  have HZ2 := Lib.hid (HZ1.out.other (show w.heap.size + 1 ≠ w.heap.size by omega) (a := ⟨w.heap.size, 4, none⟩) (.slice A1 S.length c1))
  have HB2 := Lib.hid (HB1.out.setCell (p := ⟨w.heap.size, 4, none⟩) (Nat.le_refl _) (.slice A1 S.length c1))
  have HST2 := Lib.hid (HST1.out.keep ⟨w.heap.size, 4, none⟩ (.slice A1 S.length c1) (fun a e l => by have := HA1.out a e l; show w.heap.size < a.block; omega))
  have HP2 := Lib.hid (HP1.out.keep' (ab := w.heap.size) HPL.out 4 (.slice A1 S.length c1))
  go_wp2_with fail
  clear c4 f4 c5
  generalize w1.setCell ⟨w.heap.size, 4, none⟩ (.slice A1 S.length c1) = w2 at HX2 HZ2 HB2 HST2 HP2 ⊢
  clear HX1 HZ1 HB1 HST1 HP1
  refine (cloneTexts_any P B cb _ hlp HP2.out).mono ?_
  rintro e w3 ⟨v3, rfl, hb3, hr3⟩
  obtain ⟨B3, c3, rfl, hst3, hcp3, hA3⟩ := row_texts hr3
  have HX3 := Lib.hid (HX2.out.below hb3 HX2.out.lt)
  have HZ3 := Lib.hid (HZ2.out.below hb3 HZ2.out.lt)
  have HB3 := Lib.hid (HB2.out.trans (hb3.mono HB2.out.size))
  have HST3 := Lib.hid (HST2.out.below hb3)
  have HSP3 := Lib.hid hst3
  have HA3 := Lib.hid (show ∀ a, B3 = some a → 0 < P.length → w.heap.size + 1 < a.block from fun a e l => by have := hA3 a e l; have := HZ2.out.lt; omega)
  clear hb3 hr3 hst3 hA3 hcp3 HX2 HZ2 HB2 HST2 HP2
  have HX4 := Lib.hid ((HX3.out.set 5 (.slice B3 P.length c3)).congr fun i hi => sgF_five h key (.slice A1 S.length c1) _ _ i hi)
  have HZ4 := Lib.hid (HZ3.out.other (show w.heap.size + 1 ≠ w.heap.size by omega) (a := ⟨w.heap.size, 5, none⟩) (.slice B3 P.length c3))
  have HB4 := Lib.hid (HB3.out.setCell (p := ⟨w.heap.size, 5, none⟩) (Nat.le_refl _) (.slice B3 P.length c3))
  have HST4 := Lib.hid (HST3.out.keep ⟨w.heap.size, 5, none⟩ (.slice B3 P.length c3) (fun a e l => by have := HA1.out a e l; show w.heap.size < a.block; omega))
  have HSP4 := Lib.hid (HSP3.out.keep ⟨w.heap.size, 5, none⟩ (.slice B3 P.length c3) (fun a e l => by have := HA3.out a e l; show w.heap.size < a.block; omega))
  have HFIN := Lib.hid (put6_holds HZ4.out h key (.slice A1 S.length c1) (.slice B3 P.length c3))
  have HFB := Lib.hid (put6_below HB4.out (show w.heap.size ≤ w.heap.size + 1 by omega) h key (.slice A1 S.length c1) (.slice B3 P.length c3))
  have HFS := Lib.hid (put6_strs HST4.out (fun a e l => by have := HA1.out a e l; omega) h key (.slice A1 S.length c1) (.slice B3 P.length c3))
  have HFP := Lib.hid (put6_strs HSP4.out (fun a e l => by have := HA3.out a e l; omega) h key (.slice A1 S.length c1) (.slice B3 P.length c3))
  obtain ⟨x0, x1, x2, x3, x4, x5⟩ := sg_cells HX3.out
  have f5 : w3.frozen? ⟨w.heap.size, 5, none⟩ = false := HX3.out.free 5
  have q0 : w3.frozen? ⟨w.heap.size + 1, 0, none⟩ = false := HZ3.out.free 0
  have q1 : w3.frozen? ⟨w.heap.size + 1, 1, none⟩ = false := HZ3.out.free 1
  have q2 : w3.frozen? ⟨w.heap.size + 1, 2, none⟩ = false := HZ3.out.free 2
  have q3 : w3.frozen? ⟨w.heap.size + 1, 3, none⟩ = false := HZ3.out.free 3
  have q4 : w3.frozen? ⟨w.heap.size + 1, 4, none⟩ = false := HZ3.out.free 4
  have q5 : w3.frozen? ⟨w.heap.size + 1, 5, none⟩ = false := HZ3.out.free 5
  obtain ⟨y0, y1, y2, y3, y4, y5⟩ := sg_cells HZ3.out
  go_wp2
  refine bodyPost_ret (results_cell_row rfl _ _ (w.heap.size + 1) 54 (arr 6 (sgF h key (.slice A1 S.length c1) (.slice B3 P.length c3))) (0, 0) _ rfl HFIN.out Tryz.underlying54 rfl (by rw [arr_size]; exact infoSg6)) rfl ?_
  exact ⟨⟨⟨h, key, S, P⟩, A1, c1, B3, c3⟩, rfl, rfl, HFB.out, HFS.out, HFP.out, HA1.out, HA3.out, HCP1.out⟩
end Go.Proofs.YtcfpmofmjnhonaaGreatDoor
/- The program's trie: isMark, bit, Right, Empty, Leaf, Join. -/
namespace Go.Proofs.YtcfpmofmjnhonaaGreatDoor
open Go.RowKit

theorem tMark_any (s : ByteArray) (w : World) : Calls Tryz.prog 126 #[.string s] w fun e w' => e = .returned (.bool (decide (s.size = 16))) ∧ w' = w := by
  by_cases h : s.size = 16
  · go_enter Tryz.func126, Tryz.ntmps126
    go_wp2
    go_ret
    exact ⟨by simp [h], rfl⟩
  · go_enter Tryz.func126, Tryz.ntmps126
    go_wp2
    go_ret
    refine ⟨?_, rfl⟩
    simp [h]; omega
theorem tBit_any (ix : ByteArray) (d : Nat) (w : World) (h16 : ix.size = 16) (hd : d < 128) :
    Calls Tryz.prog 128 #[.string ix, .int .i64 (d : Int)] w fun e w' => e = .returned (.int .i64 ((bitOf ix.data.toList d : Nat) : Int)) ∧ w' = w := by
  have HB := Lib.hid (show bitAns ix (d : Int) = (((bitOf ix.data.toList d : Nat) : Int), 0) by
    unfold bitAns
    rw [if_pos h16, if_pos (by omega), Int.toNat_natCast])
  clear h16 hd
  go_enter Tryz.func128, Tryz.ntmps128
  go_wp2_with fail
  refine (ixBit_is ix d _ 0 _ HB.out).mono ?_
  rintro e w1 ⟨rfl, rfl⟩
  go_wp2
  go_ret
  exact ⟨rfl, rfl⟩
theorem tEmpty_any (d : Int) (w : World) (hk : HasK w) : Calls Tryz.prog 181 #[.int .i64 d] w fun e w' => e = .returned (.string (emptyM d)) ∧ Below w.heap.size w w' := by
  have HK := Lib.hid hk
  clear hk
  go_enter Tryz.func181, Tryz.ntmps181
  go_wp2_with fail
  refine (num_any d _).mono ?_
  rintro e w1 ⟨rfl, hb1⟩
  have HB1 := Lib.hid hb1
  clear hb1
  go_wp2_with fail
  refine (mark_any 101 [txt (num8 d)] (some ⟨w1.heap.size, 0, none⟩) 1 _ ((HK.out.below HB1.out HK.out.lt).below (alloc_below w1 _) (Nat.lt_of_lt_of_le HK.out.lt HB1.out.size)) (by simp [total, num_size]) (by simp) (strs_new w1 [txt (num8 d)] 9)).mono ?_
  rintro e w2 ⟨rfl, hb2⟩
  have HB2 := Lib.hid (HB1.out.trans ((alloc_below w1 (.cells #[.string (txt (num8 d))] 9)).mono HB1.out.size |>.trans (hb2.mono (Nat.le_trans HB1.out.size (by simp)))))
  clear hb2
  go_wp2
  go_ret
  exact ⟨rfl, HB2.out⟩
theorem tJoin_any (x y : ByteArray) (w : World) (hk : HasK w) (hx : x.size ≤ 1000000) (hy : y.size ≤ 1000000) :
    Calls Tryz.prog 183 #[.string x, .string y] w fun e w' => e = .returned (.string (joinM x y)) ∧ Below w.heap.size w w' := by
  have HK := Lib.hid hk
  clear hk
  go_enter Tryz.func183, Tryz.ntmps183
  go_wp2_with fail
  refine (mark_any 110 [x, y] (some ⟨w.heap.size, 0, none⟩) 2 _ (HK.out.below (alloc_below w _) HK.out.lt) (by simp [total]; omega) (by simp) (strs_new w [x, y] 9)).mono ?_
  rintro e w2 ⟨rfl, hb2⟩
  have HB2 := Lib.hid ((alloc_below w (.cells #[.string x, .string y] 9)).trans (hb2.mono (by simp)))
  clear hb2
  go_wp2
  go_ret
  exact ⟨rfl, HB2.out⟩
set_option maxRecDepth 100000 in
theorem tLeaf_any (x : It) (d : Int) (w : World) (hk : HasK w) (hx : x.1.size ≤ 1000000) (hy : x.2.size ≤ 1000000) :
    Calls Tryz.prog 182 #[.agg #[.string x.1, .string x.2], .int .i64 d] w fun e w' => e = .returned (.string (leafM x d)) ∧ Below w.heap.size w w' := by
  have HK := Lib.hid hk
  have HX := Lib.hid hx
  have HY := Lib.hid hy
  clear hk hx hy
  go_enter Tryz.func182, Tryz.ntmps182
  go_wp2
  have hb1 : Below w.heap.size w (w.alloc (.cells #[.string x.1, .string x.2] 61)) := alloc_below _ _
  have hN1 : w.heap.size < (w.alloc (.cells #[.string x.1, .string x.2] 61)).heap.size := by simp
  have e0 : (w.alloc (.cells #[.string x.1, .string x.2] 61)).cell? ⟨w.heap.size, 0, none⟩ = some (.string x.1) := cell_of_row _ w.heap.size 0 _ 61 (0, 0) (heap_alloc_new _ _)
  have e1 : (w.alloc (.cells #[.string x.1, .string x.2] 61)).cell? ⟨w.heap.size, 1, none⟩ = some (.string x.2) := cell_of_row _ w.heap.size 1 _ 61 (0, 0) (heap_alloc_new _ _)
  have HB1 := Lib.hid hb1
  have E0 := Lib.hid e0
  have E1 := Lib.hid e1
  clear hb1 e0 e1
  generalize hw1 : w.alloc (.cells #[.string x.1, .string x.2] 61) = w1 at HB1 E0 E1 hN1
  clear hw1
  have hs0 : w1.cell? ⟨w.heap.size, 0, none⟩ = some (.string x.1) ∧ w1.cell? ⟨w.heap.size, 1, none⟩ = some (.string x.2) ∧ Below w1.heap.size w1 w1.drew := ⟨E0.out, E1.out, (Below.refl _ _).drew⟩
  have KEEP : ∀ u v : World, (u.cell? ⟨w.heap.size, 0, none⟩ = some (.string x.1) ∧ u.cell? ⟨w.heap.size, 1, none⟩ = some (.string x.2) ∧ Below w1.heap.size w1 u) → Below u.heap.size u v → (v.cell? ⟨w.heap.size, 0, none⟩ = some (.string x.1) ∧ v.cell? ⟨w.heap.size, 1, none⟩ = some (.string x.2) ∧ Below w1.heap.size w1 v) :=
    fun u v ⟨h0, h1, hb⟩ hv => ⟨(hv.cell (by have := hb.size; show w.heap.size < _; omega)).trans h0, (hv.cell (by have := hb.size; show w.heap.size < _; omega)).trans h1, hb.trans (hv.mono hb.size)⟩
  have HKEEP := Lib.hid KEEP
  have HS0 := Lib.hid hs0
  have HHOLD := Lib.hid (show ∀ u : World, (u.cell? ⟨w.heap.size, 0, none⟩ = some (.string x.1) ∧ u.cell? ⟨w.heap.size, 1, none⟩ = some (.string x.2) ∧ Below w1.heap.size w1 u) → HasK u from fun u hu => (HK.out.below HB1.out HK.out.lt).below hu.2.2 (Nat.lt_of_lt_of_le HK.out.lt HB1.out.size))
  have HTOT := Lib.hid (show total [txt (num8 d), x.1, x.2] ≤ 1073741800 by have := HX.out; have := HY.out; simp [total, num_size]; omega)
  clear KEEP hs0
  go_region_held3 (fun w' => w'.cell? ⟨w.heap.size, 0, none⟩ = some (.string x.1) ∧ w'.cell? ⟨w.heap.size, 1, none⟩ = some (.string x.2) ∧ Below w1.heap.size w1 w') (first | exact HS0.out | (refine HKEEP.out _ _ ?_ (by assumption); first | exact HS0.out | assumption | exact ⟨by assumption, by assumption, by assumption⟩) | (refine HKEEP.out _ _ ?_ (alloc_below _ _); first | exact HS0.out | assumption | exact ⟨by assumption, by assumption, by assumption⟩))
    (first | (go_at_call 104; refine (num_any d _).mono ?_; rintro e w2 ⟨rfl, hb2⟩) | (go_at_call 55; refine (mark_any 108 [txt (num8 d), x.1, x.2] (some ⟨_, 0, none⟩) 3 _ (HHOLD.out _ (by assumption)) HTOT.out (by simp) (strs_new _ [txt (num8 d), x.1, x.2] 9)).mono ?_; rintro e w2 ⟨rfl, hb2⟩))
  rename_i _ _ w2 _ hheld
  have HB2 := Lib.hid (HB1.out.trans (hheld.2.2.mono HB1.out.size))
  clear hheld
  go_wp2
  go_ret
  exact ⟨rfl, HB2.out⟩
theorem ge_cases {x y : It} {j : Nat} (m1 : x.1.size = 16) (m2 : x.2.size = 16) :
    (Op.bytesLess y.1.toList x.1.toList = true ∧ (decide (x.1.size = 16) && decide (x.2.size = 16) && (decide (j + 1 = 0) || decide (y.1.data.toList < x.1.data.toList))) = true) ∨
    (Op.bytesLess y.1.toList x.1.toList = false ∧ (decide (x.1.size = 16) && decide (x.2.size = 16) && (decide (j + 1 = 0) || decide (y.1.data.toList < x.1.data.toList))) = false) := by
  rw [decide_eq_true m1, decide_eq_true m2, decide_eq_false (show ¬ j + 1 = 0 by omega), bytesLess_eq, ByteArray.toList_eq, ByteArray.toList_eq]
  by_cases h2 : y.1.data.toList < x.1.data.toList
  · exact .inl ⟨by simp [h2], by rw [decide_eq_true h2]; rfl⟩
  · exact .inr ⟨by simp [h2], by rw [decide_eq_false h2]; rfl⟩
set_option maxRecDepth 100000 in
theorem tRight_any (L : List It) (A : Option Addr) (cap : Nat) (w : World) (hl : L.length ≤ 1000000) (hm : Itms w A L) :
    Calls Tryz.prog 125 #[.slice A L.length cap] w fun e w' => e = .returned (.bool (rightItems L)) ∧ Below w.heap.size w w' := by
  have HM := Lib.hid hm
  clear hm
  by_cases h60 : 60 < L.length
  · have HF := Lib.hid (show rightItems L = false by unfold rightItems; rw [decide_eq_false (show ¬ L.length ≤ 60 by omega), Bool.and_false])
    go_enter Tryz.func125, Tryz.ntmps125
    go_wp2
    go_ret
    exact ⟨by rw [HF.out]; rfl, Below.refl _ _⟩
  · have h60' : ¬ (60 : Int) < (L.length : Int) := by omega
    have HLE := Lib.hid (show L.length ≤ 60 by omega)
    clear h60
    go_enter Tryz.func125, Tryz.ntmps125
    go_wp2
    go_loopw [10] (fun i wr => ∃ k : Nat, k ≤ L.length ∧ i = .int .i64 (k : Int) ∧ goodItems L k = true ∧ Below w.heap.size w wr) (fun i _ => L.length - (intOf i).toNat)
    case atStart => exact ⟨0, by omega, rfl, rfl, Below.refl _ _⟩
    case round =>
      obtain ⟨k, hk, rfl, hg, hb⟩ := hrel
      have HG := Lib.hid hg
      have HB := Lib.hid hb
      clear hg hb
      by_cases hlt : k < L.length
      · obtain ⟨a, rfl, hal, c0, c1⟩ := HM.out.at_ hlt
        have hal' : a.block < w.heap.size := hal
        have d0 : wr.cell? (a.add (k * 2)) = some (.string (itAt L k).1) := (HB.out.cell (by rw [block_add]; exact hal)).trans c0
        have d1 : wr.cell? ((a.add (k * 2)).add 1) = some (.string (itAt L k).2) := (HB.out.cell (by rw [block_add, block_add]; exact hal)).trans c1
        have d2 : wr.cell? ⟨(a.add (k * 2)).block, (a.add (k * 2)).off + 1, none⟩ = some (.string (itAt L k).2) := d1
        clear c0 c1 hal d1
        generalize hxk : itAt L k = x at d0 d2
        have HXK := Lib.hid hxk
        clear hxk
        go_wp2_with fail
        have hb1 : Below w.heap.size w (wr.alloc (.cells #[.string x.1, .string x.2] 61)) := HB.out.alloc HB.out.size _
        have hN1 : wr.heap.size < (wr.alloc (.cells #[.string x.1, .string x.2] 61)).heap.size := by simp
        have e0 : (wr.alloc (.cells #[.string x.1, .string x.2] 61)).cell? ⟨wr.heap.size, 0, none⟩ = some (.string x.1) := cell_of_row _ wr.heap.size 0 _ 61 (0, 0) (heap_alloc_new _ _)
        have e1 : (wr.alloc (.cells #[.string x.1, .string x.2] 61)).cell? ⟨wr.heap.size, 1, none⟩ = some (.string x.2) := cell_of_row _ wr.heap.size 1 _ 61 (0, 0) (heap_alloc_new _ _)
        have HB1 := Lib.hid hb1
        clear hb1 d0 d2
        generalize hw1 : wr.alloc (.cells #[.string x.1, .string x.2] 61) = w1 at HB1 e0 e1 hN1
        clear hw1
        refine (tMark_any x.1 _).mono ?_
        rintro e w1 ⟨rfl, rfl⟩
        by_cases m1 : x.1.size = 16
        · rw [decide_eq_true m1]
          go_wp2_with fail
          refine (tMark_any x.2 _).mono ?_
          rintro e w1 ⟨rfl, rfl⟩
          by_cases m2 : x.2.size = 16
          · rw [decide_eq_true m2]
            cases k with
            | zero =>
              have HG1 := Lib.hid (show goodItems L (0 + 1) = true by rw [goodItems_next, HG.out, Bool.true_and]; unfold goodItem; rw [HXK.out]; simp [m1, m2])
              clear m1 m2
              go_wp2
              go_quiet (fail)
              go_wp2
              go_roundw
              case rel => exact ⟨0 + 1, by omega, by go_num, HG1.out, below_drew HB1.out _⟩
              case measure => simp [intOf]; omega
            | succ j =>
              obtain ⟨a', ha', _, f0, _⟩ := HM.out.at_ (show j < L.length by omega)
              cases ha'
              have g0 : w1.cell? (a.add (j * 2)) = some (.string (itAt L j).1) := (HB1.out.cell (by rw [block_add]; exact hal')).trans f0
              generalize hyk : itAt L j = y at g0
              have HYK := Lib.hid hyk
              clear hyk f0
              have hlq : (((j + 1 : Nat) : Int)) = (j : Int) + 1 := by omega
              have s1 : IntKind.i64.wrap (((j + 1 : Nat) : Int) - 1) = (j : Int) := by rw [hlq, show (j : Int) + 1 - 1 = (j : Int) by omega]; exact IntWalk.i64_in _ (by omega)
              have s2 : (0 : Int) < ((j + 1 : Nat) : Int) := by omega
              have s3 : (j : Int) < (L.length : Int) := by omega
              have hcase : (Op.bytesLess y.1.toList x.1.toList = true ∧ goodItem L (j + 1) = true) ∨ (Op.bytesLess y.1.toList x.1.toList = false ∧ goodItem L (j + 1) = false) := by
                unfold goodItem
                rw [HXK.out, show j + 1 - 1 = j from rfl, HYK.out]
                exact ge_cases m1 m2
              clear m1 m2 hlq
              rcases hcase with ⟨b1, hgi⟩ | ⟨b1, hgi⟩
              · have HG1 := Lib.hid (show goodItems L (j + 1 + 1) = true by rw [goodItems_next, HG.out, Bool.true_and, hgi])
                clear hgi
                go_wp2
                go_quiet (fail)
                go_wp2
                go_roundw
                case rel => exact ⟨j + 1 + 1, by omega, by go_num, HG1.out, below_drew HB1.out _⟩
                case measure => simp [intOf]; omega
              · have HF := Lib.hid (show rightItems L = false by unfold rightItems; rw [goodItems_false hgi hlt]; rfl)
                clear hgi
                go_wp2
                go_quiet (fail)
                go_wp2
                go_ret
                exact ⟨by rw [HF.out]; rfl, below_drew HB1.out _⟩
          · have HF := Lib.hid (show rightItems L = false by unfold rightItems; rw [goodItems_false (k := k) (by unfold goodItem; rw [HXK.out, decide_eq_false m2]; simp) hlt]; rfl)
            rw [decide_eq_false m2]
            clear m1 m2
            go_wp2
            go_ret
            exact ⟨by rw [HF.out]; rfl, HB1.out⟩
        · have HF := Lib.hid (show rightItems L = false by unfold rightItems; rw [goodItems_false (k := k) (by unfold goodItem; rw [HXK.out, decide_eq_false m1]; simp) hlt]; rfl)
          rw [decide_eq_false m1]
          clear m1
          go_wp2
          go_ret
          exact ⟨by rw [HF.out]; rfl, HB1.out⟩
      · have hkn : k = L.length := by omega
        have HF := Lib.hid (show rightItems L = true by
          unfold rightItems
          rw [← hkn, HG.out, Bool.true_and, decide_eq_true_eq, hkn]; exact HLE.out)
        clear hkn
        go_wp2
        go_ret
        exact ⟨by rw [HF.out]; rfl, HB.out⟩
end Go.Proofs.YtcfpmofmjnhonaaGreatDoor
/- Where items that rise part at a bit, and where one more must stand: plain facts. -/
namespace Go.Proofs.YtcfpmofmjnhonaaGreatDoor

theorem byte_of_bits_lt (x y m : Nat) (hx : x < 256) (hy : y < 256) (hm : m < 8) (h : ∀ j, j < m → x / 2 ^ (7 - j) % 2 = y / 2 ^ (7 - j) % 2) (h1 : x / 2 ^ (7 - m) % 2 = 1) (h0 : y / 2 ^ (7 - m) % 2 = 0) : y < x := by
  rcases (show m = 0 ∨ m = 1 ∨ m = 2 ∨ m = 3 ∨ m = 4 ∨ m = 5 ∨ m = 6 ∨ m = 7 by omega) with rfl | rfl | rfl | rfl | rfl | rfl | rfl | rfl
  · simp at h0 h1; omega
  · have a0 := h 0 (by omega)
    simp at h0 h1 a0; omega
  · have a0 := h 0 (by omega); have a1 := h 1 (by omega)
    simp at h0 h1 a0 a1; omega
  · have a0 := h 0 (by omega); have a1 := h 1 (by omega); have a2 := h 2 (by omega)
    simp at h0 h1 a0 a1 a2; omega
  · have a0 := h 0 (by omega); have a1 := h 1 (by omega); have a2 := h 2 (by omega); have a3 := h 3 (by omega)
    simp at h0 h1 a0 a1 a2 a3; omega
  · have a0 := h 0 (by omega); have a1 := h 1 (by omega); have a2 := h 2 (by omega); have a3 := h 3 (by omega); have a4 := h 4 (by omega)
    simp at h0 h1 a0 a1 a2 a3 a4; omega
  · have a0 := h 0 (by omega); have a1 := h 1 (by omega); have a2 := h 2 (by omega); have a3 := h 3 (by omega); have a4 := h 4 (by omega); have a5 := h 5 (by omega)
    simp at h0 h1 a0 a1 a2 a3 a4 a5; omega
  · have a0 := h 0 (by omega); have a1 := h 1 (by omega); have a2 := h 2 (by omega); have a3 := h 3 (by omega); have a4 := h 4 (by omega); have a5 := h 5 (by omega); have a6 := h 6 (by omega)
    simp at h0 h1 a0 a1 a2 a3 a4 a5 a6; omega
theorem getD_eq (l : List UInt8) (i : Nat) (h : i < l.length) : l.getD i 0 = l[i] := by
  rw [List.getD_eq_getElem?_getD, List.getElem?_eq_getElem h]; rfl
theorem lt_at {a b : List UInt8} (m : Nat) (ha : m < a.length) (hb : m < b.length) (hs : ∀ i, i < m → a.getD i 0 = b.getD i 0) (h : b.getD m 0 < a.getD m 0) : b < a := by
  have e : b.take m = a.take m := by
    apply List.ext_getElem
    · simp; omega
    · intro i h1 h2
      have hi : i < m := by rw [List.length_take] at h1; omega
      rw [List.getElem_take, List.getElem_take]
      have := hs i hi
      rw [getD_eq a i (by omega), getD_eq b i (by omega)] at this
      exact this.symm
  rw [← List.take_append_drop m b, ← List.take_append_drop m a, e]
  apply List.append_left_lt
  rw [List.drop_eq_getElem_cons hb, List.drop_eq_getElem_cons ha]
  rw [getD_eq a m ha, getD_eq b m hb] at h
  exact List.cons_lt_cons_iff.2 (.inl h)
/-- Alike ahead of a bit, that with the bit 0 stands first. -/
theorem bit_first {a b : List UInt8} (ha : a.length = 16) (hb : b.length = 16) {d : Nat} (hd : d < 128) (hs : ∀ k, k < d → bitOf a k = bitOf b k) (h1 : bitOf a d = 1) (h0 : bitOf b d = 0) : b < a := by
  refine lt_at (d / 8) (by omega) (by omega) (fun i hi => ?_) ?_
  · apply UInt8.toNat_inj.1
    refine byte_of_bits _ _ (a.getD i 0).toNat_lt (b.getD i 0).toNat_lt fun j hj => ?_
    have := hs (8 * i + j) (by omega)
    unfold bitOf at this
    rw [show (8 * i + j) / 8 = i by omega, show (8 * i + j) % 8 = j by omega] at this
    exact this
  · rw [UInt8.lt_iff_toNat_lt]
    refine byte_of_bits_lt _ _ (d % 8) (a.getD (d / 8) 0).toNat_lt (b.getD (d / 8) 0).toNat_lt (Nat.mod_lt _ (by decide)) (fun j hj => ?_) h1 h0
    have := hs (8 * (d / 8) + j) (by omega)
    unfold bitOf at this
    rw [show (8 * (d / 8) + j) / 8 = d / 8 by omega, show (8 * (d / 8) + j) % 8 = j by omega] at this
    exact this
theorem itAt_mem {L : List It} {i : Nat} (h : i < L.length) : itAt L i ∈ L := by rw [itAt_of h]; exact List.getElem_mem h
theorem itAt_rise {L : List It} (hs : L.Pairwise ltI) {i j : Nat} (hij : i < j) (hj : j < L.length) : ltI (itAt L i) (itAt L j) := by
  rw [itAt_of hj, itAt_of (show i < L.length by omega)]
  exact List.pairwise_iff_getElem.1 hs i j (by omega) hj hij
/-- Behind one whose bit is 1 all have it. -/
theorem bit_mono {L : List It} {d : Nat} (hs : L.Pairwise ltI) (hap : Apart L d) (hd : d < 128) {i j : Nat} (hij : i ≤ j) (hj : j < L.length) (h : bitI (itAt L i) d = 1) : bitI (itAt L j) d = 1 := by
  by_cases e : i = j
  · rwa [← e]
  · have hlt : ltI (itAt L i) (itAt L j) := itAt_rise hs (by omega) hj
    have hi : itAt L i ∈ L := itAt_mem (by omega)
    have hjm : itAt L j ∈ L := itAt_mem hj
    have hb := bitOf_lt (itAt L j).1.data.toList d
    by_cases e0 : bitI (itAt L j) d = 0
    · have := bit_first (a := (itAt L i).1.data.toList) (b := (itAt L j).1.data.toList) (hap.1 _ hi) (hap.1 _ hjm) hd (fun k hk => hap.2.2 _ hi _ hjm k hk) h e0
      exact (ltI_asymm hlt this).elim
    · unfold bitI at e0 ⊢; omega
theorem half_cut {L : List It} {d r : Nat} (h0 : ∀ i, i < r → i < L.length → bitI (itAt L i) d ≠ 1) (h1 : ∀ i, r ≤ i → i < L.length → bitI (itAt L i) d = 1) : half L d 0 = L.take r ∧ half L d 1 = L.drop r := by
  have t0 : ∀ x ∈ L.take r, bitI x d = 0 := by
    intro x hx
    obtain ⟨i, hi, rfl⟩ := List.getElem_of_mem hx
    rw [List.length_take] at hi
    have := h0 i (by omega) (by omega)
    rw [itAt_of (show i < L.length by omega)] at this
    rw [List.getElem_take]
    have hb := bitOf_lt (L[i]'(by omega)).1.data.toList d
    unfold bitI at this ⊢; omega
  have t1 : ∀ x ∈ L.drop r, bitI x d = 1 := by
    intro x hx
    obtain ⟨i, hi, rfl⟩ := List.getElem_of_mem hx
    rw [List.length_drop] at hi
    have := h1 (r + i) (by omega) (by omega)
    rw [itAt_of (show r + i < L.length by omega)] at this
    rw [List.getElem_drop]
    exact this
  unfold half
  constructor
  · conv => lhs; rw [← List.take_append_drop r L]
    rw [List.filter_append, List.filter_eq_self.2 (fun x hx => by rw [beq_iff_eq]; exact t0 x hx), List.filter_eq_nil_iff.2 (fun x hx => by rw [beq_iff_eq, t1 x hx]; decide), List.append_nil]
  · conv => lhs; rw [← List.take_append_drop r L]
    rw [List.filter_append, List.filter_eq_nil_iff.2 (fun x hx => by rw [beq_iff_eq, t0 x hx]; decide), List.filter_eq_self.2 (fun x hx => by rw [beq_iff_eq]; exact t1 x hx), List.nil_append]
theorem half_rise {L : List It} (h : L.Pairwise ltI) (d k : Nat) : (half L d k).Pairwise ltI := h.filter _
theorem drop_at {L : List It} {p : Nat} (hp : p < L.length) : L.drop p = itAt L p :: L.drop (p + 1) := by
  rw [List.drop_eq_getElem_cons hp, itAt_of hp]
theorem rise_mid {L : List It} {x : It} {p q : Nat} (hs : L.Pairwise ltI) (_hpq : p ≤ q) (h0 : ∀ i, i < p → i < L.length → ltI (itAt L i) x) (h1 : ∀ i, q ≤ i → i < L.length → ltI x (itAt L i)) : (L.take p ++ x :: L.drop q).Pairwise ltI := by
  have a0 : ∀ y ∈ L.take p, ltI y x := by
    intro y hy
    obtain ⟨i, hi, rfl⟩ := List.getElem_of_mem hy
    rw [List.length_take] at hi
    have := h0 i (by omega) (by omega)
    rw [itAt_of (show i < L.length by omega)] at this
    rw [List.getElem_take]; exact this
  have a1 : ∀ y ∈ L.drop q, ltI x y := by
    intro y hy
    obtain ⟨i, hi, rfl⟩ := List.getElem_of_mem hy
    rw [List.length_drop] at hi
    have := h1 (q + i) (by omega) (by omega)
    rw [itAt_of (show q + i < L.length by omega)] at this
    rw [List.getElem_drop]; exact this
  rw [List.pairwise_append, List.pairwise_cons]
  refine ⟨hs.sublist (List.take_sublist p L), ⟨a1, hs.sublist (List.drop_sublist q L)⟩, fun y hy z hz => ?_⟩
  rcases List.mem_cons.1 hz with rfl | hz
  · exact a0 y hy
  · exact ltI_trans (a0 y hy) (a1 z hz)
theorem ltI_ne {x y : It} (h : ltI x y) : x.1 ≠ y.1 := fun e => by
  unfold ltI at h
  rw [e] at h
  exact List.lt_irrefl _ h
theorem take_ne {L : List It} {x : It} {p : Nat} (h0 : ∀ i, i < p → i < L.length → ltI (itAt L i) x) : ∀ y ∈ L.take p, y.1 ≠ x.1 := by
  intro y hy
  obtain ⟨i, hi, rfl⟩ := List.getElem_of_mem hy
  rw [List.length_take] at hi
  have := h0 i (by omega) (by omega)
  rw [itAt_of (show i < L.length by omega)] at this
  rw [List.getElem_take]; exact ltI_ne this
theorem drop_ne {L : List It} {x : It} {q : Nat} (h1 : ∀ i, q ≤ i → i < L.length → ltI x (itAt L i)) : ∀ y ∈ L.drop q, y.1 ≠ x.1 := by
  intro y hy
  obtain ⟨i, hi, rfl⟩ := List.getElem_of_mem hy
  rw [List.length_drop] at hi
  have := h1 (q + i) (by omega) (by omega)
  rw [itAt_of (show q + i < L.length by omega)] at this
  rw [List.getElem_drop]; exact fun e => ltI_ne this e.symm
/-- One more, of a new index. -/
theorem set_new {L : List It} {x : It} {p : Nat} (hs : L.Pairwise ltI) (h0 : ∀ i, i < p → i < L.length → ltI (itAt L i) x) (h1 : ∀ i, p ≤ i → i < L.length → ltI x (itAt L i)) :
    others L x = L ∧ L.take p ++ x :: L.drop p = insIt x (others L x) := by
  have he : others L x = L := by
    refine List.filter_eq_self.2 fun y hy => decide_eq_true ?_
    rw [← List.take_append_drop p L] at hy
    rcases List.mem_append.1 hy with hy | hy
    · exact take_ne h0 y hy
    · exact drop_ne h1 y hy
  refine ⟨he, set_sorted hs ?_ (rise_mid hs (Nat.le_refl p) h0 h1)⟩
  rw [he]
  conv => rhs; rw [← List.take_append_drop p L]
  rw [List.append_assoc]
  exact List.Perm.append_left _ (List.perm_append_singleton x _).symm
/-- One in another one's place. -/
theorem set_there {L : List It} {x : It} {p : Nat} (hs : L.Pairwise ltI) (hp : p < L.length) (he : (itAt L p).1 = x.1) :
    (others L x).length + 1 = L.length ∧ L.take p ++ x :: L.drop (p + 1) = insIt x (others L x) := by
  have h0 : ∀ i, i < p → i < L.length → ltI (itAt L i) x := fun i hi _ => by
    have := itAt_rise hs hi hp
    unfold ltI at this ⊢
    rwa [he] at this
  have h1 : ∀ i, p + 1 ≤ i → i < L.length → ltI x (itAt L i) := fun i hi hl => by
    have := itAt_rise hs (show p < i by omega) hl
    unfold ltI at this ⊢
    rwa [he] at this
  have ho : others L x = L.take p ++ L.drop (p + 1) := by
    unfold others
    conv => lhs; rw [← List.take_append_drop p L, drop_at hp]
    rw [List.filter_append, List.filter_cons_of_neg (by simp [he]), List.filter_eq_self.2 (fun y hy => decide_eq_true (take_ne h0 y hy)), List.filter_eq_self.2 (fun y hy => decide_eq_true (drop_ne h1 y hy))]
  refine ⟨by rw [ho]; simp; omega, set_sorted hs ?_ (rise_mid hs (Nat.le_succ p) h0 h1)⟩
  rw [ho, List.append_assoc]
  exact List.Perm.append_left _ (List.perm_append_singleton x _).symm
end Go.Proofs.YtcfpmofmjnhonaaGreatDoor
