/- Parts of the proof, one behind the other: VNew, VNew2, VPath, QSign, VSign, VMarks. -/
import Derived.Test.YtedmgfompaoeoaaDoorM15
import Derived.Test.YtedmgfompaoeoaaDoorM16
import Derived.Test.YtedmgfompaoeoaaDoorM12
import Derived.Test.YtedmgfompaoeoaaDoorM9
/- The program's boxes: how they lie, and New. -/
namespace Go.Proofs.YtedmgfompaoeoaaDoor
open Go.RowKit

theorem infoSl : (Tryd.prog.info? 22).map (fun i => (i.zero, i.size, i.bytes)) = some (some (.slice none 0 0), 1, 24) := by kernel_rfl
def vbF (seed : ByteArray) (v : Value) (p : ByteArray) : Nat → Value := fun i => if i = 0 then .string seed else if i = 1 then v else .string p
/-- A row in memory. -/
def RowAt (w : World) (bb : Nat) (v : Value) (seed : ByteArray) (t : Nat) (u : Value) : Prop :=
  ∃ g c, u = .slice (some ⟨g, 0, none⟩) (rowLen t) c ∧ rowLen t ≤ c ∧ g < w.heap.size ∧ g ≠ bb ∧ v.ownBlock ≠ some g ∧ Strs w (some ⟨g, 0, none⟩) (lvl seed t)
/-- While a box is made: n rows are in it, the row t is at hand. -/
structure NewAt (w : World) (bb : Nat) (seed : ByteArray) (n t : Nat) (row v : Value) (wr : World) : Prop where
  below : Below w.heap.size w wr
  lb : w.heap.size ≤ bb
  own : Holds wr bb 3 (vbF seed v ⟨#[]⟩) 68
  apart : v.ownBlock ≠ some bb
  cur : RowAt wr bb v seed t row
  rows : ∃ xs, Row wr w.heap.size 1 v n xs ∧ ∀ j u, xs[j]? = some u → RowAt wr bb v seed j u
theorem strs_block {w w' : World} {g : Nat} {L : List ByteArray} (h : Strs w (some ⟨g, 0, none⟩) L) (hb : w'.heap[g]? = w.heap[g]?) (hz : w.heap.size ≤ w'.heap.size) : Strs w' (some ⟨g, 0, none⟩) L := fun i p hp => by
  obtain ⟨a, ha, hl, hc⟩ := h i p hp
  cases ha
  rw [add_none] at hc
  exact ⟨_, rfl, Nat.lt_of_lt_of_le hl hz, by rw [add_none]; exact (World.cell?_of_block (w := w) (a := ⟨g, 0 + i, none⟩) hb).trans hc⟩
theorem RowAt.below {w w' : World} {bb : Nat} {v : Value} {seed : ByteArray} {t : Nat} {u : Value} (h : RowAt w bb v seed t u) (hb : Below w.heap.size w w') : RowAt w' bb v seed t u := by
  obtain ⟨g, c, h1, h2, h3, h4, h5, h6⟩ := h
  exact ⟨g, c, h1, h2, Nat.lt_of_lt_of_le h3 hb.size, h4, h5, h6.below hb⟩
theorem RowAt.next {w w' : World} {bb : Nat} {v v' : Value} {seed : ByteArray} {t : Nat} {u : Value} (h : RowAt w bb v seed t u) (hg : w.grownBy w' v.ownBlock) (hm : Moved w v v') : RowAt (w'.setCell ⟨bb, 1, none⟩ v') bb v' seed t u := by
  obtain ⟨g, c, h1, h2, h3, h4, h5, h6⟩ := h
  have hz : w.heap.size ≤ (w'.setCell ⟨bb, 1, none⟩ v').heap.size := by have := hg.size; simp [World.setCell]; exact this
  refine ⟨g, c, h1, h2, Nat.lt_of_lt_of_le h3 hz, h4, ?_, strs_block h6 ?_ hz⟩
  · rcases hm with e | e
    · rw [e]; exact h5
    · intro e2; have := e g e2; omega
  · rw [Below.heap_setCell _ _ _ _ h4]
    exact hg.block g h3 (fun e => h5 e.symm)
/-- The row at hand is put in. -/
theorem NewAt.put {w wr w4 : World} {bb : Nat} {seed : ByteArray} {n t : Nat} {row v v' : Value} {xs : List Value} (h : NewAt w bb seed n t row v wr) (hnt : t = n)
    (hx : Row wr w.heap.size 1 v n xs) (hxs : ∀ j u, xs[j]? = some u → RowAt wr bb v seed j u)
    (hrow : Row w4 w.heap.size 1 v' (n + 1) (xs ++ [row])) (hg : wr.grownBy w4 v.ownBlock) (hm : Moved wr v v') : NewAt w bb seed (n + 1) t row v' (w4.setCell ⟨bb, 1, none⟩ v') := by
  have hlb := h.lb
  have hbw : bb < wr.heap.size := h.own.lt
  have hap : v'.ownBlock ≠ some bb := by
    rcases hm with e | e
    · rw [e]; exact h.apart
    · intro e2; have := e bb e2; omega
  refine ⟨(h.below.grown hg h.below.size (fun k hk => (hx.lt k hk).1)).setCell (p := ⟨bb, 1, none⟩) (by show w.heap.size ≤ bb; omega) _, hlb, ?_, hap, h.cur.next hg hm, xs ++ [row], hrow.setOther hap _, ?_⟩
  · have h4 : Holds w4 bb 3 (vbF seed v ⟨#[]⟩) 68 := by
      have := h.own
      unfold Holds at this ⊢
      rw [hg.block bb (lt_of_block this) (fun e => h.apart e.symm)]; exact this
    refine (h4.set 1 v').congr fun i hi => ?_
    unfold upd vbF
    rcases (show i = 0 ∨ i = 1 ∨ i = 2 by omega) with rfl | rfl | rfl <;> simp
  · intro j u hj
    have hxl : xs.length = n := by have := hx.1; omega
    by_cases hjn : j < n
    · rw [List.getElem?_append_left (by omega)] at hj
      exact (hxs j u hj).next hg hm
    · rw [List.getElem?_append_right (by omega)] at hj
      have hj0 : j - xs.length = 0 := by have := (List.getElem?_eq_some_iff.1 hj).1; simp at this; omega
      rw [hj0] at hj
      obtain rfl : row = u := by simpa using hj
      obtain rfl : j = t := by omega
      exact h.cur.next hg hm
/-- The row above is at hand. -/
theorem NewAt.up {w wr w' : World} {bb : Nat} {seed : ByteArray} {n t : Nat} {row v : Value} (h : NewAt w bb seed n t row v wr) (hb : Below wr.heap.size wr w') {g c : Nat} (hc : rowLen (t + 1) ≤ c) (hg : wr.heap.size ≤ g) (hgl : g < w'.heap.size) (hs : Strs w' (some ⟨g, 0, none⟩) (lvl seed (t + 1))) :
    NewAt w bb seed n (t + 1) (.slice (some ⟨g, 0, none⟩) (rowLen (t + 1)) c) v w' := by
  obtain ⟨xs, hx, hxs⟩ := h.rows
  have hbw : bb < wr.heap.size := h.own.lt
  exact ⟨h.below.trans (hb.mono h.below.size), h.lb, h.own.below hb h.own.lt, h.apart, ⟨g, c, rfl, hc, hgl, by omega, (fun e => by have := (hx.lt g e).2; omega), hs⟩, xs, hx.belowAll hb, fun j u hj => (hxs j u hj).below hb⟩

/-- A box of the program's. -/
def SealIs (w : World) (p : Addr) (seed : ByteArray) : Prop :=
  ∃ bb gr rc, p = ⟨bb, 0, none⟩ ∧ bb < w.heap.size ∧ gr < w.heap.size ∧ w.cell? ⟨bb, 0, none⟩ = some (.string seed) ∧ w.cell? ⟨bb, 1, none⟩ = some (.slice (some ⟨gr, 0, none⟩) 3 rc) ∧ w.cell? ⟨bb, 2, none⟩ = some (.string (boxPub seed)) ∧
    ∀ j, j < 3 → ∃ g c, w.cell? ⟨gr, j, none⟩ = some (.slice (some ⟨g, 0, none⟩) (rowLen j) c) ∧ Strs w (some ⟨g, 0, none⟩) (lvl seed j)
theorem SealIs.below {w w' : World} {p : Addr} {seed : ByteArray} (h : SealIs w p seed) (hb : Below w.heap.size w w') : SealIs w' p seed := by
  obtain ⟨bb, gr, rc, h1, h2, h3, h4, h5, h6, h7⟩ := h
  refine ⟨bb, gr, rc, h1, Nat.lt_of_lt_of_le h2 hb.size, Nat.lt_of_lt_of_le h3 hb.size, (hb.cell (p := ⟨bb, 0, none⟩) h2).trans h4, (hb.cell (p := ⟨bb, 1, none⟩) h2).trans h5, (hb.cell (p := ⟨bb, 2, none⟩) h2).trans h6, fun j hj => ?_⟩
  obtain ⟨g, c, h8, h9⟩ := h7 j hj
  exact ⟨g, c, (hb.cell (p := ⟨gr, j, none⟩) h3).trans h8, h9.below hb⟩
theorem NewAt.done {w wr : World} {bb : Nat} {seed : ByteArray} {row v : Value} (h : NewAt w bb seed 3 3 row v wr) : SealIs (wr.setCell ⟨bb, 2, none⟩ (.string (boxPub seed))) ⟨bb, 0, none⟩ seed := by
  obtain ⟨xs, hx, hxs⟩ := h.rows
  have hz : wr.heap.size ≤ (wr.setCell ⟨bb, 2, none⟩ (.string (boxPub seed))).heap.size := by simp [World.setCell]
  have hx2 := hx.setOther (a := ⟨bb, 2, none⟩) h.apart (.string (boxPub seed))
  obtain ⟨gr, rc, rfl, _, hgl, _, hc, _⟩ := hx2.shape (by omega)
  have hH : Holds (wr.setCell ⟨bb, 2, none⟩ (.string (boxPub seed))) bb 3 (vbF seed (.slice (some ⟨gr, 0, none⟩) 3 rc) (boxPub seed)) 68 := (h.own.set 2 _).congr fun i hi => by
    unfold upd vbF
    rcases (show i = 0 ∨ i = 1 ∨ i = 2 by omega) with rfl | rfl | rfl <;> simp
  refine ⟨bb, gr, rc, rfl, Nat.lt_of_lt_of_le h.own.lt hz, hgl, hH.cell 0 (by omega), hH.cell 1 (by omega), hH.cell 2 (by omega), fun j hj => ?_⟩
  have hjl : j < xs.length := by have := hx.1; omega
  obtain ⟨g, c, e, _, hg, hne, _, hs⟩ := hxs j xs[j] (List.getElem?_eq_getElem hjl)
  exact ⟨g, c, (hc j xs[j] (List.getElem?_eq_getElem hjl)).trans (by rw [e]), strs_block hs (Below.heap_setCell _ _ _ _ hne) hz⟩
end Go.Proofs.YtedmgfompaoeoaaDoor
/- The program's New. -/
namespace Go.Proofs.YtedmgfompaoeoaaDoor
open Go.RowKit

theorem rowLen_two (t : Nat) (h : t < 3) : 1 < rowLen t ∧ rowLen t = 2 * rowLen (t + 1) ∧ 1 ≤ rowLen (t + 1) ∧ rowLen (t + 1) ≤ 4 := by
  rcases (by omega : t = 0 ∨ t = 1 ∨ t = 2) with rfl | rfl | rfl <;> decide
set_option maxHeartbeats 2000000 in
set_option maxRecDepth 100000 in
theorem vNew_t (seed : ByteArray) (w : World) (hk : HasK w) (h16 : seed.size = 16) :
    Calls Tryd.prog 8 #[.string seed] w fun e w' => ∃ p, e = .returned (.tuple #[.pointer (some p), .nilIface]) ∧ Below w.heap.size w w' ∧ SealIs w' p seed := by
  have HK := Lib.hid hk
  have H16 := Lib.hid h16
  clear hk h16
  go_enter Tryd.func8, Tryd.ntmps8
  go_wp2_with fail
  refine (vFirst_t seed _ HK.out H16.out).mono ?_
  rintro e w1 ⟨g, rfl, hg, hgl, hb1, hst⟩
  obtain ⟨bb, hbb⟩ : ∃ bb, w1.heap.size = bb := ⟨_, rfl⟩
  have HREL := Lib.hid (show NewAt w bb seed 0 0 (.slice (some ⟨g, 0, none⟩) 8 8) (.slice none 0 0) (w1.alloc (.cells #[.string seed, .slice none 0 0, .string ⟨#[]⟩] 68)) by
    refine ⟨hb1.trans ((alloc_below w1 _).mono hb1.size), by rw [← hbb]; exact hb1.size, ?_, (by intro e; cases e), ⟨g, 8, rfl, by decide, by simp; omega, by omega, (by intro e; cases e), hst.below (alloc_below w1 _)⟩, [], Row.nil _ _ _, fun j u hj => by simp at hj⟩
    have := Holds.new w1 3 (vbF seed (.slice none 0 0) ⟨#[]⟩) 68
    rw [hbb] at this
    exact this)
  go_wp2
  generalize w1.alloc (.cells #[.string seed, .slice none 0 0, .string ⟨#[]⟩] 68) = w2 at HREL ⊢
  clear hst hb1 hg hgl hbb
  go_loopw [4] (fun rv wr => ∃ (t g c : Nat) (v : Value), t ≤ 3 ∧ rv = .slice (some ⟨g, 0, none⟩) (rowLen t) c ∧ Hid (NewAt w bb seed t t (.slice (some ⟨g, 0, none⟩) (rowLen t) c) v wr)) (fun rv _ => sliceLen rv)
  case atStart => exact ⟨0, g, 8, _, by omega, rfl, HREL⟩
  case round =>
    clear HREL
    obtain ⟨t, g1, c1, v, ht, rfl, HU⟩ := hrel
    by_cases hlt : t < 3
    · obtain ⟨r1, r2, r3, r4⟩ := rowLen_two t hlt
      have HLE := Lib.hid (lvl_length seed t ht)
      have HLN := Lib.hid (lvl_length seed (t + 1) (by omega))
      obtain ⟨xs, hx, hxs⟩ := HU.out.rows
      have HX := Lib.hid hx
      have HXS := Lib.hid hxs
      have HR2 := Lib.hid r2
      obtain ⟨n, hn⟩ : ∃ n, rowLen t = n := ⟨_, rfl⟩
      have HN := Lib.hid hn
      rw [hn] at HU r1 HLE HR2 ⊢
      clear hn hx hxs r2
      have q1 : wr.cell? ⟨bb, 1, none⟩ = some v := HU.out.own.cell 1 (by omega)
      have hi : (1 : Int) < (n : Int) := by omega
      have HO4 := Lib.hid (show ∀ w4 : World, wr.grownBy w4 v.ownBlock → w4.cell? ⟨bb, 1, none⟩ = some v ∧ w4.frozen? ⟨bb, 1, none⟩ = false from fun w4 hg4 => by
        have hb4 := hg4.block bb HU.out.own.lt (fun e => HU.out.apart e.symm)
        exact ⟨(World.cell?_of_block (a := ⟨bb, 1, none⟩) hb4).trans (HU.out.own.cell 1 (by omega)), (World.frozen?_of_block (a := ⟨bb, 1, none⟩) hb4).trans (HU.out.own.free 1)⟩)
      go_wp2_with (at_builtin; refine wpList_append_one2 rfl (.tmp 25) (.tmp 27) 66 rfl 22 Tryd.underlying66 _ 24 infoSl rfl (by decide) w.heap.size v t xs rfl HX.out HU.out.below.size (by omega) _ rfl rfl 22 ?_; intro v' w4 hrow4 hg4 hm4; obtain ⟨p6, cap6, rfl⟩ := hrow4.out.any; have t0 := (HO4.out w4 hg4.out).1; have t1 := (HO4.out w4 hg4.out).2)
      have HP := Lib.hid (HU.out.put rfl HX.out HXS.out hrow4.out hg4.out hm4.out)
      clear hrow4 hg4 hm4
      generalize w4.setCell ⟨bb, 1, none⟩ (.slice p6 (t + 1) cap6) = w5 at HP ⊢
      obtain ⟨g2, c2, e2, hc2, hg2, -, -, hs2⟩ := HP.out.cur
      injection e2 with e2a e2b e2c
      cases e2a
      subst e2c
      have HC := Lib.hid (vAbove_any (lvl seed t) g1 c1 (rowLen (t + 1)) w5 (HK.out.below HP.out.below HK.out.lt) (by rw [HLE.out, HR2.out]) r3 r4 (by rw [HLE.out, ← HN.out]; exact hc2) (lvl_size seed t) hg2 hs2)
      rw [HLE.out] at HC
      clear hs2 hc2 hg2 e2b t0 t1
      refine HC.out.mono ?_
      rintro e w6 ⟨g6, c6, rfl, hc6, hg6, hl6, hb6, hs6⟩
      have HP6 := Lib.hid (HP.out.up hb6 hc6 hg6 hl6 hs6)
      clear hc6 hg6 hl6 hb6 hs6
      go_wp2
      go_roundw
      case rel => exact ⟨t + 1, g6, c6, _, by omega, rfl, HP6⟩
      case measure => have := HR2.out; simp [sliceLen]; omega
    · obtain rfl : t = 3 := by omega
      have HNT := Lib.hid (show rowLen 3 = 1 from rfl)
      rw [HNT.out] at HU ⊢
      obtain ⟨g2, c2, e2, -, -, -, -, hs2⟩ := HU.out.cur
      cases e2
      obtain ⟨a, ha, -, r0⟩ := hs2 0 (boxPub seed) (by rw [getD_get (by rw [lvl3_length]; omega), lvl3_get])
      cases ha
      rw [add_none] at r0
      have q0 : wr.cell? ⟨bb, 2, none⟩ = some (.string ⟨#[]⟩) := HU.out.own.cell 2 (by omega)
      have q1 : wr.frozen? ⟨bb, 2, none⟩ = false := HU.out.own.free 2
      have HD := Lib.hid HU.out.done
      have HBF := Lib.hid (HU.out.below.setCell (p := ⟨bb, 2, none⟩) (show w.heap.size ≤ bb from HU.out.lb) (.string (boxPub seed)))
      clear hs2 ht hlt
      go_wp2
      refine bodyPost_ret (results_tmp2 rfl _ _ _) rfl ?_
      exact ⟨⟨bb, 0, none⟩, rfl, HBF.out, HD.out⟩
set_option maxRecDepth 100000 in
theorem vNew_f (seed : ByteArray) (w : World) (hk : HasK w) (h16 : ¬ seed.size = 16) :
    Calls Tryd.prog 8 #[.string seed] w fun e w' => e = .returned (.tuple #[.pointer none, errOf 1]) ∧ Below w.heap.size w w' := by
  have HK := Lib.hid hk
  have H16 := Lib.hid h16
  have HE1 := Lib.hid (show errOf 1 = Value.iface 30 (.int .i64 1) from rfl)
  clear hk h16
  go_enter Tryd.func8, Tryd.ntmps8
  go_wp2_with fail
  refine (vFirst_f seed _ HK.out H16.out).mono ?_
  rintro e w1 ⟨rfl, hb1⟩
  rw [HE1.out]
  have HB1 := Lib.hid hb1
  clear hb1
  go_wp2
  refine bodyPost_ret (results_tmp2 rfl _ _ _) rfl ?_
  exact ⟨rfl, HB1.out⟩
end Go.Proofs.YtedmgfompaoeoaaDoor
/- The program's boxes: Public, the path. -/
namespace Go.Proofs.YtedmgfompaoeoaaDoor
open Go.RowKit

set_option maxRecDepth 100000 in
theorem vPublic_any (p : Addr) (seed : ByteArray) (w : World) (h : SealIs w p seed) :
    Calls Tryd.prog 10 #[.pointer (some p)] w fun e w' => e = .returned (.string (boxPub seed)) ∧ Below w.heap.size w w' := by
  obtain ⟨bb, gr, rc, rfl, h2, h3, h4, h5, h6, h7⟩ := h
  have HB := Lib.hid (Below.refl w.heap.size w)
  clear h7 h5 h4
  go_enter Tryd.func10, Tryd.ntmps10
  go_wp2
  go_ret
  exact ⟨rfl, HB.out⟩
theorem make3 (w : World) : (Instr.makeSlice 22 (.int .i64 3) (.int .i64 3)).run Tryd.prog w = .ok (.slice (some ⟨w.heap.size, 0, none⟩) 3 3) (w.alloc (.cells (arr 3 fun _ => .string ⟨#[]⟩) 9)) := by kernel_rfl
set_option maxRecDepth 100000 in
theorem vPath_any (p : Addr) (seed : ByteArray) (key : Nat) (w : World) (h : SealIs w p seed) (hk7 : key ≤ 7) :
    Calls Tryd.prog 31 #[.pointer (some p), .int .i64 (key : Int)] w fun e w' => ∃ g, e = .returned (.slice (some ⟨g, 0, none⟩) 3 3) ∧ w.heap.size ≤ g ∧ Below w.heap.size w w' ∧ Strs w' (some ⟨g, 0, none⟩) (sealPath seed key 3) := by
  have H := Lib.hid h
  obtain ⟨bb, gr, rc, rfl, h2, h3, h4, h5, h6, h7⟩ := h
  have HB0 := Lib.hid (alloc_below w (.cells (arr 3 fun _ => .string ⟨#[]⟩) 9))
  have HH0 := Lib.hid (Holds.new w 3 (fun _ => .string ⟨#[]⟩) 9)
  have H2 := Lib.hid h2
  have H3 := Lib.hid h3
  have H7 := Lib.hid h7
  have q5 := (HB0.out.cell (p := ⟨bb, 1, none⟩) h2).trans h5
  clear h2 h3 h4 h5 h6 h7
  have hmk := make3
  go_enter Tryd.func31, Tryd.ntmps31
  go_wp2
  clear hmk q5
  go_loopw [14] (fun i wr => ∃ k : Nat, k ≤ 3 ∧ i = .int .i64 (k : Int) ∧ Hid (Below w.heap.size w wr ∧ Holds wr w.heap.size 3 (sfill (sealPath seed key 3) k) 9)) (fun i _ => 3 - (intOf i).toNat)
  case atStart => exact ⟨0, by omega, rfl, Lib.hid ⟨HB0.out, HH0.out.congr fun i hi => by unfold sfill; rw [if_neg (by omega)]⟩⟩
  case round =>
    obtain ⟨k, hk, rfl, HU⟩ := hrel
    by_cases hlt : k < 3
    · obtain ⟨g, c, r1, hst⟩ := H7.out k hlt
      have s1 := sib_lt key k hk7 hlt
      have s2 := sib_xor key k hk7 hlt
      have s3 := getD_get (P := lvl seed k) (i := sib (key / 2 ^ k)) (by rw [lvl_length seed k hk]; exact s1)
      obtain ⟨a, ha, hal, r2⟩ := hst _ _ s3
      cases ha
      have HXK := Lib.hid (show (sealPath seed key 3)[k]? = some ((lvl seed k).getD (sib (key / 2 ^ k)) ⟨#[]⟩) by rw [lvl_get seed k _ hlt s1]; exact map_range_at _ 3 k hlt)
      rw [add_none, Nat.zero_add] at r2
      have e1 := (HU.out.1.cell (p := ⟨gr, k, none⟩) H3.out).trans r1
      have e2 := (HU.out.1.cell (p := ⟨g, sib (key / 2 ^ k), none⟩) hal).trans r2
      clear s3 hst r1 r2 hal
      generalize (lvl seed k).getD (sib (key / 2 ^ k)) ⟨#[]⟩ = x at HXK e2
      generalize sib (key / 2 ^ k) = q at s1 s2 e2
      generalize rowLen k = n at s1 e1
      have s4 : (q : Int) < (n : Int) := by omega
      have s5 : (0 : Int) ≤ (q : Int) := by omega
      have c0 := HU.out.2.cell k hlt
      have f0 := HU.out.2.free k
      rw [show sfill (sealPath seed key 3) k k = .string ⟨#[]⟩ by unfold sfill; rw [if_neg (by omega)]] at c0
      go_wp2
      go_roundw
      case rel =>
        refine ⟨k + 1, by omega, by go_num, Lib.hid ⟨HU.out.1.setCell (by show w.heap.size ≤ w.heap.size; omega) _, ?_⟩⟩
        rw [← sfill_succ _ k _ HXK.out]
        exact HU.out.2.set k _
      case measure => simp [intOf]; omega
    · obtain rfl : k = 3 := by omega
      have HST := Lib.hid (strs_of_holds HU.out.2 (sealPath_length seed key 3))
      have HBF := Lib.hid HU.out.1
      clear hlt hk
      go_wp2
      go_ret
      exact ⟨w.heap.size, rfl, Nat.le_refl _, HBF.out, HST.out⟩
end Go.Proofs.YtedmgfompaoeoaaDoor
/- The program's once: Sign. -/
namespace Go.Proofs.YtedmgfompaoeoaaDoor
open Go.RowKit

theorem twoMarks {s m : ByteArray} {b : Bool} (h : (decide (s.size = 16) && decide (m.size = 16)) = b) : marksOk [s, m] = b := by
  rw [← h]; unfold marksOk; simp

theorem run_index_arr {P : Program} (w : World) (t e n : Nat) (cs : Array Value) (v : Value) (i : Nat) (h : P.underlying t = some (.array n e)) (h1 : ∀ w, (Go.sizeOf e).run P w = .ok 1 w) (h2 : ∀ w, (isAgg e).run P w = .ok false w) (hi : i < n) (hv : cs[i]? = some v) :
    (Instr.index t (.agg cs) (.int .i64 (i : Int))).run P w = .ok v w := by
  have hn : (0 : Int) ≤ (i : Int) ∧ (i : Int) < (n : Int) := by omega
  simp [Instr.index, run_underlying h, asIntOf, hn, h1, h2, hi, hv, Result.andThen, go_sem]
theorem sizeInt (w : World) : (Go.sizeOf 3).run Tryd.prog w = .ok 1 w := by kernel_rfl
theorem aggInt (w : World) : (isAgg 3).run Tryd.prog w = .ok false w := by kernel_rfl
theorem make35 (w : World) : (Instr.makeSlice 22 (.int .i64 35) (.int .i64 35)).run Tryd.prog w = .ok (.slice (some ⟨w.heap.size, 0, none⟩) 35 35) (w.alloc (.cells (arr 35 fun _ => .string ⟨#[]⟩) 9)) := by kernel_rfl
set_option maxRecDepth 100000 in
theorem qSign_at (seed : ByteArray) (key : Int) (m : ByteArray) (T : List ByteArray) (n : Int) (w : World) (hk : HasK w) (h : signAns seed key m = (T, n)) :
    Calls Tryd.prog 30 #[.string seed, .int .i64 key, .string m] w fun e w' => ∃ A cap, e = .returned (.tuple #[.slice A T.length cap, errOf n]) ∧ Below w.heap.size w w' ∧ Strs w' A T ∧ ∀ a, A = some a → 0 < T.length → w.heap.size ≤ a.block := by
  have HK := Lib.hid hk
  clear hk
  have HB0 := Lib.hid (alloc_below w (.cells #[.string seed, .string m] 9))
  have HS0 := Lib.hid (strs_new w [seed, m] 9)
  unfold signAns at h
  by_cases h16 : seed.size = 16 ∧ m.size = 16
  · rw [if_pos h16] at h
    obtain ⟨hx, rfl⟩ := Prod.mk.inj h
    have HX := Lib.hid hx
    have H16 := Lib.hid h16.1
    have HM16 := Lib.hid h16.2
    have HM := Lib.hid (twoMarks (s := seed) (m := m) (b := true) (by rw [decide_eq_true h16.1, decide_eq_true h16.2]; rfl))
    clear h hx h16
    go_enter Tryd.func30, Tryd.ntmps30
    go_wp2_with fail
    refine (qAre_any [seed, m] _ 2 _ (by simp) HS0.out).mono ?_
    rintro e w1 ⟨rfl, rfl⟩
    rw [HM.out]
    have hmk := make35
    go_wp2_with fail
    refine (qDigits_any m _ HM16.out).mono ?_
    rintro e w2 ⟨rfl, hb2⟩
    clear hmk
    have HB1 := Lib.hid (HB0.out.trans ((alloc_below _ (.cells (arr 35 fun _ => .string ⟨#[]⟩) 9)).mono HB0.out.size))
    have HN1 := Lib.hid (Holds.new (w.alloc (.cells (stCells [seed, m]).toArray 9)) 35 (fun _ => .string ⟨#[]⟩) 9)
    rw [World.size_alloc] at HN1
    have HH2 := Lib.hid (HN1.out.below hb2 HN1.out.lt)
    have HB2 := Lib.hid (HB1.out.trans (hb2.mono HB1.out.size))
    clear hb2
    have HZ := Lib.hid (show ∀ k, k < 35 → (arr 35 fun i => Value.int .i64 (((digitsOf m.data.toList).getD i 0 : Nat) : Int))[k]? = some (Value.int .i64 (((digitsOf m.data.toList).getD k 0 : Nat) : Int)) from fun k hk => arr_get 35 _ k hk)
    generalize (arr 35 fun i => Value.int .i64 (((digitsOf m.data.toList).getD i 0 : Nat) : Int)) = Z at HZ ⊢
    go_wp2
    go_loopw [20] (fun i wr => ∃ k : Nat, k ≤ 35 ∧ i = .int .i64 (k : Int) ∧ Hid (Below w.heap.size w wr ∧ Holds wr (w.heap.size + 1) 35 (sfill (signChains seed key m 35) k) 9)) (fun i _ => 35 - (intOf i).toNat)
    case atStart =>
      refine ⟨0, by omega, rfl, Lib.hid ⟨HB2.out, HH2.out.congr fun i hi => by unfold sfill; rw [if_neg (by omega)]⟩⟩
    case round =>
      obtain ⟨k, hk, rfl, HU⟩ := hrel
      by_cases hlt : k < 35
      · have HN := Lib.hid HU.out.2.lt
        obtain ⟨D, hD⟩ : ∃ D, (digitsOf m.data.toList).getD k 0 = D := ⟨_, rfl⟩
        have HXK := Lib.hid (show (signChains seed key m 35)[k]? = some (alongFrom (k : Int) D 0 (seedOf seed key k)) by rw [← hD]; exact map_range_at _ 35 k hlt)
        have HDL := Lib.hid (digit_le HM16.out k)
        have hz := HZ.out k hlt
        rw [hD] at HDL hz
        have hix := fun wx => run_index_arr (P := Tryd.prog) wx 103 3 35 Z _ k Tryd.underlying103 sizeInt aggInt hlt hz
        clear hD hz
        go_wp2_with fail
        refine (qFirst_any seed key k _ (HK.out.below HU.out.1 HK.out.lt) H16.out).mono ?_
        rintro e w3 ⟨rfl, hb3⟩
        have HB3 := Lib.hid (HU.out.1.trans (hb3.mono HU.out.1.size))
        have HH3 := Lib.hid (HU.out.2.below hb3 HN.out)
        have HL3 := Lib.hid (Nat.lt_of_lt_of_le HN.out hb3.size)
        clear hb3 hix
        go_wp2_with fail
        refine (qWalk_any (seedOf seed key k) (k : Int) 0 D _ (HK.out.below HB3.out HK.out.lt) (seedOf_size _ _ _) (by omega) HDL.out).mono ?_
        rintro e w4 ⟨rfl, hb4⟩
        have HB4 := Lib.hid (HB3.out.trans (hb4.mono HB3.out.size))
        have HH4 := Lib.hid (HH3.out.below hb4 HL3.out)
        clear hb4
        have c0 := HH4.out.cell k hlt
        have f0 := HH4.out.free k
        rw [show sfill (signChains seed key m 35) k k = .string ⟨#[]⟩ by unfold sfill; rw [if_neg (by omega)]] at c0
        go_wp2
        go_roundw
        case rel =>
          refine ⟨k + 1, by omega, by go_num, Lib.hid ⟨HB4.out.setCell (by show w.heap.size ≤ w.heap.size + 1; omega) _, ?_⟩⟩
          rw [← sfill_succ _ k _ HXK.out]
          exact HH4.out.set k _
        case measure => simp [intOf]; omega
      · obtain rfl : k = 35 := by omega
        have HLEN := Lib.hid (show (signChains seed key m 35).length = 35 from chains_len _ _)
        have HST := Lib.hid (strs_of_holds HU.out.2 HLEN.out)
        clear hlt hk
        go_wp2
        refine bodyPost_ret (results_tmp2 rfl _ _ _) rfl ?_
        refine ⟨some ⟨w.heap.size + 1, 0, none⟩, 35, ?_, HU.out.1, ?_, fun a ha _ => by cases ha; show w.heap.size ≤ w.heap.size + 1; omega⟩
        · rw [← HX.out, HLEN.out]; rfl
        · rw [← HX.out]; exact HST.out
  · rw [if_neg h16] at h
    obtain ⟨rfl, rfl⟩ := Prod.mk.inj h
    have HM := Lib.hid (twoMarks (s := seed) (m := m) (b := false) (by
      rw [Bool.and_eq_false_iff, decide_eq_false_iff_not, decide_eq_false_iff_not]
      rcases Classical.em (seed.size = 16) with e | e
      · exact .inr fun f => h16 ⟨e, f⟩
      · exact .inl e))
    clear h h16
    go_enter Tryd.func30, Tryd.ntmps30
    go_wp2_with fail
    refine (qAre_any [seed, m] _ 2 _ (by simp) HS0.out).mono ?_
    rintro e w1 ⟨rfl, rfl⟩
    rw [HM.out]
    go_wp2
    refine bodyPost_ret (results_tmp2 rfl _ _ _) rfl ?_
    exact ⟨_, _, rfl, HB0.out, Strs.nil _ _, fun _ _ h => absurd h (Nat.lt_irrefl 0)⟩
theorem qSign_is (seed : ByteArray) (key : Int) (m : ByteArray) (T : List ByteArray) (n : Int) (w : World) (hk : HasK w) (h : signAns seed key m = (T, n)) :
    Calls Tryd.prog 30 #[.string seed, .int .i64 key, .string m] w fun e w' => ∃ A cap, e = .returned (.tuple #[.slice A T.length cap, errOf n]) ∧ Below w.heap.size w w' ∧ Strs w' A T :=
  (qSign_at seed key m T n w hk h).mono fun _ _ ⟨A, cap, h1, h2, h3, _⟩ => ⟨A, cap, h1, h2, h3⟩
end Go.Proofs.YtedmgfompaoeoaaDoor
/- The program's boxes: Sign. -/
namespace Go.Proofs.YtedmgfompaoeoaaDoor
open Go.RowKit

/-- The block of the result: a seal that is none yet; what it is in the end. -/
structure SgRes (w wr : World) : Prop where
  below : Below w.heap.size w wr
  res : Holds wr w.heap.size 3 (slF 0 (.slice none 0 0) (.slice none 0 0)) 24
theorem SgRes.fin {w wr : World} (h : SgRes w wr) (k : Int) (u v : Value) :
    Holds (((wr.setCell ⟨w.heap.size, 0, none⟩ (.int .i64 k)).setCell ⟨w.heap.size, 1, none⟩ u).setCell ⟨w.heap.size, 2, none⟩ v) w.heap.size 3 (slF k u v) 24 ∧
    Below w.heap.size w (((wr.setCell ⟨w.heap.size, 0, none⟩ (.int .i64 k)).setCell ⟨w.heap.size, 1, none⟩ u).setCell ⟨w.heap.size, 2, none⟩ v) :=
  ⟨(((h.res.set 0 _).set 1 _).set 2 _).congr fun i hi => by
      rcases (show i = 0 ∨ i = 1 ∨ i = 2 by omega) with rfl | rfl | rfl <;> simp [upd, slF],
    ((h.below.setCell (Nat.le_refl _) _).setCell (Nat.le_refl _) _).setCell (Nat.le_refl _) _⟩
theorem SgRes.after {w wr wz : World} (h : SgRes w wr) (hb : Below wr.heap.size wr wz) : SgRes w wz := ⟨h.below.trans (hb.mono h.below.size), h.res.below hb h.res.lt⟩

set_option maxHeartbeats 2000000 in
set_option maxRecDepth 100000 in
theorem vSign_is (p : Addr) (seed : ByteArray) (key : Int) (m : ByteArray) (kk : Int) (S P : List ByteArray) (n : Int) (w : World) (hk : HasK w) (hb : SealIs w p seed) (h : sealAns seed key m = (kk, S, P, n)) :
    Calls Tryd.prog 13 #[.pointer (some p), .int .i64 key, .string m] w fun e w' => ∃ A ca B cb, e = .returned (.tuple #[.agg #[.int .i64 kk, .slice A S.length ca, .slice B P.length cb], errOf n]) ∧ Below w.heap.size w w' ∧ Strs w' A S ∧ Strs w' B P := by
  have HR0 := Lib.hid (show SgRes w (w.alloc (.cells #[.int .i64 0, .slice none 0 0, .slice none 0 0] 24)) from ⟨alloc_below w _, Holds.new w 3 (slF 0 (.slice none 0 0) (.slice none 0 0)) 24⟩)
  have HK := Lib.hid (hk.below HR0.out.below hk.lt)
  have HB := Lib.hid (hb.below HR0.out.below)
  have HE2 := Lib.hid (show errOf 2 = Value.iface 30 (.int .i64 2) from rfl)
  have HE0 := Lib.hid (show errOf 0 = Value.nilIface from rfl)
  clear hk hb
  unfold sealAns at h
  by_cases hkey : 0 ≤ key ∧ key ≤ 7
  · rw [if_pos hkey] at h
    obtain ⟨U, l, hu⟩ : ∃ U l, signAns seed key m = (U, l) := ⟨_, _, rfl⟩
    rw [hu] at h
    have HU0 := Lib.hid hu
    clear hu
    go_enter Tryd.func13, Tryd.ntmps13
    go_wp2_with fail
    generalize w.alloc (.cells #[.int .i64 0, .slice none 0 0, .slice none 0 0] 24) = w0 at HR0 HK HB
    refine (vKey_any key _).mono ?_
    rintro e w1 ⟨rfl, rfl⟩
    rw [decide_eq_true hkey]
    obtain ⟨bb, gr, rc, rfl, -, -, c0, -, -, -⟩ := HB.out
    go_wp2_with fail
    clear c0
    refine (qSign_at seed key m U l _ HK.out HU0.out).mono ?_
    rintro e w2 ⟨A, ca, rfl, hb2, hti, hal⟩
    have HR2 := Lib.hid (HR0.out.after hb2)
    have HB2 := Lib.hid (HB.out.below hb2)
    have HAL := Lib.hid (show ∀ a, A = some a → 0 < U.length → w.heap.size < a.block from fun a ha hn => Nat.lt_of_lt_of_le HR0.out.res.lt (hal a ha hn))
    have HTI := Lib.hid hti
    clear hb2 hti hal
    by_cases hl : l = 0
    · subst hl
      rw [if_pos rfl] at h
      simp only [Prod.mk.injEq] at h
      obtain ⟨rfl, rfl, hP, rfl⟩ := h
      obtain ⟨kk, rfl⟩ : ∃ kk : Nat, key = (kk : Int) := ⟨key.toNat, by omega⟩
      have hkk : kk ≤ 7 := by omega
      rw [Int.toNat_natCast] at hP
      have HPL := Lib.hid (show P.length = 3 by rw [← hP]; exact sealPath_length _ _ _)
      have HP := Lib.hid hP
      rw [HE0.out]
      clear hP hkey
      go_wp2_with fail
      refine (vPath_any ⟨bb, 0, none⟩ seed kk _ HB2.out hkk).mono ?_
      rintro e w3 ⟨g, rfl, hg, hb3, hpt⟩
      have HR3 := Lib.hid (HR2.out.after hb3)
      have HTI3 := Lib.hid (HTI.out.below hb3)
      have HG := Lib.hid (show w.heap.size < g from Nat.lt_of_lt_of_le HR2.out.res.lt hg)
      rw [HP.out] at hpt
      have HPT := Lib.hid hpt
      clear hb3 hpt hg
      have p0 : w3.cell? ⟨w.heap.size, 0, none⟩ = some (.int .i64 0) := HR3.out.res.cell 0 (by omega)
      have p1 : w3.cell? ⟨w.heap.size, 1, none⟩ = some (.slice none 0 0) := HR3.out.res.cell 1 (by omega)
      have p2 : w3.cell? ⟨w.heap.size, 2, none⟩ = some (.slice none 0 0) := HR3.out.res.cell 2 (by omega)
      have f0 : w3.frozen? ⟨w.heap.size, 0, none⟩ = false := HR3.out.res.free 0
      have f1 : w3.frozen? ⟨w.heap.size, 1, none⟩ = false := HR3.out.res.free 1
      have f2 : w3.frozen? ⟨w.heap.size, 2, none⟩ = false := HR3.out.res.free 2
      have HFIN := Lib.hid (HR3.out.fin (kk : Int) (.slice A U.length ca) (.slice (some ⟨g, 0, none⟩) 3 3))
      go_wp2
      refine bodyPost_ret (results_row2 rfl _ _ w.heap.size 24 (arr 3 (slF (kk : Int) (.slice A U.length ca) (.slice (some ⟨g, 0, none⟩) 3 3))) (0, 0) _ rfl HFIN.out.1 Tryd.underlying24 rfl (by rw [arr_size]; exact infoSeal)) rfl ?_
      rw [HPL.out]
      exact ⟨A, ca, some ⟨g, 0, none⟩, 3, rfl, HFIN.out.2, ((HTI3.out.keep _ _ HAL.out).keep _ _ HAL.out).keep _ _ HAL.out,
        ((HPT.out.keep _ _ (fun a ha _ => by cases ha; exact HG.out)).keep _ _ (fun a ha _ => by cases ha; exact HG.out)).keep _ _ (fun a ha _ => by cases ha; exact HG.out)⟩
    · rw [if_neg hl] at h
      simp only [Prod.mk.injEq] at h
      obtain ⟨rfl, rfl, rfl, rfl⟩ := h
      have HEL := Lib.hid (show errOf l = Value.iface 30 (.int .i64 l) by unfold errOf; rw [if_neg hl])
      rw [HEL.out]
      have p0 : w2.cell? ⟨w.heap.size, 0, none⟩ = some (.int .i64 0) := HR2.out.res.cell 0 (by omega)
      have p1 : w2.cell? ⟨w.heap.size, 1, none⟩ = some (.slice none 0 0) := HR2.out.res.cell 1 (by omega)
      have p2 : w2.cell? ⟨w.heap.size, 2, none⟩ = some (.slice none 0 0) := HR2.out.res.cell 2 (by omega)
      have f0 : w2.frozen? ⟨w.heap.size, 0, none⟩ = false := HR2.out.res.free 0
      have f1 : w2.frozen? ⟨w.heap.size, 1, none⟩ = false := HR2.out.res.free 1
      have f2 : w2.frozen? ⟨w.heap.size, 2, none⟩ = false := HR2.out.res.free 2
      have HFIN := Lib.hid (HR2.out.fin 0 (.slice none 0 0) (.slice none 0 0))
      clear hl hkey
      go_wp2
      refine bodyPost_ret (results_row2 rfl _ _ w.heap.size 24 (arr 3 (slF 0 (.slice none 0 0) (.slice none 0 0))) (0, 0) _ rfl HFIN.out.1 Tryd.underlying24 rfl (by rw [arr_size]; exact infoSeal)) rfl ?_
      exact ⟨none, 0, none, 0, by rw [HEL.out]; rfl, HFIN.out.2, Strs.nil _ _, Strs.nil _ _⟩
  · rw [if_neg hkey] at h
    simp only [Prod.mk.injEq] at h
    obtain ⟨rfl, rfl, rfl, rfl⟩ := h
    rw [HE2.out]
    go_enter Tryd.func13, Tryd.ntmps13
    go_wp2_with fail
    generalize w.alloc (.cells #[.int .i64 0, .slice none 0 0, .slice none 0 0] 24) = w0 at HR0 HK HB
    refine (vKey_any key _).mono ?_
    rintro e w1 ⟨rfl, rfl⟩
    rw [decide_eq_false hkey]
    have p0 : w1.cell? ⟨w.heap.size, 0, none⟩ = some (.int .i64 0) := HR0.out.res.cell 0 (by omega)
    have p1 : w1.cell? ⟨w.heap.size, 1, none⟩ = some (.slice none 0 0) := HR0.out.res.cell 1 (by omega)
    have p2 : w1.cell? ⟨w.heap.size, 2, none⟩ = some (.slice none 0 0) := HR0.out.res.cell 2 (by omega)
    have f0 : w1.frozen? ⟨w.heap.size, 0, none⟩ = false := HR0.out.res.free 0
    have f1 : w1.frozen? ⟨w.heap.size, 1, none⟩ = false := HR0.out.res.free 1
    have f2 : w1.frozen? ⟨w.heap.size, 2, none⟩ = false := HR0.out.res.free 2
    have HFIN := Lib.hid (HR0.out.fin 0 (.slice none 0 0) (.slice none 0 0))
    clear hkey
    go_wp2
    refine bodyPost_ret (results_row2 rfl _ _ w.heap.size 24 (arr 3 (slF 0 (.slice none 0 0) (.slice none 0 0))) (0, 0) _ rfl HFIN.out.1 Tryd.underlying24 rfl (by rw [arr_size]; exact infoSeal)) rfl ?_
    exact ⟨none, 0, none, 0, rfl, HFIN.out.2, Strs.nil _ _, Strs.nil _ _⟩
end Go.Proofs.YtedmgfompaoeoaaDoor
/- The program's seal: whether all texts are marks, by slices.ContainsFunc. -/
namespace Go.Proofs.YtedmgfompaoeoaaDoor
open Go.RowKit

theorem vNoMark_any (s : ByteArray) (w : World) : Calls Tryd.prog 52 #[.string s] w fun e w' => e = .returned (.bool (!decide (s.size = 16))) ∧ w' = w := by
  by_cases h : s.size = 16
  · rw [decide_eq_true h]
    have hi : ((s.size : Int) == 16) = true := by rw [beq_iff_eq]; omega
    have hj : ((s.size : Int) != 16) = false := by simp [bne, hi]
    go_enter Tryd.func52, Tryd.ntmps52
    go_wp2
    go_ret
    exact ⟨rfl, rfl⟩
  · rw [decide_eq_false h]
    have hi : ((s.size : Int) == 16) = false := by rw [beq_eq_false_iff_ne]; omega
    have hj : ((s.size : Int) != 16) = true := by simp [bne, hi]
    go_enter Tryd.func52, Tryd.ntmps52
    go_wp2
    go_ret
    exact ⟨rfl, rfl⟩
set_option maxRecDepth 100000 in
theorem vMarksIx_any (P : List ByteArray) (A : Option Addr) (cap : Nat) (w : World) (hl : P.length ≤ 1000000) (hm : Strs w A P) :
    Calls Tryd.prog 61 #[.slice A P.length cap, .func (.func 52) #[] #[]] w fun e w' => w' = w ∧ ∃ n : Int, e = .returned (.int .i64 n) ∧ ((0 ≤ n ∧ marksOk P = false) ∨ (n = -1 ∧ marksOk P = true)) := by
  have HM := Lib.hid hm
  clear hm
  go_enter Tryd.func61, Tryd.ntmps61
  go_wp2
  go_loopw [8] (fun t wr => ∃ j : Nat, j ≤ P.length ∧ t = .int .i64 (j : Int) ∧ wr = w ∧ marksUpto P j = true) (fun t _ => P.length - (intOf t).toNat)
  case atStart => exact ⟨0, by omega, rfl, rfl, rfl⟩
  case round =>
    obtain ⟨j, hj, rfl, rfl, hall⟩ := hrel
    have HALL := Lib.hid hall
    clear hall
    by_cases hlt : j < P.length
    · obtain ⟨p, hp⟩ : ∃ p, P[j]? = some p := ⟨_, List.getElem?_eq_getElem hlt⟩
      obtain ⟨a, rfl, hal, c0⟩ := HM.out j p hp
      have HP := Lib.hid hp
      clear hp
      go_wp2_with fail
      refine (vNoMark_any p _).mono ?_
      rintro e w1 ⟨rfl, rfl⟩
      by_cases he : p.size = 16
      · rw [decide_eq_true he]
        have HE := Lib.hid he
        clear he
        go_wp2
        go_roundw
        case rel =>
          refine ⟨j + 1, by omega, by go_num, ?_, ?_⟩
          · first | rfl | trivial
          · have := HALL.out
            unfold marksUpto marksOk at this ⊢
            rw [List.take_add_one, HP.out, List.all_append, this]
            simp [HE.out]
        case measure => simp [intOf]; omega
      · rw [decide_eq_false he]
        have HE := Lib.hid he
        clear he
        go_wp2
        go_ret
        exact ⟨rfl, j, rfl, .inl ⟨by omega, marksOk_false HP.out HE.out⟩⟩
    · go_wp2
      go_ret
      exact ⟨rfl, -1, rfl, .inr ⟨rfl, by have h := HALL.out; unfold marksUpto at h; rwa [List.take_of_length_le (by omega)] at h⟩⟩
theorem vMarks_any (P : List ByteArray) (A : Option Addr) (cap : Nat) (w : World) (hl : P.length ≤ 1000000) (hm : Strs w A P) :
    Calls Tryd.prog 51 #[.slice A P.length cap, .func (.func 52) #[] #[]] w fun e w' => e = .returned (.bool (!marksOk P)) ∧ w' = w := by
  go_enter Tryd.func51, Tryd.ntmps51
  go_wp2_with fail
  refine (vMarksIx_any P A cap _ hl hm).mono ?_
  rintro e w1 ⟨rfl, n, rfl, ⟨h0, hf⟩ | ⟨rfl, hf⟩⟩
  · have HF := Lib.hid hf
    clear hf
    go_wp2
    go_ret
    exact ⟨by rw [HF.out]; rfl, rfl⟩
  · have HF := Lib.hid hf
    clear hf
    go_wp2
    go_ret
    exact ⟨by rw [HF.out]; rfl, rfl⟩
theorem vAre_any (P : List ByteArray) (A : Option Addr) (cap : Nat) (w : World) (hl : P.length ≤ 1000000) (hm : Strs w A P) :
    Calls Tryd.prog 33 #[.slice A P.length cap] w fun e w' => e = .returned (.bool (marksOk P)) ∧ w' = w := by
  obtain ⟨M, hM⟩ : ∃ M, marksOk P = M := ⟨_, rfl⟩
  have HM := Lib.hid hM
  rw [hM]
  clear hM
  go_enter Tryd.func33, Tryd.ntmps33
  go_wp2_with fail
  refine (vMarks_any P A cap _ hl hm).mono ?_
  rintro e w1 ⟨rfl, rfl⟩
  rw [HM.out]
  go_wp2
  go_ret
  exact ⟨rfl, rfl⟩
end Go.Proofs.YtedmgfompaoeoaaDoor
