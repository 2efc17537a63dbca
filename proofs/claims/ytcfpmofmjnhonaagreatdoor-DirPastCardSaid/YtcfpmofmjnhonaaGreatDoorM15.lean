/- Parts of the proof, one behind the other: VNew2, VPath, PDir, RDirN, DirF. -/
import Derived.Test.YtcfpmofmjnhonaaGreatDoorM14
import Derived.Test.YtcfpmofmjnhonaaGreatDoorM10
import Derived.Test.YtcfpmofmjnhonaaGreatDoorM12
import Derived.Test.YtcfpmofmjnhonaaGreatDoorM9
import Derived.Test.YtcfpmofmjnhonaaGreatDoorM11
import Derived.Test.YtcfpmofmjnhonaaGreatDoorM8
import Derived.Test.YtcfpmofmjnhonaaGreatDoorM7
/- The program's New. -/
namespace Go.Proofs.YtcfpmofmjnhonaaGreatDoor
open Go.RowKit

theorem rowLen_two (t : Nat) (h : t < 3) : 1 < rowLen t ∧ rowLen t = 2 * rowLen (t + 1) ∧ 1 ≤ rowLen (t + 1) ∧ rowLen (t + 1) ≤ 4 := by
  rcases (by omega : t = 0 ∨ t = 1 ∨ t = 2) with rfl | rfl | rfl <;> decide
set_option maxHeartbeats 2000000 in
set_option maxRecDepth 100000 in
theorem vNew_in (seed : ByteArray) (w : World) (hk : HasK w) (h16 : seed.size = 16) :
    Calls Tryz.prog 54 #[.string seed] w fun e w' => ∃ p, e = .returned (.tuple #[.pointer (some p), .nilIface]) ∧ Below w.heap.size w w' ∧ SealIn (fun k => w.heap.size ≤ k) w' p seed := by
  have HK := Lib.hid hk
  have H16 := Lib.hid h16
  clear hk h16
  go_enter Tryz.func54, Tryz.ntmps54
  go_wp2_with fail
  refine (vFirst_t seed _ HK.out H16.out).mono ?_
  rintro e w1 ⟨g, rfl, hg, hgl, hb1, hst⟩
  obtain ⟨bb, hbb⟩ : ∃ bb, w1.heap.size = bb := ⟨_, rfl⟩
  have HREL := Lib.hid (show NewAt w bb seed 0 0 (.slice (some ⟨g, 0, none⟩) 8 8) (.slice none 0 0) (w1.alloc (.cells #[.string seed, .slice none 0 0, .string ⟨#[]⟩] 196)) by
    refine ⟨hb1.trans ((alloc_below w1 _).mono hb1.size), by rw [← hbb]; exact hb1.size, ?_, (by intro e; cases e), ⟨g, 8, rfl, by decide, by simp; omega, by omega, (by intro e; cases e), hst.below (alloc_below w1 _), hg⟩, [], Row.nil _ _ _, fun j u hj => by simp at hj⟩
    have := Holds.new w1 3 (vbF seed (.slice none 0 0) ⟨#[]⟩) 196
    rw [hbb] at this
    exact this)
  go_wp2
  generalize w1.alloc (.cells #[.string seed, .slice none 0 0, .string ⟨#[]⟩] 196) = w2 at HREL ⊢
  clear hst hb1 hg hgl hbb
  go_loopw [4] (fun rv wr => ∃ (t g c : Nat) (v : Value), t ≤ 3 ∧ rv = .slice (some ⟨g, 0, none⟩) (rowLen t) c ∧ Hid (NewAt w bb seed t t (.slice (some ⟨g, 0, none⟩) (rowLen t) c) v wr)) (fun rv _ => sliceLen rv)
  case atStart => exact ⟨0, g, 8, _, by omega, rfl, HREL⟩
  case round =>
    clear HREL
    obtain ⟨t, g1, c1, v, ht, rfl, HU⟩ := hrel
    by_cases hlt : t < 3
    · obtain ⟨r1, r2, r3, r4⟩ := rowLen_two t hlt
      have HLE := Lib.hid (lvl_length seed t ht)
      have HLN := Lib.hid (lvl_length seed (t + 1) (by omega))
      obtain ⟨xs, hx, hxs⟩ := HU.out.rows
      have HX := Lib.hid hx
      have HXS := Lib.hid hxs
      have HR2 := Lib.hid r2
      obtain ⟨n, hn⟩ : ∃ n, rowLen t = n := ⟨_, rfl⟩
      have HN := Lib.hid hn
      rw [hn] at HU r1 HLE HR2 ⊢
      clear hn hx hxs r2
      have q1 : wr.cell? ⟨bb, 1, none⟩ = some v := HU.out.own.cell 1 (by omega)
      have hi : (1 : Int) < (n : Int) := by omega
      have HO4 := Lib.hid (show ∀ w4 : World, wr.grownBy w4 v.ownBlock → w4.cell? ⟨bb, 1, none⟩ = some v ∧ w4.frozen? ⟨bb, 1, none⟩ = false from fun w4 hg4 => by
        have hb4 := hg4.block bb HU.out.own.lt (fun e => HU.out.apart e.symm)
        exact ⟨(World.cell?_of_block (a := ⟨bb, 1, none⟩) hb4).trans (HU.out.own.cell 1 (by omega)), (World.frozen?_of_block (a := ⟨bb, 1, none⟩) hb4).trans (HU.out.own.free 1)⟩)
      go_wp2_with (at_builtin; refine wpList_append_one2 rfl (.tmp 25) (.tmp 27) 194 rfl 50 Tryz.underlying194 _ 24 infoSl rfl (by decide) w.heap.size v t xs rfl HX.out HU.out.below.size (by omega) _ rfl rfl 50 ?_; intro v' w4 hrow4 hg4 hm4; obtain ⟨p6, cap6, rfl⟩ := hrow4.out.any; have t0 := (HO4.out w4 hg4.out).1; have t1 := (HO4.out w4 hg4.out).2)
      have HP := Lib.hid (HU.out.put rfl HX.out HXS.out hrow4.out hg4.out hm4.out)
      clear hrow4 hg4 hm4
      generalize w4.setCell ⟨bb, 1, none⟩ (.slice p6 (t + 1) cap6) = w5 at HP ⊢
      obtain ⟨g2, c2, e2, hc2, hg2, -, -, hs2, -⟩ := HP.out.cur
      injection e2 with e2a e2b e2c
      cases e2a
      subst e2c
      have HC := Lib.hid (vAbove_any (lvl seed t) g1 c1 (rowLen (t + 1)) w5 (HK.out.below HP.out.below HK.out.lt) (by rw [HLE.out, HR2.out]) r3 r4 (by rw [HLE.out, ← HN.out]; exact hc2) (lvl_size seed t) hg2 hs2)
      rw [HLE.out] at HC
      clear hs2 hc2 hg2 e2b t0 t1
      refine HC.out.mono ?_
      rintro e w6 ⟨g6, c6, rfl, hc6, hg6, hl6, hb6, hs6⟩
      have HP6 := Lib.hid (HP.out.up hb6 hc6 hg6 hl6 hs6)
      clear hc6 hg6 hl6 hb6 hs6
      go_wp2
      go_roundw
      case rel => exact ⟨t + 1, g6, c6, _, by omega, rfl, HP6⟩
      case measure => have := HR2.out; simp [sliceLen]; omega
    · obtain rfl : t = 3 := by omega
      have HNT := Lib.hid (show rowLen 3 = 1 from rfl)
      rw [HNT.out] at HU ⊢
      obtain ⟨g2, c2, e2, -, -, -, -, hs2, -⟩ := HU.out.cur
      cases e2
      obtain ⟨a, ha, -, r0⟩ := hs2 0 (boxPub seed) (by rw [getD_get (by rw [lvl3_length]; omega), lvl3_get])
      cases ha
      rw [add_none] at r0
      have q0 : wr.cell? ⟨bb, 2, none⟩ = some (.string ⟨#[]⟩) := HU.out.own.cell 2 (by omega)
      have q1 : wr.frozen? ⟨bb, 2, none⟩ = false := HU.out.own.free 2
      have HD := Lib.hid HU.out.done
      have HBF := Lib.hid (HU.out.below.setCell (p := ⟨bb, 2, none⟩) (show w.heap.size ≤ bb from HU.out.lb) (.string (boxPub seed)))
      clear hs2 ht hlt
      go_wp2
      refine bodyPost_ret (results_tmp2 rfl _ _ _) rfl ?_
      exact ⟨⟨bb, 0, none⟩, rfl, HBF.out, HD.out⟩
end Go.Proofs.YtcfpmofmjnhonaaGreatDoor
/- The program's boxes: Public, the path. -/
namespace Go.Proofs.YtcfpmofmjnhonaaGreatDoor
open Go.RowKit

set_option maxRecDepth 100000 in
theorem vPublic_any (p : Addr) (seed : ByteArray) (w : World) (h : SealIs w p seed) :
    Calls Tryz.prog 57 #[.pointer (some p)] w fun e w' => e = .returned (.string (boxPub seed)) ∧ Below w.heap.size w w' := by
  obtain ⟨bb, gr, rc, rfl, h2, h3, h4, h5, h6, h7⟩ := h
  have HB := Lib.hid (Below.refl w.heap.size w)
  clear h7 h5 h4
  go_enter Tryz.func57, Tryz.ntmps57
  go_wp2
  go_ret
  exact ⟨rfl, HB.out⟩
theorem make3 (w : World) : (Instr.makeSlice 50 (.int .i64 3) (.int .i64 3)).run Tryz.prog w = .ok (.slice (some ⟨w.heap.size, 0, none⟩) 3 3) (w.alloc (.cells (arr 3 fun _ => .string ⟨#[]⟩) 9)) := by kernel_rfl
set_option maxRecDepth 100000 in
theorem vPath_any (p : Addr) (seed : ByteArray) (key : Nat) (w : World) (h : SealIs w p seed) (hk7 : key ≤ 7) :
    Calls Tryz.prog 177 #[.pointer (some p), .int .i64 (key : Int)] w fun e w' => ∃ g, e = .returned (.slice (some ⟨g, 0, none⟩) 3 3) ∧ w.heap.size ≤ g ∧ Below w.heap.size w w' ∧ Strs w' (some ⟨g, 0, none⟩) (sealPath seed key 3) := by
  have H := Lib.hid h
  obtain ⟨bb, gr, rc, rfl, h2, h3, h4, h5, h6, h7⟩ := h
  have HB0 := Lib.hid (alloc_below w (.cells (arr 3 fun _ => .string ⟨#[]⟩) 9))
  have HH0 := Lib.hid (Holds.new w 3 (fun _ => .string ⟨#[]⟩) 9)
  have H2 := Lib.hid h2
  have H3 := Lib.hid h3
  have H7 := Lib.hid h7
  have q5 := (HB0.out.cell (p := ⟨bb, 1, none⟩) h2).trans h5
  clear h2 h3 h4 h5 h6 h7
  have hmk := make3
  go_enter Tryz.func177, Tryz.ntmps177
  go_wp2
  clear hmk q5
  go_loopw [14] (fun i wr => ∃ k : Nat, k ≤ 3 ∧ i = .int .i64 (k : Int) ∧ Hid (Below w.heap.size w wr ∧ Holds wr w.heap.size 3 (sfill (sealPath seed key 3) k) 9)) (fun i _ => 3 - (intOf i).toNat)
  case atStart => exact ⟨0, by omega, rfl, Lib.hid ⟨HB0.out, HH0.out.congr fun i hi => by unfold sfill; rw [if_neg (by omega)]⟩⟩
  case round =>
    obtain ⟨k, hk, rfl, HU⟩ := hrel
    by_cases hlt : k < 3
    · obtain ⟨g, c, r1, hst⟩ := H7.out k hlt
      have s1 := sib_lt key k hk7 hlt
      have s2 := sib_xor key k hk7 hlt
      have s3 := getD_get (P := lvl seed k) (i := sib (key / 2 ^ k)) (by rw [lvl_length seed k hk]; exact s1)
      obtain ⟨a, ha, hal, r2⟩ := hst _ _ s3
      cases ha
      have HXK := Lib.hid (show (sealPath seed key 3)[k]? = some ((lvl seed k).getD (sib (key / 2 ^ k)) ⟨#[]⟩) by rw [lvl_get seed k _ hlt s1]; exact map_range_at _ 3 k hlt)
      rw [add_none, Nat.zero_add] at r2
      have e1 := (HU.out.1.cell (p := ⟨gr, k, none⟩) H3.out).trans r1
      have e2 := (HU.out.1.cell (p := ⟨g, sib (key / 2 ^ k), none⟩) hal).trans r2
      clear s3 hst r1 r2 hal
      generalize (lvl seed k).getD (sib (key / 2 ^ k)) ⟨#[]⟩ = x at HXK e2
      generalize sib (key / 2 ^ k) = q at s1 s2 e2
      generalize rowLen k = n at s1 e1
      have s4 : (q : Int) < (n : Int) := by omega
      have s5 : (0 : Int) ≤ (q : Int) := by omega
      have c0 := HU.out.2.cell k hlt
      have f0 := HU.out.2.free k
      rw [show sfill (sealPath seed key 3) k k = .string ⟨#[]⟩ by unfold sfill; rw [if_neg (by omega)]] at c0
      go_wp2
      go_roundw
      case rel =>
        refine ⟨k + 1, by omega, by go_num, Lib.hid ⟨HU.out.1.setCell (by show w.heap.size ≤ w.heap.size; omega) _, ?_⟩⟩
        rw [← sfill_succ _ k _ HXK.out]
        exact HU.out.2.set k _
      case measure => simp [intOf]; omega
    · obtain rfl : k = 3 := by omega
      have HST := Lib.hid (strs_of_holds HU.out.2 (sealPath_length seed key 3))
      have HBF := Lib.hid HU.out.1
      clear hlt hk
      go_wp2
      go_ret
      exact ⟨w.heap.size, rfl, Nat.le_refl _, HBF.out, HST.out⟩
end Go.Proofs.YtcfpmofmjnhonaaGreatDoor
/- The program's directory in memory. -/
namespace Go.Proofs.YtcfpmofmjnhonaaGreatDoor
open Go.RowKit Go.Maps

def pdF (secret : ByteArray) (bb : Addr) (mh mw : Nat) (vi ve : Value) : Nat → Value := fun i => [Value.string secret, .pointer (some bb), .map (some mh), .map (some mw), vi, ve].getD i undef
/-- Blocks of its own that it never writes. -/
def Calm (F : Nat → Prop) (p mh mw : Nat) (ve : Value) (k : Nat) : Prop := F k ∧ k ≠ p ∧ k ≠ mh ∧ k ≠ mw ∧ ve.ownBlock ≠ some k
theorem Itms.same {F : Nat → Prop} {w w' : World} {A : Option Addr} {L : List It} (h : Itms w A L) (hf : ∀ a, A = some a → 0 < L.length → F a.block) (hs : Same F w w') : Itms w' A L := fun i p hp => by
  obtain ⟨a, ha, hl, hc, hd⟩ := h i p hp
  have hF := hf a ha (by have := (List.getElem?_eq_some_iff.1 hp).1; omega)
  exact ⟨a, ha, Nat.lt_of_lt_of_le hl hs.size, (hs.cell (by rw [block_add]; exact hF)).trans hc, (hs.cell (by rw [block_add, block_add]; exact hF)).trans hd⟩
/-- The items lie in blocks of G. -/
def ItsIn (G : Nat → Prop) (w : World) (vi : Value) (I : List It) : Prop := ∃ A c, vi = .slice A I.length c ∧ I.length ≤ c ∧ Itms w A I ∧ ∀ a, A = some a → 0 < I.length → G a.block
theorem ItsIn.same {G : Nat → Prop} {w w' : World} {vi : Value} {I : List It} (h : ItsIn G w vi I) (hs : Same G w w') : ItsIn G w' vi I := by
  obtain ⟨A, c, h1, h2, h3, h4⟩ := h
  exact ⟨A, c, h1, h2, h3.same h4 hs, h4⟩
theorem ItsIn.mono {G H : Nat → Prop} {w : World} {vi : Value} {I : List It} (h : ItsIn G w vi I) (hG : ∀ k, G k → H k) : ItsIn H w vi I := by
  obtain ⟨A, c, h1, h2, h3, h4⟩ := h
  exact ⟨A, c, h1, h2, h3, fun a e l => hG _ (h4 a e l)⟩
/-- The texts of a signed head lie in blocks of G. -/
structure SgLie (G : Nat → Prop) (w : World) (m : SgM) : Prop where
  sig : Strs w m.A m.s.sig
  path : Strs w m.B m.s.path
  fs : ∀ a, m.A = some a → 0 < m.s.sig.length → G a.block
  fp : ∀ a, m.B = some a → 0 < m.s.path.length → G a.block
theorem SgLie.same {G : Nat → Prop} {w w' : World} {m : SgM} (h : SgLie G w m) (hs : Same G w w') : SgLie G w' m := ⟨h.sig.same h.fs hs, h.path.same h.fp hs, h.fs, h.fp⟩
theorem SgLie.mono {F G : Nat → Prop} {w : World} {m : SgM} (h : SgLie F w m) (hG : ∀ k, F k → G k) : SgLie G w m := ⟨h.sig, h.path, fun a e l => hG _ (h.fs a e l), fun a e l => hG _ (h.fp a e l)⟩
/-- The directory at block p: its box, what names have (H), what waits (W), its items (I), its epochs (M), all of F. -/
structure DMem (F : Nat → Prop) (w : World) (p : Nat) (secret : ByteArray) (bb : Addr) (mh mw : Nat) (vi ve : Value) (H : List (ByteArray × (ByteArray × ByteArray))) (W : List (ByteArray × ByteArray)) (I : List It) (M : List SgM) : Prop where
  own : Holds w p 6 (pdF secret bb mh mw vi ve) 134
  box : SealIn (Calm F p mh mw ve) w bb (dirSeed secret)
  has : MapIs kH w mh H
  wait : MapIs kS w mw W
  its : ItsIn (Calm F p mh mw ve) w vi I
  row : Row w (p + 1) 6 ve M.length (sgCells M)
  sgs : ∀ m ∈ M, SgLie (Calm F p mh mw ve) w m
  fp : F p
  fh : F mh
  fw : F mw
  fv : ∀ k, ve.ownBlock = some k → F k
  hw : mh ≠ mw
  lh : mh < p
  lw : mw < p
  lt : ∀ k, F k → k < w.heap.size
theorem DMem.calm {F : Nat → Prop} {w w' : World} {p : Nat} {secret : ByteArray} {bb : Addr} {mh mw : Nat} {vi ve : Value} {H : List (ByteArray × (ByteArray × ByteArray))} {W : List (ByteArray × ByteArray)} {I : List It} {M : List SgM}
    (h : DMem F w p secret bb mh mw vi ve H W I M) (hs : Same (Calm F p mh mw ve) w w') : SealIn (Calm F p mh mw ve) w' bb (dirSeed secret) ∧ ItsIn (Calm F p mh mw ve) w' vi I ∧ ∀ m ∈ M, SgLie (Calm F p mh mw ve) w' m :=
  ⟨h.box.block hs.size hs.block, h.its.same hs, fun m hm => (h.sgs m hm).same hs⟩
theorem DMem.apart {F : Nat → Prop} {w : World} {p : Nat} {secret : ByteArray} {bb : Addr} {mh mw : Nat} {vi ve : Value} {H : List (ByteArray × (ByteArray × ByteArray))} {W : List (ByteArray × ByteArray)} {I : List It} {M : List SgM}
    (h : DMem F w p secret bb mh mw vi ve H W I M) : ve.ownBlock ≠ some p ∧ ve.ownBlock ≠ some mh ∧ ve.ownBlock ≠ some mw :=
  ⟨h.row.fresh (Nat.lt_succ_self p), h.row.fresh (by have := h.lh; omega), h.row.fresh (by have := h.lw; omega)⟩
theorem DMem.same {F : Nat → Prop} {w w' : World} {p : Nat} {secret : ByteArray} {bb : Addr} {mh mw : Nat} {vi ve : Value} {H : List (ByteArray × (ByteArray × ByteArray))} {W : List (ByteArray × ByteArray)} {I : List It} {M : List SgM}
    (h : DMem F w p secret bb mh mw vi ve H W I M) (hs : Same F w w') : DMem F w' p secret bb mh mw vi ve H W I M := by
  obtain ⟨c1, c2, c3⟩ := h.calm (hs.mono fun _ h => h.1)
  exact {
    own := by have := h.own; unfold Holds at this ⊢; rw [hs.block p h.fp]; exact this
    box := c1
    has := h.has.block (hs.block _ h.fh)
    wait := h.wait.block (hs.block _ h.fw)
    its := c2
    row := h.row.kept (fun k hk => hs.block k (h.fv k hk)) hs.size
    sgs := c3
    fp := h.fp, fh := h.fh, fw := h.fw, fv := h.fv, hw := h.hw, lh := h.lh, lw := h.lw
    lt := fun k hk => Nat.lt_of_lt_of_le (h.lt k hk) hs.size }
theorem DMem.wide {F G : Nat → Prop} {w : World} {p : Nat} {secret : ByteArray} {bb : Addr} {mh mw : Nat} {vi ve : Value} {H : List (ByteArray × (ByteArray × ByteArray))} {W : List (ByteArray × ByteArray)} {I : List It} {M : List SgM}
    (h : DMem F w p secret bb mh mw vi ve H W I M) (hG : ∀ k, F k → G k) (lt : ∀ k, G k → k < w.heap.size) : DMem G w p secret bb mh mw vi ve H W I M := by
  have hC : ∀ k, Calm F p mh mw ve k → Calm G p mh mw ve k := fun k hk => ⟨hG k hk.1, hk.2⟩
  exact {
    own := h.own
    box := h.box.mono fun k hk _ => hC k hk
    has := h.has
    wait := h.wait
    its := h.its.mono hC
    row := h.row
    sgs := fun m hm => (h.sgs m hm).mono hC
    fp := hG _ h.fp, fh := hG _ h.fh, fw := hG _ h.fw, fv := fun k hk => hG _ (h.fv k hk), hw := h.hw, lh := h.lh, lw := h.lw
    lt := lt }
/-- What waits was written. -/
theorem DMem.putW {F : Nat → Prop} {w w' : World} {p : Nat} {secret : ByteArray} {bb : Addr} {mh mw : Nat} {vi ve : Value} {H : List (ByteArray × (ByteArray × ByteArray))} {W W' : List (ByteArray × ByteArray)} {I : List It} {M : List SgM}
    (h : DMem F w p secret bb mh mw vi ve H W I M) (hg : w.grownBy w' (some mw)) (hm : MapIs kS w' mw W') : DMem F w' p secret bb mh mw vi ve H W' I M := by
  have hs : Same (fun k => F k ∧ k ≠ mw) w w' := ⟨hg.size, fun k hk => hg.block k (h.lt k hk.1) (fun e => hk.2 (by cases e; rfl))⟩
  obtain ⟨c1, c2, c3⟩ := h.calm (hs.mono fun k hk => ⟨hk.1, hk.2.2.2.1⟩)
  exact {
    own := by have := h.own; unfold Holds at this ⊢; rw [hs.block p ⟨h.fp, by have := h.lw; omega⟩]; exact this
    box := c1
    has := h.has.block (hs.block _ ⟨h.fh, h.hw⟩)
    wait := hm
    its := c2
    row := h.row.kept (fun k hk => hs.block k ⟨h.fv k hk, fun e => h.apart.2.2 (e ▸ hk)⟩) hs.size
    sgs := c3
    fp := h.fp, fh := h.fh, fw := h.fw, fv := h.fv, hw := h.hw, lh := h.lh, lw := h.lw
    lt := fun k hk => Nat.lt_of_lt_of_le (h.lt k hk) hs.size }
/-- What names have was written. -/
theorem DMem.putH {F : Nat → Prop} {w w' : World} {p : Nat} {secret : ByteArray} {bb : Addr} {mh mw : Nat} {vi ve : Value} {H H' : List (ByteArray × (ByteArray × ByteArray))} {W : List (ByteArray × ByteArray)} {I : List It} {M : List SgM}
    (h : DMem F w p secret bb mh mw vi ve H W I M) (hs : Same (fun k => F k ∧ k ≠ mh) w w') (hm : MapIs kH w' mh H') : DMem F w' p secret bb mh mw vi ve H' W I M := by
  obtain ⟨c1, c2, c3⟩ := h.calm (hs.mono fun k hk => ⟨hk.1, hk.2.2.1⟩)
  exact {
    own := by have := h.own; unfold Holds at this ⊢; rw [hs.block p ⟨h.fp, by have := h.lh; omega⟩]; exact this
    box := c1
    has := hm
    wait := h.wait.block (hs.block _ ⟨h.fw, h.hw.symm⟩)
    its := c2
    row := h.row.kept (fun k hk => hs.block k ⟨h.fv k hk, fun e => h.apart.2.1 (e ▸ hk)⟩) hs.size
    sgs := c3
    fp := h.fp, fh := h.fh, fw := h.fw, fv := h.fv, hw := h.hw, lh := h.lh, lw := h.lw
    lt := fun k hk => Nat.lt_of_lt_of_le (h.lt k hk) hs.size }
theorem setCell_size (w : World) (a : Addr) (v : Value) : (w.setCell a v).heap.size = w.heap.size := by simp [World.setCell]
/-- Other items were laid. -/
theorem DMem.setI {F : Nat → Prop} {w : World} {p : Nat} {secret : ByteArray} {bb : Addr} {mh mw : Nat} {vi ve : Value} {H : List (ByteArray × (ByteArray × ByteArray))} {W : List (ByteArray × ByteArray)} {I I' : List It} {M : List SgM}
    (h : DMem F w p secret bb mh mw vi ve H W I M) {vj : Value} (hj : ItsIn (Calm F p mh mw ve) w vj I') : DMem F (w.setCell ⟨p, 4, none⟩ vj) p secret bb mh mw vj ve H W I' M := by
  have hb : ∀ k, k ≠ p → (w.setCell ⟨p, 4, none⟩ vj).heap[k]? = w.heap[k]? := fun k hk => Below.heap_setCell _ _ _ _ hk
  have hz : w.heap.size ≤ (w.setCell ⟨p, 4, none⟩ vj).heap.size := by rw [setCell_size]; exact Nat.le_refl _
  have hs : Same (Calm F p mh mw ve) w (w.setCell ⟨p, 4, none⟩ vj) := ⟨hz, fun k hk => hb k hk.2.1⟩
  obtain ⟨c1, c2, c3⟩ := h.calm hs
  exact {
    own := by
      refine (h.own.set 4 vj).congr fun i hi => ?_
      unfold upd pdF
      rcases (show i = 0 ∨ i = 1 ∨ i = 2 ∨ i = 3 ∨ i = 4 ∨ i = 5 by omega) with rfl | rfl | rfl | rfl | rfl | rfl <;> rfl
    box := c1
    has := h.has.block (hb _ (by have := h.lh; omega))
    wait := h.wait.block (hb _ (by have := h.lw; omega))
    its := hj.same hs
    row := h.row.setOther h.apart.1 _
    sgs := c3
    fp := h.fp, fh := h.fh, fw := h.fw, fv := h.fv, hw := h.hw, lh := h.lh, lw := h.lw
    lt := fun k hk => Nat.lt_of_lt_of_le (h.lt k hk) hz }
/-- One more epoch was appended, and the new list stored. -/
theorem DMem.pushE {F : Nat → Prop} {u w7 : World} {X : Obj} {p : Nat} {secret : ByteArray} {bb : Addr} {mh mw : Nat} {vi ve v' : Value} {H : List (ByteArray × (ByteArray × ByteArray))} {W : List (ByteArray × ByteArray)} {I : List It} {M : List SgM}
    (h : DMem F u p secret bb mh mw vi ve H W I M) (m : SgM) (hm : SgLie (Calm F p mh mw ve) u m) (hrow : Row w7 (p + 1) 6 v' (M.length + 1) (sgCells M ++ m.cells)) (hg : (u.alloc X).grownBy w7 ve.ownBlock) (hv : Moved (u.alloc X) ve v') :
    DMem (fun k => (F k ∨ u.heap.size ≤ k) ∧ k < w7.heap.size) (w7.setCell ⟨p, 5, none⟩ v') p secret bb mh mw vi v' H W I (M ++ [m]) := by
  have hz : u.heap.size < w7.heap.size := by have := hg.size; simp at this; omega
  have hpu := h.own.lt
  have hvp' : v'.ownBlock ≠ some p := hrow.fresh (Nat.lt_succ_self p)
  obtain ⟨a1, a2, a3⟩ := h.apart
  have hblk : ∀ k, k < u.heap.size → ve.ownBlock ≠ some k → k ≠ p → (w7.setCell ⟨p, 5, none⟩ v').heap[k]? = u.heap[k]? := fun k hk hv hkp =>
    (Below.heap_setCell _ _ _ _ hkp).trans ((hg.block k (by simp; omega) (fun e => hv e.symm)).trans ((alloc_below u X).block k hk))
  have hsz : u.heap.size ≤ (w7.setCell ⟨p, 5, none⟩ v').heap.size := by rw [setCell_size]; omega
  have hS : Same (Calm F p mh mw ve) u (w7.setCell ⟨p, 5, none⟩ v') := ⟨hsz, fun k hk => hblk k (h.lt k hk.1) hk.2.2.2.2 hk.2.1⟩
  obtain ⟨c1, c2, c3⟩ := h.calm hS
  have hG : ∀ k, F k → (F k ∨ u.heap.size ≤ k) ∧ k < w7.heap.size := fun k hk => ⟨.inl hk, by have := h.lt k hk; omega⟩
  have hnew : ∀ k, v'.ownBlock = some k → ve.ownBlock = some k ∨ u.heap.size ≤ k := fun k hk => by
    rcases hv with e | e
    · exact .inl (e ▸ hk)
    · have := e k hk
      simp at this
      exact .inr (by omega)
  have hC : ∀ k, Calm F p mh mw ve k → Calm (fun k => (F k ∨ u.heap.size ≤ k) ∧ k < w7.heap.size) p mh mw v' k := fun k hk => ⟨hG k hk.1, hk.2.1, hk.2.2.1, hk.2.2.2.1, fun e => by
    rcases hnew k e with e | e
    · exact hk.2.2.2.2 e
    · have := h.lt k hk.1; omega⟩
  exact {
    own := by
      have h0 : Holds w7 p 6 (pdF secret bb mh mw vi ve) 134 := by
        have h1 := h.own
        unfold Holds at h1 ⊢
        rw [hg.block p (by simp; omega) (fun e => a1 e.symm), (alloc_below u X).block p hpu]
        exact h1
      refine (h0.set 5 v').congr fun i hi => ?_
      unfold upd pdF
      rcases (show i = 0 ∨ i = 1 ∨ i = 2 ∨ i = 3 ∨ i = 4 ∨ i = 5 by omega) with rfl | rfl | rfl | rfl | rfl | rfl <;> rfl
    box := c1.mono fun k hk _ => hC k hk
    has := h.has.block (hblk _ (h.lt _ h.fh) a2 (by have := h.lh; omega))
    wait := h.wait.block (hblk _ (h.lt _ h.fw) a3 (by have := h.lw; omega))
    its := c2.mono hC
    row := by
      rw [List.length_append, sgCells_snoc]
      exact hrow.setOther hvp' _
    sgs := fun x hx => by
      rcases List.mem_append.1 hx with hx | hx
      · exact (c3 x hx).mono hC
      · obtain rfl := List.mem_singleton.1 hx
        exact (hm.same hS).mono hC
    fp := hG _ h.fp, fh := hG _ h.fh, fw := hG _ h.fw
    fv := fun k hk => by
      refine ⟨?_, (hrow.lt k hk).2⟩
      rcases hnew k hk with e | e
      · exact .inl (h.fv k e)
      · exact .inr e
    hw := h.hw, lh := h.lh, lw := h.lw
    lt := fun k hk => by rw [setCell_size]; exact hk.2 }
/-- What names have says what the directory knows. -/
def Says (d : Dst) (H : List (ByteArray × (ByteArray × ByteArray))) : Prop := ∀ s, look H s = (look d.vals s).map fun v => (openOf d s, v)
/-- The program's directory at block p. -/
def PDir (F : Nat → Prop) (w : World) (p : Nat) (d : Dst) : Prop := ∃ bb mh mw vi ve H M, DMem F w p d.secret bb mh mw vi ve H d.wait (overIts d) M ∧ M.map (·.s) = d.eps ∧ Says d H
theorem PDir.same {F : Nat → Prop} {w w' : World} {p : Nat} {d : Dst} (h : PDir F w p d) (hs : Same F w w') : PDir F w' p d := by
  obtain ⟨bb, mh, mw, vi, ve, H, M, h, h2⟩ := h
  exact ⟨bb, mh, mw, vi, ve, H, M, h.same hs, h2⟩
theorem PDir.lt {F : Nat → Prop} {w : World} {p : Nat} {d : Dst} (h : PDir F w p d) : ∀ k, F k → k < w.heap.size := by
  obtain ⟨bb, mh, mw, vi, ve, H, M, h, h2⟩ := h
  exact h.lt
theorem PDir.below {F : Nat → Prop} {w w' : World} {p : Nat} {d : Dst} (h : PDir F w p d) (hb : Below w.heap.size w w') : PDir F w' p d := h.same (same_of_below hb h.lt)
theorem pDirPublic_any (F : Nat → Prop) (p : Nat) (d : Dst) (w : World) (h : PDir F w p d) :
    Calls Tryz.prog 15 #[.pointer (some ⟨p, 0, none⟩)] w fun e w' => e = .returned (.string (boxPub (dirSeed d.secret))) ∧ Below w.heap.size w w' := by
  obtain ⟨bb, mh, mw, vi, ve, H, M, h, -⟩ := h
  have c1 : w.cell? ⟨p, 1, none⟩ = some (.pointer (some bb)) := h.own.cell 1 (by omega)
  have HB := Lib.hid h.box.is
  clear h
  go_enter Tryz.func15, Tryz.ntmps15
  go_wp2_with fail
  refine (vPublic_any bb (dirSeed d.secret) _ HB.out).mono ?_
  rintro e w1 ⟨rfl, hb1⟩
  have HB1 := Lib.hid hb1
  clear hb1 c1
  go_wp2
  go_ret
  exact ⟨rfl, HB1.out⟩
theorem pDirNew_f (secret : ByteArray) (w : World) (h16 : ¬ secret.size = 16) :
    Calls Tryz.prog 13 #[.string secret] w fun e w' => e = .returned (.tuple #[.pointer none, errOf 1]) ∧ Below w.heap.size w w' := by
  have h1 : ((secret.size : Int) != 16) = true := by simp; omega
  clear h16
  go_enter Tryz.func13, Tryz.ntmps13
  go_wp2
  refine bodyPost_ret (results_tmp2 rfl _ _ _) rfl ?_
  exact ⟨rfl, Below.refl _ _⟩
set_option maxRecDepth 100000 in
theorem pDirNew_t (secret : ByteArray) (w : World) (hk : HasK w) (h16 : secret.size = 16) :
    Calls Tryz.prog 13 #[.string secret] w fun e w' => ∃ (p : Nat) (F : Nat → Prop), e = .returned (.tuple #[.pointer (some ⟨p, 0, none⟩), .nilIface]) ∧ Below w.heap.size w w' ∧ PDir F w' p (newDst secret) ∧ ∀ k, F k → w.heap.size ≤ k := by
  have HK := Lib.hid hk
  have H16 := Lib.hid h16
  have h1 : ((secret.size : Int) != 16) = false := by simp; omega
  clear hk h16
  go_enter Tryz.func13, Tryz.ntmps13
  go_wp2_with fail
  clear h1
  refine (mark_any 107 [secret] (some ⟨w.heap.size, 0, none⟩) 1 _ (HK.out.alloc _) (by have := H16.out; simp [total]; omega) (by simp) (strs_new w [secret] 9)).mono ?_
  rintro e w1 ⟨rfl, hb1⟩
  have HB1 := Lib.hid ((alloc_below w (.cells #[.string secret] 9)).trans (hb1.mono (by simp)))
  have HK1 := Lib.hid (HK.out.below HB1.out HK.out.lt)
  have HS := Lib.hid (show (markOf 107 [secret]).size = 16 from markOf_len _ _)
  clear hb1
  go_wp2_with fail
  refine (vNew_in (markOf 107 [secret]) _ HK1.out HS.out).mono ?_
  rintro e w2 ⟨bb, rfl, hb2, hbx⟩
  have HB2 := Lib.hid (HB1.out.trans (hb2.mono HB1.out.size))
  have HBX := Lib.hid (hbx.mono (G := fun k => w.heap.size ≤ k ∧ k < w2.heap.size) fun k hk hl => ⟨Nat.le_trans HB1.out.size hk, hl⟩)
  clear hb2 hbx
  have hmm := @run_makeMap Tryz.prog
  go_wp2
  clear hmm
  refine bodyPost_ret (results_tmp2 rfl _ _ _) rfl ?_
  have l3 := HB2.out.size
  obtain ⟨w3, h3⟩ : ∃ w3, w2.alloc (.map #[] 0) = w3 := ⟨_, rfl⟩
  obtain ⟨w4, h4⟩ : ∃ w4, w3.alloc (.map #[] 0) = w4 := ⟨_, rfl⟩
  rw [h3, h4]
  have z3 : w3.heap.size = w2.heap.size + 1 := by rw [← h3]; simp
  have z4 : w4.heap.size = w2.heap.size + 2 := by rw [← h4, World.size_alloc, z3]
  have b3 : Below w2.heap.size w2 w3 := by rw [← h3]; exact alloc_below _ _
  have b4 : Below w3.heap.size w3 w4 := by rw [← h4]; exact alloc_below _ _
  have m3 : MapIs kH w3 w2.heap.size [] := by rw [← h3]; exact MapIs.made kH w2
  have m4 : MapIs kS w4 (w2.heap.size + 1) [] := by rw [← h4, ← z3]; exact MapIs.made kS w3
  clear h3 h4
  have b6 := alloc_below w4 (.cells #[.string secret, .pointer (some bb), .map (some w2.heap.size), .map (some (w2.heap.size + 1)), .slice none 0 0, .slice none 0 0] 134)
  have hall : Below w2.heap.size w2 (w4.alloc (.cells #[.string secret, .pointer (some bb), .map (some w2.heap.size), .map (some (w2.heap.size + 1)), .slice none 0 0, .slice none 0 0] 134)) :=
    (b3.trans (b4.mono (by omega))).trans (b6.mono (by omega))
  refine ⟨w4.heap.size, fun k => w.heap.size ≤ k ∧ k < w4.heap.size + 1, (by rw [z4]; rfl), HB2.out.trans (hall.mono l3), ⟨bb, w2.heap.size, w2.heap.size + 1, .slice none 0 0, .slice none 0 0, [], [], ?_, rfl, fun s => rfl⟩, fun k hk => hk.1⟩
  exact {
    own := Holds.new w4 6 (pdF secret bb w2.heap.size (w2.heap.size + 1) (.slice none 0 0) (.slice none 0 0)) 134
    box := (HBX.out.block hall.size fun k hk => hall.block k hk.2).mono fun k hk _ => ⟨⟨hk.1, by omega⟩, by omega, by omega, by omega, fun e => by cases e⟩
    has := m3.block ((b6.block _ (by omega)).trans (b4.block _ (by omega)))
    wait := m4.block (b6.block _ (by omega))
    its := ⟨none, 0, rfl, Nat.le_refl 0, Itms.nil _ _, fun a e => by cases e⟩
    row := Row.nil _ _ _
    sgs := fun m hm => by cases hm
    fp := ⟨by omega, by omega⟩
    fh := ⟨by omega, by omega⟩
    fw := ⟨by omega, by omega⟩
    fv := fun k hk => by cases hk
    hw := by omega
    lh := by omega
    lw := by omega
    lt := fun k hk => by rw [World.size_alloc]; exact hk.2 }
end Go.Proofs.YtcfpmofmjnhonaaGreatDoor
/- The document's NewDir. -/
namespace Go.Proofs.YtcfpmofmjnhonaaGreatDoor
open Go.RowKit

theorem BoxRel.at' {bb : Nat} {w wr : World} {seed : ByteArray} {v : Value} (h : BoxRel bb w wr seed (rowsOf seed) v) : ∃ g, bb + 1 ≤ g ∧ BoxAt wr bb g seed := by
  have hl : (rowsOf seed).length = 15 := rowsUpto_length seed 7
  obtain ⟨g, rc, rfl, hgb, hg, _, hc, _⟩ := h.row.shape (by omega)
  refine ⟨g, hgb, h.own.lt, hg, h.own.cell 0 (by omega), rc, by have := h.own.cell 1 (by omega); rw [hl] at this; exact this, fun k hk => hc k _ ?_⟩
  unfold stCells
  rw [List.getElem?_map, List.getD_eq_getElem?_getD, List.getElem?_eq_getElem (by omega)]
  rfl
end Go.Proofs.YtcfpmofmjnhonaaGreatDoor
/- What the program's directory answers (a Face). -/
namespace Go.Proofs.YtcfpmofmjnhonaaGreatDoor
open Go.RowKit

/-- Signed heads in memory, their texts too. -/
def Sgs (w : World) (A : Option Addr) (M : List SgM) : Prop := ∀ (i : Nat) m, M[i]? = some m → ∃ a, A = some a ∧ a.block < w.heap.size ∧ w.cell? (a.add (i * 6)) = some (.int .i64 m.s.head.epoch) ∧ w.cell? ((a.add (i * 6)).add 1) = some (.string m.s.head.root) ∧ w.cell? ((a.add (i * 6)).add 2) = some (.string m.s.head.prev) ∧
  w.cell? ((a.add (i * 6)).add 3) = some (.int .i64 m.s.key) ∧ w.cell? ((a.add (i * 6)).add 4) = some (.slice m.A m.s.sig.length m.ca) ∧ w.cell? ((a.add (i * 6)).add 5) = some (.slice m.B m.s.path.length m.cb) ∧ Strs w m.A m.s.sig ∧ Strs w m.B m.s.path ∧ m.s.sig.length ≤ m.ca
theorem Sgs.below {w w' : World} {A : Option Addr} {M : List SgM} (h : Sgs w A M) (hb : Below w.heap.size w w') : Sgs w' A M := fun i m hm => by
  obtain ⟨a, ha, hl, c0, c1, c2, c3, c4, c5, hs, hp, hc⟩ := h i m hm
  exact ⟨a, ha, Nat.lt_of_lt_of_le hl hb.size, (hb.cell (by rw [block_add]; exact hl)).trans c0, (hb.cell (by rw [block_add, block_add]; exact hl)).trans c1, (hb.cell (by rw [block_add, block_add]; exact hl)).trans c2, (hb.cell (by rw [block_add, block_add]; exact hl)).trans c3, (hb.cell (by rw [block_add, block_add]; exact hl)).trans c4, (hb.cell (by rw [block_add, block_add]; exact hl)).trans c5, hs.below hb, hp.below hb, hc⟩

/-- It lies in what is its own, or is new. -/
def Near (F : Nat → Prop) (w : World) (A : Option Addr) (n : Nat) : Prop := ∀ b, A = some b → 0 < n → F b.block ∨ w.heap.size ≤ b.block
theorem Near.apart {F G : Nat → Prop} {w : World} {A : Option Addr} {n : Nat} (h : Near F w A n) (hd : ∀ k, F k → ¬ G k) (hl : ∀ k, G k → k < w.heap.size) : ∀ b, A = some b → 0 < n → ¬ G b.block := fun b e l g => by
  rcases h b e l with h1 | h1
  · exact hd _ h1 g
  · have := hl _ g; omega
/-- What the program's directories answer; F are the blocks that are one's own. -/
structure DirFace where
  pa : Pub
  Is : (Nat → Prop) → World → Nat → Dst → Prop
  lt : ∀ {F : Nat → Prop} {w : World} {p : Nat} {d : Dst}, Is F w p d → ∀ k, F k → k < w.heap.size
  same : ∀ {F : Nat → Prop} {w w' : World} {p : Nat} {d : Dst}, Is F w p d → Same F w w' → Is F w' p d
  new_t : ∀ (secret : ByteArray) (w : World), secret.size = 16 → HasK w → Calls Tryz.prog 13 #[.string secret] w fun e w' => ∃ (p : Nat) (F : Nat → Prop), e = .returned (.tuple #[.pointer (some ⟨p, 0, none⟩), .nilIface]) ∧ Below w.heap.size w w' ∧ Is F w' p (newDst secret) ∧ ∀ k, F k → w.heap.size ≤ k
  new_f : ∀ (secret : ByteArray) (w : World), ¬ secret.size = 16 → HasK w → secret.size ≤ 1000000 → Calls Tryz.prog 13 #[.string secret] w fun e w' => e = .returned (.tuple #[.pointer none, errOf 1]) ∧ Below w.heap.size w w'
  pub : ∀ (F : Nat → Prop) (p : Nat) (d : Dst) (w : World), Is F w p d → DOk d → HasK w → Calls Tryz.prog 15 #[.pointer (some ⟨p, 0, none⟩)] w fun e w' => e = .returned (.string (boxPub (dirSeed d.secret))) ∧ Below w.heap.size w w'
  put : ∀ (F : Nat → Prop) (p : Nat) (d d' : Dst) (name value : ByteArray) (n : Int) (w : World), Is F w p d → DOk d → HasK w → name.size ≤ 1000000 → value.size ≤ 1000000 → putAns d name value = (d', n) →
    Calls Tryz.prog 17 #[.pointer (some ⟨p, 0, none⟩), .string name, .string value] w fun e w' => e = .returned (errOf n) ∧ ∃ F' : Nat → Prop, Off F w w' ∧ Grew w F F' ∧ Is F' w' p d'
  publish : ∀ (F : Nat → Prop) (p : Nat) (d d' : Dst) (sg : Sgn) (n : Int) (w : World), Is F w p d → DOk d → HasK w → pa.f d = (d', sg, n) →
    Calls Tryz.prog 20 #[.pointer (some ⟨p, 0, none⟩)] w fun e w' => ∃ (m : SgM) (F' : Nat → Prop), m.s = sg ∧ e = .returned (.tuple #[.agg #[.int .i64 sg.head.epoch, .string sg.head.root, .string sg.head.prev, .int .i64 sg.key, .slice m.A sg.sig.length m.ca, .slice m.B sg.path.length m.cb], errOf n]) ∧ Off F w w' ∧ Grew w F F' ∧ Is F' w' p d' ∧ Strs w' m.A sg.sig ∧ Strs w' m.B sg.path ∧ Near F w m.A sg.sig.length ∧ Near F w m.B sg.path.length
  lookup : ∀ (F : Nat → Prop) (p : Nat) (d : Dst) (name : ByteArray) (a : Answ) (n : Int) (w : World), Is F w p d → DOk d → HasK w → name.size ≤ 1000000 → pa.tells d name = (a, n) →
    Calls Tryz.prog 23 #[.pointer (some ⟨p, 0, none⟩), .string name] w fun e w' => ∃ m : AnM, e = .returned (.tuple #[.agg m.cells, errOf n]) ∧ Below w.heap.size w w' ∧ AnIn w' m a ∧ Near F w m.sg.A a.sgn.sig.length ∧ Near F w m.sg.B a.sgn.path.length ∧ Near F w m.C a.path.length
  epochs : ∀ (F : Nat → Prop) (p : Nat) (d : Dst) (w : World), Is F w p d → DOk d → HasK w → Calls Tryz.prog 25 #[.pointer (some ⟨p, 0, none⟩)] w fun e w' => ∃ A cap M, e = .returned (.slice A M.length cap) ∧ M.map SgM.s = d.eps ∧ M.length ≤ cap ∧ Below w.heap.size w w' ∧ Sgs w' A M ∧ Near F w A M.length ∧ ∀ m ∈ M, Near F w m.A m.s.sig.length ∧ Near F w m.B m.s.path.length

/-- Both directories, each apart from the other. -/
structure Ds (DF : DirFace) (w1 wr : World) (pw pd rb : Nat) (Fw Fd : Nat → Prop) (d d2 : Dst) : Prop where
  below : Below w1.heap.size w1 wr
  rd : RDir Fw wr pw rb d
  pd : DF.Is Fd wr pd d2
  bw : ∀ k, Fw k → w1.heap.size ≤ k
  bd : ∀ k, Fd k → w1.heap.size ≤ k
  ap : ∀ k, Fd k → ¬ Fw k
theorem Ds.calm {DF : DirFace} {w1 wr w2 : World} {pw pd rb : Nat} {Fw Fd : Nat → Prop} {d d2 : Dst} (h : Ds DF w1 wr pw pd rb Fw Fd d d2) (hb : Below wr.heap.size wr w2) : Ds DF w1 w2 pw pd rb Fw Fd d d2 where
  below := h.below.trans (hb.mono h.below.size)
  rd := h.rd.below hb
  pd := DF.same h.pd (same_of_below hb (DF.lt h.pd))
  bw := h.bw
  bd := h.bd
  ap := h.ap
theorem Ds.prog {DF : DirFace} {w1 wr w2 : World} {pw pd rb : Nat} {Fw Fd Fd' : Nat → Prop} {d d2 d2' : Dst} (h : Ds DF w1 wr pw pd rb Fw Fd d d2) (ho : Off Fd wr w2) (hg : Grew wr Fd Fd') (hp : DF.Is Fd' w2 pd d2') : Ds DF w1 w2 pw pd rb Fw Fd' d d2' where
  below := h.below.trans (ho.below h.bd h.below.size)
  rd := h.rd.same (ho.same h.rd.lt fun k hw hd => h.ap k hd hw)
  pd := hp
  bw := h.bw
  bd := hg.base h.bd h.below.size
  ap := fun k hk hw => by
    rcases hg k hk with e | e
    · exact h.ap k e hw
    · have := h.rd.lt k hw; omega
/-- What lies apart from a directory's blocks stays. -/
theorem Holds.off {F : Nat → Prop} {w w' : World} {b n : Nat} {f : Nat → Value} {t : TypeId} (h : Holds w b n f t) (ho : Off F w w') (hn : ¬ F b) : Holds w' b n f t := by
  have hl := h.lt
  unfold Holds at h ⊢
  rw [ho.block b hl hn]; exact h
theorem off_cell {F : Nat → Prop} {w w' : World} (ho : Off F w w') {p : Addr} (hl : p.block < w.heap.size) (hn : ¬ F p.block) : w'.cell? p = w.cell? p := World.cell?_of_block (w := w) (ho.block p.block hl hn)
theorem Strs.aside {F : Nat → Prop} {w w' : World} {A : Option Addr} {L : List ByteArray} (h : Strs w A L) (ho : Off F w w') (hn : ∀ a, A = some a → 0 < L.length → ¬ F a.block) : Strs w' A L := fun i p hp => by
  obtain ⟨a, ha, hl, hc⟩ := h i p hp
  have h1 := hn a ha (by have := (List.getElem?_eq_some_iff.1 hp).1; omega)
  exact ⟨a, ha, Nat.lt_of_lt_of_le hl ho.size, (off_cell ho (by rw [block_add]; exact hl) (by rw [block_add]; exact h1)).trans hc⟩
theorem sg_cells {w : World} {b : Nat} {h : Hd} {key : Int} {u v : Value} {t : TypeId} (hh : Holds w b 6 (sgF h key u v) t) :
    w.cell? ⟨b, 0, none⟩ = some (.int .i64 h.epoch) ∧ w.cell? ⟨b, 1, none⟩ = some (.string h.root) ∧ w.cell? ⟨b, 2, none⟩ = some (.string h.prev) ∧ w.cell? ⟨b, 3, none⟩ = some (.int .i64 key) ∧ w.cell? ⟨b, 4, none⟩ = some u ∧ w.cell? ⟨b, 5, none⟩ = some v :=
  ⟨hh.cell 0 (by omega), hh.cell 1 (by omega), hh.cell 2 (by omega), hh.cell 3 (by omega), hh.cell 4 (by omega), hh.cell 5 (by omega)⟩
theorem AnIn.aside {F : Nat → Prop} {w w' : World} {m : AnM} {a : Answ} (h : AnIn w m a) (ho : Off F w w') (h1 : ∀ b, m.sg.A = some b → 0 < a.sgn.sig.length → ¬ F b.block) (h2 : ∀ b, m.sg.B = some b → 0 < a.sgn.path.length → ¬ F b.block) (h3 : ∀ b, m.C = some b → 0 < a.path.length → ¬ F b.block) : AnIn w' m a :=
  ⟨h.is, h.sgn, h.sig.aside ho h1, h.path.aside ho h2, h.way.aside ho h3, h.cap⟩
theorem AnIn.later {w w' : World} {m : AnM} {a : Answ} (h : AnIn w m a) (hb : Below w.heap.size w w') : AnIn w' m a := ⟨h.is, h.sgn, h.sig.below hb, h.path.below hb, h.way.below hb, h.cap⟩
end Go.Proofs.YtcfpmofmjnhonaaGreatDoor
