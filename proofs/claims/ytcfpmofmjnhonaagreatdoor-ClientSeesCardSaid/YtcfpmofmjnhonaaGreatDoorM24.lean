/- Parts of the proof, one behind the other: RDirL. -/
import Derived.Test.YtcfpmofmjnhonaaGreatDoorM20
import Derived.Test.YtcfpmofmjnhonaaGreatDoorM11
import Derived.Test.YtcfpmofmjnhonaaGreatDoorM23
import Derived.Deep.CutRange
/- The document's Lookup. -/
namespace Go.Proofs.YtcfpmofmjnhonaaGreatDoor
open Go.RowKit Go.Maps

/-- An answer in memory. -/
structure AnM where
  sg : SgM
  C : Option Addr
  cc : Nat
  a : Answ
def AnM.cells (m : AnM) : Array Value := #[.int .i64 m.sg.s.head.epoch, .string m.sg.s.head.root, .string m.sg.s.head.prev, .int .i64 m.sg.s.key, .slice m.sg.A m.sg.s.sig.length m.sg.ca, .slice m.sg.B m.sg.s.path.length m.sg.cb,
  .slice m.C m.a.path.length m.cc, .string m.a.leaf.1, .string m.a.leaf.2, .string m.a.opening, .string m.a.value]
def anF (m : SgM) (C : Option Addr) (n cc : Nat) (x : It) (o v : ByteArray) : Nat → Value := fun i =>
  [Value.int .i64 m.s.head.epoch, .string m.s.head.root, .string m.s.head.prev, .int .i64 m.s.key, .slice m.A m.s.sig.length m.ca, .slice m.B m.s.path.length m.cb, .slice C n cc, .string x.1, .string x.2, .string o, .string v].getD i undef
theorem infoAnsw : (Tryz.prog.info? 65).map (·.size) = some 11 := by kernel_rfl
theorem anF_open (m : SgM) (C : Option Addr) (n cc : Nat) (x : It) (o v o' v' : ByteArray) (i : Nat) (hi : i < 11) : upd (upd (anF m C n cc x o v) 9 (.string o')) 10 (.string v') i = anF m C n cc x o' v' i := by
  unfold upd
  rcases (show i = 0 ∨ i = 1 ∨ i = 2 ∨ i = 3 ∨ i = 4 ∨ i = 5 ∨ i = 6 ∨ i = 7 ∨ i = 8 ∨ i = 9 ∨ i = 10 by omega) with rfl | rfl | rfl | rfl | rfl | rfl | rfl | rfl | rfl | rfl | rfl <;> rfl
def noM : SgM := ⟨noSgn, none, 0, none, 0⟩
def noAnF : Nat → Value := anF noM none 0 0 noIt ⟨#[]⟩ ⟨#[]⟩
theorem an_cells {w : World} {b : Nat} {m : SgM} {C : Option Addr} {n cc : Nat} {x : It} {o v : ByteArray} {t : TypeId} (h : Holds w b 11 (anF m C n cc x o v) t) :
    w.cell? ⟨b, 0, none⟩ = some (.int .i64 m.s.head.epoch) ∧ w.cell? ⟨b, 1, none⟩ = some (.string m.s.head.root) ∧ w.cell? ⟨b, 2, none⟩ = some (.string m.s.head.prev) ∧ w.cell? ⟨b, 3, none⟩ = some (.int .i64 m.s.key) ∧ w.cell? ⟨b, 4, none⟩ = some (.slice m.A m.s.sig.length m.ca) ∧
    w.cell? ⟨b, 5, none⟩ = some (.slice m.B m.s.path.length m.cb) ∧ w.cell? ⟨b, 6, none⟩ = some (.slice C n cc) ∧ w.cell? ⟨b, 7, none⟩ = some (.string x.1) ∧ w.cell? ⟨b, 8, none⟩ = some (.string x.2) ∧ w.cell? ⟨b, 9, none⟩ = some (.string o) ∧ w.cell? ⟨b, 10, none⟩ = some (.string v) :=
  ⟨h.cell 0 (by omega), h.cell 1 (by omega), h.cell 2 (by omega), h.cell 3 (by omega), h.cell 4 (by omega), h.cell 5 (by omega), h.cell 6 (by omega), h.cell 7 (by omega), h.cell 8 (by omega), h.cell 9 (by omega), h.cell 10 (by omega)⟩
/-- All eleven cells written, one behind the other. -/
def put11 (w : World) (b : Nat) (m : SgM) (C : Option Addr) (n cc : Nat) (x : It) (o v : ByteArray) : World := (((((((((((w.setCell ⟨b, 0, none⟩ (.int .i64 m.s.head.epoch)).setCell ⟨b, 1, none⟩ (.string m.s.head.root)).setCell ⟨b, 2, none⟩ (.string m.s.head.prev)).setCell ⟨b, 3, none⟩ (.int .i64 m.s.key)).setCell ⟨b, 4, none⟩ (.slice m.A m.s.sig.length m.ca)).setCell ⟨b, 5, none⟩ (.slice m.B m.s.path.length m.cb)).setCell ⟨b, 6, none⟩ (.slice C n cc)).setCell ⟨b, 7, none⟩ (.string x.1)).setCell ⟨b, 8, none⟩ (.string x.2)).setCell ⟨b, 9, none⟩ (.string o)).setCell ⟨b, 10, none⟩ (.string v))
theorem put11_holds {w : World} {b : Nat} {f : Nat → Value} {t : TypeId} (h : Holds w b 11 f t) (m : SgM) (C : Option Addr) (n cc : Nat) (x : It) (o v : ByteArray) : Holds (put11 w b m C n cc x o v) b 11 (anF m C n cc x o v) t := by
  refine ((((((((((((h.set 0 _).set 1 _).set 2 _).set 3 _).set 4 _).set 5 _).set 6 _).set 7 _).set 8 _).set 9 _).set 10 _)).congr fun i hi => ?_
  unfold upd
  rcases (show i = 0 ∨ i = 1 ∨ i = 2 ∨ i = 3 ∨ i = 4 ∨ i = 5 ∨ i = 6 ∨ i = 7 ∨ i = 8 ∨ i = 9 ∨ i = 10 by omega) with rfl | rfl | rfl | rfl | rfl | rfl | rfl | rfl | rfl | rfl | rfl <;> rfl
theorem put11_below {B : Nat} {u w : World} (h : Below B u w) {b : Nat} (hb : B ≤ b) (m : SgM) (C : Option Addr) (n cc : Nat) (x : It) (o v : ByteArray) : Below B u (put11 w b m C n cc x o v) :=
  (((((((((((h.setCell (p := ⟨b, 0, none⟩) hb _).setCell (p := ⟨b, 1, none⟩) hb _).setCell (p := ⟨b, 2, none⟩) hb _).setCell (p := ⟨b, 3, none⟩) hb _).setCell (p := ⟨b, 4, none⟩) hb _).setCell (p := ⟨b, 5, none⟩) hb _).setCell (p := ⟨b, 6, none⟩) hb _).setCell (p := ⟨b, 7, none⟩) hb _).setCell (p := ⟨b, 8, none⟩) hb _).setCell (p := ⟨b, 9, none⟩) hb _).setCell (p := ⟨b, 10, none⟩) hb _)
theorem put11_strs {w : World} {A : Option Addr} {L : List ByteArray} (h : Strs w A L) {b : Nat} (hb : ∀ a, A = some a → 0 < L.length → b < a.block) (m : SgM) (C : Option Addr) (n cc : Nat) (x : It) (o v : ByteArray) : Strs (put11 w b m C n cc x o v) A L :=
  (((((((((((h.keep ⟨b, 0, none⟩ _ hb).keep ⟨b, 1, none⟩ _ hb).keep ⟨b, 2, none⟩ _ hb).keep ⟨b, 3, none⟩ _ hb).keep ⟨b, 4, none⟩ _ hb).keep ⟨b, 5, none⟩ _ hb).keep ⟨b, 6, none⟩ _ hb).keep ⟨b, 7, none⟩ _ hb).keep ⟨b, 8, none⟩ _ hb).keep ⟨b, 9, none⟩ _ hb).keep ⟨b, 10, none⟩ _ hb)
theorem Strs.keep' {w : World} {A : Option Addr} {L : List ByteArray} (h : Strs w A L) {ab : Nat} (hb : ∀ a, A = some a → 0 < L.length → a.block < ab) (i : Nat) (v : Value) : Strs (w.setCell ⟨ab, i, none⟩ v) A L := fun j p hp => by
  obtain ⟨a, ha, hl, hc⟩ := h j p hp
  have := hb a ha (by have := (List.getElem?_eq_some_iff.1 hp).1; omega)
  exact ⟨a, ha, by simpa [World.setCell] using hl, (World.cell?_of_block (w := w) (a := a.add j) (by rw [block_add]; exact Below.heap_setCell _ _ _ _ (show a.block ≠ ab by omega))).trans hc⟩
structure AnIn (w : World) (m : AnM) (a : Answ) : Prop where
  is : m.a = a
  sgn : m.sg.s = a.sgn
  sig : Strs w m.sg.A a.sgn.sig
  path : Strs w m.sg.B a.sgn.path
  way : Strs w m.C a.path
  cap : a.sgn.sig.length ≤ m.sg.ca
/-- Its signed head's texts lie in F, its way's are new. -/
structure AnAt (F : Nat → Prop) (w : World) (m : AnM) : Prop where
  sig : ∀ a, m.sg.A = some a → 0 < m.sg.s.sig.length → F a.block
  path : ∀ a, m.sg.B = some a → 0 < m.sg.s.path.length → F a.block
  way : ∀ a, m.C = some a → 0 < m.a.path.length → w.heap.size ≤ a.block
theorem proof_stored {w1 w3 : World} {pb base c : Nat} {A : Option Addr} {P : List ByteArray} {x : It} {f : Nat → Value} (hz : Holds w3 pb 3 f 63) (h1 : w1.heap.size ≤ pb) (hb : Below w1.heap.size w1 w3)
    (hrow : Row w3 base 1 (.slice A P.length c) P.length (stCells P)) (hs : Strs w3 A P) (hlt : pb < base) :
    Below w1.heap.size w1 (((w3.setCell ⟨pb, 0, none⟩ (.slice A P.length c)).setCell ⟨pb, 1, none⟩ (.string x.1)).setCell ⟨pb, 2, none⟩ (.string x.2)) ∧
    Holds (((w3.setCell ⟨pb, 0, none⟩ (.slice A P.length c)).setCell ⟨pb, 1, none⟩ (.string x.1)).setCell ⟨pb, 2, none⟩ (.string x.2)) pb 3 (pCells (.slice A P.length c) x) 63 ∧
    Strs (((w3.setCell ⟨pb, 0, none⟩ (.slice A P.length c)).setCell ⟨pb, 1, none⟩ (.string x.1)).setCell ⟨pb, 2, none⟩ (.string x.2)) A P := by
  have hx : ∀ a, A = some a → 0 < P.length → pb < a.block := fun a ha hp => Nat.lt_of_lt_of_le hlt (hrow.above a ha hp)
  refine ⟨((hb.setCell (p := ⟨pb, 0, none⟩) h1 _).setCell (p := ⟨pb, 1, none⟩) h1 _).setCell (p := ⟨pb, 2, none⟩) h1 _, ?_, ((hs.keep ⟨pb, 0, none⟩ _ hx).keep ⟨pb, 1, none⟩ _ hx).keep ⟨pb, 2, none⟩ _ hx⟩
  refine (((hz.set 0 _).set 1 _).set 2 _).congr fun i hi => ?_
  unfold upd pCells
  rcases (show i = 0 ∨ i = 1 ∨ i = 2 by omega) with rfl | rfl | rfl <;> rfl
set_option maxRecDepth 100000 in
set_option maxHeartbeats 4000000 in
theorem refLookup_is (F : Nat → Prop) (p rb : Nat) (d : Dst) (name : ByteArray) (a : Answ) (n : Int) (w : World) (hd : RDir F w p rb d) (hr : Holds w rb 72 refCells 121) (hs : d.secret.size ≤ 1000000) (hl : d.vals.length ≤ 100000) (he : d.eps.length ≤ 8) (hn : name.size ≤ 1000000)
    (h : lookupAns d name = (a, n)) :
    Calls Tryz.prog 22 #[.pointer (some ⟨p, 0, none⟩), .string name] w fun e w' => ∃ m : AnM, e = .returned (.tuple #[.agg m.cells, .int .i64 n]) ∧ AnIn w' m a ∧ AnAt F w m ∧ Below w.heap.size w w' := by
  have HDD := Lib.hid hd
  obtain ⟨bb, g, m1, m2, m3, v, M, hd⟩ := hd
  have HD := Lib.hid hd
  have HR := Lib.hid hr
  have HS := Lib.hid hs
  have HL := Lib.hid hl
  have HN := Lib.hid hn
  obtain ⟨w0, hw0⟩ : ∃ w0, w.alloc (.cells #[.int .i64 0, .string ⟨#[]⟩, .string ⟨#[]⟩, .int .i64 0, .slice none 0 0, .slice none 0 0, .slice none 0 0, .string ⟨#[]⟩, .string ⟨#[]⟩, .string ⟨#[]⟩, .string ⟨#[]⟩] 65) = w0 := ⟨_, rfl⟩
  have hb0 : Below w.heap.size w w0 := by rw [← hw0]; exact alloc_below _ _
  have HB0 := Lib.hid hb0
  have HZ := Lib.hid (show Holds w0 w.heap.size 11 noAnF 65 by rw [← hw0]; exact Holds.new w 11 noAnF 65)
  have c0 : w0.cell? ⟨p, 0, none⟩ = some (.pointer (some ⟨rb, 0, none⟩)) := (hb0.cell (p := ⟨p, 0, none⟩) hd.own.lt).trans (hd.own.cell 0 (by omega))
  have c6 : w0.cell? ⟨p, 6, none⟩ = some v := (hb0.cell (p := ⟨p, 6, none⟩) hd.own.lt).trans (hd.own.cell 6 (by omega))
  clear hd hr hs hl hn hb0
  unfold lookupAns at h
  by_cases hok : nameOk name.data.toList = true
  · rw [if_pos hok] at h
    have HOF := Lib.hid (show ofAns name = (markOf 105 [name], 0) by unfold ofAns; rw [if_pos hok])
    by_cases h0 : d.eps.length = 0
    · rw [if_pos h0] at h
      obtain ⟨rfl, rfl⟩ := Prod.mk.inj h
      have hME : M.length = 0 := by rw [← h0, ← HD.out.eps, List.length_map]
      obtain ⟨pv, cv, rfl⟩ := HD.out.row.any
      clear h
      go_enter Tryz.func22, Tryz.ntmps22
      go_wp2_with fail
      refine (refOf_is rb name _ _ _ (HR.out.below HB0.out HR.out.lt) HN.out HOF.out).mono ?_
      rintro e w1 ⟨rfl, hb1⟩
      have HB1 := Lib.hid (HB0.out.trans (hb1.mono HB0.out.size))
      have d6 : w1.cell? ⟨p, 6, none⟩ = some (.slice pv M.length cv) := (hb1.cell (p := ⟨p, 6, none⟩) (block_lt_of_cell c6)).trans c6
      have HZ1 := Lib.hid (HZ.out.below hb1 HZ.out.lt)
      clear hb1 c0 c6
      obtain ⟨p0, p1, p2, p3, p4, p5, p6, p7, p8, p9, p10⟩ := an_cells (m := noM) HZ1.out
      have q0 : w1.frozen? ⟨w.heap.size, 0, none⟩ = false := HZ1.out.free 0
      have q1 : w1.frozen? ⟨w.heap.size, 1, none⟩ = false := HZ1.out.free 1
      have q2 : w1.frozen? ⟨w.heap.size, 2, none⟩ = false := HZ1.out.free 2
      have q3 : w1.frozen? ⟨w.heap.size, 3, none⟩ = false := HZ1.out.free 3
      have q4 : w1.frozen? ⟨w.heap.size, 4, none⟩ = false := HZ1.out.free 4
      have q5 : w1.frozen? ⟨w.heap.size, 5, none⟩ = false := HZ1.out.free 5
      have q6 : w1.frozen? ⟨w.heap.size, 6, none⟩ = false := HZ1.out.free 6
      have q7 : w1.frozen? ⟨w.heap.size, 7, none⟩ = false := HZ1.out.free 7
      have q8 : w1.frozen? ⟨w.heap.size, 8, none⟩ = false := HZ1.out.free 8
      have q9 : w1.frozen? ⟨w.heap.size, 9, none⟩ = false := HZ1.out.free 9
      have q10 : w1.frozen? ⟨w.heap.size, 10, none⟩ = false := HZ1.out.free 10
      go_wp2
      have HFIN := Lib.hid (put11_holds HZ1.out noM none 0 0 noIt ⟨#[]⟩ ⟨#[]⟩)
      have HFB := Lib.hid (put11_below HB1.out (Nat.le_refl _) noM none 0 0 noIt ⟨#[]⟩ ⟨#[]⟩)
      refine bodyPost_ret (results_row2 rfl _ _ w.heap.size 65 (arr 11 noAnF) (0, 0) _ rfl HFIN.out Tryz.underlying65 rfl (by rw [arr_size]; exact infoAnsw)) rfl ?_
      exact ⟨⟨noM, none, 0, noAnsw⟩, rfl, ⟨rfl, rfl, Strs.nil _ _, Strs.nil _ _, Strs.nil _ _, Nat.le_refl 0⟩, ⟨(fun a e => by cases e), (fun a e => by cases e), (fun a e => by cases e)⟩, HFB.out⟩
    · rw [if_neg h0] at h
      obtain ⟨rfl, rfl⟩ := Prod.mk.inj h
      rw [HOF.out]
      have hME : M.length = d.eps.length := by rw [← HD.out.eps, List.length_map]
      obtain ⟨pv, cv, rfl, hpv, _, _, hpc, _⟩ := HD.out.row.shape (by omega)
      have hm0 : ((d.eps.length : Int) == 0) = false := by rw [beq_eq_false_iff_ne]; omega
      clear h
      go_enter Tryz.func22, Tryz.ntmps22
      go_wp2_with fail
      refine (refOf_is rb name _ _ _ (HR.out.below HB0.out HR.out.lt) HN.out HOF.out).mono ?_
      rintro e w1 ⟨rfl, hb1⟩
      have HB1 := Lib.hid (HB0.out.trans (hb1.mono HB0.out.size))
      have d0 : w1.cell? ⟨p, 0, none⟩ = some (.pointer (some ⟨rb, 0, none⟩)) := (hb1.cell (p := ⟨p, 0, none⟩) (block_lt_of_cell c0)).trans c0
      have d6 : w1.cell? ⟨p, 6, none⟩ = some (.slice (some ⟨pv, 0, none⟩) M.length cv) := (hb1.cell (p := ⟨p, 6, none⟩) (block_lt_of_cell c6)).trans c6
      have HZ1 := Lib.hid (HZ.out.below hb1 HZ.out.lt)
      clear hb1 c0 c6
      obtain ⟨P, x, np, hpa⟩ : ∃ P x np, proveAns (itemsOf d) (markOf 105 [name]) = (P, x, np) := ⟨_, _, _, rfl⟩
      have HPA := Lib.hid hpa
      have HIT := Lib.hid (show ∀ u : World, Below w1.heap.size w1 u → Calls Tryz.prog 63 #[.pointer (some ⟨p, 0, none⟩)] u fun e w' => ∃ A cap, ∃ L : List It, e = .returned (.slice A L.length cap) ∧ Itms w' A L ∧ proveAns L (markOf 105 [name]) = (P, x, np) ∧ L.length ≤ 1000000 ∧ Below w1.heap.size w1 w' ∧ p < w'.heap.size ∧ w'.cell? ⟨p, 0, none⟩ = some (.pointer (some ⟨rb, 0, none⟩)) ∧ Below u.heap.size u w' from fun u hb =>
        (refItems_is F p rb d _ (HDD.out.below (HB1.out.trans (hb.mono HB1.out.size))) (HR.out.below (HB1.out.trans (hb.mono HB1.out.size)) HR.out.lt) HS.out HL.out).mono fun e w' ⟨A, cap, L, he, hm, hp, hs, hb'⟩ =>
          ⟨A, cap, L, he, hm, (sorted_prove (hp.trans (sortIts_perm _).symm) hs (sortIts_sorted _) _).trans HPA.out, by rw [hp.length_eq]; unfold itemsRaw; rw [List.length_map]; have := HL.out; omega, hb.trans (hb'.mono hb.size), Nat.lt_of_lt_of_le (block_lt_of_cell d0) (Nat.le_trans hb.size hb'.size), ((hb.trans (hb'.mono hb.size)).cell (p := ⟨p, 0, none⟩) (block_lt_of_cell d0)).trans d0, hb'⟩)
      clear hpa
      have HRB := Lib.hid (show ∀ u : World, Below w1.heap.size w1 u → Holds u rb 72 refCells 121 from fun u hb => HR.out.below (HB1.out.trans (hb.mono HB1.out.size)) HR.out.lt)
      have hpl : p < w1.heap.size := block_lt_of_cell d0
      go_wp2
      go_cut [8, 9] from 33 to 43 (fun q e wx => ∃ (pb : Nat) (A : Option Addr) (cap : Nat), q = .pointer (some ⟨pb, 0, none⟩) ∧ e = .int .i64 np ∧ w1.heap.size ≤ pb ∧ Below w1.heap.size w1 wx ∧ Holds wx pb 3 (pCells (.slice A P.length cap) x) 63 ∧ Strs wx A P ∧ ∀ a, A = some a → 0 < P.length → w1.heap.size ≤ a.block)
      case first =>
        go_region_with ((first
          | (go_at_call 63; refine (HIT.out _ (by first | exact (Below.refl _ _).drew | exact ((Below.refl _ _).drew).alloc (Nat.le_refl _) _)).mono ?_; rintro e w2 ⟨A2, cap2, L2, rfl, hm2, hp2, hl2, hw2, hpl2, hc2, hb2⟩; (try (have hz2 : Holds w2 w1.heap.size 3 (pCells (.slice none 0 0) (⟨#[]⟩, ⟨#[]⟩)) 63 := (fun hn : Holds (w1.drew.alloc (.cells #[.slice none 0 0, .string ⟨#[]⟩, .string ⟨#[]⟩] 63)) w1.heap.size 3 (pCells (.slice none 0 0) (⟨#[]⟩, ⟨#[]⟩)) 63 => hn.below hb2 hn.lt) (Holds.new w1.drew 3 (pCells (.slice none 0 0) (⟨#[]⟩, ⟨#[]⟩)) 63))))
          | (go_at_call 74; refine (refProve_is rb L2 A2 cap2 (markOf 105 [name]) P x np _ hl2 ((by first | exact HRB.out _ hw2 | exact HRB.out _ (hw2.alloc (Below.size hw2) _))) (by first | exact hm2 | exact hm2.below (alloc_below _ _)) hp2).mono ?_; rintro e w3 ⟨v3, rfl, hb3, hrow3⟩; obtain ⟨_, A3, c3, rfl, hs3⟩ := hrow3.strs; have hn3 : Holds (w3.alloc (.cells #[.slice none 0 0, .string ⟨#[]⟩, .string ⟨#[]⟩] 63)) w3.heap.size 3 (pCells (.slice none 0 0) (⟨#[]⟩, ⟨#[]⟩)) 63 := Holds.new w3 3 (pCells (.slice none 0 0) (⟨#[]⟩, ⟨#[]⟩)) 63; have gt0 := hn3.cell 0 (by omega); have gt1 := hn3.cell 1 (by omega); have gt2 := hn3.cell 2 (by omega); have gf0 := hn3.free 0; have gf1 := hn3.free 1; have gf2 := hn3.free 2; (try (have hz3 : Holds w3 w2.heap.size 3 (pCells (.slice none 0 0) (⟨#[]⟩, ⟨#[]⟩)) 63 := (fun hn : Holds (w2.alloc (.cells #[.slice none 0 0, .string ⟨#[]⟩, .string ⟨#[]⟩] 63)) w2.heap.size 3 (pCells (.slice none 0 0) (⟨#[]⟩, ⟨#[]⟩)) 63 => hn.below hb3 hn.lt) (Holds.new w2 3 (pCells (.slice none 0 0) (⟨#[]⟩, ⟨#[]⟩)) 63); have ft0 := hz3.cell 0 (by omega); have ft1 := hz3.cell 1 (by omega); have ft2 := hz3.cell 2 (by omega); have ff0 := hz3.free 0; have ff1 := hz3.free 1; have ff2 := hz3.free 2)); (try (have hz3 := hz2.below hb3 hz2.lt; have ft0 := hz3.cell 0 (by omega); have ft1 := hz3.cell 1 (by omega); have ft2 := hz3.cell 2 (by omega); have ff0 := hz3.free 0; have ff1 := hz3.free 1; have ff2 := hz3.free 2)))))
        all_goals
          go_wp2
          go_meet
          first
            | (have hB := hw2.trans (hb3.mono (Below.size hw2))
               exact ⟨w3.heap.size, A3, c3, rfl, rfl, Below.size hB, hB.alloc (Below.size hB) _, Holds.new w3 3 (pCells (.slice A3 P.length c3) x) 63, hs3.below (alloc_below _ _), fun a ha hp => Nat.le_trans (Below.size hw2) (hrow3.above a ha hp)⟩)
            | (have hB := hw2.trans (hb3.mono (Below.size hw2))
               have hS := proof_stored (x := x) hz3 (Nat.le_refl _) hB hrow3 hs3 hz2.lt
               exact ⟨w1.heap.size, A3, c3, rfl, rfl, Nat.le_refl _, hS.1, hS.2.1, hS.2.2, fun a ha hp => Nat.le_trans (Below.size hw2) (hrow3.above a ha hp)⟩)
            | (have hA := hw2.alloc (Below.size hw2) (.cells #[.slice none 0 0, .string ⟨#[]⟩, .string ⟨#[]⟩] 63)
               have hB := hA.trans (hb3.mono (Below.size hA))
               have hS := proof_stored (x := x) hz3 (Below.size hw2) hB hrow3 hs3 (Nat.lt_of_lt_of_eq (Nat.lt_succ_self _) (World.size_alloc _ _).symm)
               exact ⟨w2.heap.size, A3, c3, rfl, rfl, Below.size hw2, hS.1, hS.2.1, hS.2.2, fun a ha hp => Nat.le_trans (Below.size hA) (hrow3.above a ha hp)⟩)
      case rest =>
        obtain ⟨pb, A, cap, rfl, rfl, hpb, hbx, hh, hsx, hsa⟩ := hcut
        have HSA := Lib.hid (show ∀ a, A = some a → 0 < P.length → w.heap.size < a.block from fun a ha hp => Nat.lt_of_lt_of_le HZ1.out.lt (hsa a ha hp))
        clear hsa
        have HBX := Lib.hid (HB1.out.trans (hbx.mono HB1.out.size))
        have HBXW := Lib.hid hbx
        have HH := Lib.hid hh
        have HSX := Lib.hid hsx
        obtain ⟨k, hk⟩ : ∃ k, d.eps.length = k + 1 := ⟨d.eps.length - 1, by omega⟩
        obtain ⟨m, hmk⟩ : ∃ m, M[k]? = some m := ⟨_, List.getElem?_eq_getElem (by omega)⟩
        have HMK := Lib.hid hmk
        have HSG := Lib.hid (show m.s = lastSgn d by
          unfold lastSgn
          rw [← HD.out.eps, List.length_map, List.getD_eq_getElem?_getD, List.getElem?_map, show M.length - 1 = k by omega, hmk]; rfl)
        have hcell : ∀ j v, j < 6 → m.cells[j]? = some v → wc.cell? ⟨pv, k * 6 + j, none⟩ = some v := fun j v hj hv =>
          (HBX.out.cell (p := ⟨pv, k * 6 + j, none⟩) (HD.out.lt _ (HD.out.fv pv rfl))).trans (hpc _ _ ((sgCells_get M k m j hmk hj).trans hv))
        have f0 : wc.cell? ⟨pv, k * 6, none⟩ = some (.int .i64 m.s.head.epoch) := hcell 0 _ (by omega) rfl
        have f1 : wc.cell? ⟨pv, k * 6 + 1, none⟩ = some (.string m.s.head.root) := hcell 1 _ (by omega) rfl
        have f2 : wc.cell? ⟨pv, k * 6 + 2, none⟩ = some (.string m.s.head.prev) := hcell 2 _ (by omega) rfl
        have f3 : wc.cell? ⟨pv, k * 6 + 3, none⟩ = some (.int .i64 m.s.key) := hcell 3 _ (by omega) rfl
        have f4 : wc.cell? ⟨pv, k * 6 + 4, none⟩ = some (.slice m.A m.s.sig.length m.ca) := hcell 4 _ (by omega) rfl
        have f5 : wc.cell? ⟨pv, k * 6 + 5, none⟩ = some (.slice m.B m.s.path.length m.cb) := hcell 5 _ (by omega) rfl
        have e6 : wc.cell? ⟨p, 6, none⟩ = some (.slice (some ⟨pv, 0, none⟩) M.length cv) := (hbx.cell (p := ⟨p, 6, none⟩) hpl).trans d6
        have g0 : wc.cell? ⟨pb, 0, none⟩ = some (.slice A P.length cap) := hh.cell 0 (by omega)
        have g1 : wc.cell? ⟨pb, 1, none⟩ = some (.string x.1) := hh.cell 1 (by omega)
        have g2 : wc.cell? ⟨pb, 2, none⟩ = some (.string x.2) := hh.cell 2 (by omega)
        have hwrap : IntKind.i64.wrap ((d.eps.length : Int) - 1) = (k : Int) := by rw [IntWalk.i64_in _ (by omega)]; omega
        have hkl : (k : Int) < (d.eps.length : Int) := by omega
        have hk0 : (0 : Int) ≤ (k : Int) := by omega
        have HKE := Lib.hid hk
        clear hk
        clear hcell hbx hh hsx d0 d6 hpc HIT HRB hmk
        go_upto_region 7 with (fail)
        have HKEEP := Lib.hid (show ∀ w' : World, Below wc.heap.size wc w' → (w'.cell? ⟨p, 6, none⟩ = some (.slice (some ⟨pv, 0, none⟩) M.length cv) ∧ w'.cell? ⟨pv, k * 6, none⟩ = some (.int .i64 m.s.head.epoch) ∧ w'.cell? ⟨pv, k * 6 + 1, none⟩ = some (.string m.s.head.root) ∧ w'.cell? ⟨pv, k * 6 + 2, none⟩ = some (.string m.s.head.prev) ∧
            w'.cell? ⟨pv, k * 6 + 3, none⟩ = some (.int .i64 m.s.key) ∧ w'.cell? ⟨pv, k * 6 + 4, none⟩ = some (.slice m.A m.s.sig.length m.ca) ∧ w'.cell? ⟨pv, k * 6 + 5, none⟩ = some (.slice m.B m.s.path.length m.cb) ∧ w'.cell? ⟨pb, 0, none⟩ = some (.slice A P.length cap) ∧ w'.cell? ⟨pb, 1, none⟩ = some (.string x.1) ∧ w'.cell? ⟨pb, 2, none⟩ = some (.string x.2)) from fun w' hb => ⟨(hb.cell (p := ⟨p, 6, none⟩) (block_lt_of_cell e6)).trans e6, (hb.cell (p := ⟨pv, k * 6, none⟩) (block_lt_of_cell f0)).trans f0, (hb.cell (p := ⟨pv, k * 6 + 1, none⟩) (block_lt_of_cell f1)).trans f1, (hb.cell (p := ⟨pv, k * 6 + 2, none⟩) (block_lt_of_cell f2)).trans f2, (hb.cell (p := ⟨pv, k * 6 + 3, none⟩) (block_lt_of_cell f3)).trans f3, (hb.cell (p := ⟨pv, k * 6 + 4, none⟩) (block_lt_of_cell f4)).trans f4, (hb.cell (p := ⟨pv, k * 6 + 5, none⟩) (block_lt_of_cell f5)).trans f5, (hb.cell (p := ⟨pb, 0, none⟩) (block_lt_of_cell g0)).trans g0, (hb.cell (p := ⟨pb, 1, none⟩) (block_lt_of_cell g1)).trans g1, (hb.cell (p := ⟨pb, 2, none⟩) (block_lt_of_cell g2)).trans g2⟩)
        go_region_held3 (fun w' => w'.cell? ⟨p, 6, none⟩ = some (.slice (some ⟨pv, 0, none⟩) M.length cv) ∧ w'.cell? ⟨pv, k * 6, none⟩ = some (.int .i64 m.s.head.epoch) ∧ w'.cell? ⟨pv, k * 6 + 1, none⟩ = some (.string m.s.head.root) ∧ w'.cell? ⟨pv, k * 6 + 2, none⟩ = some (.string m.s.head.prev) ∧
            w'.cell? ⟨pv, k * 6 + 3, none⟩ = some (.int .i64 m.s.key) ∧ w'.cell? ⟨pv, k * 6 + 4, none⟩ = some (.slice m.A m.s.sig.length m.ca) ∧ w'.cell? ⟨pv, k * 6 + 5, none⟩ = some (.slice m.B m.s.path.length m.cb) ∧ w'.cell? ⟨pb, 0, none⟩ = some (.slice A P.length cap) ∧ w'.cell? ⟨pb, 1, none⟩ = some (.string x.1) ∧ w'.cell? ⟨pb, 2, none⟩ = some (.string x.2))
          (first | exact ⟨e6, f0, f1, f2, f3, f4, f5, g0, g1, g2⟩ | exact HKEEP.out _ (((Below.refl _ wc).drew).alloc (Nat.le_refl _) _) | exact HKEEP.out _ ((Below.refl _ wc).alloc (Nat.le_refl _) _) | exact HKEEP.out _ (((Below.refl _ wc).alloc (Nat.le_refl _) _).drew) | go_loud (exact HKEEP.out _ (alloc_below _ _))) (fail)
        have HAN := Lib.hid (show Holds (wc.alloc (.cells #[.int .i64 m.s.head.epoch, .string m.s.head.root, .string m.s.head.prev, .int .i64 m.s.key, .slice m.A m.s.sig.length m.ca, .slice m.B m.s.path.length m.cb, .slice A P.length cap, .string x.1, .string x.2, .string ⟨#[]⟩, .string ⟨#[]⟩] 65)).drew wc.heap.size 11 (anF m A P.length cap x ⟨#[]⟩ ⟨#[]⟩) 65 from
          (Holds.new wc 11 (anF m A P.length cap x ⟨#[]⟩ ⟨#[]⟩) 65).drew)
        have HBD := Lib.hid (show Below wc.heap.size wc (wc.alloc (.cells #[.int .i64 m.s.head.epoch, .string m.s.head.root, .string m.s.head.prev, .int .i64 m.s.key, .slice m.A m.s.sig.length m.ca, .slice m.B m.s.path.length m.cb, .slice A P.length cap, .string x.1, .string x.2, .string ⟨#[]⟩, .string ⟨#[]⟩] 65)).drew from (alloc_below _ _).drew)
        have HZC := Lib.hid (HZ1.out.below HBXW.out HZ1.out.lt)
        generalize (wc.alloc (.cells #[.int .i64 m.s.head.epoch, .string m.s.head.root, .string m.s.head.prev, .int .i64 m.s.key, .slice m.A m.s.sig.length m.ca, .slice m.B m.s.path.length m.cb, .slice A P.length cap, .string x.1, .string x.2, .string ⟨#[]⟩, .string ⟨#[]⟩] 65)).drew = wd at HAN HBD ⊢
        have HZD := Lib.hid (HZC.out.below HBD.out HZC.out.lt)
        have HBE := Lib.hid (HBX.out.trans (HBD.out.mono HBX.out.size))
        have HDDD := Lib.hid (HDD.out.below HBE.out)
        have HRD := Lib.hid (HR.out.below HBE.out HR.out.lt)
        have HNE := Lib.hid (show w.heap.size < wc.heap.size from HZC.out.lt)
        obtain ⟨V, hV⟩ : ∃ V, (look d.vals name).getD ⟨#[]⟩ = V := ⟨_, rfl⟩
        obtain ⟨B, hB⟩ : ∃ B, (look d.vals name).isSome = B := ⟨_, rfl⟩
        have hlook : (Instr.lookup 39 (.map (some m2)) (.string name) true).run Tryz.prog wd = .ok (.tuple #[.string V, .bool B]) wd := by
          rw [← hV, ← hB]; exact (HD.out.vals.block (HBE.out.block _ HD.out.vals.lt)).lookOk HN.out
        have HANS := Lib.hid (show foundAns d name (markOf 105 [name]) = ⟨lastSgn d, P, x, if B = true then openOf d name else ⟨#[]⟩, V⟩ by
          unfold foundAns
          rw [HPA.out, hV, hB])
        have HVB := Lib.hid (show B = false → V = ⟨#[]⟩ from fun e => by
          rw [← hV]
          rw [e] at hB
          cases h : look d.vals name with
          | none => rfl
          | some y => rw [h] at hB; cases hB)
        have h4 : wd.cell? ⟨p, 4, none⟩ = some (.map (some m2)) := (HBE.out.cell (p := ⟨p, 4, none⟩) HD.out.own.lt).trans (HD.out.own.cell 4 (by omega))
        have HSS := Lib.hid (show Strs wd A P from HSX.out.below HBD.out)
        have HSM := Lib.hid (show Strs wd m.A m.s.sig ∧ Strs wd m.B m.s.path from ⟨(HD.out.sgs m (List.mem_of_getElem? HMK.out)).sig.below HBE.out, (HD.out.sgs m (List.mem_of_getElem? HMK.out)).path.below HBE.out⟩)
        have HSB := Lib.hid (show ∀ a, A = some a → 0 < P.length → a.block < wc.heap.size from fun a ha hp => by
          obtain ⟨a', ha', hl, _⟩ := HSX.out 0 _ (List.getElem?_eq_getElem hp)
          rw [ha] at ha'; cases ha'; exact hl)
        generalize wc.heap.size = ab at HAN HNE HSB ⊢
        clear f0 f1 f2 f3 f4 f5 e6 g0 g1 g2 hV hB
        cases B
        · have hv0 := HVB.out rfl
          subst hv0
          obtain ⟨a0, a1, a2, a3, a4, a5, a6, a7, a8, a9, a10⟩ := an_cells HAN.out
          obtain ⟨p0, p1, p2, p3, p4, p5, p6, p7, p8, p9, p10⟩ := an_cells (m := noM) HZD.out
          have q0 : wd.frozen? ⟨w.heap.size, 0, none⟩ = false := HZD.out.free 0
          have q1 : wd.frozen? ⟨w.heap.size, 1, none⟩ = false := HZD.out.free 1
          have q2 : wd.frozen? ⟨w.heap.size, 2, none⟩ = false := HZD.out.free 2
          have q3 : wd.frozen? ⟨w.heap.size, 3, none⟩ = false := HZD.out.free 3
          have q4 : wd.frozen? ⟨w.heap.size, 4, none⟩ = false := HZD.out.free 4
          have q5 : wd.frozen? ⟨w.heap.size, 5, none⟩ = false := HZD.out.free 5
          have q6 : wd.frozen? ⟨w.heap.size, 6, none⟩ = false := HZD.out.free 6
          have q7 : wd.frozen? ⟨w.heap.size, 7, none⟩ = false := HZD.out.free 7
          have q8 : wd.frozen? ⟨w.heap.size, 8, none⟩ = false := HZD.out.free 8
          have q9 : wd.frozen? ⟨w.heap.size, 9, none⟩ = false := HZD.out.free 9
          have q10 : wd.frozen? ⟨w.heap.size, 10, none⟩ = false := HZD.out.free 10
          go_wp2
          have HFIN := Lib.hid (put11_holds HZD.out m A P.length cap x ⟨#[]⟩ ⟨#[]⟩)
          have HFB := Lib.hid (put11_below HBE.out (Nat.le_refl _) m A P.length cap x ⟨#[]⟩ ⟨#[]⟩)
          refine bodyPost_ret (results_row2 rfl _ _ w.heap.size 65 (arr 11 (anF m A P.length cap x ⟨#[]⟩ ⟨#[]⟩)) (0, 0) _ rfl HFIN.out Tryz.underlying65 rfl (by rw [arr_size]; exact infoAnsw)) rfl ?_
          have hans : foundAns d name (markOf 105 [name]) = ⟨m.s, P, x, ⟨#[]⟩, ⟨#[]⟩⟩ := by rw [HANS.out, HSG.out]; rfl
          rw [hans]
          exact ⟨⟨m, A, cap, ⟨m.s, P, x, ⟨#[]⟩, ⟨#[]⟩⟩⟩, rfl, ⟨rfl, rfl, (HD.out.sgs m (List.mem_of_getElem? HMK.out)).sig.below HFB.out, (HD.out.sgs m (List.mem_of_getElem? HMK.out)).path.below HFB.out, put11_strs HSS.out HSA.out m A P.length cap x ⟨#[]⟩ ⟨#[]⟩, (HD.out.sgs m (List.mem_of_getElem? HMK.out)).cp⟩, ⟨fun a e l => ((HD.out.sgs m (List.mem_of_getElem? HMK.out)).fs a e l).1, fun a e l => ((HD.out.sgs m (List.mem_of_getElem? HMK.out)).fp a e l).1, fun a e l => Nat.le_of_lt (HSA.out a e l)⟩, HFB.out⟩
        · obtain ⟨op, hop⟩ : ∃ op, openOf d name = op := ⟨_, rfl⟩
          have HOP := Lib.hid hop
          clear hop
          go_wp2_with fail
          refine (refOpening_is F p rb d name _ HDDD.out HRD.out HS.out HN.out).mono ?_
          rintro e w5 ⟨rfl, hb5⟩
          rw [HOP.out]
          have HAN5 := Lib.hid (HAN.out.below hb5 HAN.out.lt)
          have HZ5 := Lib.hid (HZD.out.below hb5 HZD.out.lt)
          have HB5 := Lib.hid (HBE.out.trans (hb5.mono HBE.out.size))
          have HS5 := Lib.hid (HSS.out.below hb5)
          have t9 : w5.cell? ⟨ab, 9, none⟩ = some (.string ⟨#[]⟩) := HAN5.out.cell 9 (by omega)
          have t10 : w5.cell? ⟨ab, 10, none⟩ = some (.string ⟨#[]⟩) := HAN5.out.cell 10 (by omega)
          have r9 : w5.frozen? ⟨ab, 9, none⟩ = false := HAN5.out.free 9
          have r10 : w5.frozen? ⟨ab, 10, none⟩ = false := HAN5.out.free 10
          clear hb5 hlook h4
          go_upto_region 11 with (fail)
          have HAN6 := Lib.hid (((HAN5.out.set 9 (.string op)).set 10 (.string V)).congr (anF_open m A P.length cap x ⟨#[]⟩ ⟨#[]⟩ op V))
          have HZ6 := Lib.hid ((HZ5.out.other (a := ⟨ab, 9, none⟩) (show w.heap.size ≠ ab by have := HNE.out; omega) (.string op)).other (a := ⟨ab, 10, none⟩) (show w.heap.size ≠ ab by have := HNE.out; omega) (.string V))
          have HB6 := Lib.hid ((HB5.out.setCell (p := ⟨ab, 9, none⟩) (Nat.le_of_lt HNE.out) (.string op)).setCell (p := ⟨ab, 10, none⟩) (Nat.le_of_lt HNE.out) (.string V))
          have HS6 := Lib.hid (show Strs ((w5.setCell ⟨ab, 9, none⟩ (.string op)).setCell ⟨ab, 10, none⟩ (.string V)) A P from (HS5.out.keep' (ab := ab) HSB.out 9 _).keep' (ab := ab) HSB.out 10 _)
          clear t9 t10 r9 r10
          generalize (w5.setCell ⟨ab, 9, none⟩ (.string op)).setCell ⟨ab, 10, none⟩ (.string V) = w6 at HAN6 HZ6 HB6 HS6 ⊢
          obtain ⟨a0, a1, a2, a3, a4, a5, a6, a7, a8, a9, a10⟩ := an_cells HAN6.out
          obtain ⟨p0, p1, p2, p3, p4, p5, p6, p7, p8, p9, p10⟩ := an_cells (m := noM) HZ6.out
          have q0 : w6.frozen? ⟨w.heap.size, 0, none⟩ = false := HZ6.out.free 0
          have q1 : w6.frozen? ⟨w.heap.size, 1, none⟩ = false := HZ6.out.free 1
          have q2 : w6.frozen? ⟨w.heap.size, 2, none⟩ = false := HZ6.out.free 2
          have q3 : w6.frozen? ⟨w.heap.size, 3, none⟩ = false := HZ6.out.free 3
          have q4 : w6.frozen? ⟨w.heap.size, 4, none⟩ = false := HZ6.out.free 4
          have q5 : w6.frozen? ⟨w.heap.size, 5, none⟩ = false := HZ6.out.free 5
          have q6 : w6.frozen? ⟨w.heap.size, 6, none⟩ = false := HZ6.out.free 6
          have q7 : w6.frozen? ⟨w.heap.size, 7, none⟩ = false := HZ6.out.free 7
          have q8 : w6.frozen? ⟨w.heap.size, 8, none⟩ = false := HZ6.out.free 8
          have q9 : w6.frozen? ⟨w.heap.size, 9, none⟩ = false := HZ6.out.free 9
          have q10 : w6.frozen? ⟨w.heap.size, 10, none⟩ = false := HZ6.out.free 10
          go_wp2
          have HFIN := Lib.hid (put11_holds HZ6.out m A P.length cap x op V)
          have HFB := Lib.hid (put11_below HB6.out (Nat.le_refl _) m A P.length cap x op V)
          refine bodyPost_ret (results_row2 rfl _ _ w.heap.size 65 (arr 11 (anF m A P.length cap x op V)) (0, 0) _ rfl HFIN.out Tryz.underlying65 rfl (by rw [arr_size]; exact infoAnsw)) rfl ?_
          have hans : foundAns d name (markOf 105 [name]) = ⟨m.s, P, x, op, V⟩ := by rw [HANS.out, HSG.out]; rw [if_pos trivial, HOP.out]
          rw [hans]
          exact ⟨⟨m, A, cap, ⟨m.s, P, x, op, V⟩⟩, rfl, ⟨rfl, rfl, (HD.out.sgs m (List.mem_of_getElem? HMK.out)).sig.below HFB.out, (HD.out.sgs m (List.mem_of_getElem? HMK.out)).path.below HFB.out, put11_strs HS6.out HSA.out m A P.length cap x op V, (HD.out.sgs m (List.mem_of_getElem? HMK.out)).cp⟩, ⟨fun a e l => ((HD.out.sgs m (List.mem_of_getElem? HMK.out)).fs a e l).1, fun a e l => ((HD.out.sgs m (List.mem_of_getElem? HMK.out)).fp a e l).1, fun a e l => Nat.le_of_lt (HSA.out a e l)⟩, HFB.out⟩
  · rw [if_neg hok] at h
    obtain ⟨rfl, rfl⟩ := Prod.mk.inj h
    have HOF := Lib.hid (show ofAns name = (⟨#[]⟩, 5) by unfold ofAns; rw [if_neg hok])
    clear h
    go_enter Tryz.func22, Tryz.ntmps22
    go_wp2_with fail
    refine (refOf_is rb name _ _ _ (HR.out.below HB0.out HR.out.lt) HN.out HOF.out).mono ?_
    rintro e w1 ⟨rfl, hb1⟩
    have HB1 := Lib.hid (HB0.out.trans (hb1.mono HB0.out.size))
    have HZ1 := Lib.hid (HZ.out.below hb1 HZ.out.lt)
    clear hb1 c0 c6
    obtain ⟨p0, p1, p2, p3, p4, p5, p6, p7, p8, p9, p10⟩ := an_cells (m := noM) HZ1.out
    have q0 : w1.frozen? ⟨w.heap.size, 0, none⟩ = false := HZ1.out.free 0
    have q1 : w1.frozen? ⟨w.heap.size, 1, none⟩ = false := HZ1.out.free 1
    have q2 : w1.frozen? ⟨w.heap.size, 2, none⟩ = false := HZ1.out.free 2
    have q3 : w1.frozen? ⟨w.heap.size, 3, none⟩ = false := HZ1.out.free 3
    have q4 : w1.frozen? ⟨w.heap.size, 4, none⟩ = false := HZ1.out.free 4
    have q5 : w1.frozen? ⟨w.heap.size, 5, none⟩ = false := HZ1.out.free 5
    have q6 : w1.frozen? ⟨w.heap.size, 6, none⟩ = false := HZ1.out.free 6
    have q7 : w1.frozen? ⟨w.heap.size, 7, none⟩ = false := HZ1.out.free 7
    have q8 : w1.frozen? ⟨w.heap.size, 8, none⟩ = false := HZ1.out.free 8
    have q9 : w1.frozen? ⟨w.heap.size, 9, none⟩ = false := HZ1.out.free 9
    have q10 : w1.frozen? ⟨w.heap.size, 10, none⟩ = false := HZ1.out.free 10
    go_wp2
    have HFIN := Lib.hid (put11_holds HZ1.out noM none 0 0 noIt ⟨#[]⟩ ⟨#[]⟩)
    have HFB := Lib.hid (put11_below HB1.out (Nat.le_refl _) noM none 0 0 noIt ⟨#[]⟩ ⟨#[]⟩)
    refine bodyPost_ret (results_row2 rfl _ _ w.heap.size 65 (arr 11 noAnF) (0, 0) _ rfl HFIN.out Tryz.underlying65 rfl (by rw [arr_size]; exact infoAnsw)) rfl ?_
    exact ⟨⟨noM, none, 0, noAnsw⟩, rfl, ⟨rfl, rfl, Strs.nil _ _, Strs.nil _ _, Strs.nil _ _, Nat.le_refl 0⟩, ⟨(fun a e => by cases e), (fun a e => by cases e), (fun a e => by cases e)⟩, HFB.out⟩
end Go.Proofs.YtcfpmofmjnhonaaGreatDoor
