/- Parts of the proof, one behind the other: PDir, DirF, PCopy, PTrie. -/
import Derived.WalkKit
import Derived.Lib.Hide
import Derived.WalkLawsBesides
import Derived.Deep.QuietTactic
import Derived.Deep.WholeRow
import Derived.ArgAppend
import Derived.Laws.AppendOwnNone
import Derived.Laws.CopyRow
import Derived.Deep.RegionLaw
import Derived.Laws.BytesString
import Derived.Laws.IdiomStrings
import Derived.Test.YtgjmbokfenpefaaGreatDoorProg
import Derived.StringKeys
import Derived.Maps.Own
import Derived.Maps.Views
import Derived.Maps.OwnSet
import Derived.Maps.OwnOps
import Derived.Maps.RangeWalk
import Derived.Sort.KeysCollected
import Derived.Laws.BitsAllLaws
import Derived.Outline
import Derived.BigQuiet
import Derived.Laws.CopyOwn
import Derived.RegionTactic
import Derived.StillTail
import Derived.Deep.Quiet
import Derived.Deep.RegionHeld3
import Derived.Deep.DeepCutAuto
import Derived.Laws.ResultCell
import Derived.IntWalk
import Derived.Sort.Walk0
import Derived.Tactics
import Derived.Orders
import Derived.LaidEql
import Derived.Stop.Asserts
import Derived.RowKitTokens
import Derived.OrdersHeld
import Derived.Sort.LotA
import Derived.Lib.SortBridge
import Derived.Deep.AppendSrc
import Derived.Shelf.SlSortFuncK.WholeK
import Derived.Ground.GgsProg
import Derived.Shelf.GgSortFunc.Tiny
import Derived.Shelf.Strings.Repeat
import Derived.KernelRfl
import Derived.WideKeyEntry
import Derived.Deep.CutRange
import Derived.Laws.StructEq
import Derived.RangeFuncNested
import Derived.RangeFuncBound
import Derived.RangeFuncCalls
import Derived.RangeFuncLeaves
import Derived.Shelf.Abstract
import Derived.Shelf.RegionOpen
import Derived.OwnWalkIn
import Derived.TacticsInMore
import Derived.LoopNIn
import Derived.LoopIn
import Derived.OrdersIn
import Derived.TacticsIn
import Derived.Test.YtgjmbokfenpefaaGreatDoorM1
import Derived.Test.YtgjmbokfenpefaaGreatDoorM2
import Derived.Test.YtgjmbokfenpefaaGreatDoorM3
import Derived.Test.YtgjmbokfenpefaaGreatDoorM4
import Derived.Test.YtgjmbokfenpefaaGreatDoorM5
import Derived.Test.YtgjmbokfenpefaaGreatDoorM6
import Derived.Test.YtgjmbokfenpefaaGreatDoorM7
import Derived.Test.YtgjmbokfenpefaaGreatDoorM8
import Derived.Test.YtgjmbokfenpefaaGreatDoorM9
import Derived.Test.YtgjmbokfenpefaaGreatDoorM10
import Derived.Test.YtgjmbokfenpefaaGreatDoorM12
import Derived.Test.YtgjmbokfenpefaaGreatDoorM13
import Derived.Test.YtgjmbokfenpefaaGreatDoorM17
import Derived.Test.YtgjmbokfenpefaaGreatDoorM18
import Derived.Test.YtgjmbokfenpefaaGreatDoorM19
import Derived.Test.YtgjmbokfenpefaaGreatDoorM20
/- The program's directory in memory. -/
namespace Go.Proofs.YtgjmbokfenpefaaGreatDoor
open Go.RowKit Go.Maps

/-- What waits was written. -/
theorem DMem.putW {F : Nat → Prop} {w w' : World} {p : Nat} {secret : ByteArray} {bb : Addr} {mh mw : Nat} {vi ve : Value} {H : List (ByteArray × (ByteArray × ByteArray))} {W W' : List (ByteArray × ByteArray)} {I : List It} {M : List SgM}
    (h : DMem F w p secret bb mh mw vi ve H W I M) (hg : w.grownBy w' (some mw)) (hm : MapIs kS w' mw W') : DMem F w' p secret bb mh mw vi ve H W' I M := by
  have hs : Same (fun k => F k ∧ k ≠ mw) w w' := ⟨hg.size, fun k hk => hg.block k (h.lt k hk.1) (fun e => hk.2 (by cases e; rfl))⟩
  obtain ⟨c1, c2, c3⟩ := h.calm (hs.mono fun k hk => ⟨hk.1, hk.2.2.2.1⟩)
  exact {
    own := by have := h.own; unfold Holds at this ⊢; rw [hs.block p ⟨h.fp, by have := h.lw; omega⟩]; exact this
    box := c1
    has := h.has.block (hs.block _ ⟨h.fh, h.hw⟩)
    wait := hm
    its := c2
    row := h.row.kept (fun k hk => hs.block k ⟨h.fv k hk, fun e => h.apart.2.2 (e ▸ hk)⟩) hs.size
    sgs := c3
    fp := h.fp, fh := h.fh, fw := h.fw, fv := h.fv, hw := h.hw, lh := h.lh, lw := h.lw
    lt := fun k hk => Nat.lt_of_lt_of_le (h.lt k hk) hs.size }
/-- What names have was written. -/
theorem DMem.putH {F : Nat → Prop} {w w' : World} {p : Nat} {secret : ByteArray} {bb : Addr} {mh mw : Nat} {vi ve : Value} {H H' : List (ByteArray × (ByteArray × ByteArray))} {W : List (ByteArray × ByteArray)} {I : List It} {M : List SgM}
    (h : DMem F w p secret bb mh mw vi ve H W I M) (hs : Same (fun k => F k ∧ k ≠ mh) w w') (hm : MapIs kH w' mh H') : DMem F w' p secret bb mh mw vi ve H' W I M := by
  obtain ⟨c1, c2, c3⟩ := h.calm (hs.mono fun k hk => ⟨hk.1, hk.2.2.1⟩)
  exact {
    own := by have := h.own; unfold Holds at this ⊢; rw [hs.block p ⟨h.fp, by have := h.lh; omega⟩]; exact this
    box := c1
    has := hm
    wait := h.wait.block (hs.block _ ⟨h.fw, h.hw.symm⟩)
    its := c2
    row := h.row.kept (fun k hk => hs.block k ⟨h.fv k hk, fun e => h.apart.2.1 (e ▸ hk)⟩) hs.size
    sgs := c3
    fp := h.fp, fh := h.fh, fw := h.fw, fv := h.fv, hw := h.hw, lh := h.lh, lw := h.lw
    lt := fun k hk => Nat.lt_of_lt_of_le (h.lt k hk) hs.size }
theorem setCell_size (w : World) (a : Addr) (v : Value) : (w.setCell a v).heap.size = w.heap.size := by simp [World.setCell]
/-- Other items were laid. -/
theorem DMem.setI {F : Nat → Prop} {w : World} {p : Nat} {secret : ByteArray} {bb : Addr} {mh mw : Nat} {vi ve : Value} {H : List (ByteArray × (ByteArray × ByteArray))} {W : List (ByteArray × ByteArray)} {I I' : List It} {M : List SgM}
    (h : DMem F w p secret bb mh mw vi ve H W I M) {vj : Value} (hj : ItsIn (Calm F p mh mw ve) w vj I') : DMem F (w.setCell ⟨p, 4, none⟩ vj) p secret bb mh mw vj ve H W I' M := by
  have hb : ∀ k, k ≠ p → (w.setCell ⟨p, 4, none⟩ vj).heap[k]? = w.heap[k]? := fun k hk => Below.heap_setCell _ _ _ _ hk
  have hz : w.heap.size ≤ (w.setCell ⟨p, 4, none⟩ vj).heap.size := by rw [setCell_size]; exact Nat.le_refl _
  have hs : Same (Calm F p mh mw ve) w (w.setCell ⟨p, 4, none⟩ vj) := ⟨hz, fun k hk => hb k hk.2.1⟩
  obtain ⟨c1, c2, c3⟩ := h.calm hs
  exact {
    own := by
      refine (h.own.set 4 vj).congr fun i hi => ?_
      unfold upd pdF
      rcases (show i = 0 ∨ i = 1 ∨ i = 2 ∨ i = 3 ∨ i = 4 ∨ i = 5 by omega) with rfl | rfl | rfl | rfl | rfl | rfl <;> rfl
    box := c1
    has := h.has.block (hb _ (by have := h.lh; omega))
    wait := h.wait.block (hb _ (by have := h.lw; omega))
    its := hj.same hs
    row := h.row.setOther h.apart.1 _
    sgs := c3
    fp := h.fp, fh := h.fh, fw := h.fw, fv := h.fv, hw := h.hw, lh := h.lh, lw := h.lw
    lt := fun k hk => Nat.lt_of_lt_of_le (h.lt k hk) hz }
/-- One more epoch was appended, and the new list stored. -/
theorem DMem.pushE {F : Nat → Prop} {u w7 : World} {X : Obj} {p : Nat} {secret : ByteArray} {bb : Addr} {mh mw : Nat} {vi ve v' : Value} {H : List (ByteArray × (ByteArray × ByteArray))} {W : List (ByteArray × ByteArray)} {I : List It} {M : List SgM}
    (h : DMem F u p secret bb mh mw vi ve H W I M) (m : SgM) (hm : SgLie (Calm F p mh mw ve) u m) (hrow : Row w7 (p + 1) 6 v' (M.length + 1) (sgCells M ++ m.cells)) (hg : (u.alloc X).grownBy w7 ve.ownBlock) (hv : Moved (u.alloc X) ve v') :
    DMem (fun k => (F k ∨ u.heap.size ≤ k) ∧ k < w7.heap.size) (w7.setCell ⟨p, 5, none⟩ v') p secret bb mh mw vi v' H W I (M ++ [m]) := by
  have hz : u.heap.size < w7.heap.size := by have := hg.size; simp at this; omega
  have hpu := h.own.lt
  have hvp' : v'.ownBlock ≠ some p := hrow.fresh (Nat.lt_succ_self p)
  obtain ⟨a1, a2, a3⟩ := h.apart
  have hblk : ∀ k, k < u.heap.size → ve.ownBlock ≠ some k → k ≠ p → (w7.setCell ⟨p, 5, none⟩ v').heap[k]? = u.heap[k]? := fun k hk hv hkp =>
    (Below.heap_setCell _ _ _ _ hkp).trans ((hg.block k (by simp; omega) (fun e => hv e.symm)).trans ((alloc_below u X).block k hk))
  have hsz : u.heap.size ≤ (w7.setCell ⟨p, 5, none⟩ v').heap.size := by rw [setCell_size]; omega
  have hS : Same (Calm F p mh mw ve) u (w7.setCell ⟨p, 5, none⟩ v') := ⟨hsz, fun k hk => hblk k (h.lt k hk.1) hk.2.2.2.2 hk.2.1⟩
  obtain ⟨c1, c2, c3⟩ := h.calm hS
  have hG : ∀ k, F k → (F k ∨ u.heap.size ≤ k) ∧ k < w7.heap.size := fun k hk => ⟨.inl hk, by have := h.lt k hk; omega⟩
  have hnew : ∀ k, v'.ownBlock = some k → ve.ownBlock = some k ∨ u.heap.size ≤ k := fun k hk => by
    rcases hv with e | e
    · exact .inl (e ▸ hk)
    · have := e k hk
      simp at this
      exact .inr (by omega)
  have hC : ∀ k, Calm F p mh mw ve k → Calm (fun k => (F k ∨ u.heap.size ≤ k) ∧ k < w7.heap.size) p mh mw v' k := fun k hk => ⟨hG k hk.1, hk.2.1, hk.2.2.1, hk.2.2.2.1, fun e => by
    rcases hnew k e with e | e
    · exact hk.2.2.2.2 e
    · have := h.lt k hk.1; omega⟩
  exact {
    own := by
      have h0 : Holds w7 p 6 (pdF secret bb mh mw vi ve) 157 := by
        have h1 := h.own
        unfold Holds at h1 ⊢
        rw [hg.block p (by simp; omega) (fun e => a1 e.symm), (alloc_below u X).block p hpu]
        exact h1
      refine (h0.set 5 v').congr fun i hi => ?_
      unfold upd pdF
      rcases (show i = 0 ∨ i = 1 ∨ i = 2 ∨ i = 3 ∨ i = 4 ∨ i = 5 by omega) with rfl | rfl | rfl | rfl | rfl | rfl <;> rfl
    box := c1.mono fun k hk _ => hC k hk
    has := h.has.block (hblk _ (h.lt _ h.fh) a2 (by have := h.lh; omega))
    wait := h.wait.block (hblk _ (h.lt _ h.fw) a3 (by have := h.lw; omega))
    its := c2.mono hC
    row := by
      rw [List.length_append, sgCells_snoc]
      exact hrow.setOther hvp' _
    sgs := fun x hx => by
      rcases List.mem_append.1 hx with hx | hx
      · exact (c3 x hx).mono hC
      · obtain rfl := List.mem_singleton.1 hx
        exact (hm.same hS).mono hC
    fp := hG _ h.fp, fh := hG _ h.fh, fw := hG _ h.fw
    fv := fun k hk => by
      refine ⟨?_, (hrow.lt k hk).2⟩
      rcases hnew k hk with e | e
      · exact .inl (h.fv k e)
      · exact .inr e
    hw := h.hw, lh := h.lh, lw := h.lw
    lt := fun k hk => by rw [setCell_size]; exact hk.2 }
theorem pDirPublic_any (F : Nat → Prop) (p : Nat) (d : Dst) (w : World) (h : PDir F w p d) :
    Calls Tryz.prog 26 #[.pointer (some ⟨p, 0, none⟩)] w fun e w' => e = .returned (.string (boxPub (dirSeed d.secret))) ∧ Below w.heap.size w w' := by
  obtain ⟨bb, mh, mw, vi, ve, H, M, h, -⟩ := h
  have c1 : w.cell? ⟨p, 1, none⟩ = some (.pointer (some bb)) := h.own.cell 1 (by omega)
  have HB := Lib.hid h.box.is
  clear h
  go_enter Tryz.func26, Tryz.ntmps26
  go_wp2_with fail
  refine (vPublic_any bb (dirSeed d.secret) _ HB.out).mono ?_
  rintro e w1 ⟨rfl, hb1⟩
  have HB1 := Lib.hid hb1
  clear hb1 c1
  go_wp2
  go_ret
  exact ⟨rfl, HB1.out⟩
theorem pDirNew_f (secret : ByteArray) (w : World) (h16 : ¬ secret.size = 16) :
    Calls Tryz.prog 52 #[.string secret] w fun e w' => e = .returned (.tuple #[.pointer none, errOf 1]) ∧ Below w.heap.size w w' := by
  have h1 : ((secret.size : Int) != 16) = true := by simp; omega
  clear h16
  go_enter Tryz.func52, Tryz.ntmps52
  go_wp2
  refine bodyPost_ret (results_tmp2 rfl _ _ _) rfl ?_
  exact ⟨rfl, Below.refl _ _⟩
set_option maxRecDepth 100000 in
theorem pDirNew_t (secret : ByteArray) (w : World) (hk : HasK w) (h16 : secret.size = 16) :
    Calls Tryz.prog 52 #[.string secret] w fun e w' => ∃ (p : Nat) (F : Nat → Prop), e = .returned (.tuple #[.pointer (some ⟨p, 0, none⟩), .nilIface]) ∧ Below w.heap.size w w' ∧ PDir F w' p (newDst secret) ∧ ∀ k, F k → w.heap.size ≤ k := by
  have HK := Lib.hid hk
  have H16 := Lib.hid h16
  have h1 : ((secret.size : Int) != 16) = false := by simp; omega
  clear hk h16
  go_enter Tryz.func52, Tryz.ntmps52
  go_wp2_with fail
  clear h1
  refine (mark_any 107 [secret] (some ⟨w.heap.size, 0, none⟩) 1 _ (HK.out.alloc _) (by have := H16.out; simp [total]; omega) (by simp) (strs_new w [secret] 9)).mono ?_
  rintro e w1 ⟨rfl, hb1⟩
  have HB1 := Lib.hid ((alloc_below w (.cells #[.string secret] 9)).trans (hb1.mono (by simp)))
  have HK1 := Lib.hid (HK.out.below HB1.out HK.out.lt)
  have HS := Lib.hid (show (markOf 107 [secret]).size = 16 from markOf_len _ _)
  clear hb1
  go_wp2_with fail
  refine (vNew_in (markOf 107 [secret]) _ HK1.out HS.out).mono ?_
  rintro e w2 ⟨bb, rfl, hb2, hbx⟩
  have HB2 := Lib.hid (HB1.out.trans (hb2.mono HB1.out.size))
  have HBX := Lib.hid (hbx.mono (G := fun k => w.heap.size ≤ k ∧ k < w2.heap.size) fun k hk hl => ⟨Nat.le_trans HB1.out.size hk, hl⟩)
  clear hb2 hbx
  have hmm := @run_makeMap Tryz.prog
  go_wp2
  clear hmm
  refine bodyPost_ret (results_tmp2 rfl _ _ _) rfl ?_
  have l3 := HB2.out.size
  obtain ⟨w3, h3⟩ : ∃ w3, w2.alloc (.map #[] 0) = w3 := ⟨_, rfl⟩
  obtain ⟨w4, h4⟩ : ∃ w4, w3.alloc (.map #[] 0) = w4 := ⟨_, rfl⟩
  rw [h3, h4]
  have z3 : w3.heap.size = w2.heap.size + 1 := by rw [← h3]; simp
  have z4 : w4.heap.size = w2.heap.size + 2 := by rw [← h4, World.size_alloc, z3]
  have b3 : Below w2.heap.size w2 w3 := by rw [← h3]; exact alloc_below _ _
  have b4 : Below w3.heap.size w3 w4 := by rw [← h4]; exact alloc_below _ _
  have m3 : MapIs kH w3 w2.heap.size [] := by rw [← h3]; exact MapIs.made kH w2
  have m4 : MapIs kS w4 (w2.heap.size + 1) [] := by rw [← h4, ← z3]; exact MapIs.made kS w3
  clear h3 h4
  have b6 := alloc_below w4 (.cells #[.string secret, .pointer (some bb), .map (some w2.heap.size), .map (some (w2.heap.size + 1)), .slice none 0 0, .slice none 0 0] 157)
  have hall : Below w2.heap.size w2 (w4.alloc (.cells #[.string secret, .pointer (some bb), .map (some w2.heap.size), .map (some (w2.heap.size + 1)), .slice none 0 0, .slice none 0 0] 157)) :=
    (b3.trans (b4.mono (by omega))).trans (b6.mono (by omega))
  refine ⟨w4.heap.size, fun k => w.heap.size ≤ k ∧ k < w4.heap.size + 1, (by rw [z4]; rfl), HB2.out.trans (hall.mono l3), ⟨bb, w2.heap.size, w2.heap.size + 1, .slice none 0 0, .slice none 0 0, [], [], ?_, rfl, fun s => rfl⟩, fun k hk => hk.1⟩
  exact {
    own := Holds.new w4 6 (pdF secret bb w2.heap.size (w2.heap.size + 1) (.slice none 0 0) (.slice none 0 0)) 157
    box := (HBX.out.block hall.size fun k hk => hall.block k hk.2).mono fun k hk _ => ⟨⟨hk.1, by omega⟩, by omega, by omega, by omega, fun e => by cases e⟩
    has := m3.block ((b6.block _ (by omega)).trans (b4.block _ (by omega)))
    wait := m4.block (b6.block _ (by omega))
    its := ⟨none, 0, rfl, Nat.le_refl 0, Itms.nil _ _, fun a e => by cases e⟩
    row := Row.nil _ _ _
    sgs := fun m hm => by cases hm
    fp := ⟨by omega, by omega⟩
    fh := ⟨by omega, by omega⟩
    fw := ⟨by omega, by omega⟩
    fv := fun k hk => by cases hk
    hw := by omega
    lh := by omega
    lw := by omega
    lt := fun k hk => by rw [World.size_alloc]; exact hk.2 }
end Go.Proofs.YtgjmbokfenpefaaGreatDoor
/- What the program's directory answers (a Face). -/
namespace Go.Proofs.YtgjmbokfenpefaaGreatDoor
open Go.RowKit

theorem off_cell {F : Nat → Prop} {w w' : World} (ho : Off F w w') {p : Addr} (hl : p.block < w.heap.size) (hn : ¬ F p.block) : w'.cell? p = w.cell? p := World.cell?_of_block (w := w) (ho.block p.block hl hn)
theorem Strs.aside {F : Nat → Prop} {w w' : World} {A : Option Addr} {L : List ByteArray} (h : Strs w A L) (ho : Off F w w') (hn : ∀ a, A = some a → 0 < L.length → ¬ F a.block) : Strs w' A L := fun i p hp => by
  obtain ⟨a, ha, hl, hc⟩ := h i p hp
  have h1 := hn a ha (by have := (List.getElem?_eq_some_iff.1 hp).1; omega)
  exact ⟨a, ha, Nat.lt_of_lt_of_le hl ho.size, (off_cell ho (by rw [block_add]; exact hl) (by rw [block_add]; exact h1)).trans hc⟩
theorem sg_cells {w : World} {b : Nat} {h : Hd} {key : Int} {u v : Value} {t : TypeId} (hh : Holds w b 6 (sgF h key u v) t) :
    w.cell? ⟨b, 0, none⟩ = some (.int .i64 h.epoch) ∧ w.cell? ⟨b, 1, none⟩ = some (.string h.root) ∧ w.cell? ⟨b, 2, none⟩ = some (.string h.prev) ∧ w.cell? ⟨b, 3, none⟩ = some (.int .i64 key) ∧ w.cell? ⟨b, 4, none⟩ = some u ∧ w.cell? ⟨b, 5, none⟩ = some v :=
  ⟨hh.cell 0 (by omega), hh.cell 1 (by omega), hh.cell 2 (by omega), hh.cell 3 (by omega), hh.cell 4 (by omega), hh.cell 5 (by omega)⟩
theorem AnIn.aside {F : Nat → Prop} {w w' : World} {m : AnM} {a : Answ} (h : AnIn w m a) (ho : Off F w w') (h1 : ∀ b, m.sg.A = some b → 0 < a.sgn.sig.length → ¬ F b.block) (h2 : ∀ b, m.sg.B = some b → 0 < a.sgn.path.length → ¬ F b.block) (h3 : ∀ b, m.C = some b → 0 < a.path.length → ¬ F b.block) : AnIn w' m a :=
  ⟨h.is, h.sgn, h.sig.aside ho h1, h.path.aside ho h2, h.way.aside ho h3, h.cap⟩
end Go.Proofs.YtgjmbokfenpefaaGreatDoor
/- The program's directory: a signed head with lists of its own. -/
namespace Go.Proofs.YtgjmbokfenpefaaGreatDoor
open Go.RowKit Go.Maps

theorem infoText : (Tryz.prog.info? 9).map (fun i => (i.zero, i.size, i.bytes)) = some (some (.string ⟨#[]⟩), 1, 16) := by kernel_rfl
theorem cloneTexts_any (L : List ByteArray) (A : Option Addr) (cap : Nat) (w : World) (hl : L.length ≤ 1000000) (hm : Strs w A L) :
    Calls Tryz.prog 99 #[.slice A L.length cap] w fun e w' => ∃ v, e = .returned v ∧ Below w.heap.size w w' ∧ Row w' w.heap.size 1 v L.length (stCells L) := by
  have HM := Lib.hid hm
  clear hm
  cases A with
  | none =>
    obtain rfl : L = [] := by
      match L, HM with
      | [], _ => rfl
      | x :: r, HM =>
        obtain ⟨a, h, _⟩ := HM.out 0 x rfl
        cases h
    have hnil : ∀ u : World, (binOp .eql 53 (.slice none 0 cap) (.slice none 0 0)).run Tryz.prog u = .ok (.bool true) u := fun u => by kernel_rfl
    go_enter Tryz.func99, Tryz.ntmps99
    go_wp2
    go_ret
    exact ⟨_, rfl, Below.refl _ _, Row.nil _ _ _⟩
  | some x =>
    have hnil : ∀ u : World, (binOp .eql 53 (.slice (some x) L.length cap) (.slice none 0 0)).run Tryz.prog u = .ok (.bool false) u := fun u => by kernel_rfl
    have hb0 : Below w.heap.size w (w.alloc (.cells #[] 9)) := alloc_below w _
    go_enter Tryz.func99, Tryz.ntmps99
    go_wp2_with (at_builtin; refine wpList_append_texts rfl (.tmp 5) (.tmp 6) 53 rfl 9 Tryz.underlying53 _ infoText rfl w.heap.size 0 [] rfl ⟨w.heap.size, 0, none⟩ 0 rfl ⟨rfl, .inr ⟨w.heap.size, 0, rfl, Nat.le_refl _, by simp, Nat.le_refl 0, (fun j u h => by cases h), fun j h => by omega⟩⟩ (by simp) (by omega) L L.length rfl (some x) cap rfl (HM.out.below hb0) hl ?_; intro v' w7 hr7 hg7)
    go_wp2
    go_ret
    refine ⟨_, rfl, hb0.grown hg7.out hb0.size (fun k e => by cases e; exact Nat.le_refl _), ?_⟩
    have h := hr7.out
    rw [Nat.zero_add, List.nil_append] at h
    exact h
theorem sgF_four (h : Hd) (key : Int) (u v u' : Value) (i : Nat) (hi : i < 6) : upd (sgF h key u v) 4 u' i = sgF h key u' v i := by
  rcases (show i = 0 ∨ i = 1 ∨ i = 2 ∨ i = 3 ∨ i = 4 ∨ i = 5 by omega) with rfl | rfl | rfl | rfl | rfl | rfl <;> rfl
theorem sgF_five (h : Hd) (key : Int) (u v v' : Value) (i : Nat) (hi : i < 6) : upd (sgF h key u v) 5 v' i = sgF h key u v' i := by
  rcases (show i = 0 ∨ i = 1 ∨ i = 2 ∨ i = 3 ∨ i = 4 ∨ i = 5 by omega) with rfl | rfl | rfl | rfl | rfl | rfl <;> rfl
/-- A row of texts of the call's own, cut free of later writes below it. -/
theorem row_texts {w : World} {base : Nat} {v : Value} {L : List ByteArray} (h : Row w base 1 v L.length (stCells L)) : ∃ A c, v = .slice A L.length c ∧ Strs w A L ∧ L.length ≤ c ∧ ∀ a, A = some a → 0 < L.length → base ≤ a.block := by
  obtain ⟨-, A, c, hv, hs⟩ := h.strs
  refine ⟨A, c, hv, hs, ?_, fun a ha hl => ?_⟩
  · by_cases h0 : 0 < L.length
    · obtain ⟨g, c', hv', _, _, hc, _⟩ := h.shape h0
      rw [hv] at hv'
      injection hv' with _ _ e
      omega
    · omega
  · obtain ⟨g, c', hv', hb, _⟩ := h.shape hl
    rw [hv] at hv'
    injection hv' with e _ _
    rw [ha] at e
    injection e with e
    rw [e]; exact hb
theorem put6_strs {w : World} {A : Option Addr} {L : List ByteArray} (h : Strs w A L) {b : Nat} (hb : ∀ a, A = some a → 0 < L.length → b < a.block) (x : Hd) (key : Int) (u v : Value) : Strs (put6 w b x key u v) A L :=
  (((((h.keep ⟨b, 0, none⟩ _ hb).keep ⟨b, 1, none⟩ _ hb).keep ⟨b, 2, none⟩ _ hb).keep ⟨b, 3, none⟩ _ hb).keep ⟨b, 4, none⟩ _ hb).keep ⟨b, 5, none⟩ _ hb
set_option maxHeartbeats 1000000 in
set_option maxRecDepth 100000 in
theorem pCopyOf_room (m : SgM) (w : World) (hls : m.s.sig.length ≤ 1000000) (hlp : m.s.path.length ≤ 1000000) (hs : Strs w m.A m.s.sig) (hp : Strs w m.B m.s.path) :
    Calls Tryz.prog 59 #[.agg #[.int .i64 m.s.head.epoch, .string m.s.head.root, .string m.s.head.prev, .int .i64 m.s.key, .slice m.A m.s.sig.length m.ca, .slice m.B m.s.path.length m.cb]] w fun e w' =>
      ∃ m' : SgM, e = .returned (.agg #[.int .i64 m'.s.head.epoch, .string m'.s.head.root, .string m'.s.head.prev, .int .i64 m'.s.key, .slice m'.A m'.s.sig.length m'.ca, .slice m'.B m'.s.path.length m'.cb]) ∧ (m'.s = m.s ∧ m'.s.path.length ≤ m'.cb) ∧ Below w.heap.size w w' ∧ SgIn (fun k => w.heap.size + 1 < k) w' m' := by
  obtain ⟨⟨h, key, S, P⟩, A, ca, B, cb⟩ := m
  have hls : S.length ≤ 1000000 := hls
  have hlp : P.length ≤ 1000000 := hlp
  have hs : Strs w A S := hs
  have hp : Strs w B P := hp
  show Calls _ _ #[.agg #[.int .i64 h.epoch, .string h.root, .string h.prev, .int .i64 key, .slice A S.length ca, .slice B P.length cb]] _ _
  obtain ⟨w0, hw0⟩ : ∃ w0, (w.alloc (.cells #[.int .i64 h.epoch, .string h.root, .string h.prev, .int .i64 key, .slice A S.length ca, .slice B P.length cb] 57)).alloc (.cells #[.int .i64 0, .string ⟨#[]⟩, .string ⟨#[]⟩, .int .i64 0, .slice none 0 0, .slice none 0 0] 57) = w0 := ⟨_, rfl⟩
  have HB0 := Lib.hid (show Below w.heap.size w w0 from by rw [← hw0]; exact (alloc_below w _).alloc (by simp) _)
  have HX0 := Lib.hid (show Holds w0 w.heap.size 6 (sgF h key (.slice A S.length ca) (.slice B P.length cb)) 57 from by
    rw [← hw0]; exact (Holds.new w 6 (sgF h key (.slice A S.length ca) (.slice B P.length cb)) 57).alloc _)
  have HZ0 := Lib.hid (show Holds w0 (w.heap.size + 1) 6 (sgF noHd 0 (.slice none 0 0) (.slice none 0 0)) 57 from by
    rw [← hw0]
    have := Holds.new (w.alloc (.cells #[.int .i64 h.epoch, .string h.root, .string h.prev, .int .i64 key, .slice A S.length ca, .slice B P.length cb] 57)) 6 (sgF noHd 0 (.slice none 0 0) (.slice none 0 0)) 57
    rwa [World.size_alloc] at this)
  have HS0 := Lib.hid (hs.below HB0.out)
  have HP0 := Lib.hid (hp.below HB0.out)
  have HQ0 := Lib.hid (show w0.heap.size = w.heap.size + 2 from by rw [← hw0]; simp)
  have hPW := hp
  clear hs hp
  go_enter Tryz.func59, Tryz.ntmps59
  have d4 : w0.cell? ⟨w.heap.size, 4, none⟩ = some (.slice A S.length ca) := HX0.out.cell 4 (by omega)
  go_wp2_with fail
  clear hw0 d4
  refine (cloneTexts_any S A ca _ hls HS0.out).mono ?_
  rintro e w1 ⟨v1, rfl, hb1, hr1⟩
  obtain ⟨A1, c1, rfl, hst1, hcp1, hA1⟩ := row_texts hr1
  have HX1 := Lib.hid (HX0.out.below hb1 HX0.out.lt)
  have HZ1 := Lib.hid (HZ0.out.below hb1 HZ0.out.lt)
  have HB1 := Lib.hid (HB0.out.trans (hb1.mono HB0.out.size))
  have HP1 := Lib.hid (HP0.out.below hb1)
  have HA1 := Lib.hid (show ∀ a, A1 = some a → 0 < S.length → w.heap.size + 1 < a.block from fun a e l => by have := hA1 a e l; have := HQ0.out; omega)
  have HST1 := Lib.hid hst1
  have HCP1 := Lib.hid hcp1
  have HPL := Lib.hid (show ∀ a, B = some a → 0 < P.length → a.block < w.heap.size from fun a e l => by
    obtain ⟨a', e', hlt', _⟩ := hPW 0 _ (List.getElem?_eq_getElem l)
    rw [e] at e'
    obtain rfl := Option.some.inj e'
    exact hlt')
  clear hb1 hr1 hst1 hA1 hcp1 hPW HX0 HZ0 HS0 HP0 HB0
  have c4 : w1.cell? ⟨w.heap.size, 4, none⟩ = some (.slice A S.length ca) := HX1.out.cell 4 (by omega)
  have f4 : w1.frozen? ⟨w.heap.size, 4, none⟩ = false := HX1.out.free 4
  have c5 : w1.cell? ⟨w.heap.size, 5, none⟩ = some (.slice B P.length cb) := HX1.out.cell 5 (by omega)
  have HX2 := Lib.hid ((HX1.out.set 4 (.slice A1 S.length c1)).congr fun i hi => sgF_four h key _ (.slice B P.length cb) _ i hi)
  have HZ2 := Lib.hid (HZ1.out.other (show w.heap.size + 1 ≠ w.heap.size by omega) (a := ⟨w.heap.size, 4, none⟩) (.slice A1 S.length c1))
  have HB2 := Lib.hid (HB1.out.setCell (p := ⟨w.heap.size, 4, none⟩) (Nat.le_refl _) (.slice A1 S.length c1))
  have HST2 := Lib.hid (HST1.out.keep ⟨w.heap.size, 4, none⟩ (.slice A1 S.length c1) (fun a e l => by have := HA1.out a e l; show w.heap.size < a.block; omega))
  have HP2 := Lib.hid (HP1.out.keep' (ab := w.heap.size) HPL.out 4 (.slice A1 S.length c1))
  go_wp2_with fail
  clear c4 f4 c5
  generalize w1.setCell ⟨w.heap.size, 4, none⟩ (.slice A1 S.length c1) = w2 at HX2 HZ2 HB2 HST2 HP2 ⊢
  clear HX1 HZ1 HB1 HST1 HP1
  refine (cloneTexts_any P B cb _ hlp HP2.out).mono ?_
  rintro e w3 ⟨v3, rfl, hb3, hr3⟩
  obtain ⟨B3, c3, rfl, hst3, hcp3, hA3⟩ := row_texts hr3
  have HX3 := Lib.hid (HX2.out.below hb3 HX2.out.lt)
  have HZ3 := Lib.hid (HZ2.out.below hb3 HZ2.out.lt)
  have HB3 := Lib.hid (HB2.out.trans (hb3.mono HB2.out.size))
  have HST3 := Lib.hid (HST2.out.below hb3)
  have HSP3 := Lib.hid hst3
  have HA3 := Lib.hid (show ∀ a, B3 = some a → 0 < P.length → w.heap.size + 1 < a.block from fun a e l => by have := hA3 a e l; have := HZ2.out.lt; omega)
  have HCP3 := Lib.hid hcp3
  clear hb3 hr3 hst3 hA3 hcp3 HX2 HZ2 HB2 HST2 HP2
  have HX4 := Lib.hid ((HX3.out.set 5 (.slice B3 P.length c3)).congr fun i hi => sgF_five h key (.slice A1 S.length c1) _ _ i hi)
  have HZ4 := Lib.hid (HZ3.out.other (show w.heap.size + 1 ≠ w.heap.size by omega) (a := ⟨w.heap.size, 5, none⟩) (.slice B3 P.length c3))
  have HB4 := Lib.hid (HB3.out.setCell (p := ⟨w.heap.size, 5, none⟩) (Nat.le_refl _) (.slice B3 P.length c3))
  have HST4 := Lib.hid (HST3.out.keep ⟨w.heap.size, 5, none⟩ (.slice B3 P.length c3) (fun a e l => by have := HA1.out a e l; show w.heap.size < a.block; omega))
  have HSP4 := Lib.hid (HSP3.out.keep ⟨w.heap.size, 5, none⟩ (.slice B3 P.length c3) (fun a e l => by have := HA3.out a e l; show w.heap.size < a.block; omega))
  have HFIN := Lib.hid (put6_holds HZ4.out h key (.slice A1 S.length c1) (.slice B3 P.length c3))
  have HFB := Lib.hid (put6_below HB4.out (show w.heap.size ≤ w.heap.size + 1 by omega) h key (.slice A1 S.length c1) (.slice B3 P.length c3))
  have HFS := Lib.hid (put6_strs HST4.out (fun a e l => by have := HA1.out a e l; omega) h key (.slice A1 S.length c1) (.slice B3 P.length c3))
  have HFP := Lib.hid (put6_strs HSP4.out (fun a e l => by have := HA3.out a e l; omega) h key (.slice A1 S.length c1) (.slice B3 P.length c3))
  obtain ⟨x0, x1, x2, x3, x4, x5⟩ := sg_cells HX3.out
  have f5 : w3.frozen? ⟨w.heap.size, 5, none⟩ = false := HX3.out.free 5
  have q0 : w3.frozen? ⟨w.heap.size + 1, 0, none⟩ = false := HZ3.out.free 0
  have q1 : w3.frozen? ⟨w.heap.size + 1, 1, none⟩ = false := HZ3.out.free 1
  have q2 : w3.frozen? ⟨w.heap.size + 1, 2, none⟩ = false := HZ3.out.free 2
  have q3 : w3.frozen? ⟨w.heap.size + 1, 3, none⟩ = false := HZ3.out.free 3
  have q4 : w3.frozen? ⟨w.heap.size + 1, 4, none⟩ = false := HZ3.out.free 4
  have q5 : w3.frozen? ⟨w.heap.size + 1, 5, none⟩ = false := HZ3.out.free 5
  obtain ⟨y0, y1, y2, y3, y4, y5⟩ := sg_cells HZ3.out
  go_wp2
  refine bodyPost_ret (results_cell_row rfl _ _ (w.heap.size + 1) 57 (arr 6 (sgF h key (.slice A1 S.length c1) (.slice B3 P.length c3))) (0, 0) _ rfl HFIN.out Tryz.underlying57 rfl (by rw [arr_size]; exact infoSg6)) rfl ?_
  exact ⟨⟨⟨h, key, S, P⟩, A1, c1, B3, c3⟩, rfl, ⟨rfl, HCP3.out⟩, HFB.out, HFS.out, HFP.out, HA1.out, HA3.out, HCP1.out⟩
theorem pCopyOf_is (m : SgM) (w : World) (hls : m.s.sig.length ≤ 1000000) (hlp : m.s.path.length ≤ 1000000) (hs : Strs w m.A m.s.sig) (hp : Strs w m.B m.s.path) :
    Calls Tryz.prog 59 #[.agg #[.int .i64 m.s.head.epoch, .string m.s.head.root, .string m.s.head.prev, .int .i64 m.s.key, .slice m.A m.s.sig.length m.ca, .slice m.B m.s.path.length m.cb]] w fun e w' =>
      ∃ m' : SgM, e = .returned (.agg #[.int .i64 m'.s.head.epoch, .string m'.s.head.root, .string m'.s.head.prev, .int .i64 m'.s.key, .slice m'.A m'.s.sig.length m'.ca, .slice m'.B m'.s.path.length m'.cb]) ∧ m'.s = m.s ∧ Below w.heap.size w w' ∧ SgIn (fun k => w.heap.size + 1 < k) w' m' :=
  (pCopyOf_room m w hls hlp hs hp).mono fun _ _ ⟨m', he, hm, h⟩ => ⟨m', he, hm.1, h⟩
end Go.Proofs.YtgjmbokfenpefaaGreatDoor
/- The program's trie: isMark, bit, Right, Empty, Leaf, Join. -/
namespace Go.Proofs.YtgjmbokfenpefaaGreatDoor
open Go.RowKit

theorem tMark_any (s : ByteArray) (w : World) : Calls Tryz.prog 156 #[.string s] w fun e w' => e = .returned (.bool (decide (s.size = 16))) ∧ w' = w := by
  by_cases h : s.size = 16
  · go_enter Tryz.func156, Tryz.ntmps156
    go_wp2
    go_ret
    exact ⟨by simp [h], rfl⟩
  · go_enter Tryz.func156, Tryz.ntmps156
    go_wp2
    go_ret
    refine ⟨?_, rfl⟩
    simp [h]; omega
theorem tBit_any (ix : ByteArray) (d : Nat) (w : World) (h16 : ix.size = 16) (hd : d < 128) :
    Calls Tryz.prog 158 #[.string ix, .int .i64 (d : Int)] w fun e w' => e = .returned (.int .i64 ((bitOf ix.data.toList d : Nat) : Int)) ∧ w' = w := by
  have HB := Lib.hid (show bitAns ix (d : Int) = (((bitOf ix.data.toList d : Nat) : Int), 0) by
    unfold bitAns
    rw [if_pos h16, if_pos (by omega), Int.toNat_natCast])
  clear h16 hd
  go_enter Tryz.func158, Tryz.ntmps158
  go_wp2_with fail
  refine (ixBit_is ix d _ 0 _ HB.out).mono ?_
  rintro e w1 ⟨rfl, rfl⟩
  go_wp2
  go_ret
  exact ⟨rfl, rfl⟩
theorem tEmpty_any (d : Int) (w : World) (hk : HasK w) : Calls Tryz.prog 212 #[.int .i64 d] w fun e w' => e = .returned (.string (emptyM d)) ∧ Below w.heap.size w w' := by
  have HK := Lib.hid hk
  clear hk
  go_enter Tryz.func212, Tryz.ntmps212
  go_wp2_with fail
  refine (num_any d _).mono ?_
  rintro e w1 ⟨rfl, hb1⟩
  have HB1 := Lib.hid hb1
  clear hb1
  go_wp2_with fail
  refine (mark_any 101 [txt (num8 d)] (some ⟨w1.heap.size, 0, none⟩) 1 _ ((HK.out.below HB1.out HK.out.lt).below (alloc_below w1 _) (Nat.lt_of_lt_of_le HK.out.lt HB1.out.size)) (by simp [total, num_size]) (by simp) (strs_new w1 [txt (num8 d)] 9)).mono ?_
  rintro e w2 ⟨rfl, hb2⟩
  have HB2 := Lib.hid (HB1.out.trans ((alloc_below w1 (.cells #[.string (txt (num8 d))] 9)).mono HB1.out.size |>.trans (hb2.mono (Nat.le_trans HB1.out.size (by simp)))))
  clear hb2
  go_wp2
  go_ret
  exact ⟨rfl, HB2.out⟩
theorem tJoin_any (x y : ByteArray) (w : World) (hk : HasK w) (hx : x.size ≤ 1000000) (hy : y.size ≤ 1000000) :
    Calls Tryz.prog 214 #[.string x, .string y] w fun e w' => e = .returned (.string (joinM x y)) ∧ Below w.heap.size w w' := by
  have HK := Lib.hid hk
  clear hk
  go_enter Tryz.func214, Tryz.ntmps214
  go_wp2_with fail
  refine (mark_any 110 [x, y] (some ⟨w.heap.size, 0, none⟩) 2 _ (HK.out.below (alloc_below w _) HK.out.lt) (by simp [total]; omega) (by simp) (strs_new w [x, y] 9)).mono ?_
  rintro e w2 ⟨rfl, hb2⟩
  have HB2 := Lib.hid ((alloc_below w (.cells #[.string x, .string y] 9)).trans (hb2.mono (by simp)))
  clear hb2
  go_wp2
  go_ret
  exact ⟨rfl, HB2.out⟩
set_option maxRecDepth 100000 in
theorem tLeaf_any (x : It) (d : Int) (w : World) (hk : HasK w) (hx : x.1.size ≤ 1000000) (hy : x.2.size ≤ 1000000) :
    Calls Tryz.prog 213 #[.agg #[.string x.1, .string x.2], .int .i64 d] w fun e w' => e = .returned (.string (leafM x d)) ∧ Below w.heap.size w w' := by
  have HK := Lib.hid hk
  have HX := Lib.hid hx
  have HY := Lib.hid hy
  clear hk hx hy
  go_enter Tryz.func213, Tryz.ntmps213
  go_wp2
  have hb1 : Below w.heap.size w (w.alloc (.cells #[.string x.1, .string x.2] 59)) := alloc_below _ _
  have hN1 : w.heap.size < (w.alloc (.cells #[.string x.1, .string x.2] 59)).heap.size := by simp
  have e0 : (w.alloc (.cells #[.string x.1, .string x.2] 59)).cell? ⟨w.heap.size, 0, none⟩ = some (.string x.1) := cell_of_row _ w.heap.size 0 _ 59 (0, 0) (heap_alloc_new _ _)
  have e1 : (w.alloc (.cells #[.string x.1, .string x.2] 59)).cell? ⟨w.heap.size, 1, none⟩ = some (.string x.2) := cell_of_row _ w.heap.size 1 _ 59 (0, 0) (heap_alloc_new _ _)
  have HB1 := Lib.hid hb1
  have E0 := Lib.hid e0
  have E1 := Lib.hid e1
  clear hb1 e0 e1
  generalize hw1 : w.alloc (.cells #[.string x.1, .string x.2] 59) = w1 at HB1 E0 E1 hN1
  clear hw1
  have hs0 : w1.cell? ⟨w.heap.size, 0, none⟩ = some (.string x.1) ∧ w1.cell? ⟨w.heap.size, 1, none⟩ = some (.string x.2) ∧ Below w1.heap.size w1 w1.drew := ⟨E0.out, E1.out, (Below.refl _ _).drew⟩
  have KEEP : ∀ u v : World, (u.cell? ⟨w.heap.size, 0, none⟩ = some (.string x.1) ∧ u.cell? ⟨w.heap.size, 1, none⟩ = some (.string x.2) ∧ Below w1.heap.size w1 u) → Below u.heap.size u v → (v.cell? ⟨w.heap.size, 0, none⟩ = some (.string x.1) ∧ v.cell? ⟨w.heap.size, 1, none⟩ = some (.string x.2) ∧ Below w1.heap.size w1 v) :=
    fun u v ⟨h0, h1, hb⟩ hv => ⟨(hv.cell (by have := hb.size; show w.heap.size < _; omega)).trans h0, (hv.cell (by have := hb.size; show w.heap.size < _; omega)).trans h1, hb.trans (hv.mono hb.size)⟩
  have HKEEP := Lib.hid KEEP
  have HS0 := Lib.hid hs0
  have HHOLD := Lib.hid (show ∀ u : World, (u.cell? ⟨w.heap.size, 0, none⟩ = some (.string x.1) ∧ u.cell? ⟨w.heap.size, 1, none⟩ = some (.string x.2) ∧ Below w1.heap.size w1 u) → HasK u from fun u hu => (HK.out.below HB1.out HK.out.lt).below hu.2.2 (Nat.lt_of_lt_of_le HK.out.lt HB1.out.size))
  have HTOT := Lib.hid (show total [txt (num8 d), x.1, x.2] ≤ 1073741800 by have := HX.out; have := HY.out; simp [total, num_size]; omega)
  clear KEEP hs0
  go_region_held3 (fun w' => w'.cell? ⟨w.heap.size, 0, none⟩ = some (.string x.1) ∧ w'.cell? ⟨w.heap.size, 1, none⟩ = some (.string x.2) ∧ Below w1.heap.size w1 w') (first | exact HS0.out | (refine HKEEP.out _ _ ?_ (by assumption); first | exact HS0.out | assumption | exact ⟨by assumption, by assumption, by assumption⟩) | (refine HKEEP.out _ _ ?_ (alloc_below _ _); first | exact HS0.out | assumption | exact ⟨by assumption, by assumption, by assumption⟩))
    (first | (go_at_call 145; refine (num_any d _).mono ?_; rintro e w2 ⟨rfl, hb2⟩) | (go_at_call 87; refine (mark_any 108 [txt (num8 d), x.1, x.2] (some ⟨_, 0, none⟩) 3 _ (HHOLD.out _ (by assumption)) HTOT.out (by simp) (strs_new _ [txt (num8 d), x.1, x.2] 9)).mono ?_; rintro e w2 ⟨rfl, hb2⟩))
  rename_i _ _ w2 _ hheld
  have HB2 := Lib.hid (HB1.out.trans (hheld.2.2.mono HB1.out.size))
  clear hheld
  go_wp2
  go_ret
  exact ⟨rfl, HB2.out⟩
theorem ge_cases {x y : It} {j : Nat} (m1 : x.1.size = 16) (m2 : x.2.size = 16) :
    (Op.bytesLess y.1.toList x.1.toList = true ∧ (decide (x.1.size = 16) && decide (x.2.size = 16) && (decide (j + 1 = 0) || decide (y.1.data.toList < x.1.data.toList))) = true) ∨
    (Op.bytesLess y.1.toList x.1.toList = false ∧ (decide (x.1.size = 16) && decide (x.2.size = 16) && (decide (j + 1 = 0) || decide (y.1.data.toList < x.1.data.toList))) = false) := by
  rw [decide_eq_true m1, decide_eq_true m2, decide_eq_false (show ¬ j + 1 = 0 by omega), bytesLess_eq, ByteArray.toList_eq, ByteArray.toList_eq]
  by_cases h2 : y.1.data.toList < x.1.data.toList
  · exact .inl ⟨by simp [h2], by rw [decide_eq_true h2]; rfl⟩
  · exact .inr ⟨by simp [h2], by rw [decide_eq_false h2]; rfl⟩
set_option maxRecDepth 100000 in
theorem tRight_any (L : List It) (A : Option Addr) (cap : Nat) (w : World) (hl : L.length ≤ 1000000) (hm : Itms w A L) :
    Calls Tryz.prog 155 #[.slice A L.length cap] w fun e w' => e = .returned (.bool (rightItems L)) ∧ Below w.heap.size w w' := by
  have HM := Lib.hid hm
  clear hm
  by_cases h60 : 60 < L.length
  · have HF := Lib.hid (show rightItems L = false by unfold rightItems; rw [decide_eq_false (show ¬ L.length ≤ 60 by omega), Bool.and_false])
    go_enter Tryz.func155, Tryz.ntmps155
    go_wp2
    go_ret
    exact ⟨by rw [HF.out]; rfl, Below.refl _ _⟩
  · have h60' : ¬ (60 : Int) < (L.length : Int) := by omega
    have HLE := Lib.hid (show L.length ≤ 60 by omega)
    clear h60
    go_enter Tryz.func155, Tryz.ntmps155
    go_wp2
    go_loopw [10] (fun i wr => ∃ k : Nat, k ≤ L.length ∧ i = .int .i64 (k : Int) ∧ goodItems L k = true ∧ Below w.heap.size w wr) (fun i _ => L.length - (intOf i).toNat)
    case atStart => exact ⟨0, by omega, rfl, rfl, Below.refl _ _⟩
    case round =>
      obtain ⟨k, hk, rfl, hg, hb⟩ := hrel
      have HG := Lib.hid hg
      have HB := Lib.hid hb
      clear hg hb
      by_cases hlt : k < L.length
      · obtain ⟨a, rfl, hal, c0, c1⟩ := HM.out.at_ hlt
        have hal' : a.block < w.heap.size := hal
        have d0 : wr.cell? (a.add (k * 2)) = some (.string (itAt L k).1) := (HB.out.cell (by rw [block_add]; exact hal)).trans c0
        have d1 : wr.cell? ((a.add (k * 2)).add 1) = some (.string (itAt L k).2) := (HB.out.cell (by rw [block_add, block_add]; exact hal)).trans c1
        have d2 : wr.cell? ⟨(a.add (k * 2)).block, (a.add (k * 2)).off + 1, none⟩ = some (.string (itAt L k).2) := d1
        clear c0 c1 hal d1
        generalize hxk : itAt L k = x at d0 d2
        have HXK := Lib.hid hxk
        clear hxk
        go_wp2_with fail
        have hb1 : Below w.heap.size w (wr.alloc (.cells #[.string x.1, .string x.2] 59)) := HB.out.alloc HB.out.size _
        have hN1 : wr.heap.size < (wr.alloc (.cells #[.string x.1, .string x.2] 59)).heap.size := by simp
        have e0 : (wr.alloc (.cells #[.string x.1, .string x.2] 59)).cell? ⟨wr.heap.size, 0, none⟩ = some (.string x.1) := cell_of_row _ wr.heap.size 0 _ 59 (0, 0) (heap_alloc_new _ _)
        have e1 : (wr.alloc (.cells #[.string x.1, .string x.2] 59)).cell? ⟨wr.heap.size, 1, none⟩ = some (.string x.2) := cell_of_row _ wr.heap.size 1 _ 59 (0, 0) (heap_alloc_new _ _)
        have HB1 := Lib.hid hb1
        clear hb1 d0 d2
        generalize hw1 : wr.alloc (.cells #[.string x.1, .string x.2] 59) = w1 at HB1 e0 e1 hN1
        clear hw1
        refine (tMark_any x.1 _).mono ?_
        rintro e w1 ⟨rfl, rfl⟩
        by_cases m1 : x.1.size = 16
        · rw [decide_eq_true m1]
          go_wp2_with fail
          refine (tMark_any x.2 _).mono ?_
          rintro e w1 ⟨rfl, rfl⟩
          by_cases m2 : x.2.size = 16
          · rw [decide_eq_true m2]
            cases k with
            | zero =>
              have HG1 := Lib.hid (show goodItems L (0 + 1) = true by rw [goodItems_next, HG.out, Bool.true_and]; unfold goodItem; rw [HXK.out]; simp [m1, m2])
              clear m1 m2
              go_wp2
              go_quiet (fail)
              go_wp2
              go_roundw
              case rel => exact ⟨0 + 1, by omega, by go_num, HG1.out, below_drew HB1.out _⟩
              case measure => simp [intOf]; omega
            | succ j =>
              obtain ⟨a', ha', _, f0, _⟩ := HM.out.at_ (show j < L.length by omega)
              cases ha'
              have g0 : w1.cell? (a.add (j * 2)) = some (.string (itAt L j).1) := (HB1.out.cell (by rw [block_add]; exact hal')).trans f0
              generalize hyk : itAt L j = y at g0
              have HYK := Lib.hid hyk
              clear hyk f0
              have hlq : (((j + 1 : Nat) : Int)) = (j : Int) + 1 := by omega
              have s1 : IntKind.i64.wrap (((j + 1 : Nat) : Int) - 1) = (j : Int) := by rw [hlq, show (j : Int) + 1 - 1 = (j : Int) by omega]; exact IntWalk.i64_in _ (by omega)
              have s2 : (0 : Int) < ((j + 1 : Nat) : Int) := by omega
              have s3 : (j : Int) < (L.length : Int) := by omega
              have hcase : (Op.bytesLess y.1.toList x.1.toList = true ∧ goodItem L (j + 1) = true) ∨ (Op.bytesLess y.1.toList x.1.toList = false ∧ goodItem L (j + 1) = false) := by
                unfold goodItem
                rw [HXK.out, show j + 1 - 1 = j from rfl, HYK.out]
                exact ge_cases m1 m2
              clear m1 m2 hlq
              rcases hcase with ⟨b1, hgi⟩ | ⟨b1, hgi⟩
              · have HG1 := Lib.hid (show goodItems L (j + 1 + 1) = true by rw [goodItems_next, HG.out, Bool.true_and, hgi])
                clear hgi
                go_wp2
                go_quiet (fail)
                go_wp2
                go_roundw
                case rel => exact ⟨j + 1 + 1, by omega, by go_num, HG1.out, below_drew HB1.out _⟩
                case measure => simp [intOf]; omega
              · have HF := Lib.hid (show rightItems L = false by unfold rightItems; rw [goodItems_false hgi hlt]; rfl)
                clear hgi
                go_wp2
                go_quiet (fail)
                go_wp2
                go_ret
                exact ⟨by rw [HF.out]; rfl, below_drew HB1.out _⟩
          · have HF := Lib.hid (show rightItems L = false by unfold rightItems; rw [goodItems_false (k := k) (by unfold goodItem; rw [HXK.out, decide_eq_false m2]; simp) hlt]; rfl)
            rw [decide_eq_false m2]
            clear m1 m2
            go_wp2
            go_ret
            exact ⟨by rw [HF.out]; rfl, HB1.out⟩
        · have HF := Lib.hid (show rightItems L = false by unfold rightItems; rw [goodItems_false (k := k) (by unfold goodItem; rw [HXK.out, decide_eq_false m1]; simp) hlt]; rfl)
          rw [decide_eq_false m1]
          clear m1
          go_wp2
          go_ret
          exact ⟨by rw [HF.out]; rfl, HB1.out⟩
      · have hkn : k = L.length := by omega
        have HF := Lib.hid (show rightItems L = true by
          unfold rightItems
          rw [← hkn, HG.out, Bool.true_and, decide_eq_true_eq, hkn]; exact HLE.out)
        clear hkn
        go_wp2
        go_ret
        exact ⟨by rw [HF.out]; rfl, HB.out⟩
end Go.Proofs.YtgjmbokfenpefaaGreatDoor
