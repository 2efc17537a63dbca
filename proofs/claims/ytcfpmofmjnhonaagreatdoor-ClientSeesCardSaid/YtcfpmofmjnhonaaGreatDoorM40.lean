/- Parts of the proof, one behind the other: ClientLaw. -/
import Derived.Test.YtcfpmofmjnhonaaGreatDoorM30
import Derived.Test.YtcfpmofmjnhonaaGreatDoorM39
/- ClientSees, the walk, over whatever contracts the program's client keeps. -/
namespace Go.Proofs.YtcfpmofmjnhonaaGreatDoor
open Go.RowKit

theorem t16_size : (⟨#[48, 49, 50, 51, 52, 53, 54, 55, 56, 57, 97, 98, 99, 100, 101, 102]⟩ : ByteArray).size = 16 := rfl
theorem field0_answ (v0 v1 v2 v3 v4 v5 v6 v7 v8 v9 v10 : Value) (u : World) : (Instr.field 65 (.agg #[v0, v1, v2, v3, v4, v5, v6, v7, v8, v9, v10]) 0).run Tryz.prog u = .ok (.agg #[v0, v1, v2, v3, v4, v5]) u := by kernel_rfl
theorem newFacts6 {w w2 : World} {t : TypeId} (hb : Below (w.alloc (.cells #[.int .i64 0, .string ⟨#[]⟩, .string ⟨#[]⟩, .int .i64 0, .slice none 0 0, .slice none 0 0] t)).drew.heap.size (w.alloc (.cells #[.int .i64 0, .string ⟨#[]⟩, .string ⟨#[]⟩, .int .i64 0, .slice none 0 0, .slice none 0 0] t)).drew w2) :
    w2.cell? ⟨w.heap.size, 0, none⟩ = some (.int .i64 0) ∧ w2.cell? ⟨w.heap.size, 1, none⟩ = some (.string ⟨#[]⟩) ∧ w2.cell? ⟨w.heap.size, 2, none⟩ = some (.string ⟨#[]⟩) ∧ w2.cell? ⟨w.heap.size, 3, none⟩ = some (.int .i64 0) ∧ w2.cell? ⟨w.heap.size, 4, none⟩ = some (.slice none 0 0) ∧ w2.cell? ⟨w.heap.size, 5, none⟩ = some (.slice none 0 0) ∧
    w2.frozen? ⟨w.heap.size, 0, none⟩ = false ∧ w2.frozen? ⟨w.heap.size, 1, none⟩ = false ∧ w2.frozen? ⟨w.heap.size, 2, none⟩ = false ∧ w2.frozen? ⟨w.heap.size, 3, none⟩ = false ∧ w2.frozen? ⟨w.heap.size, 4, none⟩ = false ∧ w2.frozen? ⟨w.heap.size, 5, none⟩ = false := by
  have h := (Holds.new w 6 (sgF noHd 0 (.slice none 0 0) (.slice none 0 0)) t).drew.below hb (by show w.heap.size < (w.alloc _).heap.size; simp)
  exact ⟨h.cell 0 (by omega), h.cell 1 (by omega), h.cell 2 (by omega), h.cell 3 (by omega), h.cell 4 (by omega), h.cell 5 (by omega), h.free 0, h.free 1, h.free 2, h.free 3, h.free 4, h.free 5⟩
theorem six_below {B : Nat} {u w : World} {b : Nat} {v0 v1 v2 v3 v4 v5 : Value} (h : Below B u w) (hb : B ≤ b) : Below B u ((((((w.setCell ⟨b, 0, none⟩ v0).setCell ⟨b, 1, none⟩ v1).setCell ⟨b, 2, none⟩ v2).setCell ⟨b, 3, none⟩ v3).setCell ⟨b, 4, none⟩ v4).setCell ⟨b, 5, none⟩ v5) :=
  (((((h.setCell (p := ⟨b, 0, none⟩) hb _).setCell (p := ⟨b, 1, none⟩) hb _).setCell (p := ⟨b, 2, none⟩) hb _).setCell (p := ⟨b, 3, none⟩) hb _).setCell (p := ⟨b, 4, none⟩) hb _).setCell (p := ⟨b, 5, none⟩) hb _
theorem sg_cellsC {w : World} {b : Nat} {h : Hd} {key : Int} {u v : Value} {t : TypeId} (hh : Holds w b 6 (sgF h key u v) t) :
    w.cell? ⟨b, 0, none⟩ = some (.int .i64 h.epoch) ∧ w.cell? ⟨b, 1, none⟩ = some (.string h.root) ∧ w.cell? ⟨b, 2, none⟩ = some (.string h.prev) ∧ w.cell? ⟨b, 3, none⟩ = some (.int .i64 key) ∧ w.cell? ⟨b, 4, none⟩ = some u ∧ w.cell? ⟨b, 5, none⟩ = some v :=
  ⟨hh.cell 0 (by omega), hh.cell 1 (by omega), hh.cell 2 (by omega), hh.cell 3 (by omega), hh.cell 4 (by omega), hh.cell 5 (by omega)⟩
/-- A signed head, spoilt, and where it lies. -/
structure SpoiltIn (w' : World) (N : Nat) (w : World) (mm : SgM) (s2 : Sgn) (A2 B2 : Option Addr) (s : Sgn) : Prop where
  is : s2 = s
  sig : Strs w' A2 s2.sig
  path : Strs w' B2 s2.path
  nearA : A2 = mm.A ∧ s2.sig.length = mm.s.sig.length ∨ ∀ b, A2 = some b → N ≤ b.block
  nearB : B2 = mm.B ∧ s2.path = mm.s.path
  below : Below w.heap.size w w'
/-- The same, stored in a box of its own. -/
structure SpoiltBox (wt : World) (sb : Nat) (w : World) (mm : SgM) (s2 : Sgn) (A2 B2 : Option Addr) (ca2 cb2 : Nat) (s : Sgn) : Prop where
  box : Holds wt sb 6 (sgF s2.head s2.key (.slice A2 s2.sig.length ca2) (.slice B2 s2.path.length cb2)) 54
  ge : w.heap.size ≤ sb
  is : s2 = s
  sig : Strs wt A2 s2.sig
  path : Strs wt B2 s2.path
  nearA : A2 = mm.A ∧ s2.sig.length = mm.s.sig.length ∨ ∀ b, A2 = some b → w.heap.size ≤ b.block
  nearB : B2 = mm.B ∧ s2.path = mm.s.path
  below : Below w.heap.size w wt
theorem SpoiltIn.later {w6 w : World} {mm : SgM} {s2 s : Sgn} {A2 B2 : Option Addr} {ca2 cb2 : Nat} (h : SpoiltIn w6 w.heap.size w mm s2 A2 B2 s) :
    SpoiltBox (w6.alloc (.cells #[.int .i64 s2.head.epoch, .string s2.head.root, .string s2.head.prev, .int .i64 s2.key, .slice A2 s2.sig.length ca2, .slice B2 s2.path.length cb2] 54)) w6.heap.size w mm s2 A2 B2 ca2 cb2 s :=
  ⟨Holds.new w6 6 (sgF s2.head s2.key (.slice A2 s2.sig.length ca2) (.slice B2 s2.path.length cb2)) 54, h.below.size, h.is, h.sig.below (alloc_below _ _), h.path.below (alloc_below _ _), h.nearA, h.nearB, h.below.alloc h.below.size _⟩
theorem SpoiltIn.stored {w6 w : World} {mm : SgM} {s2 s : Sgn} {A2 B2 : Option Addr} {ca2 cb2 : Nat} {f : Nat → Value} (h : SpoiltIn w6 (w.heap.size + 1) w mm s2 A2 B2 s) (hh : Holds w6 w.heap.size 6 f 54)
    (ha : ∀ a, mm.A = some a → 0 < mm.s.sig.length → a.block < w.heap.size) (hb : ∀ a, mm.B = some a → 0 < mm.s.path.length → a.block < w.heap.size) :
    SpoiltBox ((((((w6.setCell ⟨w.heap.size, 0, none⟩ (.int .i64 s2.head.epoch)).setCell ⟨w.heap.size, 1, none⟩ (.string s2.head.root)).setCell ⟨w.heap.size, 2, none⟩ (.string s2.head.prev)).setCell ⟨w.heap.size, 3, none⟩ (.int .i64 s2.key)).setCell ⟨w.heap.size, 4, none⟩ (.slice A2 s2.sig.length ca2)).setCell ⟨w.heap.size, 5, none⟩ (.slice B2 s2.path.length cb2)) w.heap.size w mm s2 A2 B2 ca2 cb2 s := by
  have hA : ∀ b, A2 = some b → 0 < s2.sig.length → b.block ≠ w.heap.size := fun b e l => by
    rcases h.nearA with ⟨h1, h2⟩ | h1
    · have := ha b (h1 ▸ e) (h2 ▸ l); omega
    · have := h1 b e; omega
  have hB : ∀ b, B2 = some b → 0 < s2.path.length → b.block ≠ w.heap.size := fun b e l => by
    have := hb b (h.nearB.1 ▸ e) (h.nearB.2 ▸ l); omega
  exact ⟨put6_holds hh s2.head s2.key (.slice A2 s2.sig.length ca2) (.slice B2 s2.path.length cb2), Nat.le_refl _, h.is, ((((((h.sig.box hA _ _).box hA _ _).box hA _ _).box hA _ _).box hA _ _).box hA _ _), ((((((h.path.box hB _ _).box hB _ _).box hB _ _).box hB _ _).box hB _ _).box hB _ _),
    h.nearA.imp id (fun g b e => by have := g b e; omega), h.nearB, six_below h.below (Nat.le_refl _)⟩
/-- Worlds in which a signed head lies. -/
structure SgZ (b : Nat) (s : Sgn) (A : Option Addr) (ca : Nat) (B : Option Addr) (cb : Nat) where
  at' : World
  h0 : at'.cell? ⟨b, 0, none⟩ = some (.int .i64 s.head.epoch)
  h1 : at'.cell? ⟨b, 1, none⟩ = some (.string s.head.root)
  h2 : at'.cell? ⟨b, 2, none⟩ = some (.string s.head.prev)
  h3 : at'.cell? ⟨b, 3, none⟩ = some (.int .i64 s.key)
  h4 : at'.cell? ⟨b, 4, none⟩ = some (.slice A s.sig.length ca)
  h5 : at'.cell? ⟨b, 5, none⟩ = some (.slice B s.path.length cb)
theorem Holds.beside {F : Nat → Prop} {w w' : World} {b n : Nat} {f : Nat → Value} {t : TypeId} (h : Holds w b n f t) (ho : Off F w w') (hn : ¬ F b) : Holds w' b n f t := by
  have hl := h.lt
  unfold Holds at h ⊢
  rw [ho.block b hl hn]; exact h
def SpoiltAt (e : Ending) (w' : World) (N : Nat) (w : World) (mm : SgM) (s : Sgn) : Prop := ∃ (s2 : Sgn) (A2 : Option Addr) (ca2 : Nat) (B2 : Option Addr) (cb2 : Nat) (v6 v7 v8 v9 v10 : Value), e = .returned (.agg #[.int .i64 s2.head.epoch, .string s2.head.root, .string s2.head.prev, .int .i64 s2.key, .slice A2 s2.sig.length ca2, .slice B2 s2.path.length cb2, v6, v7, v8, v9, v10]) ∧
  s2 = s ∧ Strs w' A2 s2.sig ∧ Strs w' B2 s2.path ∧ (A2 = mm.A ∧ s2.sig.length = mm.s.sig.length ∨ ∀ b, A2 = some b → N ≤ b.block) ∧ (B2 = mm.B ∧ s2.path = mm.s.path) ∧ Below w.heap.size w w'
set_option maxHeartbeats 8000000 in
set_option maxRecDepth 100000 in
theorem clientSees_any (FC : ClientFace) (L M : List Hd) (D : List Dd) (A B C : Option Addr) (ca cb cc : Nat) (w : World) (hk : HasK w) (ha : Hds w A L) (hb : Hds w B M) (hd : Dds w C D) (hg : w.cell? ⟨0, 0, none⟩ = some (.iface 290 (.agg #[hand 33]))) :
    Calls Tryz.prog 6 #[.slice A L.length ca, .slice B M.length cb, .slice C D.length cc] w fun e w' => e = .returned (.bool true) ∧ Below w.heap.size w w' := by
  have HLT := Lib.hid (show (0 : Nat) < w.heap.size from block_lt_of_cell hg)
  have HK := Lib.hid hk
  have HA := Lib.hid ha
  have HBM := Lib.hid hb
  have HD := Lib.hid hd
  have HG := Lib.hid hg
  have HAL := Lib.hid ha.lt
  have HBL := Lib.hid hb.lt
  have HDL := Lib.hid hd.lt
  clear hk ha hb hd hg
  go_enter Tryz.func6, Tryz.ntmps6
  go_wp2_with fail
  refine (acts_any L A ca _ HA.out).mono ?_
  rintro e w0 ⟨b, rfl, rfl, h1⟩
  cases b
  case false =>
    go_wp2
    go_ret
    exact ⟨rfl, Below.refl _ _⟩
  have HL := Lib.hid (h1 rfl)
  clear h1
  go_wp2_with fail
  refine (acts_any M B cb _ HBM.out).mono ?_
  rintro e w1 ⟨b, rfl, rfl, h1⟩
  cases b
  case false =>
    go_wp2
    go_ret
    exact ⟨rfl, Below.refl _ _⟩
  have HM := Lib.hid (h1 rfl)
  clear h1
  by_cases hdl : 12 < D.length
  · go_wp2
    go_ret
    exact ⟨rfl, Below.refl _ _⟩
  have HDN := Lib.hid (show D.length ≤ 12 by omega)
  go_wp2_with fail
  clear hdl
  refine (new_any _).mono ?_
  rintro e w2 ⟨r, rfl, hrb, hb2, hh2⟩
  have HB2 := Lib.hid hb2
  have HR2 := Lib.hid hh2
  clear hb2 hh2 hrb
  go_wp2_with fail
  refine (refNewDir_t r _ _ HR2.out t16_size).mono ?_
  rintro e w3 ⟨pa, Fa, rfl, hb3, hda, hfa⟩
  have HB3 := Lib.hid hb3
  have HDA := Lib.hid hda
  have HFA := Lib.hid hfa
  have HR3 := Lib.hid (HR2.out.below hb3 HR2.out.lt)
  clear hb3 hda hfa
  go_wp2_with fail
  refine (refNewDir_t r _ _ HR3.out t16_size).mono ?_
  rintro e w4 ⟨pb, Fb, rfl, hb4, hdb, hfb⟩
  have HB4 := Lib.hid (HB3.out.trans (hb4.mono HB3.out.size))
  have HDA4 := Lib.hid (HDA.out.below hb4)
  have HDB4 := Lib.hid hdb
  have HFB := Lib.hid (show ∀ k, Fb k → w2.heap.size ≤ k from fun k hk => Nat.le_trans HB3.out.size (hfb k hk))
  have HAB := Lib.hid (show ∀ k, Fb k → ¬ Fa k from fun k h1 h2 => by have := hfb k h1; have := HDA.out.lt k h2; omega)
  have HR4 := Lib.hid (HR3.out.below hb4 HR3.out.lt)
  clear hb4 hdb hfb HDA HR3
  go_wp2_with fail
  refine (plays_any Fa pa r (newDst _) L A ca _ HDA4.out (newDst_ok t16_size) HR4.out (fun e => by have := HFA.out _ e; have := HR2.out.lt; omega) (HA.out.below (HB2.out.trans (HB4.out.mono HB2.out.size))) (fun a e hl hF => by have := HFA.out _ hF; have := HAL.out a e hl; have := HB2.out.size; omega) HL.out.1 HL.out.2).mono ?_
  rintro e w5 ⟨Fa5, rfl, ho5, hg5, hda5⟩
  have HB5 := Lib.hid (show Below w2.heap.size w2 w5 from HB4.out.trans (ho5.below HFA.out HB4.out.size))
  have HDA5 := Lib.hid hda5
  have HFA5 := Lib.hid (hg5.base HFA.out HB4.out.size)
  have HDB5 := Lib.hid (HDB4.out.same (ho5.same HDB4.out.lt HAB.out))
  have HAB5 := Lib.hid (hg5.apart HDB4.out.lt HAB.out)
  have HR5 := Lib.hid (show Holds w5 r 72 refCells 121 from HR2.out.below HB5.out HR2.out.lt)
  clear ho5 hg5 hda5 HDA4 HDB4 HR4 HAB
  go_wp2_with fail
  refine (plays_any Fb pb r (newDst _) M B cb _ HDB5.out (newDst_ok t16_size) HR5.out (fun e => by have := HFB.out _ e; have := HR2.out.lt; omega) (HBM.out.below (HB2.out.trans (HB5.out.mono HB2.out.size))) (fun a e hl hF => by have := HFB.out _ hF; have := HBL.out a e hl; have := HB2.out.size; omega) HM.out.1 HM.out.2).mono ?_
  rintro e w6 ⟨Fb6, rfl, ho6, hg6, hdb6⟩
  have HB6 := Lib.hid (show Below w2.heap.size w2 w6 from HB5.out.trans (ho6.below HFB.out HB5.out.size))
  have HDB6 := Lib.hid hdb6
  have HFB6 := Lib.hid (hg6.base HFB.out HB5.out.size)
  have HDA6 := Lib.hid (HDA5.out.same (ho6.same HDA5.out.lt (fun k h1 h2 => HAB5.out k h2 h1)))
  have HR6 := Lib.hid (show Holds w6 r 72 refCells 121 from HR2.out.below HB6.out HR2.out.lt)
  clear ho6 hg6 hdb6 HDA5 HDB5 HR5 HAB5
  obtain ⟨da, hda⟩ : ∃ da, playD (newDst ⟨#[48, 49, 50, 51, 52, 53, 54, 55, 56, 57, 97, 98, 99, 100, 101, 102]⟩) L = da := ⟨_, rfl⟩
  obtain ⟨db, hdb⟩ : ∃ db, playD (newDst ⟨#[48, 49, 50, 51, 52, 53, 54, 55, 56, 57, 97, 98, 99, 100, 101, 102]⟩) M = db := ⟨_, rfl⟩
  have HOKA := Lib.hid (show DOk da ∧ EpsDim da from by rw [← hda]; exact ⟨playD_ok (newDst_ok t16_size) L, playD_dim (fun s hs => by cases hs) L⟩)
  have HOKB := Lib.hid (show DOk db ∧ EpsDim db from by rw [← hdb]; exact ⟨playD_ok (newDst_ok t16_size) M, playD_dim (fun s hs => by cases hs) M⟩)
  rw [hda] at HDA6
  rw [hdb] at HDB6
  clear hda hdb
  have HOPA := Lib.hid (show ∃ bb, w6.cell? ⟨pa, 2, none⟩ = some (.pointer (some ⟨bb, 0, none⟩)) ∧ BoxIs w6 bb (dirSeed da.secret) from by
    obtain ⟨bb, g, m1, m2, m3, v, N, hh⟩ := HDA6.out
    exact ⟨bb, hh.own.cell 2 (by omega), hh.box.is⟩)
  obtain ⟨bb, c2, hbx⟩ := HOPA.out
  have HBX := Lib.hid hbx
  have hpal : pa < w6.heap.size := block_lt_of_cell c2
  have HC2 := Lib.hid c2
  clear hbx HOPA
  have HPS := Lib.hid (show (boxPub (dirSeed da.secret)).size = 16 from rowsOf_size _ _ (by omega))
  go_wp2_with fail
  refine (refPublic_any bb (dirSeed da.secret) _ HBX.out).mono ?_
  rintro e w7 ⟨rfl, rfl⟩
  go_wp2_with fail
  refine (refNewClient_t r (boxPub (dirSeed da.secret)) _ HPS.out).mono ?_
  rintro e w8 ⟨pw, rfl, hb8, hcl, hpw⟩
  have HB8 := Lib.hid (HB6.out.trans (hb8.mono HB6.out.size))
  have HDA8 := Lib.hid (HDA6.out.below hb8)
  have HDB8 := Lib.hid (HDB6.out.below hb8)
  have HCL8 := Lib.hid hcl
  have HPW := Lib.hid hpw
  have HBX8 := Lib.hid (HBX.out.below hb8)
  have HAWL := Lib.hid (show (∀ k, Fa5 k → k < w7.heap.size) ∧ ∀ k, Fb6 k → k < w7.heap.size from ⟨HDA6.out.lt, HDB6.out.lt⟩)
  have c2 : w8.cell? ⟨pa, 2, none⟩ = some (.pointer (some ⟨bb, 0, none⟩)) := (hb8.cell (p := ⟨pa, 2, none⟩) hpal).trans HC2.out
  clear hb8 hcl hpw HDA6 HDB6 HBX HC2
  go_wp2_with fail
  refine (refPublic_any bb (dirSeed da.secret) _ HBX8.out).mono ?_
  rintro e w9 ⟨rfl, rfl⟩
  go_wp2_with fail
  clear c2
  refine (FC.new (boxPub (dirSeed da.secret)) _ HPS.out (HK.out.below (HB2.out.trans (HB8.out.mono HB2.out.size)) HK.out.lt)).mono ?_
  rintro e wA ⟨pc, Fc, rfl, hbA, hcA, hfcA⟩
  have HCS := Lib.hid (show Cs FC w2 wA pa pb pw pc r Fa5 Fb6 (fun k => k = pw) Fc da db ⟨boxPub (dirSeed da.secret), []⟩ ⟨boxPub (dirSeed da.secret), []⟩ from
    ⟨HB8.out.trans (hbA.mono HB8.out.size), HDA8.out.below hbA, HDB8.out.below hbA, HCL8.out.below hbA, hcA, (fun k e => by subst e; exact Nat.le_trans HB6.out.size HPW.out), (fun k hk => Nat.le_trans HB8.out.size (hfcA k hk)),
      (fun k h1 h2 => by have := HAWL.out.1 k h1; have := HPW.out; omega), (fun k h1 h2 => by have := HDA8.out.lt k h1; have := hfcA k h2; omega), (fun k h1 h2 => by have := HAWL.out.2 k h1; have := HPW.out; omega), (fun k h1 h2 => by have := HDB8.out.lt k h1; have := hfcA k h2; omega),
      (fun k h1 h2 => by have := HCL8.out.lt k h2; have := hfcA k h1; omega)⟩)
  have HE0 := Lib.hid (show errOf 0 = Value.nilIface from rfl)
  clear hbA hcA hfcA HDA8 HDB8 HCL8 HBX8 HAWL HPW HR6
  have HGA := Lib.hid (show ∀ u : World, Below w2.heap.size w2 u → u.cell? ⟨0, 0, none⟩ = some (.iface 290 (.agg #[hand 33])) from fun u hu => ((HB2.out.trans (hu.mono HB2.out.size)).cell HLT.out).trans HG.out)
  have HBARE := Lib.hid (show Calls Tryz.prog 14 #[.nilIface, .int .i64 0] wA fun e w' => e = .returned (.bool true) ∧ Below wA.heap.size wA w' from by
    have h := bare_same 0 wA (HGA.out wA HCS.out.below)
    rwa [HE0.out] at h)
  go_wp2_with fail
  refine HBARE.out.mono ?_
  rintro e wB ⟨rfl, hbB⟩
  have HCB := Lib.hid (HCS.out.calm hbB)
  clear hbB HCS HBARE HB3 HB4 HB5 HB6 HB8
  go_wp2
  go_loopw [16] (fun i wr => ∃ k : Nat, k ≤ D.length ∧ i = .int .i64 (k : Int) ∧ Hid (∃ Fw Fc' cst, Cs FC w2 wr pa pb pw pc r Fa5 Fb6 Fw Fc' da db cst cst ∧ cst.heads.length ≤ k)) (fun i _ => D.length - (intOf i).toNat)
  case atStart => exact ⟨0, by omega, rfl, Lib.hid ⟨_, _, _, HCB.out, Nat.le_refl 0⟩⟩
  case round =>
    obtain ⟨k, hkd, rfl, HU⟩ := hrel
    obtain ⟨Fw, Fc', cst, hcs, hlen⟩ := HU.out
    have HCS := Lib.hid hcs
    have HLEN := Lib.hid hlen
    clear hcs hlen HU
    by_cases hlt : k < D.length
    · have HDK := Lib.hid (show Dds wr C D from HD.out.below (HB2.out.trans (HCS.out.below.mono HB2.out.size)) HDL.out)
      obtain ⟨a, rfl, hal, c0, c1, c2, c3, c4⟩ := HDK.out.at_ hlt
      have d1 : wr.cell? ⟨(a.add (k * 5)).block, (a.add (k * 5)).off + 1, none⟩ = some (.int .i64 (ddAt D k).epoch) := c1
      have d2 : wr.cell? ⟨(a.add (k * 5)).block, (a.add (k * 5)).off + 2, none⟩ = some (.int .i64 (ddAt D k).spoil) := c2
      have d3 : wr.cell? ⟨(a.add (k * 5)).block, (a.add (k * 5)).off + 3, none⟩ = some (.bool (ddAt D k).other) := c3
      have d4 : wr.cell? ⟨(a.add (k * 5)).block, (a.add (k * 5)).off + 4, none⟩ = some (.string (ddAt D k).name) := c4
      generalize ddAt D k = x at c0 d1 d2 d3 d4
      clear c1 c2 c3 c4
      have hk0 : (0 : Int) ≤ (k : Int) := by omega
      have hk1 : (k : Int) < (D.length : Int) := by omega
      have HX := Lib.hid (show Holds (wr.alloc (.cells #[.int .i64 x.what, .int .i64 x.epoch, .int .i64 x.spoil, .bool x.other, .string x.name] 102)) wr.heap.size 5 (ddF x) 102 from Holds.new wr 5 (ddF x) 102)
      have HCX := Lib.hid (HCS.out.calm (alloc_below wr (.cells #[.int .i64 x.what, .int .i64 x.epoch, .int .i64 x.spoil, .bool x.other, .string x.name] 102)))
      have HQR := Lib.hid (show ∀ k, (Fa5 k ∨ Fb6 k ∨ Fw k ∨ Fc' k) → k < wr.heap.size from fun k hk => by
        rcases hk with e | e | e | e
        · exact HCS.out.da.lt k e
        · exact HCS.out.db.lt k e
        · exact HCS.out.rc.lt k e
        · exact FC.lt HCS.out.pc k e)
      go_wp2_with fail
      clear c0 d1 d2 d3 d4
      generalize wr.alloc (.cells #[.int .i64 x.what, .int .i64 x.epoch, .int .i64 x.spoil, .bool x.other, .string x.name] 102) = wx at HX HCX
      refine (long_any x.name _).mono ?_
      rintro e wy ⟨rfl, rfl⟩
      by_cases m1 : 60 < x.name.size
      · rw [decide_eq_true m1]
        clear m1
        go_wp2
        go_ret
        exact ⟨rfl, HB2.out.trans (HCX.out.below.mono HB2.out.size)⟩
      rw [decide_eq_false m1]
      have HNM := Lib.hid (show x.name.size ≤ 60 by omega)
      clear m1
      have HRX := Lib.hid (show Holds wy r 72 refCells 121 from HR2.out.below HCX.out.below HR2.out.lt)
      have x0 : wy.cell? ⟨wr.heap.size, 0, none⟩ = some (.int .i64 x.what) := HX.out.cell 0 (by omega)
      have x1 : wy.cell? ⟨wr.heap.size, 1, none⟩ = some (.int .i64 x.epoch) := HX.out.cell 1 (by omega)
      have x2 : wy.cell? ⟨wr.heap.size, 2, none⟩ = some (.int .i64 x.spoil) := HX.out.cell 2 (by omega)
      have x3 : wy.cell? ⟨wr.heap.size, 3, none⟩ = some (.bool x.other) := HX.out.cell 3 (by omega)
      have x4 : wy.cell? ⟨wr.heap.size, 4, none⟩ = some (.string x.name) := HX.out.cell 4 (by omega)
      cases hoth : x.other
      case false =>
        rw [hoth] at x3
        have HDD := Lib.hid HCX.out.da
        have HDW := Lib.hid (show (∀ k, Fa5 k → ¬ Fw k) ∧ (∀ k, Fa5 k → ¬ Fc' k) ∧ ∀ k, Fa5 k → k < wr.heap.size from ⟨HCX.out.aw, HCX.out.ac, fun k h => HQR.out k (.inl h)⟩)
        have HOK := HOKA
        have HLK := Lib.hid (show ∃ an n2, lookupAns da x.name = (an, n2) from ⟨_, _, rfl⟩)
        by_cases hw : x.what = 1
        · rw [hw] at x0
          clear hw hoth
          go_wp2_with fail
          obtain ⟨an, n2, hlk⟩ := HLK.out
          refine (refLookup_is _ _ r _ x.name an n2 _ HDD.out HRX.out (by have := HOK.out.1.secret; omega) (by have := HOK.out.1.vals_len; omega) HOK.out.1.few (by have := HNM.out; omega) hlk).mono ?_
          rintro e w4 ⟨m, rfl, hin, hat, hb4⟩
          have HDM := Lib.hid (show AnsDim an from by have := found_dim HOK.out.1 HOK.out.2 x.name; rwa [hlk] at this)
          obtain ⟨⟨s, A1, ca1, B1, cb1⟩, C1, cc1, a1⟩ := m
          obtain rfl : a1 = an := hin.is
          obtain rfl : s = a1.sgn := hin.sgn
          have HA4 := Lib.hid hin.sig
          have HB4' := Lib.hid hin.path
          have HW4 := Lib.hid hin.way
          have HCAP := Lib.hid hin.cap
          have HAT := Lib.hid hat
          have HC4 := Lib.hid (HCX.out.calm hb4)
          have HX4 := Lib.hid (HX.out.below hb4 HX.out.lt)
          have H4S := Lib.hid (show wr.heap.size < wy.heap.size ∧ wy.heap.size ≤ w4.heap.size from ⟨HX.out.lt, hb4.size⟩)
          have HY5 := Lib.hid (show Holds (w4.alloc (.cells #[.int .i64 a1.sgn.head.epoch, .string a1.sgn.head.root, .string a1.sgn.head.prev, .int .i64 a1.sgn.key, .slice A1 a1.sgn.sig.length ca1, .slice B1 a1.sgn.path.length cb1, .slice C1 a1.path.length cc1, .string a1.leaf.1, .string a1.leaf.2, .string a1.opening, .string a1.value] 65)) w4.heap.size 11 (anF ⟨a1.sgn, A1, ca1, B1, cb1⟩ C1 a1.path.length cc1 a1.leaf a1.opening a1.value) 65 from Holds.new w4 11 (anF ⟨a1.sgn, A1, ca1, B1, cb1⟩ C1 a1.path.length cc1 a1.leaf a1.opening a1.value) 65)
          have HX5 := Lib.hid (HX4.out.below (alloc_below w4 (.cells #[.int .i64 a1.sgn.head.epoch, .string a1.sgn.head.root, .string a1.sgn.head.prev, .int .i64 a1.sgn.key, .slice A1 a1.sgn.sig.length ca1, .slice B1 a1.sgn.path.length cb1, .slice C1 a1.path.length cc1, .string a1.leaf.1, .string a1.leaf.2, .string a1.opening, .string a1.value] 65)) HX4.out.lt)
          have HC5 := Lib.hid (HC4.out.calm (alloc_below w4 (.cells #[.int .i64 a1.sgn.head.epoch, .string a1.sgn.head.root, .string a1.sgn.head.prev, .int .i64 a1.sgn.key, .slice A1 a1.sgn.sig.length ca1, .slice B1 a1.sgn.path.length cb1, .slice C1 a1.path.length cc1, .string a1.leaf.1, .string a1.leaf.2, .string a1.opening, .string a1.value] 65)))
          have HA5 := Lib.hid (HA4.out.below (alloc_below w4 (.cells #[.int .i64 a1.sgn.head.epoch, .string a1.sgn.head.root, .string a1.sgn.head.prev, .int .i64 a1.sgn.key, .slice A1 a1.sgn.sig.length ca1, .slice B1 a1.sgn.path.length cb1, .slice C1 a1.path.length cc1, .string a1.leaf.1, .string a1.leaf.2, .string a1.opening, .string a1.value] 65)))
          have HB5 := Lib.hid (HB4'.out.below (alloc_below w4 (.cells #[.int .i64 a1.sgn.head.epoch, .string a1.sgn.head.root, .string a1.sgn.head.prev, .int .i64 a1.sgn.key, .slice A1 a1.sgn.sig.length ca1, .slice B1 a1.sgn.path.length cb1, .slice C1 a1.path.length cc1, .string a1.leaf.1, .string a1.leaf.2, .string a1.opening, .string a1.value] 65)))
          have HW5 := Lib.hid (HW4.out.below (alloc_below w4 (.cells #[.int .i64 a1.sgn.head.epoch, .string a1.sgn.head.root, .string a1.sgn.head.prev, .int .i64 a1.sgn.key, .slice A1 a1.sgn.sig.length ca1, .slice B1 a1.sgn.path.length cb1, .slice C1 a1.path.length cc1, .string a1.leaf.1, .string a1.leaf.2, .string a1.opening, .string a1.value] 65)))
          clear x0 x1 x2 x3 x4 hb4 hin hat
          simp only [AnM.cells]
          by_cases hn2 : n2 = 0
          · subst hn2
            obtain ⟨d0, d1, d2, d3, d4, d5, d6, d7, d8, d9, d10⟩ := an_cells HY5.out
            have x2 : (w4.alloc (.cells #[.int .i64 a1.sgn.head.epoch, .string a1.sgn.head.root, .string a1.sgn.head.prev, .int .i64 a1.sgn.key, .slice A1 a1.sgn.sig.length ca1, .slice B1 a1.sgn.path.length cb1, .slice C1 a1.path.length cc1, .string a1.leaf.1, .string a1.leaf.2, .string a1.opening, .string a1.value] 65)).cell? ⟨wr.heap.size, 2, none⟩ = some (.int .i64 x.spoil) := HX5.out.cell 2 (by omega)
            have HZ5 := Lib.hid (show w4.heap.size < (w4.alloc (.cells #[.int .i64 a1.sgn.head.epoch, .string a1.sgn.head.root, .string a1.sgn.head.prev, .int .i64 a1.sgn.key, .slice A1 a1.sgn.sig.length ca1, .slice B1 a1.sgn.path.length cb1, .slice C1 a1.path.length cc1, .string a1.leaf.1, .string a1.leaf.2, .string a1.opening, .string a1.value] 65)).heap.size by simp)
            have HL5 := Lib.hid (alloc_below w4 (.cells #[.int .i64 a1.sgn.head.epoch, .string a1.sgn.head.root, .string a1.sgn.head.prev, .int .i64 a1.sgn.key, .slice A1 a1.sgn.sig.length ca1, .slice B1 a1.sgn.path.length cb1, .slice C1 a1.path.length cc1, .string a1.leaf.1, .string a1.leaf.2, .string a1.opening, .string a1.value] 65))
            go_wp2_with fail
            clear d0 d1 d2 d3 d4 d5 d6 d7 d8 d9 d10 x2
            generalize w4.alloc (.cells #[.int .i64 a1.sgn.head.epoch, .string a1.sgn.head.root, .string a1.sgn.head.prev, .int .i64 a1.sgn.key, .slice A1 a1.sgn.sig.length ca1, .slice B1 a1.sgn.path.length cb1, .slice C1 a1.path.length cc1, .string a1.leaf.1, .string a1.leaf.2, .string a1.opening, .string a1.value] 65) = w5 at HY5 HX5 HC5 HA5 HB5 HW5 HZ5 HL5
            refine (spoilt_at a1.sgn.head a1.sgn.key a1.sgn.sig a1.sgn.path a1.path a1.leaf a1.opening a1.value A1 B1 C1 ca1 cb1 cc1 x.spoil _ HA5.out HB5.out HW5.out (by have := HDM.out.sgn.sig; omega) (by have := HDM.out.way; omega) (by have := HDM.out.op; omega) (by have := HDM.out.val; omega) (by have := HDM.out.leaf; omega) (by have := HDM.out.sgn.root; omega) HCAP.out (fun p hp => by have := HDM.out.sgn.sz p hp; omega)).mono ?_
            rintro e w6 ⟨m', rfl, hin6, hnear, hb6⟩
            obtain ⟨⟨s', A2, ca2, B2, cb2⟩, C2, cc2, a2'⟩ := m'
            have hin6 : AnIn w6 ⟨⟨s', A2, ca2, B2, cb2⟩, C2, cc2, a2'⟩ (spoiltA a1 x.spoil) := hin6
            have HDM2 := Lib.hid (spoilt_dim HDM.out x.spoil)
            generalize spoiltA a1 x.spoil = a2 at hin6 HDM2
            obtain rfl : a2' = a2 := hin6.is
            obtain rfl : s' = a2'.sgn := hin6.sgn
            have HNR := Lib.hid hnear
            have HY6 := Lib.hid (HY5.out.below hb6 HY5.out.lt)
            have HX6 := Lib.hid (HX5.out.below hb6 HX5.out.lt)
            have HQN := Lib.hid (show wr.heap.size ≠ w4.heap.size from by have := H4S.out; omega)
            obtain ⟨w7, hw7⟩ : ∃ w7, put11 w6 w4.heap.size ⟨a2'.sgn, A2, ca2, B2, cb2⟩ C2 a2'.path.length cc2 a2'.leaf a2'.opening a2'.value = w7 := ⟨_, rfl⟩
            have HY7 := Lib.hid (show Holds w7 w4.heap.size 11 (anF ⟨a2'.sgn, A2, ca2, B2, cb2⟩ C2 a2'.path.length cc2 a2'.leaf a2'.opening a2'.value) 65 from by rw [← hw7]; exact put11_holds HY6.out _ _ _ _ _ _ _)
            have HB7 := Lib.hid (show Below w4.heap.size w4 w7 from by rw [← hw7]; exact put11_below (HL5.out.trans (hb6.mono (Nat.le_of_lt HZ5.out))) (Nat.le_refl _) _ _ _ _ _ _ _)
            have HC7 := Lib.hid (HC4.out.calm HB7.out)
            have HX7 := Lib.hid (HX4.out.below HB7.out HX4.out.lt)
            have HOLD := Lib.hid (show (∀ b, A1 = some b → 0 < a1.sgn.sig.length → b.block < w4.heap.size) ∧ (∀ b, B1 = some b → 0 < a1.sgn.path.length → b.block < w4.heap.size) ∧ (∀ b, C1 = some b → 0 < a1.path.length → b.block < w4.heap.size) from ⟨HA4.out.lt, HB4'.out.lt, HW4.out.lt⟩)
            have HLOC := Lib.hid (show (∀ b, A2 = some b → 0 < a2'.sgn.sig.length → b.block ≠ w4.heap.size ∧ ¬ Fw b.block ∧ ¬ Fc' b.block) ∧ (∀ b, B2 = some b → 0 < a2'.sgn.path.length → b.block ≠ w4.heap.size ∧ ¬ Fw b.block ∧ ¬ Fc' b.block) ∧ (∀ b, C2 = some b → 0 < a2'.path.length → b.block ≠ w4.heap.size ∧ ¬ Fw b.block ∧ ¬ Fc' b.block) from by
              have e0 := HZ5.out
              have e1 := H4S.out
              have new : ∀ n, wy.heap.size ≤ n → ¬ Fw n ∧ ¬ Fc' n := fun n hn => ⟨fun h => by have := HQR.out n (.inr (.inr (.inl h))); omega, fun h => by have := HQR.out n (.inr (.inr (.inr h))); omega⟩
              refine ⟨fun b e hl => ?_, fun b e hl => ?_, fun b e hl => ?_⟩
              · rcases HNR.out.sig with ⟨h1, h2⟩ | h1
                · have h1 : A2 = A1 := h1
                  have h2 : a2'.sgn.sig.length = a1.sgn.sig.length := h2
                  rw [h1] at e
                  have h3 := HAT.out.sig b e (by rw [← h2]; exact hl)
                  have h4 := HOLD.out.1 b e (by rw [← h2]; exact hl)
                  exact ⟨by omega, HDW.out.1 _ h3, HDW.out.2.1 _ h3⟩
                · have h2 := h1 b e
                  exact ⟨by omega, new _ (by omega)⟩
              · obtain ⟨h1, h2⟩ := HNR.out.path
                have h1 : B2 = B1 := h1
                have h2 : a2'.sgn.path = a1.sgn.path := h2
                rw [h1] at e
                rw [h2] at hl
                have h3 := HAT.out.path b e hl
                have h4 := HOLD.out.2.1 b e hl
                exact ⟨by omega, HDW.out.1 _ h3, HDW.out.2.1 _ h3⟩
              · rcases HNR.out.way with ⟨h1, h2⟩ | h1
                · have h1 : C2 = C1 := h1
                  have h2 : a2'.path.length = a1.path.length := h2
                  rw [h1] at e
                  have h3 := HAT.out.way b e (by rw [← h2]; exact hl)
                  have h4 := HOLD.out.2.2 b e (by rw [← h2]; exact hl)
                  exact ⟨by omega, new _ h3⟩
                · have h2 := h1 b e
                  exact ⟨by omega, new _ (by omega)⟩)
            have HI7 := Lib.hid (show AnIn w7 ⟨⟨a2'.sgn, A2, ca2, B2, cb2⟩, C2, cc2, a2'⟩ a2' from by
              rw [← hw7]
              exact ⟨rfl, rfl, put11_box hin6.sig (fun b e l => (HLOC.out.1 b e l).1) _ _ _ _ _ _ _, put11_box hin6.path (fun b e l => (HLOC.out.2.1 b e l).1) _ _ _ _ _ _ _, put11_box hin6.way (fun b e l => (HLOC.out.2.2 b e l).1) _ _ _ _ _ _ _, hin6.cap⟩)
            simp only [AnM.cells]
            obtain ⟨c0, c1, c2, c3, c4, c5, c6, c7, c8, c9, c10⟩ := an_cells HY6.out
            have f0 := HY6.out.free 0
            have f1 := HY6.out.free 1
            have f2 := HY6.out.free 2
            have f3 := HY6.out.free 3
            have f4 := HY6.out.free 4
            have f5 := HY6.out.free 5
            have f6 := HY6.out.free 6
            have f7 := HY6.out.free 7
            have f8 := HY6.out.free 8
            have f9 := HY6.out.free 9
            have f10 := HY6.out.free 10
            obtain ⟨d0, d1, d2, d3, d4, d5, d6, d7, d8, d9, d10⟩ := an_cells HY7.out
            have x4 : w7.cell? ⟨wr.heap.size, 4, none⟩ = some (.string x.name) := HX7.out.cell 4 (by omega)
            clear hin6 hnear hb6 HY5 HX5 HC5 HA5 HB5 HW5 HL5 HX6
            unfold put11 at hw7
            obtain ⟨c', v, t, n, hask⟩ : ∃ c' v t n, askAns cst x.name a2' = (c', v, t, n) := ⟨_, _, _, _, rfl⟩
            have HASK := Lib.hid hask
            have HLN := Lib.hid (show c'.heads.length ≤ k + 1 by have := (askAns_len cst x.name a2').2; rw [hask] at this; have h := HLEN.out; exact Nat.le_trans this (by omega))
            clear hask
            go_wp2_with fail
            clear c0 c1 c2 c3 c4 c5 c6 c7 c8 c9 c10 f0 f1 f2 f3 f4 f5 f6 f7 f8 f9 f10 d0 d1 d2 d3 d4 d5 d6 d7 d8 d9 d10 x4 hw7
            refine (refAsk_at Fw pw r cst c' x.name a2'.sgn.head a2'.sgn.key a2'.sgn.sig a2'.sgn.path a2'.path a2'.leaf a2'.opening a2'.value A2 B2 C2 ca2 cb2 cc2 v t n w7 HC7.out.rc (HR2.out.below HC7.out.below HR2.out.lt) (fun h => by have := HC7.out.bw _ h; have := HR2.out.lt; omega) (by have := HLEN.out; have := HDN.out; omega) (by have := HNM.out; omega) (by have := HDM2.out.sig; omega) (by have := HDM2.out.path; omega) (by have := HDM2.out.way; omega) (by have := HDM2.out.op; omega) (by have := HDM2.out.val; omega) HDM2.out.ep HI7.out.sig HI7.out.path HI7.out.way (fun b e l => (HLOC.out.2.2 b e l).2.1) HASK.out).mono ?_
            rintro e w8 ⟨rfl, Fw2, ho8, hg8, hcl8⟩
            have HC8 := Lib.hid (HC7.out.ref ho8 hg8 hcl8)
            have HI8 := Lib.hid (HI7.out.off ho8 (fun b e l => (HLOC.out.1 b e l).2.1) (fun b e l => (HLOC.out.2.1 b e l).2.1) (fun b e l => (HLOC.out.2.2 b e l).2.1))
            have HY8 := Lib.hid (show Holds w8 w4.heap.size 11 (anF ⟨a2'.sgn, A2, ca2, B2, cb2⟩ C2 a2'.path.length cc2 a2'.leaf a2'.opening a2'.value) 65 from by
              have h1 := HY7.out
              have h2 := h1.lt
              unfold Holds at h1 ⊢
              rw [ho8.block _ h2 (fun h => by have := HQR.out _ (.inr (.inr (.inl h))); have := H4S.out; omega)]; exact h1)
            have HX8 := Lib.hid (show Holds w8 wr.heap.size 5 (ddF x) 102 from by
              have h1 := HX7.out
              have h2 := h1.lt
              unfold Holds at h1 ⊢
              rw [ho8.block _ h2 (fun h => by have := HQR.out _ (.inr (.inr (.inl h))); omega)]; exact h1)
            clear ho8 hg8 hcl8
            obtain ⟨d0, d1, d2, d3, d4, d5, d6, d7, d8, d9, d10⟩ := an_cells HY8.out
            have x4 : w8.cell? ⟨wr.heap.size, 4, none⟩ = some (.string x.name) := HX8.out.cell 4 (by omega)
            go_wp2_with fail
            clear d0 d1 d2 d3 d4 d5 d6 d7 d8 d9 d10 x4
            refine (FC.ask Fc' pc cst c' x.name ⟨⟨a2'.sgn, A2, ca2, B2, cb2⟩, C2, cc2, a2'⟩ a2' v t n w8 HC8.out.pc (HK.out.below (HB2.out.trans (HC8.out.below.mono HB2.out.size)) HK.out.lt) (by have := HLEN.out; have := HDN.out; omega) (by have := HNM.out; omega) HDM2.out HI8.out (fun b e l => (HLOC.out.1 b e l).2.2) (fun b e l => (HLOC.out.2.1 b e l).2.2) (fun b e l => (HLOC.out.2.2 b e l).2.2) HASK.out).mono ?_
            rintro e w9 ⟨rfl, Fc2, ho9, hg9, hp9⟩
            have HC9 := Lib.hid (HC8.out.prog ho9 hg9 hp9)
            have HBR := Lib.hid (bare_same n w9 (HGA.out w9 HC9.out.below))
            clear ho9 hg9 hp9
            go_wp2_with fail
            refine HBR.out.mono ?_
            rintro e w10 ⟨rfl, hb10⟩
            have HC10 := Lib.hid (HC9.out.calm hb10)
            clear hb10
            go_wp2
            go_roundw
            case rel => exact ⟨k + 1, by omega, by go_num, Lib.hid ⟨Fw2, Fc2, c', HC10.out, HLN.out⟩⟩
            case measure => simp [intOf]; omega
          · have e1 : (n2 == 0) = false := by rw [beq_eq_false_iff_ne]; exact hn2
            have e2 : (n2 != 0) = true := by simpa using hn2
            clear hn2
            go_wp2
            go_roundw
            case rel => exact ⟨k + 1, by omega, by go_num, Lib.hid ⟨Fw, Fc', cst, HC5.out, by have := HLEN.out; omega⟩⟩
            case measure => simp [intOf]; omega
        · have e1 : (x.what == 1) = false := by rw [beq_eq_false_iff_ne]; exact hw
          clear hw hoth
          obtain ⟨bb', g', m1', m2', m3', v', N, hh⟩ := HDD.out
          obtain ⟨pv, cv, rfl⟩ := hh.row.any
          have HH := Lib.hid hh
          have c6a := hh.own.cell 6 (by omega)
          have c6 := (show _ = some (Value.slice pv N.length cv) from c6a)
          clear hh c6a
          by_cases he1 : x.epoch < 1
          · go_wp2
            go_quiet (fail)
            go_wp2
            go_roundw
            case rel => exact ⟨k + 1, by omega, by go_num, Lib.hid ⟨Fw, Fc', cst, HCX.out.calm (below_drewP (Below.refl _ _) _), by have := HLEN.out; omega⟩⟩
            case measure => simp [intOf]; omega
          have g1 : decide (x.epoch < 1) = false := decide_eq_false he1
          by_cases he2 : (N.length : Int) < x.epoch
          · have g2 : decide ((N.length : Int) < x.epoch) = true := decide_eq_true he2
            go_wp2
            refine wp_region_quiet_lit (by kernel_rfl) (by kernel_rfl) ?_
            repeat (go_big_quiet_step (fail))
            refine wpQuiet_nil ?_
            rintro w' ⟨nq, rfl⟩
            go_wp2
            go_roundw
            case rel => exact ⟨k + 1, by omega, by go_num, Lib.hid ⟨Fw, Fc', cst, HCX.out.calm (below_drewP (Below.refl _ _) _), by have := HLEN.out; omega⟩⟩
            case measure => simp [intOf]; omega
          have g2 : decide ((N.length : Int) < x.epoch) = false := decide_eq_false he2
          go_wp2
          refine wp_region_quiet_lit (by kernel_rfl) (by kernel_rfl) ?_
          repeat (go_big_quiet_step (fail))
          refine wpQuiet_nil ?_
          rintro w' ⟨nq, rfl⟩
          obtain ⟨j, hj⟩ : ∃ j : Nat, x.epoch = (j : Int) + 1 := ⟨(x.epoch - 1).toNat, by omega⟩
          have HJ := Lib.hid hj
          have hjn : j < N.length := by omega
          obtain ⟨mm, hm⟩ : ∃ mm, N[j]? = some mm := ⟨_, List.getElem?_eq_getElem hjn⟩
          have HSI := Lib.hid (HH.out.sgs mm (List.mem_of_getElem? hm))
          have HSD := Lib.hid (show SgnDim mm.s from HOK.out.2 mm.s (by rw [← HH.out.eps]; exact List.mem_map_of_mem (List.mem_of_getElem? hm)))
          obtain ⟨g5, cg, hv5, _, hgl, _, hpc, _⟩ := HH.out.row.shape (by omega)
          injection hv5 with hv5 _ _
          subst hv5
          have HCZ := Lib.hid (HCX.out.calm (below_drewP (Below.refl _ _) nq))
          have HXZ := Lib.hid (HX.out.below (below_drewP (Below.refl _ _) nq) HX.out.lt)
          have HSA := Lib.hid (HSI.out.sig.below (below_drewP (Below.refl _ _) nq))
          have HSB := Lib.hid (HSI.out.path.below (below_drewP (Below.refl _ _) nq))
          have f0 : (wy.drewN nq).cell? ⟨g5, j * 6, none⟩ = some (.int .i64 mm.s.head.epoch) := hpc _ _ ((sgCells_get N j mm 0 hm (by omega)).trans rfl)
          have f1 : (wy.drewN nq).cell? ⟨g5, j * 6 + 1, none⟩ = some (.string mm.s.head.root) := hpc _ _ ((sgCells_get N j mm 1 hm (by omega)).trans rfl)
          have f2 : (wy.drewN nq).cell? ⟨g5, j * 6 + 2, none⟩ = some (.string mm.s.head.prev) := hpc _ _ ((sgCells_get N j mm 2 hm (by omega)).trans rfl)
          have f3 : (wy.drewN nq).cell? ⟨g5, j * 6 + 3, none⟩ = some (.int .i64 mm.s.key) := hpc _ _ ((sgCells_get N j mm 3 hm (by omega)).trans rfl)
          have f4 : (wy.drewN nq).cell? ⟨g5, j * 6 + 4, none⟩ = some (.slice mm.A mm.s.sig.length mm.ca) := hpc _ _ ((sgCells_get N j mm 4 hm (by omega)).trans rfl)
          have f5 : (wy.drewN nq).cell? ⟨g5, j * 6 + 5, none⟩ = some (.slice mm.B mm.s.path.length mm.cb) := hpc _ _ ((sgCells_get N j mm 5 hm (by omega)).trans rfl)
          have e6 := (show (wy.drewN nq).cell? _ = some (Value.slice (some ⟨g5, 0, none⟩) N.length cv) from c6)
          have HSL := Lib.hid (show g5 < (wy.drewN nq).heap.size from hgl)
          have HPL := Lib.hid (block_lt_of_cell e6)
          have HWS := Lib.hid (show wr.heap.size < (wy.drewN nq).heap.size from HXZ.out.lt)
          clear c6 x0 x1 x2 x3 x4 hpc hgl e1 g1 g2
          generalize wy.drewN nq = wz at HCZ HXZ HSA HSB f0 f1 f2 f3 f4 f5 e6 HSL HPL HWS ⊢
          have x1 : wz.cell? ⟨wr.heap.size, 1, none⟩ = some (.int .i64 x.epoch) := HXZ.out.cell 1 (by omega)
          have x2 : wz.cell? ⟨wr.heap.size, 2, none⟩ = some (.int .i64 x.spoil) := HXZ.out.cell 2 (by omega)
          have hwj : wrap64 (x.epoch - 1) = (j : Int) := by have h0 := HJ.out; have h2 := HOK.out.1.few; rw [← HH.out.eps, List.length_map] at h2; unfold wrap64; omega
          have hwi : IntKind.i64.wrap (x.epoch - 1) = (j : Int) := by have h0 := HJ.out; have h2 := HOK.out.1.few; rw [← HH.out.eps, List.length_map] at h2; rw [IntWalk.i64_in _ (by omega)]; omega
          have hj0 : (0 : Int) ≤ (j : Int) := by omega
          have hj1 : (j : Int) < (N.length : Int) := by omega
          clear hj he1 he2
          have hfd := field0_answ
          have HSS := Lib.hid (show ∀ u : World, Below wz.heap.size wz u → (u.cell? ⟨pa, 6, none⟩ = some (.slice (some ⟨g5, 0, none⟩) N.length cv) ∧ u.cell? ⟨wr.heap.size, 1, none⟩ = some (.int .i64 x.epoch) ∧ u.cell? ⟨wr.heap.size, 2, none⟩ = some (.int .i64 x.spoil) ∧ u.cell? ⟨g5, j * 6, none⟩ = some (.int .i64 mm.s.head.epoch) ∧ u.cell? ⟨g5, j * 6 + 1, none⟩ = some (.string mm.s.head.root) ∧ u.cell? ⟨g5, j * 6 + 2, none⟩ = some (.string mm.s.head.prev) ∧ u.cell? ⟨g5, j * 6 + 3, none⟩ = some (.int .i64 mm.s.key) ∧ u.cell? ⟨g5, j * 6 + 4, none⟩ = some (.slice mm.A mm.s.sig.length mm.ca) ∧ u.cell? ⟨g5, j * 6 + 5, none⟩ = some (.slice mm.B mm.s.path.length mm.cb)) ∧ Below wz.heap.size wz u from fun u hu =>
            ⟨⟨(hu.cell HPL.out).trans e6, (hu.cell (p := ⟨wr.heap.size, 1, none⟩) HWS.out).trans x1, (hu.cell (p := ⟨wr.heap.size, 2, none⟩) HWS.out).trans x2, (hu.cell (p := ⟨g5, j * 6, none⟩) HSL.out).trans f0, (hu.cell (p := ⟨g5, j * 6 + 1, none⟩) HSL.out).trans f1, (hu.cell (p := ⟨g5, j * 6 + 2, none⟩) HSL.out).trans f2, (hu.cell (p := ⟨g5, j * 6 + 3, none⟩) HSL.out).trans f3, (hu.cell (p := ⟨g5, j * 6 + 4, none⟩) HSL.out).trans f4, (hu.cell (p := ⟨g5, j * 6 + 5, none⟩) HSL.out).trans f5⟩, hu⟩)
          have HSPC := Lib.hid (show ∀ u : World, Below wz.heap.size wz u → Calls Tryz.prog 43 #[.agg #[.int .i64 mm.s.head.epoch, .string mm.s.head.root, .string mm.s.head.prev, .int .i64 mm.s.key, .slice mm.A mm.s.sig.length mm.ca, .slice mm.B mm.s.path.length mm.cb, .slice none 0 0, .string ⟨#[]⟩, .string ⟨#[]⟩, .string ⟨#[]⟩, .string ⟨#[]⟩], .int .i64 x.spoil] u fun e w' => ∃ (s2 : Sgn) (A2 : Option Addr) (ca2 : Nat) (B2 : Option Addr) (cb2 : Nat) (v6 v7 v8 v9 v10 : Value), e = .returned (.agg #[.int .i64 s2.head.epoch, .string s2.head.root, .string s2.head.prev, .int .i64 s2.key, .slice A2 s2.sig.length ca2, .slice B2 s2.path.length cb2, v6, v7, v8, v9, v10]) ∧ Hid (s2 = (spoiltA ⟨mm.s, [], noIt, ⟨#[]⟩, ⟨#[]⟩⟩ x.spoil).sgn ∧ Strs w' A2 s2.sig ∧ Strs w' B2 s2.path ∧ (A2 = mm.A ∧ s2.sig.length = mm.s.sig.length ∨ ∀ b, A2 = some b → u.heap.size ≤ b.block) ∧ (B2 = mm.B ∧ s2.path = mm.s.path)) ∧ Below u.heap.size u w' from fun u hu =>
            (spoilt_at mm.s.head mm.s.key mm.s.sig mm.s.path [] noIt ⟨#[]⟩ ⟨#[]⟩ mm.A mm.B none mm.ca mm.cb 0 x.spoil u (HSA.out.below hu) (HSB.out.below hu) (Strs.nil _ _) (by have := HSD.out.sig; omega) (Nat.zero_le _) (Nat.zero_le _) (Nat.zero_le _) (Nat.zero_le _) (by have := HSD.out.root; omega) HSI.out.cp (fun p hp => by have := HSD.out.sz p hp; omega)).mono fun e w' ⟨m', he, hin, hn, hb⟩ => by
              obtain ⟨⟨s', A2, ca2, B2, cb2⟩, C2, cc2, a2'⟩ := m'
              obtain rfl : s' = _ := hin.sgn
              exact ⟨_, A2, ca2, B2, cb2, _, _, _, _, _, he, Lib.hid ⟨rfl, hin.sig, hin.path, hn.sig, hn.path⟩, hb⟩)
          have HQZ := Lib.hid (show Below wz.heap.size wz (wz.alloc (.cells #[.int .i64 0, .string ⟨#[]⟩, .string ⟨#[]⟩, .int .i64 0, .slice none 0 0, .slice none 0 0] 54)).drew from ((Below.refl _ _).alloc (Nat.le_refl _) _).drew)
          have HSPA := Lib.hid ((HSPC.out wz.drew (Below.refl _ _).drew).mono fun e w' ⟨s2, A2, ca2, B2, cb2, v6, v7, v8, v9, v10, he, hi, hb⟩ => show SpoiltAt e w' wz.heap.size wz mm (spoiltA ⟨mm.s, [], noIt, ⟨#[]⟩, ⟨#[]⟩⟩ x.spoil).sgn from
            ⟨s2, A2, ca2, B2, cb2, v6, v7, v8, v9, v10, he, hi.out.1, hi.out.2.1, hi.out.2.2.1, hi.out.2.2.2.1, hi.out.2.2.2.2, (Below.refl _ _).drew.trans (hb.mono (Nat.le_refl _))⟩)
          have HSPB := Lib.hid ((HSPC.out (wz.alloc (.cells #[.int .i64 0, .string ⟨#[]⟩, .string ⟨#[]⟩, .int .i64 0, .slice none 0 0, .slice none 0 0] 54)).drew HQZ.out).mono fun e w' ⟨s2, A2, ca2, B2, cb2, v6, v7, v8, v9, v10, he, hi, hb⟩ => show SpoiltAt e w' (wz.heap.size + 1) wz mm (spoiltA ⟨mm.s, [], noIt, ⟨#[]⟩, ⟨#[]⟩⟩ x.spoil).sgn ∧ Holds w' wz.heap.size 6 (sgF noHd 0 (.slice none 0 0) (.slice none 0 0)) 54 from
            ⟨⟨s2, A2, ca2, B2, cb2, v6, v7, v8, v9, v10, he, hi.out.1, hi.out.2.1, hi.out.2.2.1, (by rcases hi.out.2.2.2.1 with h | h; exact .inl h; exact .inr fun b e => by have := h b e; have e2 : (wz.alloc (.cells #[.int .i64 0, .string ⟨#[]⟩, .string ⟨#[]⟩, .int .i64 0, .slice none 0 0, .slice none 0 0] 54)).drew.heap.size = wz.heap.size + 1 := (World.size_alloc _ _); omega), hi.out.2.2.2.2, HQZ.out.trans (hb.mono HQZ.out.size)⟩, (Holds.new wz 6 (sgF noHd 0 (.slice none 0 0) (.slice none 0 0)) 54).drew.below hb (by show wz.heap.size < (wz.alloc _).heap.size; simp)⟩)
          have HS0 := Lib.hid (HSS.out _ (Below.refl _ _).drew)
          have HS1 := Lib.hid (HSS.out _ HQZ.out)
          clear HSPC
          go_wp2
          go_region_held3 (fun u => (u.cell? ⟨pa, 6, none⟩ = some (.slice (some ⟨g5, 0, none⟩) N.length cv) ∧ u.cell? ⟨wr.heap.size, 1, none⟩ = some (.int .i64 x.epoch) ∧ u.cell? ⟨wr.heap.size, 2, none⟩ = some (.int .i64 x.spoil) ∧ u.cell? ⟨g5, j * 6, none⟩ = some (.int .i64 mm.s.head.epoch) ∧ u.cell? ⟨g5, j * 6 + 1, none⟩ = some (.string mm.s.head.root) ∧ u.cell? ⟨g5, j * 6 + 2, none⟩ = some (.string mm.s.head.prev) ∧ u.cell? ⟨g5, j * 6 + 3, none⟩ = some (.int .i64 mm.s.key) ∧ u.cell? ⟨g5, j * 6 + 4, none⟩ = some (.slice mm.A mm.s.sig.length mm.ca) ∧ u.cell? ⟨g5, j * 6 + 5, none⟩ = some (.slice mm.B mm.s.path.length mm.cb)) ∧ Below wz.heap.size wz u)
            (first
              | with_reducible exact HS0.out
              | with_reducible exact HS1.out
              | with_reducible exact T6
              | with_reducible exact T7 _
              | with_reducible exact T8 _ _ _ _ _ _)
            (first
              | (go_at_call 43; refine HSPA.out.mono ?_; rintro e w6 ⟨s2, A2, ca2, B2, cb2, v6, v7, v8, v9, v10, rfl, hs2, i1, i2, i3, i4, hb6⟩; have HI6 := Lib.hid (show SpoiltIn w6 wz.heap.size wz mm s2 A2 B2 _ from ⟨hs2, i1, i2, i3, i4, hb6⟩); have T6 := HSS.out w6 hb6; have T7 := fun o => HSS.out (w6.alloc o) (hb6.alloc hb6.size o); clear hs2 i1 i2 i3 i4 hb6)
              | (go_at_call 43; refine HSPB.out.mono ?_; rintro e w6 ⟨⟨s2, A2, ca2, B2, cb2, v6, v7, v8, v9, v10, rfl, hs2, i1, i2, i3, i4, hb6⟩, hh6⟩; have HI6 := Lib.hid (show SpoiltIn w6 (wz.heap.size + 1) wz mm s2 A2 B2 _ from ⟨hs2, i1, i2, i3, i4, hb6⟩); have HH6 := Lib.hid hh6; have T6 := HSS.out w6 hb6; have T8 := fun v0 v1 v2 v3 v4 v5 => HSS.out _ (six_below (v0 := v0) (v1 := v1) (v2 := v2) (v3 := v3) (v4 := v4) (v5 := v5) hb6 (Nat.le_refl wz.heap.size)); obtain ⟨q0, q1, q2, q3, q4, q5⟩ := sg_cellsC hh6; have r0 := hh6.free 0; have r1 := hh6.free 1; have r2 := hh6.free 2; have r3 := hh6.free 3; have r4 := hh6.free 4; have r5 := hh6.free 5; clear hs2 i1 i2 i3 i4 hb6 hh6))
          have HWT := Lib.hid (HI6.out.later (ca2 := ca2) (cb2 := cb2))
          clear T6 T7 HI6
          generalize w6.heap.size = sb at HWT ⊢
          generalize w6.alloc (.cells #[.int .i64 s2.head.epoch, .string s2.head.root, .string s2.head.prev, .int .i64 s2.key, .slice A2 s2.sig.length ca2, .slice B2 s2.path.length cb2] 54) = wt at HWT ⊢
          rotate_left
          have HWT := Lib.hid (HI6.out.stored (ca2 := ca2) (cb2 := cb2) HH6.out HSA.out.lt HSB.out.lt)
          clear T6 T8 HI6 HH6 q0 q1 q2 q3 q4 q5 r0 r1 r2 r3 r4 r5
          generalize (((((w6.setCell ⟨wz.heap.size, 0, none⟩ (.int .i64 s2.head.epoch)).setCell ⟨wz.heap.size, 1, none⟩ (.string s2.head.root)).setCell ⟨wz.heap.size, 2, none⟩ (.string s2.head.prev)).setCell ⟨wz.heap.size, 3, none⟩ (.int .i64 s2.key)).setCell ⟨wz.heap.size, 4, none⟩ (.slice A2 s2.sig.length ca2)).setCell ⟨wz.heap.size, 5, none⟩ (.slice B2 s2.path.length cb2) = wt at HWT ⊢
          generalize hsb : wz.heap.size = sb at HWT ⊢
          clear hsb
          all_goals
            have HCT := Lib.hid (HCZ.out.calm HWT.out.below)
            have HDIM := Lib.hid (show SpDim (spoiltA ⟨mm.s, [], noIt, ⟨#[]⟩, ⟨#[]⟩⟩ x.spoil) from spoilt_dim ⟨HSD.out, Nat.zero_le _, Nat.zero_le _, Nat.zero_le _, Nat.zero_le _, Nat.zero_le _⟩ x.spoil)
            have HSG := Lib.hid (show s2.head.epoch < 9223372036854775808 ∧ s2.sig.length ≤ 35 ∧ s2.path.length ≤ 3 from by rw [HWT.out.is]; exact ⟨HDIM.out.ep, HDIM.out.sig, HDIM.out.path⟩)
            have HNF := Lib.hid (show (∀ b, A2 = some b → 0 < s2.sig.length → ¬ Fc' b.block) ∧ (∀ b, B2 = some b → 0 < s2.path.length → ¬ Fc' b.block) from
              ⟨fun b e l h => by
                rcases HWT.out.nearA with ⟨h1, h2⟩ | h1
                · exact HDW.out.2.1 _ (HSI.out.fs b (h1 ▸ e) (h2 ▸ l)).1 h
                · have := h1 b e; have := HQR.out _ (.inr (.inr (.inr h))); have := HWS.out; omega,
              fun b e l h => HDW.out.2.1 _ (HSI.out.fp b (HWT.out.nearB.1 ▸ e) (HWT.out.nearB.2 ▸ l)).1 h⟩)
            obtain ⟨c', n, hsee⟩ : ∃ c' n, seeAns cst ⟨s2.head, s2.key, s2.sig, s2.path⟩ = (c', n) := ⟨_, _, rfl⟩
            have HSEE := Lib.hid hsee
            have HLN := Lib.hid (show c'.heads.length ≤ k + 1 by have := (seeAns_len cst ⟨s2.head, s2.key, s2.sig, s2.path⟩).2; rw [hsee] at this; have h := HLEN.out; exact Nat.le_trans this (by omega))
            clear hsee
            obtain ⟨p0, p1, p2, p3, p4, p5⟩ := sg_cellsC HWT.out.box
            have z0 : ∀ z : SgZ sb s2 A2 ca2 B2 cb2, z.at'.cell? ⟨sb, 0, none⟩ = some (.int .i64 s2.head.epoch) := fun z => z.h0
            have z1 : ∀ z : SgZ sb s2 A2 ca2 B2 cb2, z.at'.cell? ⟨sb, 1, none⟩ = some (.string s2.head.root) := fun z => z.h1
            have z2 : ∀ z : SgZ sb s2 A2 ca2 B2 cb2, z.at'.cell? ⟨sb, 2, none⟩ = some (.string s2.head.prev) := fun z => z.h2
            have z3 : ∀ z : SgZ sb s2 A2 ca2 B2 cb2, z.at'.cell? ⟨sb, 3, none⟩ = some (.int .i64 s2.key) := fun z => z.h3
            have z4 : ∀ z : SgZ sb s2 A2 ca2 B2 cb2, z.at'.cell? ⟨sb, 4, none⟩ = some (.slice A2 s2.sig.length ca2) := fun z => z.h4
            have z5 : ∀ z : SgZ sb s2 A2 ca2 B2 cb2, z.at'.cell? ⟨sb, 5, none⟩ = some (.slice B2 s2.path.length cb2) := fun z => z.h5
            have zn : Nonempty (SgZ sb s2 A2 ca2 B2 cb2) := ⟨⟨wt.drew, p0, p1, p2, p3, p4, p5⟩⟩
            have zs := (show ∃ z : SgZ sb s2 A2 ca2 B2 cb2, wt.drew = z.at' from ⟨⟨wt.drew, p0, p1, p2, p3, p4, p5⟩, rfl⟩)
            clear p0 p1 p2 p3 p4 p5
            go_upto_region 31 with (fail)
            refine wp_region_taken (fun w' => ∃ z : SgZ sb s2 A2 ca2 B2 cb2, w' = z.at') [0, 1, 3, 4] [2, 5, 6, 7] (by kernel_rfl) (by kernel_rfl) (by intro c d v a w h; cases d <;> exact h) zs ?_
            simp only [pickOps, List.filterMap_cons, List.filterMap_nil, List.getElem?_cons_zero, List.getElem?_cons_succ]
            repeat (first | go_big_quiet_step (fail) | quiet_step (fail))
            refine wpQuiet_nil ?_
            clear z0 z1 z2 z3 z4 z5 zn zs
            have HCD := Lib.hid (HCT.out.calm (Below.refl _ _).drew)
            have HBX := Lib.hid (show Holds wt.drew sb 6 (sgF s2.head s2.key (.slice A2 s2.sig.length ca2) (.slice B2 s2.path.length cb2)) 54 from HWT.out.box)
            have HA7 := Lib.hid (HWT.out.sig.below (Below.refl _ _).drew)
            have HB7 := Lib.hid (HWT.out.path.below (Below.refl _ _).drew)
            have HGE := Lib.hid (show wr.heap.size < sb from by have := HWT.out.ge; have := HWS.out; omega)
            have HZT := Lib.hid (show ∀ u : World, Holds u sb 6 (sgF s2.head s2.key (.slice A2 s2.sig.length ca2) (.slice B2 s2.path.length cb2)) 54 → ∃ z : SgZ sb s2 A2 ca2 B2 cb2, u = z.at' from fun u hu => by
              obtain ⟨p0, p1, p2, p3, p4, p5⟩ := sg_cellsC hu
              exact ⟨⟨u, p0, p1, p2, p3, p4, p5⟩, rfl⟩)
            clear HWT HCT
            generalize wt.drew = w7 at HCD HBX HA7 HB7 ⊢
            refine wpSeq_one rfl (fun K' hK => ?_)
            go_wp2_with fail
            refine (FC.see Fc' pc cst c' s2.head s2.key s2.sig s2.path A2 B2 ca2 cb2 n w7 HCD.out.pc (HK.out.below (HB2.out.trans (HCD.out.below.mono HB2.out.size)) HK.out.lt) (by have := HLEN.out; have := HDN.out; omega) (by have := HSG.out.2.1; omega) (by have := HSG.out.2.2; omega) HSG.out.1 HA7.out HB7.out HNF.out.1 HNF.out.2 HSEE.out).mono ?_
            rintro e w8 ⟨rfl, Fc2, ho8, hg8, hp8⟩
            have HC8 := Lib.hid (HCD.out.prog ho8 hg8 hp8)
            have HBX8 := Lib.hid (HBX.out.beside ho8 (fun h => by have := HQR.out _ (.inr (.inr (.inr h))); have := HGE.out; omega))
            have HA8 := Lib.hid (HA7.out.off ho8 HNF.out.1)
            have HB8 := Lib.hid (HB7.out.off ho8 HNF.out.2)
            clear ho8 hg8 hp8
            go_wp2
            refine hK _ _ (HZT.out _ HBX8.out) ?_
            clear hK K'
            refine wpSeq_one rfl (fun K' hK => ?_)
            go_wp2_with fail
            refine (refSee_is Fw pw r cst c' s2.head s2.key s2.sig s2.path A2 B2 ca2 cb2 n w8 HC8.out.rc (HR2.out.below HC8.out.below HR2.out.lt) (by have := HLEN.out; have := HDN.out; omega) (by have := HSG.out.2.1; omega) (by have := HSG.out.2.2; omega) HSG.out.1 HA8.out HB8.out HSEE.out).mono ?_
            rintro e w9 ⟨rfl, Fw2, ho9, hg9, hr9⟩
            have HC9 := Lib.hid (HC8.out.ref ho9 hg9 hr9)
            have HBX9 := Lib.hid (HBX8.out.beside ho9 (fun h => by have := HQR.out _ (.inr (.inr (.inl h))); have := HGE.out; omega))
            clear ho9 hg9 hr9
            go_wp2
            refine hK _ _ (HZT.out _ HBX9.out) ?_
            clear hK K'
            refine wpSeq_one rfl (fun K' hK => ?_)
            go_wp2_with fail
            refine (bare_same n w9 (HGA.out w9 HC9.out.below)).mono ?_
            rintro e w10 ⟨rfl, hb10⟩
            have HC10 := Lib.hid (HC9.out.calm hb10)
            have HBX10 := Lib.hid (HBX9.out.below hb10 HBX9.out.lt)
            clear hb10
            go_wp2
            refine hK _ _ (HZT.out _ HBX10.out) ?_
            clear hK K'
            refine wpSeq_last rfl (fun K' hK => ?_)
            go_wp2
            refine hK _ _ ?_
            clear hK K'
            go_wp2
            go_roundw
            case rel => exact ⟨k + 1, by omega, by go_num, Lib.hid ⟨Fw2, Fc2, c', HC10.out, HLN.out⟩⟩
            case measure => simp [intOf]; omega
      case true =>
        rw [hoth] at x3
        have HDD := Lib.hid HCX.out.db
        have HDW := Lib.hid (show (∀ k, Fb6 k → ¬ Fw k) ∧ (∀ k, Fb6 k → ¬ Fc' k) ∧ ∀ k, Fb6 k → k < wr.heap.size from ⟨HCX.out.dw, HCX.out.dc, fun k h => HQR.out k (.inr (.inl h))⟩)
        have HOK := HOKB
        have HLK := Lib.hid (show ∃ an n2, lookupAns db x.name = (an, n2) from ⟨_, _, rfl⟩)
        by_cases hw : x.what = 1
        · rw [hw] at x0
          clear hw hoth
          go_wp2_with fail
          obtain ⟨an, n2, hlk⟩ := HLK.out
          refine (refLookup_is _ _ r _ x.name an n2 _ HDD.out HRX.out (by have := HOK.out.1.secret; omega) (by have := HOK.out.1.vals_len; omega) HOK.out.1.few (by have := HNM.out; omega) hlk).mono ?_
          rintro e w4 ⟨m, rfl, hin, hat, hb4⟩
          have HDM := Lib.hid (show AnsDim an from by have := found_dim HOK.out.1 HOK.out.2 x.name; rwa [hlk] at this)
          obtain ⟨⟨s, A1, ca1, B1, cb1⟩, C1, cc1, a1⟩ := m
          obtain rfl : a1 = an := hin.is
          obtain rfl : s = a1.sgn := hin.sgn
          have HA4 := Lib.hid hin.sig
          have HB4' := Lib.hid hin.path
          have HW4 := Lib.hid hin.way
          have HCAP := Lib.hid hin.cap
          have HAT := Lib.hid hat
          have HC4 := Lib.hid (HCX.out.calm hb4)
          have HX4 := Lib.hid (HX.out.below hb4 HX.out.lt)
          have H4S := Lib.hid (show wr.heap.size < wy.heap.size ∧ wy.heap.size ≤ w4.heap.size from ⟨HX.out.lt, hb4.size⟩)
          have HY5 := Lib.hid (show Holds (w4.alloc (.cells #[.int .i64 a1.sgn.head.epoch, .string a1.sgn.head.root, .string a1.sgn.head.prev, .int .i64 a1.sgn.key, .slice A1 a1.sgn.sig.length ca1, .slice B1 a1.sgn.path.length cb1, .slice C1 a1.path.length cc1, .string a1.leaf.1, .string a1.leaf.2, .string a1.opening, .string a1.value] 65)) w4.heap.size 11 (anF ⟨a1.sgn, A1, ca1, B1, cb1⟩ C1 a1.path.length cc1 a1.leaf a1.opening a1.value) 65 from Holds.new w4 11 (anF ⟨a1.sgn, A1, ca1, B1, cb1⟩ C1 a1.path.length cc1 a1.leaf a1.opening a1.value) 65)
          have HX5 := Lib.hid (HX4.out.below (alloc_below w4 (.cells #[.int .i64 a1.sgn.head.epoch, .string a1.sgn.head.root, .string a1.sgn.head.prev, .int .i64 a1.sgn.key, .slice A1 a1.sgn.sig.length ca1, .slice B1 a1.sgn.path.length cb1, .slice C1 a1.path.length cc1, .string a1.leaf.1, .string a1.leaf.2, .string a1.opening, .string a1.value] 65)) HX4.out.lt)
          have HC5 := Lib.hid (HC4.out.calm (alloc_below w4 (.cells #[.int .i64 a1.sgn.head.epoch, .string a1.sgn.head.root, .string a1.sgn.head.prev, .int .i64 a1.sgn.key, .slice A1 a1.sgn.sig.length ca1, .slice B1 a1.sgn.path.length cb1, .slice C1 a1.path.length cc1, .string a1.leaf.1, .string a1.leaf.2, .string a1.opening, .string a1.value] 65)))
          have HA5 := Lib.hid (HA4.out.below (alloc_below w4 (.cells #[.int .i64 a1.sgn.head.epoch, .string a1.sgn.head.root, .string a1.sgn.head.prev, .int .i64 a1.sgn.key, .slice A1 a1.sgn.sig.length ca1, .slice B1 a1.sgn.path.length cb1, .slice C1 a1.path.length cc1, .string a1.leaf.1, .string a1.leaf.2, .string a1.opening, .string a1.value] 65)))
          have HB5 := Lib.hid (HB4'.out.below (alloc_below w4 (.cells #[.int .i64 a1.sgn.head.epoch, .string a1.sgn.head.root, .string a1.sgn.head.prev, .int .i64 a1.sgn.key, .slice A1 a1.sgn.sig.length ca1, .slice B1 a1.sgn.path.length cb1, .slice C1 a1.path.length cc1, .string a1.leaf.1, .string a1.leaf.2, .string a1.opening, .string a1.value] 65)))
          have HW5 := Lib.hid (HW4.out.below (alloc_below w4 (.cells #[.int .i64 a1.sgn.head.epoch, .string a1.sgn.head.root, .string a1.sgn.head.prev, .int .i64 a1.sgn.key, .slice A1 a1.sgn.sig.length ca1, .slice B1 a1.sgn.path.length cb1, .slice C1 a1.path.length cc1, .string a1.leaf.1, .string a1.leaf.2, .string a1.opening, .string a1.value] 65)))
          clear x0 x1 x2 x3 x4 hb4 hin hat
          simp only [AnM.cells]
          by_cases hn2 : n2 = 0
          · subst hn2
            obtain ⟨d0, d1, d2, d3, d4, d5, d6, d7, d8, d9, d10⟩ := an_cells HY5.out
            have x2 : (w4.alloc (.cells #[.int .i64 a1.sgn.head.epoch, .string a1.sgn.head.root, .string a1.sgn.head.prev, .int .i64 a1.sgn.key, .slice A1 a1.sgn.sig.length ca1, .slice B1 a1.sgn.path.length cb1, .slice C1 a1.path.length cc1, .string a1.leaf.1, .string a1.leaf.2, .string a1.opening, .string a1.value] 65)).cell? ⟨wr.heap.size, 2, none⟩ = some (.int .i64 x.spoil) := HX5.out.cell 2 (by omega)
            have HZ5 := Lib.hid (show w4.heap.size < (w4.alloc (.cells #[.int .i64 a1.sgn.head.epoch, .string a1.sgn.head.root, .string a1.sgn.head.prev, .int .i64 a1.sgn.key, .slice A1 a1.sgn.sig.length ca1, .slice B1 a1.sgn.path.length cb1, .slice C1 a1.path.length cc1, .string a1.leaf.1, .string a1.leaf.2, .string a1.opening, .string a1.value] 65)).heap.size by simp)
            have HL5 := Lib.hid (alloc_below w4 (.cells #[.int .i64 a1.sgn.head.epoch, .string a1.sgn.head.root, .string a1.sgn.head.prev, .int .i64 a1.sgn.key, .slice A1 a1.sgn.sig.length ca1, .slice B1 a1.sgn.path.length cb1, .slice C1 a1.path.length cc1, .string a1.leaf.1, .string a1.leaf.2, .string a1.opening, .string a1.value] 65))
            go_wp2_with fail
            clear d0 d1 d2 d3 d4 d5 d6 d7 d8 d9 d10 x2
            generalize w4.alloc (.cells #[.int .i64 a1.sgn.head.epoch, .string a1.sgn.head.root, .string a1.sgn.head.prev, .int .i64 a1.sgn.key, .slice A1 a1.sgn.sig.length ca1, .slice B1 a1.sgn.path.length cb1, .slice C1 a1.path.length cc1, .string a1.leaf.1, .string a1.leaf.2, .string a1.opening, .string a1.value] 65) = w5 at HY5 HX5 HC5 HA5 HB5 HW5 HZ5 HL5
            refine (spoilt_at a1.sgn.head a1.sgn.key a1.sgn.sig a1.sgn.path a1.path a1.leaf a1.opening a1.value A1 B1 C1 ca1 cb1 cc1 x.spoil _ HA5.out HB5.out HW5.out (by have := HDM.out.sgn.sig; omega) (by have := HDM.out.way; omega) (by have := HDM.out.op; omega) (by have := HDM.out.val; omega) (by have := HDM.out.leaf; omega) (by have := HDM.out.sgn.root; omega) HCAP.out (fun p hp => by have := HDM.out.sgn.sz p hp; omega)).mono ?_
            rintro e w6 ⟨m', rfl, hin6, hnear, hb6⟩
            obtain ⟨⟨s', A2, ca2, B2, cb2⟩, C2, cc2, a2'⟩ := m'
            have hin6 : AnIn w6 ⟨⟨s', A2, ca2, B2, cb2⟩, C2, cc2, a2'⟩ (spoiltA a1 x.spoil) := hin6
            have HDM2 := Lib.hid (spoilt_dim HDM.out x.spoil)
            generalize spoiltA a1 x.spoil = a2 at hin6 HDM2
            obtain rfl : a2' = a2 := hin6.is
            obtain rfl : s' = a2'.sgn := hin6.sgn
            have HNR := Lib.hid hnear
            have HY6 := Lib.hid (HY5.out.below hb6 HY5.out.lt)
            have HX6 := Lib.hid (HX5.out.below hb6 HX5.out.lt)
            have HQN := Lib.hid (show wr.heap.size ≠ w4.heap.size from by have := H4S.out; omega)
            obtain ⟨w7, hw7⟩ : ∃ w7, put11 w6 w4.heap.size ⟨a2'.sgn, A2, ca2, B2, cb2⟩ C2 a2'.path.length cc2 a2'.leaf a2'.opening a2'.value = w7 := ⟨_, rfl⟩
            have HY7 := Lib.hid (show Holds w7 w4.heap.size 11 (anF ⟨a2'.sgn, A2, ca2, B2, cb2⟩ C2 a2'.path.length cc2 a2'.leaf a2'.opening a2'.value) 65 from by rw [← hw7]; exact put11_holds HY6.out _ _ _ _ _ _ _)
            have HB7 := Lib.hid (show Below w4.heap.size w4 w7 from by rw [← hw7]; exact put11_below (HL5.out.trans (hb6.mono (Nat.le_of_lt HZ5.out))) (Nat.le_refl _) _ _ _ _ _ _ _)
            have HC7 := Lib.hid (HC4.out.calm HB7.out)
            have HX7 := Lib.hid (HX4.out.below HB7.out HX4.out.lt)
            have HOLD := Lib.hid (show (∀ b, A1 = some b → 0 < a1.sgn.sig.length → b.block < w4.heap.size) ∧ (∀ b, B1 = some b → 0 < a1.sgn.path.length → b.block < w4.heap.size) ∧ (∀ b, C1 = some b → 0 < a1.path.length → b.block < w4.heap.size) from ⟨HA4.out.lt, HB4'.out.lt, HW4.out.lt⟩)
            have HLOC := Lib.hid (show (∀ b, A2 = some b → 0 < a2'.sgn.sig.length → b.block ≠ w4.heap.size ∧ ¬ Fw b.block ∧ ¬ Fc' b.block) ∧ (∀ b, B2 = some b → 0 < a2'.sgn.path.length → b.block ≠ w4.heap.size ∧ ¬ Fw b.block ∧ ¬ Fc' b.block) ∧ (∀ b, C2 = some b → 0 < a2'.path.length → b.block ≠ w4.heap.size ∧ ¬ Fw b.block ∧ ¬ Fc' b.block) from by
              have e0 := HZ5.out
              have e1 := H4S.out
              have new : ∀ n, wy.heap.size ≤ n → ¬ Fw n ∧ ¬ Fc' n := fun n hn => ⟨fun h => by have := HQR.out n (.inr (.inr (.inl h))); omega, fun h => by have := HQR.out n (.inr (.inr (.inr h))); omega⟩
              refine ⟨fun b e hl => ?_, fun b e hl => ?_, fun b e hl => ?_⟩
              · rcases HNR.out.sig with ⟨h1, h2⟩ | h1
                · have h1 : A2 = A1 := h1
                  have h2 : a2'.sgn.sig.length = a1.sgn.sig.length := h2
                  rw [h1] at e
                  have h3 := HAT.out.sig b e (by rw [← h2]; exact hl)
                  have h4 := HOLD.out.1 b e (by rw [← h2]; exact hl)
                  exact ⟨by omega, HDW.out.1 _ h3, HDW.out.2.1 _ h3⟩
                · have h2 := h1 b e
                  exact ⟨by omega, new _ (by omega)⟩
              · obtain ⟨h1, h2⟩ := HNR.out.path
                have h1 : B2 = B1 := h1
                have h2 : a2'.sgn.path = a1.sgn.path := h2
                rw [h1] at e
                rw [h2] at hl
                have h3 := HAT.out.path b e hl
                have h4 := HOLD.out.2.1 b e hl
                exact ⟨by omega, HDW.out.1 _ h3, HDW.out.2.1 _ h3⟩
              · rcases HNR.out.way with ⟨h1, h2⟩ | h1
                · have h1 : C2 = C1 := h1
                  have h2 : a2'.path.length = a1.path.length := h2
                  rw [h1] at e
                  have h3 := HAT.out.way b e (by rw [← h2]; exact hl)
                  have h4 := HOLD.out.2.2 b e (by rw [← h2]; exact hl)
                  exact ⟨by omega, new _ h3⟩
                · have h2 := h1 b e
                  exact ⟨by omega, new _ (by omega)⟩)
            have HI7 := Lib.hid (show AnIn w7 ⟨⟨a2'.sgn, A2, ca2, B2, cb2⟩, C2, cc2, a2'⟩ a2' from by
              rw [← hw7]
              exact ⟨rfl, rfl, put11_box hin6.sig (fun b e l => (HLOC.out.1 b e l).1) _ _ _ _ _ _ _, put11_box hin6.path (fun b e l => (HLOC.out.2.1 b e l).1) _ _ _ _ _ _ _, put11_box hin6.way (fun b e l => (HLOC.out.2.2 b e l).1) _ _ _ _ _ _ _, hin6.cap⟩)
            simp only [AnM.cells]
            obtain ⟨c0, c1, c2, c3, c4, c5, c6, c7, c8, c9, c10⟩ := an_cells HY6.out
            have f0 := HY6.out.free 0
            have f1 := HY6.out.free 1
            have f2 := HY6.out.free 2
            have f3 := HY6.out.free 3
            have f4 := HY6.out.free 4
            have f5 := HY6.out.free 5
            have f6 := HY6.out.free 6
            have f7 := HY6.out.free 7
            have f8 := HY6.out.free 8
            have f9 := HY6.out.free 9
            have f10 := HY6.out.free 10
            obtain ⟨d0, d1, d2, d3, d4, d5, d6, d7, d8, d9, d10⟩ := an_cells HY7.out
            have x4 : w7.cell? ⟨wr.heap.size, 4, none⟩ = some (.string x.name) := HX7.out.cell 4 (by omega)
            clear hin6 hnear hb6 HY5 HX5 HC5 HA5 HB5 HW5 HL5 HX6
            unfold put11 at hw7
            obtain ⟨c', v, t, n, hask⟩ : ∃ c' v t n, askAns cst x.name a2' = (c', v, t, n) := ⟨_, _, _, _, rfl⟩
            have HASK := Lib.hid hask
            have HLN := Lib.hid (show c'.heads.length ≤ k + 1 by have := (askAns_len cst x.name a2').2; rw [hask] at this; have h := HLEN.out; exact Nat.le_trans this (by omega))
            clear hask
            go_wp2_with fail
            clear c0 c1 c2 c3 c4 c5 c6 c7 c8 c9 c10 f0 f1 f2 f3 f4 f5 f6 f7 f8 f9 f10 d0 d1 d2 d3 d4 d5 d6 d7 d8 d9 d10 x4 hw7
            refine (refAsk_at Fw pw r cst c' x.name a2'.sgn.head a2'.sgn.key a2'.sgn.sig a2'.sgn.path a2'.path a2'.leaf a2'.opening a2'.value A2 B2 C2 ca2 cb2 cc2 v t n w7 HC7.out.rc (HR2.out.below HC7.out.below HR2.out.lt) (fun h => by have := HC7.out.bw _ h; have := HR2.out.lt; omega) (by have := HLEN.out; have := HDN.out; omega) (by have := HNM.out; omega) (by have := HDM2.out.sig; omega) (by have := HDM2.out.path; omega) (by have := HDM2.out.way; omega) (by have := HDM2.out.op; omega) (by have := HDM2.out.val; omega) HDM2.out.ep HI7.out.sig HI7.out.path HI7.out.way (fun b e l => (HLOC.out.2.2 b e l).2.1) HASK.out).mono ?_
            rintro e w8 ⟨rfl, Fw2, ho8, hg8, hcl8⟩
            have HC8 := Lib.hid (HC7.out.ref ho8 hg8 hcl8)
            have HI8 := Lib.hid (HI7.out.off ho8 (fun b e l => (HLOC.out.1 b e l).2.1) (fun b e l => (HLOC.out.2.1 b e l).2.1) (fun b e l => (HLOC.out.2.2 b e l).2.1))
            have HY8 := Lib.hid (show Holds w8 w4.heap.size 11 (anF ⟨a2'.sgn, A2, ca2, B2, cb2⟩ C2 a2'.path.length cc2 a2'.leaf a2'.opening a2'.value) 65 from by
              have h1 := HY7.out
              have h2 := h1.lt
              unfold Holds at h1 ⊢
              rw [ho8.block _ h2 (fun h => by have := HQR.out _ (.inr (.inr (.inl h))); have := H4S.out; omega)]; exact h1)
            have HX8 := Lib.hid (show Holds w8 wr.heap.size 5 (ddF x) 102 from by
              have h1 := HX7.out
              have h2 := h1.lt
              unfold Holds at h1 ⊢
              rw [ho8.block _ h2 (fun h => by have := HQR.out _ (.inr (.inr (.inl h))); omega)]; exact h1)
            clear ho8 hg8 hcl8
            obtain ⟨d0, d1, d2, d3, d4, d5, d6, d7, d8, d9, d10⟩ := an_cells HY8.out
            have x4 : w8.cell? ⟨wr.heap.size, 4, none⟩ = some (.string x.name) := HX8.out.cell 4 (by omega)
            go_wp2_with fail
            clear d0 d1 d2 d3 d4 d5 d6 d7 d8 d9 d10 x4
            refine (FC.ask Fc' pc cst c' x.name ⟨⟨a2'.sgn, A2, ca2, B2, cb2⟩, C2, cc2, a2'⟩ a2' v t n w8 HC8.out.pc (HK.out.below (HB2.out.trans (HC8.out.below.mono HB2.out.size)) HK.out.lt) (by have := HLEN.out; have := HDN.out; omega) (by have := HNM.out; omega) HDM2.out HI8.out (fun b e l => (HLOC.out.1 b e l).2.2) (fun b e l => (HLOC.out.2.1 b e l).2.2) (fun b e l => (HLOC.out.2.2 b e l).2.2) HASK.out).mono ?_
            rintro e w9 ⟨rfl, Fc2, ho9, hg9, hp9⟩
            have HC9 := Lib.hid (HC8.out.prog ho9 hg9 hp9)
            have HBR := Lib.hid (bare_same n w9 (HGA.out w9 HC9.out.below))
            clear ho9 hg9 hp9
            go_wp2_with fail
            refine HBR.out.mono ?_
            rintro e w10 ⟨rfl, hb10⟩
            have HC10 := Lib.hid (HC9.out.calm hb10)
            clear hb10
            go_wp2
            go_roundw
            case rel => exact ⟨k + 1, by omega, by go_num, Lib.hid ⟨Fw2, Fc2, c', HC10.out, HLN.out⟩⟩
            case measure => simp [intOf]; omega
          · have e1 : (n2 == 0) = false := by rw [beq_eq_false_iff_ne]; exact hn2
            have e2 : (n2 != 0) = true := by simpa using hn2
            clear hn2
            go_wp2
            go_roundw
            case rel => exact ⟨k + 1, by omega, by go_num, Lib.hid ⟨Fw, Fc', cst, HC5.out, by have := HLEN.out; omega⟩⟩
            case measure => simp [intOf]; omega
        · have e1 : (x.what == 1) = false := by rw [beq_eq_false_iff_ne]; exact hw
          clear hw hoth
          obtain ⟨bb', g', m1', m2', m3', v', N, hh⟩ := HDD.out
          obtain ⟨pv, cv, rfl⟩ := hh.row.any
          have HH := Lib.hid hh
          have c6a := hh.own.cell 6 (by omega)
          have c6 := (show _ = some (Value.slice pv N.length cv) from c6a)
          clear hh c6a
          by_cases he1 : x.epoch < 1
          · go_wp2
            go_quiet (fail)
            go_wp2
            go_roundw
            case rel => exact ⟨k + 1, by omega, by go_num, Lib.hid ⟨Fw, Fc', cst, HCX.out.calm (below_drewP (Below.refl _ _) _), by have := HLEN.out; omega⟩⟩
            case measure => simp [intOf]; omega
          have g1 : decide (x.epoch < 1) = false := decide_eq_false he1
          by_cases he2 : (N.length : Int) < x.epoch
          · have g2 : decide ((N.length : Int) < x.epoch) = true := decide_eq_true he2
            go_wp2
            refine wp_region_quiet_lit (by kernel_rfl) (by kernel_rfl) ?_
            repeat (go_big_quiet_step (fail))
            refine wpQuiet_nil ?_
            rintro w' ⟨nq, rfl⟩
            go_wp2
            go_roundw
            case rel => exact ⟨k + 1, by omega, by go_num, Lib.hid ⟨Fw, Fc', cst, HCX.out.calm (below_drewP (Below.refl _ _) _), by have := HLEN.out; omega⟩⟩
            case measure => simp [intOf]; omega
          have g2 : decide ((N.length : Int) < x.epoch) = false := decide_eq_false he2
          go_wp2
          refine wp_region_quiet_lit (by kernel_rfl) (by kernel_rfl) ?_
          repeat (go_big_quiet_step (fail))
          refine wpQuiet_nil ?_
          rintro w' ⟨nq, rfl⟩
          obtain ⟨j, hj⟩ : ∃ j : Nat, x.epoch = (j : Int) + 1 := ⟨(x.epoch - 1).toNat, by omega⟩
          have HJ := Lib.hid hj
          have hjn : j < N.length := by omega
          obtain ⟨mm, hm⟩ : ∃ mm, N[j]? = some mm := ⟨_, List.getElem?_eq_getElem hjn⟩
          have HSI := Lib.hid (HH.out.sgs mm (List.mem_of_getElem? hm))
          have HSD := Lib.hid (show SgnDim mm.s from HOK.out.2 mm.s (by rw [← HH.out.eps]; exact List.mem_map_of_mem (List.mem_of_getElem? hm)))
          obtain ⟨g5, cg, hv5, _, hgl, _, hpc, _⟩ := HH.out.row.shape (by omega)
          injection hv5 with hv5 _ _
          subst hv5
          have HCZ := Lib.hid (HCX.out.calm (below_drewP (Below.refl _ _) nq))
          have HXZ := Lib.hid (HX.out.below (below_drewP (Below.refl _ _) nq) HX.out.lt)
          have HSA := Lib.hid (HSI.out.sig.below (below_drewP (Below.refl _ _) nq))
          have HSB := Lib.hid (HSI.out.path.below (below_drewP (Below.refl _ _) nq))
          have f0 : (wy.drewN nq).cell? ⟨g5, j * 6, none⟩ = some (.int .i64 mm.s.head.epoch) := hpc _ _ ((sgCells_get N j mm 0 hm (by omega)).trans rfl)
          have f1 : (wy.drewN nq).cell? ⟨g5, j * 6 + 1, none⟩ = some (.string mm.s.head.root) := hpc _ _ ((sgCells_get N j mm 1 hm (by omega)).trans rfl)
          have f2 : (wy.drewN nq).cell? ⟨g5, j * 6 + 2, none⟩ = some (.string mm.s.head.prev) := hpc _ _ ((sgCells_get N j mm 2 hm (by omega)).trans rfl)
          have f3 : (wy.drewN nq).cell? ⟨g5, j * 6 + 3, none⟩ = some (.int .i64 mm.s.key) := hpc _ _ ((sgCells_get N j mm 3 hm (by omega)).trans rfl)
          have f4 : (wy.drewN nq).cell? ⟨g5, j * 6 + 4, none⟩ = some (.slice mm.A mm.s.sig.length mm.ca) := hpc _ _ ((sgCells_get N j mm 4 hm (by omega)).trans rfl)
          have f5 : (wy.drewN nq).cell? ⟨g5, j * 6 + 5, none⟩ = some (.slice mm.B mm.s.path.length mm.cb) := hpc _ _ ((sgCells_get N j mm 5 hm (by omega)).trans rfl)
          have e6 := (show (wy.drewN nq).cell? _ = some (Value.slice (some ⟨g5, 0, none⟩) N.length cv) from c6)
          have HSL := Lib.hid (show g5 < (wy.drewN nq).heap.size from hgl)
          have HPL := Lib.hid (block_lt_of_cell e6)
          have HWS := Lib.hid (show wr.heap.size < (wy.drewN nq).heap.size from HXZ.out.lt)
          clear c6 x0 x1 x2 x3 x4 hpc hgl e1 g1 g2
          generalize wy.drewN nq = wz at HCZ HXZ HSA HSB f0 f1 f2 f3 f4 f5 e6 HSL HPL HWS ⊢
          have x1 : wz.cell? ⟨wr.heap.size, 1, none⟩ = some (.int .i64 x.epoch) := HXZ.out.cell 1 (by omega)
          have x2 : wz.cell? ⟨wr.heap.size, 2, none⟩ = some (.int .i64 x.spoil) := HXZ.out.cell 2 (by omega)
          have hwj : wrap64 (x.epoch - 1) = (j : Int) := by have h0 := HJ.out; have h2 := HOK.out.1.few; rw [← HH.out.eps, List.length_map] at h2; unfold wrap64; omega
          have hwi : IntKind.i64.wrap (x.epoch - 1) = (j : Int) := by have h0 := HJ.out; have h2 := HOK.out.1.few; rw [← HH.out.eps, List.length_map] at h2; rw [IntWalk.i64_in _ (by omega)]; omega
          have hj0 : (0 : Int) ≤ (j : Int) := by omega
          have hj1 : (j : Int) < (N.length : Int) := by omega
          clear hj he1 he2
          have hfd := field0_answ
          have HSS := Lib.hid (show ∀ u : World, Below wz.heap.size wz u → (u.cell? ⟨pb, 6, none⟩ = some (.slice (some ⟨g5, 0, none⟩) N.length cv) ∧ u.cell? ⟨wr.heap.size, 1, none⟩ = some (.int .i64 x.epoch) ∧ u.cell? ⟨wr.heap.size, 2, none⟩ = some (.int .i64 x.spoil) ∧ u.cell? ⟨g5, j * 6, none⟩ = some (.int .i64 mm.s.head.epoch) ∧ u.cell? ⟨g5, j * 6 + 1, none⟩ = some (.string mm.s.head.root) ∧ u.cell? ⟨g5, j * 6 + 2, none⟩ = some (.string mm.s.head.prev) ∧ u.cell? ⟨g5, j * 6 + 3, none⟩ = some (.int .i64 mm.s.key) ∧ u.cell? ⟨g5, j * 6 + 4, none⟩ = some (.slice mm.A mm.s.sig.length mm.ca) ∧ u.cell? ⟨g5, j * 6 + 5, none⟩ = some (.slice mm.B mm.s.path.length mm.cb)) ∧ Below wz.heap.size wz u from fun u hu =>
            ⟨⟨(hu.cell HPL.out).trans e6, (hu.cell (p := ⟨wr.heap.size, 1, none⟩) HWS.out).trans x1, (hu.cell (p := ⟨wr.heap.size, 2, none⟩) HWS.out).trans x2, (hu.cell (p := ⟨g5, j * 6, none⟩) HSL.out).trans f0, (hu.cell (p := ⟨g5, j * 6 + 1, none⟩) HSL.out).trans f1, (hu.cell (p := ⟨g5, j * 6 + 2, none⟩) HSL.out).trans f2, (hu.cell (p := ⟨g5, j * 6 + 3, none⟩) HSL.out).trans f3, (hu.cell (p := ⟨g5, j * 6 + 4, none⟩) HSL.out).trans f4, (hu.cell (p := ⟨g5, j * 6 + 5, none⟩) HSL.out).trans f5⟩, hu⟩)
          have HSPC := Lib.hid (show ∀ u : World, Below wz.heap.size wz u → Calls Tryz.prog 43 #[.agg #[.int .i64 mm.s.head.epoch, .string mm.s.head.root, .string mm.s.head.prev, .int .i64 mm.s.key, .slice mm.A mm.s.sig.length mm.ca, .slice mm.B mm.s.path.length mm.cb, .slice none 0 0, .string ⟨#[]⟩, .string ⟨#[]⟩, .string ⟨#[]⟩, .string ⟨#[]⟩], .int .i64 x.spoil] u fun e w' => ∃ (s2 : Sgn) (A2 : Option Addr) (ca2 : Nat) (B2 : Option Addr) (cb2 : Nat) (v6 v7 v8 v9 v10 : Value), e = .returned (.agg #[.int .i64 s2.head.epoch, .string s2.head.root, .string s2.head.prev, .int .i64 s2.key, .slice A2 s2.sig.length ca2, .slice B2 s2.path.length cb2, v6, v7, v8, v9, v10]) ∧ Hid (s2 = (spoiltA ⟨mm.s, [], noIt, ⟨#[]⟩, ⟨#[]⟩⟩ x.spoil).sgn ∧ Strs w' A2 s2.sig ∧ Strs w' B2 s2.path ∧ (A2 = mm.A ∧ s2.sig.length = mm.s.sig.length ∨ ∀ b, A2 = some b → u.heap.size ≤ b.block) ∧ (B2 = mm.B ∧ s2.path = mm.s.path)) ∧ Below u.heap.size u w' from fun u hu =>
            (spoilt_at mm.s.head mm.s.key mm.s.sig mm.s.path [] noIt ⟨#[]⟩ ⟨#[]⟩ mm.A mm.B none mm.ca mm.cb 0 x.spoil u (HSA.out.below hu) (HSB.out.below hu) (Strs.nil _ _) (by have := HSD.out.sig; omega) (Nat.zero_le _) (Nat.zero_le _) (Nat.zero_le _) (Nat.zero_le _) (by have := HSD.out.root; omega) HSI.out.cp (fun p hp => by have := HSD.out.sz p hp; omega)).mono fun e w' ⟨m', he, hin, hn, hb⟩ => by
              obtain ⟨⟨s', A2, ca2, B2, cb2⟩, C2, cc2, a2'⟩ := m'
              obtain rfl : s' = _ := hin.sgn
              exact ⟨_, A2, ca2, B2, cb2, _, _, _, _, _, he, Lib.hid ⟨rfl, hin.sig, hin.path, hn.sig, hn.path⟩, hb⟩)
          have HQZ := Lib.hid (show Below wz.heap.size wz (wz.alloc (.cells #[.int .i64 0, .string ⟨#[]⟩, .string ⟨#[]⟩, .int .i64 0, .slice none 0 0, .slice none 0 0] 54)).drew from ((Below.refl _ _).alloc (Nat.le_refl _) _).drew)
          have HSPA := Lib.hid ((HSPC.out wz.drew (Below.refl _ _).drew).mono fun e w' ⟨s2, A2, ca2, B2, cb2, v6, v7, v8, v9, v10, he, hi, hb⟩ => show SpoiltAt e w' wz.heap.size wz mm (spoiltA ⟨mm.s, [], noIt, ⟨#[]⟩, ⟨#[]⟩⟩ x.spoil).sgn from
            ⟨s2, A2, ca2, B2, cb2, v6, v7, v8, v9, v10, he, hi.out.1, hi.out.2.1, hi.out.2.2.1, hi.out.2.2.2.1, hi.out.2.2.2.2, (Below.refl _ _).drew.trans (hb.mono (Nat.le_refl _))⟩)
          have HSPB := Lib.hid ((HSPC.out (wz.alloc (.cells #[.int .i64 0, .string ⟨#[]⟩, .string ⟨#[]⟩, .int .i64 0, .slice none 0 0, .slice none 0 0] 54)).drew HQZ.out).mono fun e w' ⟨s2, A2, ca2, B2, cb2, v6, v7, v8, v9, v10, he, hi, hb⟩ => show SpoiltAt e w' (wz.heap.size + 1) wz mm (spoiltA ⟨mm.s, [], noIt, ⟨#[]⟩, ⟨#[]⟩⟩ x.spoil).sgn ∧ Holds w' wz.heap.size 6 (sgF noHd 0 (.slice none 0 0) (.slice none 0 0)) 54 from
            ⟨⟨s2, A2, ca2, B2, cb2, v6, v7, v8, v9, v10, he, hi.out.1, hi.out.2.1, hi.out.2.2.1, (by rcases hi.out.2.2.2.1 with h | h; exact .inl h; exact .inr fun b e => by have := h b e; have e2 : (wz.alloc (.cells #[.int .i64 0, .string ⟨#[]⟩, .string ⟨#[]⟩, .int .i64 0, .slice none 0 0, .slice none 0 0] 54)).drew.heap.size = wz.heap.size + 1 := (World.size_alloc _ _); omega), hi.out.2.2.2.2, HQZ.out.trans (hb.mono HQZ.out.size)⟩, (Holds.new wz 6 (sgF noHd 0 (.slice none 0 0) (.slice none 0 0)) 54).drew.below hb (by show wz.heap.size < (wz.alloc _).heap.size; simp)⟩)
          have HS0 := Lib.hid (HSS.out _ (Below.refl _ _).drew)
          have HS1 := Lib.hid (HSS.out _ HQZ.out)
          clear HSPC
          go_wp2
          go_region_held3 (fun u => (u.cell? ⟨pb, 6, none⟩ = some (.slice (some ⟨g5, 0, none⟩) N.length cv) ∧ u.cell? ⟨wr.heap.size, 1, none⟩ = some (.int .i64 x.epoch) ∧ u.cell? ⟨wr.heap.size, 2, none⟩ = some (.int .i64 x.spoil) ∧ u.cell? ⟨g5, j * 6, none⟩ = some (.int .i64 mm.s.head.epoch) ∧ u.cell? ⟨g5, j * 6 + 1, none⟩ = some (.string mm.s.head.root) ∧ u.cell? ⟨g5, j * 6 + 2, none⟩ = some (.string mm.s.head.prev) ∧ u.cell? ⟨g5, j * 6 + 3, none⟩ = some (.int .i64 mm.s.key) ∧ u.cell? ⟨g5, j * 6 + 4, none⟩ = some (.slice mm.A mm.s.sig.length mm.ca) ∧ u.cell? ⟨g5, j * 6 + 5, none⟩ = some (.slice mm.B mm.s.path.length mm.cb)) ∧ Below wz.heap.size wz u)
            (first
              | with_reducible exact HS0.out
              | with_reducible exact HS1.out
              | with_reducible exact T6
              | with_reducible exact T7 _
              | with_reducible exact T8 _ _ _ _ _ _)
            (first
              | (go_at_call 43; refine HSPA.out.mono ?_; rintro e w6 ⟨s2, A2, ca2, B2, cb2, v6, v7, v8, v9, v10, rfl, hs2, i1, i2, i3, i4, hb6⟩; have HI6 := Lib.hid (show SpoiltIn w6 wz.heap.size wz mm s2 A2 B2 _ from ⟨hs2, i1, i2, i3, i4, hb6⟩); have T6 := HSS.out w6 hb6; have T7 := fun o => HSS.out (w6.alloc o) (hb6.alloc hb6.size o); clear hs2 i1 i2 i3 i4 hb6)
              | (go_at_call 43; refine HSPB.out.mono ?_; rintro e w6 ⟨⟨s2, A2, ca2, B2, cb2, v6, v7, v8, v9, v10, rfl, hs2, i1, i2, i3, i4, hb6⟩, hh6⟩; have HI6 := Lib.hid (show SpoiltIn w6 (wz.heap.size + 1) wz mm s2 A2 B2 _ from ⟨hs2, i1, i2, i3, i4, hb6⟩); have HH6 := Lib.hid hh6; have T6 := HSS.out w6 hb6; have T8 := fun v0 v1 v2 v3 v4 v5 => HSS.out _ (six_below (v0 := v0) (v1 := v1) (v2 := v2) (v3 := v3) (v4 := v4) (v5 := v5) hb6 (Nat.le_refl wz.heap.size)); obtain ⟨q0, q1, q2, q3, q4, q5⟩ := sg_cellsC hh6; have r0 := hh6.free 0; have r1 := hh6.free 1; have r2 := hh6.free 2; have r3 := hh6.free 3; have r4 := hh6.free 4; have r5 := hh6.free 5; clear hs2 i1 i2 i3 i4 hb6 hh6))
          have HWT := Lib.hid (HI6.out.later (ca2 := ca2) (cb2 := cb2))
          clear T6 T7 HI6
          generalize w6.heap.size = sb at HWT ⊢
          generalize w6.alloc (.cells #[.int .i64 s2.head.epoch, .string s2.head.root, .string s2.head.prev, .int .i64 s2.key, .slice A2 s2.sig.length ca2, .slice B2 s2.path.length cb2] 54) = wt at HWT ⊢
          rotate_left
          have HWT := Lib.hid (HI6.out.stored (ca2 := ca2) (cb2 := cb2) HH6.out HSA.out.lt HSB.out.lt)
          clear T6 T8 HI6 HH6 q0 q1 q2 q3 q4 q5 r0 r1 r2 r3 r4 r5
          generalize (((((w6.setCell ⟨wz.heap.size, 0, none⟩ (.int .i64 s2.head.epoch)).setCell ⟨wz.heap.size, 1, none⟩ (.string s2.head.root)).setCell ⟨wz.heap.size, 2, none⟩ (.string s2.head.prev)).setCell ⟨wz.heap.size, 3, none⟩ (.int .i64 s2.key)).setCell ⟨wz.heap.size, 4, none⟩ (.slice A2 s2.sig.length ca2)).setCell ⟨wz.heap.size, 5, none⟩ (.slice B2 s2.path.length cb2) = wt at HWT ⊢
          generalize hsb : wz.heap.size = sb at HWT ⊢
          clear hsb
          all_goals
            have HCT := Lib.hid (HCZ.out.calm HWT.out.below)
            have HDIM := Lib.hid (show SpDim (spoiltA ⟨mm.s, [], noIt, ⟨#[]⟩, ⟨#[]⟩⟩ x.spoil) from spoilt_dim ⟨HSD.out, Nat.zero_le _, Nat.zero_le _, Nat.zero_le _, Nat.zero_le _, Nat.zero_le _⟩ x.spoil)
            have HSG := Lib.hid (show s2.head.epoch < 9223372036854775808 ∧ s2.sig.length ≤ 35 ∧ s2.path.length ≤ 3 from by rw [HWT.out.is]; exact ⟨HDIM.out.ep, HDIM.out.sig, HDIM.out.path⟩)
            have HNF := Lib.hid (show (∀ b, A2 = some b → 0 < s2.sig.length → ¬ Fc' b.block) ∧ (∀ b, B2 = some b → 0 < s2.path.length → ¬ Fc' b.block) from
              ⟨fun b e l h => by
                rcases HWT.out.nearA with ⟨h1, h2⟩ | h1
                · exact HDW.out.2.1 _ (HSI.out.fs b (h1 ▸ e) (h2 ▸ l)).1 h
                · have := h1 b e; have := HQR.out _ (.inr (.inr (.inr h))); have := HWS.out; omega,
              fun b e l h => HDW.out.2.1 _ (HSI.out.fp b (HWT.out.nearB.1 ▸ e) (HWT.out.nearB.2 ▸ l)).1 h⟩)
            obtain ⟨c', n, hsee⟩ : ∃ c' n, seeAns cst ⟨s2.head, s2.key, s2.sig, s2.path⟩ = (c', n) := ⟨_, _, rfl⟩
            have HSEE := Lib.hid hsee
            have HLN := Lib.hid (show c'.heads.length ≤ k + 1 by have := (seeAns_len cst ⟨s2.head, s2.key, s2.sig, s2.path⟩).2; rw [hsee] at this; have h := HLEN.out; exact Nat.le_trans this (by omega))
            clear hsee
            obtain ⟨p0, p1, p2, p3, p4, p5⟩ := sg_cellsC HWT.out.box
            have z0 : ∀ z : SgZ sb s2 A2 ca2 B2 cb2, z.at'.cell? ⟨sb, 0, none⟩ = some (.int .i64 s2.head.epoch) := fun z => z.h0
            have z1 : ∀ z : SgZ sb s2 A2 ca2 B2 cb2, z.at'.cell? ⟨sb, 1, none⟩ = some (.string s2.head.root) := fun z => z.h1
            have z2 : ∀ z : SgZ sb s2 A2 ca2 B2 cb2, z.at'.cell? ⟨sb, 2, none⟩ = some (.string s2.head.prev) := fun z => z.h2
            have z3 : ∀ z : SgZ sb s2 A2 ca2 B2 cb2, z.at'.cell? ⟨sb, 3, none⟩ = some (.int .i64 s2.key) := fun z => z.h3
            have z4 : ∀ z : SgZ sb s2 A2 ca2 B2 cb2, z.at'.cell? ⟨sb, 4, none⟩ = some (.slice A2 s2.sig.length ca2) := fun z => z.h4
            have z5 : ∀ z : SgZ sb s2 A2 ca2 B2 cb2, z.at'.cell? ⟨sb, 5, none⟩ = some (.slice B2 s2.path.length cb2) := fun z => z.h5
            have zn : Nonempty (SgZ sb s2 A2 ca2 B2 cb2) := ⟨⟨wt.drew, p0, p1, p2, p3, p4, p5⟩⟩
            have zs := (show ∃ z : SgZ sb s2 A2 ca2 B2 cb2, wt.drew = z.at' from ⟨⟨wt.drew, p0, p1, p2, p3, p4, p5⟩, rfl⟩)
            clear p0 p1 p2 p3 p4 p5
            go_upto_region 31 with (fail)
            refine wp_region_taken (fun w' => ∃ z : SgZ sb s2 A2 ca2 B2 cb2, w' = z.at') [0, 1, 3, 4] [2, 5, 6, 7] (by kernel_rfl) (by kernel_rfl) (by intro c d v a w h; cases d <;> exact h) zs ?_
            simp only [pickOps, List.filterMap_cons, List.filterMap_nil, List.getElem?_cons_zero, List.getElem?_cons_succ]
            repeat (first | go_big_quiet_step (fail) | quiet_step (fail))
            refine wpQuiet_nil ?_
            clear z0 z1 z2 z3 z4 z5 zn zs
            have HCD := Lib.hid (HCT.out.calm (Below.refl _ _).drew)
            have HBX := Lib.hid (show Holds wt.drew sb 6 (sgF s2.head s2.key (.slice A2 s2.sig.length ca2) (.slice B2 s2.path.length cb2)) 54 from HWT.out.box)
            have HA7 := Lib.hid (HWT.out.sig.below (Below.refl _ _).drew)
            have HB7 := Lib.hid (HWT.out.path.below (Below.refl _ _).drew)
            have HGE := Lib.hid (show wr.heap.size < sb from by have := HWT.out.ge; have := HWS.out; omega)
            have HZT := Lib.hid (show ∀ u : World, Holds u sb 6 (sgF s2.head s2.key (.slice A2 s2.sig.length ca2) (.slice B2 s2.path.length cb2)) 54 → ∃ z : SgZ sb s2 A2 ca2 B2 cb2, u = z.at' from fun u hu => by
              obtain ⟨p0, p1, p2, p3, p4, p5⟩ := sg_cellsC hu
              exact ⟨⟨u, p0, p1, p2, p3, p4, p5⟩, rfl⟩)
            clear HWT HCT
            generalize wt.drew = w7 at HCD HBX HA7 HB7 ⊢
            refine wpSeq_one rfl (fun K' hK => ?_)
            go_wp2_with fail
            refine (FC.see Fc' pc cst c' s2.head s2.key s2.sig s2.path A2 B2 ca2 cb2 n w7 HCD.out.pc (HK.out.below (HB2.out.trans (HCD.out.below.mono HB2.out.size)) HK.out.lt) (by have := HLEN.out; have := HDN.out; omega) (by have := HSG.out.2.1; omega) (by have := HSG.out.2.2; omega) HSG.out.1 HA7.out HB7.out HNF.out.1 HNF.out.2 HSEE.out).mono ?_
            rintro e w8 ⟨rfl, Fc2, ho8, hg8, hp8⟩
            have HC8 := Lib.hid (HCD.out.prog ho8 hg8 hp8)
            have HBX8 := Lib.hid (HBX.out.beside ho8 (fun h => by have := HQR.out _ (.inr (.inr (.inr h))); have := HGE.out; omega))
            have HA8 := Lib.hid (HA7.out.off ho8 HNF.out.1)
            have HB8 := Lib.hid (HB7.out.off ho8 HNF.out.2)
            clear ho8 hg8 hp8
            go_wp2
            refine hK _ _ (HZT.out _ HBX8.out) ?_
            clear hK K'
            refine wpSeq_one rfl (fun K' hK => ?_)
            go_wp2_with fail
            refine (refSee_is Fw pw r cst c' s2.head s2.key s2.sig s2.path A2 B2 ca2 cb2 n w8 HC8.out.rc (HR2.out.below HC8.out.below HR2.out.lt) (by have := HLEN.out; have := HDN.out; omega) (by have := HSG.out.2.1; omega) (by have := HSG.out.2.2; omega) HSG.out.1 HA8.out HB8.out HSEE.out).mono ?_
            rintro e w9 ⟨rfl, Fw2, ho9, hg9, hr9⟩
            have HC9 := Lib.hid (HC8.out.ref ho9 hg9 hr9)
            have HBX9 := Lib.hid (HBX8.out.beside ho9 (fun h => by have := HQR.out _ (.inr (.inr (.inl h))); have := HGE.out; omega))
            clear ho9 hg9 hr9
            go_wp2
            refine hK _ _ (HZT.out _ HBX9.out) ?_
            clear hK K'
            refine wpSeq_one rfl (fun K' hK => ?_)
            go_wp2_with fail
            refine (bare_same n w9 (HGA.out w9 HC9.out.below)).mono ?_
            rintro e w10 ⟨rfl, hb10⟩
            have HC10 := Lib.hid (HC9.out.calm hb10)
            have HBX10 := Lib.hid (HBX9.out.below hb10 HBX9.out.lt)
            clear hb10
            go_wp2
            refine hK _ _ (HZT.out _ HBX10.out) ?_
            clear hK K'
            refine wpSeq_last rfl (fun K' hK => ?_)
            go_wp2
            refine hK _ _ ?_
            clear hK K'
            go_wp2
            go_roundw
            case rel => exact ⟨k + 1, by omega, by go_num, Lib.hid ⟨Fw2, Fc2, c', HC10.out, HLN.out⟩⟩
            case measure => simp [intOf]; omega
    · have HHL := Lib.hid (show cst.heads.length ≤ 12 by have := HLEN.out; have := HDN.out; omega)
      go_wp2_with fail
      clear hlt hkd
      refine (FC.heads Fc' pc cst _ HCS.out.pc (HK.out.below (HB2.out.trans (HCS.out.below.mono HB2.out.size)) HK.out.lt) (by have := HHL.out; omega)).mono ?_
      rintro e w3 ⟨AH, ch, rfl, hb3, hhd⟩
      have HC3 := Lib.hid (HCS.out.calm hb3)
      have HHD := Lib.hid hhd
      obtain ⟨v, hrc⟩ := HC3.out.rc
      obtain ⟨-, PA, pq, rfl, hrds⟩ := hrc.row.hds
      have HRDS := Lib.hid hrds
      have c2 : w3.cell? ⟨pw, 2, none⟩ = some (.slice PA cst.heads.length pq) := hrc.own.cell 2 (by omega)
      have hh12 : cst.heads.length ≤ 12 := HHL.out
      have HC2 := Lib.hid c2
      clear hb3 hhd hrc hrds
      go_wp2
      clear c2
      go_loopw [28] (fun i wr => ∃ j q : Nat, j ≤ cst.heads.length ∧ i = .int .i64 (j : Int) ∧ wr = w3.drewN q) (fun i _ => cst.heads.length - (intOf i).toNat)
      case atStart => exact ⟨0, 0, by omega, rfl, rfl⟩
      case round =>
        obtain ⟨j, q, hj, rfl, rfl⟩ := hrel
        by_cases hlt : j < cst.heads.length
        · obtain ⟨a, rfl, _, c0, c1, c3⟩ := HHD.out.at_ hlt
          obtain ⟨b, rfl, _, f0, f1, f3⟩ := HRDS.out.at_ hlt
          have d1 : w3.cell? ⟨(a.add (j * 3)).block, (a.add (j * 3)).off + 1, none⟩ = some (.string (hdAt cst.heads j).root) := c1
          have d2 : w3.cell? ⟨(a.add (j * 3)).block, (a.add (j * 3)).off + 2, none⟩ = some (.string (hdAt cst.heads j).prev) := c3
          have g1 : w3.cell? ⟨(b.add (j * 3)).block, (b.add (j * 3)).off + 1, none⟩ = some (.string (hdAt cst.heads j).root) := f1
          have g2 : w3.cell? ⟨(b.add (j * 3)).block, (b.add (j * 3)).off + 2, none⟩ = some (.string (hdAt cst.heads j).prev) := f3
          have c2 := HC2.out
          generalize hdAt cst.heads j = y at c0 d1 d2 f0 g1 g2
          have hne : ∀ u : World, (binOp .neq 49 (.agg #[.int .i64 y.epoch, .string y.root, .string y.prev]) (.agg #[.int .i64 y.epoch, .string y.root, .string y.prev])).run Tryz.prog u = .ok (.bool false) u := fun u => by rw [run_neq_heads]; simp
          have hj0 : (0 : Int) ≤ (j : Int) := by omega
          have hj1 : (j : Int) < (cst.heads.length : Int) := by omega
          clear c1 c3 f1 f3
          go_wp2
          refine wp_region_quiet_lit (by kernel_rfl) (by kernel_rfl) ?_
          repeat (first | go_big_quiet_step (fail) | quiet_step (fail))
          refine wpQuiet_nil ?_
          rintro w' ⟨nq, rfl⟩
          clear c0 d1 d2 f0 g1 g2 c2 hne
          go_wp2
          go_roundw
          case rel => exact ⟨j + 1, q + nq, by omega, by go_num, rfl⟩
          case measure => simp [intOf]; omega
        · go_wp2
          go_ret
          exact ⟨rfl, HB2.out.trans ((HC3.out.below.trans (below_drewN (Below.refl _ _) q |>.mono HC3.out.below.size)).mono HB2.out.size)⟩
end Go.Proofs.YtcfpmofmjnhonaaGreatDoor
