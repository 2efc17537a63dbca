/- Parts of the proof, one behind the other: FreshLaw. -/
import Derived.Test.YtcfpmofmjnhonaaGreatDoorM31
import Derived.Test.YtcfpmofmjnhonaaGreatDoorM32
import Derived.Test.YtcfpmofmjnhonaaGreatDoorM6
import Derived.Test.YtcfpmofmjnhonaaGreatDoorM11
/- DirFresh, the walk, over whatever contracts the program's directory and client keep. -/
namespace Go.Proofs.YtcfpmofmjnhonaaGreatDoor
open Go.RowKit Go.Maps

theorem Sgs.aside {F : Nat → Prop} {w w' : World} {A : Option Addr} {M : List SgM} (h : Sgs w A M) (ho : Off F w w') (ha : ∀ a, A = some a → 0 < M.length → ¬ F a.block)
    (ht : ∀ m ∈ M, (∀ a, m.A = some a → 0 < m.s.sig.length → ¬ F a.block) ∧ (∀ a, m.B = some a → 0 < m.s.path.length → ¬ F a.block)) : Sgs w' A M := fun i m hm => by
  obtain ⟨a, he, hl, c0, c1, c2, c3, c4, c5, hs, hp, hc⟩ := h i m hm
  have hn := ha a he (by have := (List.getElem?_eq_some_iff.1 hm).1; omega)
  obtain ⟨h1, h2⟩ := ht m (List.mem_of_getElem? hm)
  have cell : ∀ q : Addr, q.block = a.block → w'.cell? q = w.cell? q := fun q e => off_cell ho (by rw [e]; exact hl) (by rw [e]; exact hn)
  exact ⟨a, he, Nat.lt_of_lt_of_le hl ho.size, (cell _ (by rw [block_add])).trans c0, (cell _ (by rw [block_add, block_add])).trans c1, (cell _ (by rw [block_add, block_add])).trans c2, (cell _ (by rw [block_add, block_add])).trans c3, (cell _ (by rw [block_add, block_add])).trans c4, (cell _ (by rw [block_add, block_add])).trans c5, hs.aside ho h1, hp.aside ho h2, hc⟩
theorem Sgs.six' {w : World} {A : Option Addr} {M : List SgM} (h : Sgs w A M) {i : Nat} {m : SgM} (hm : M[i]? = some m) : ∃ a, A = some a ∧ a.block < w.heap.size ∧ w.cell? (a.add (i * 6)) = some (.int .i64 m.s.head.epoch) ∧ w.cell? ⟨(a.add (i * 6)).block, (a.add (i * 6)).off + 1, none⟩ = some (.string m.s.head.root) ∧ w.cell? ⟨(a.add (i * 6)).block, (a.add (i * 6)).off + 2, none⟩ = some (.string m.s.head.prev) ∧
    w.cell? ⟨(a.add (i * 6)).block, (a.add (i * 6)).off + 3, none⟩ = some (.int .i64 m.s.key) ∧ w.cell? ⟨(a.add (i * 6)).block, (a.add (i * 6)).off + 4, none⟩ = some (.slice m.A m.s.sig.length m.ca) ∧ w.cell? ⟨(a.add (i * 6)).block, (a.add (i * 6)).off + 5, none⟩ = some (.slice m.B m.s.path.length m.cb) ∧ Strs w m.A m.s.sig ∧ Strs w m.B m.s.path := by
  obtain ⟨a, ha, hl, c0, c1, c2, c3, c4, c5, hs, hp, _⟩ := h i m hm
  exact ⟨a, ha, hl, c0, c1, c2, c3, c4, c5, hs, hp⟩
/-- Where DirFresh stands. -/
structure FrAt (DF : DirFace) (FC : ClientFace) (w wr : World) (p pc : Nat) (F G : Nat → Prop) (d : Dst) (c : Cl) (AE : Option Addr) (ME : List SgM) (v : Value) (P : List Nat) (lm : Nat) (NN : List (ByteArray × ByteArray)) : Prop where
  below : Below w.heap.size w wr
  di : DF.Is F wr p d
  ci : FC.Is G wr pc c
  fg : ∀ k, F k → ¬ G k
  gb : ∀ k, G k → w.heap.size ≤ k
  sg : Sgs wr AE ME
  ae : ∀ a, AE = some a → 0 < ME.length → ¬ G a.block
  tx : ∀ m ∈ ME, (∀ a, m.A = some a → 0 < m.s.sig.length → ¬ G a.block) ∧ (∀ a, m.B = some a → 0 < m.s.path.length → ¬ G a.block)
  row : Row wr w.heap.size 1 v P.length (P.map fun b => Value.map (some b))
  ro : ∀ k, v.ownBlock = some k → ¬ G k
  map : MapIs kS wr lm NN
  mo : ¬ G lm
theorem FrAt.calm {DF : DirFace} {FC : ClientFace} {w wr w' : World} {p pc : Nat} {F G : Nat → Prop} {d : Dst} {c : Cl} {AE : Option Addr} {ME : List SgM} {v : Value} {P : List Nat} {lm : Nat} {NN : List (ByteArray × ByteArray)} (h : FrAt DF FC w wr p pc F G d c AE ME v P lm NN) (hb : Below wr.heap.size wr w') : FrAt DF FC w w' p pc F G d c AE ME v P lm NN :=
  ⟨h.below.trans (hb.mono h.below.size), DF.same h.di (same_of_below hb (DF.lt h.di)), FC.same h.ci (same_of_below hb (FC.lt h.ci)), h.fg, h.gb, h.sg.below hb, h.ae, h.tx, h.row.belowAll hb, h.ro, h.map.block (hb.block lm h.map.lt), h.mo⟩
theorem FrAt.prog {DF : DirFace} {FC : ClientFace} {w wr w' : World} {p pc : Nat} {F G G' : Nat → Prop} {d : Dst} {c c' : Cl} {AE : Option Addr} {ME : List SgM} {v : Value} {P : List Nat} {lm : Nat} {NN : List (ByteArray × ByteArray)} (h : FrAt DF FC w wr p pc F G d c AE ME v P lm NN) (ho : Off G wr w') (hg : Grew wr G G') (hi : FC.Is G' w' pc c') : FrAt DF FC w w' p pc F G' d c' AE ME v P lm NN where
  below := h.below.trans (ho.below h.gb h.below.size)
  di := DF.same h.di (ho.same (DF.lt h.di) h.fg)
  ci := hi
  fg := hg.apart (DF.lt h.di) h.fg
  gb := hg.base h.gb h.below.size
  sg := h.sg.aside ho h.ae h.tx
  ae a e l hf := by
    rcases hg _ hf with g | g
    · exact h.ae a e l g
    · obtain ⟨a', e', hl, _⟩ := h.sg 0 _ (List.getElem?_eq_getElem l)
      rw [e] at e'
      obtain rfl := Option.some.inj e'
      omega
  tx m hm := by
    obtain ⟨i, hi⟩ := List.getElem?_of_mem hm
    obtain ⟨_, _, _, _, _, _, _, _, _, hs, hp, _⟩ := h.sg i m hi
    obtain ⟨h1, h2⟩ := h.tx m hm
    refine ⟨fun a e l hf => ?_, fun a e l hf => ?_⟩
    · rcases hg _ hf with g | g
      · exact h1 a e l g
      · have := hs.lt a e l; omega
    · rcases hg _ hf with g | g
      · exact h2 a e l g
      · have := hp.lt a e l; omega
  row := h.row.kept (fun k hk => ho.block k (h.row.lt k hk).2 (h.ro k hk)) ho.size
  ro k hk hf := by
    rcases hg _ hf with g | g
    · exact h.ro k hk g
    · have := (h.row.lt k hk).2; omega
  map := h.map.block (ho.block lm h.map.lt h.mo)
  mo hf := by
    rcases hg _ hf with g | g
    · exact h.mo g
    · have := h.map.lt; omega

theorem sameLen {L M : List (ByteArray × ByteArray)} (hL : (keysL L).Nodup) (hM : (keysL M).Nodup) (h : ∀ s, look L s = look M s) : L.length = M.length := by
  have := (SameSay.keys (L := L) (M := M) h hL hM).length_eq
  rwa [keysL_length, keysL_length] at this
/-- Worlds in which a name and an answer lie. -/
structure AskZ (na : Addr) (nm : ByteArray) (b : Nat) (m : SgM) (C : Option Addr) (n cc : Nat) (x : It) (o v : ByteArray) where
  at' : World
  hn : at'.cell? na = some (.string nm)
  hb : Holds at' b 11 (anF m C n cc x o v) 65
/-- A row of one's own grows, apart from all else. -/
theorem FrAt.grow {DF : DirFace} {FC : ClientFace} {w wr w' : World} {p pc : Nat} {F G : Nat → Prop} {d : Dst} {c : Cl} {AE : Option Addr} {ME : List SgM} {v : Value} {P : List Nat} {lm : Nat} {NN : List (ByteArray × ByteArray)} (h : FrAt DF FC w wr p pc F G d c AE ME v P lm NN) {row : Option Nat} (hg : wr.grownBy w' row) {B : Nat} (hB : w.heap.size ≤ B) (hlo : (∀ k, F k → k < B) ∧ (∀ a, AE = some a → 0 < ME.length → a.block < B) ∧ (∀ m ∈ ME, (∀ a, m.A = some a → 0 < m.s.sig.length → a.block < B) ∧ (∀ a, m.B = some a → 0 < m.s.path.length → a.block < B)) ∧ (∀ k, v.ownBlock = some k → k < B) ∧ lm < B)
    (hr : ∀ q, row = some q → B ≤ q ∧ ¬ G q) : FrAt DF FC w w' p pc F G d c AE ME v P lm NN := by
  have ho : Off (fun q => row = some q) wr w' := Off.of_grown hg (fun k e => e)
  have hrow : w.heap.size ≤ wr.heap.size := h.below.size
  exact ⟨h.below.trans (ho.below (fun q e => Nat.le_trans hB (hr q e).1) hrow), DF.same h.di (ho.same (DF.lt h.di) (fun k hk e => by have := hlo.1 k hk; have := (hr k e).1; omega)), FC.same h.ci (ho.same (FC.lt h.ci) (fun k hk e => (hr k e).2 hk)), h.fg, h.gb,
    h.sg.aside ho (fun a e l e' => by have := hlo.2.1 a e l; have := (hr _ e').1; omega) (fun m hm => ⟨fun a e l e' => by have := (hlo.2.2.1 m hm).1 a e l; have := (hr _ e').1; omega, fun a e l e' => by have := (hlo.2.2.1 m hm).2 a e l; have := (hr _ e').1; omega⟩), h.ae, h.tx,
    h.row.kept (fun k hk => ho.block k (h.row.lt k hk).2 (fun e' => by have := hlo.2.2.2.1 k hk; have := (hr _ e').1; omega)) ho.size, h.ro, h.map.block (ho.block lm h.map.lt (fun e' => by have := hlo.2.2.2.2; have := (hr _ e').1; omega)), h.mo⟩
set_option maxHeartbeats 8000000 in
set_option maxRecDepth 100000 in
theorem dirFresh_any (DF : DirFace) (FC : ClientFace) (L : List Hd) (A : Option Addr) (ca : Nat) (name : ByteArray) (w : World) (hk : HasK w) (ha : Hds w A L) (hg : w.cell? ⟨0, 0, none⟩ = some (.iface 290 (.agg #[hand 33]))) :
    Calls Tryz.prog 4 #[.slice A L.length ca, .string name] w fun e w' => e = .returned (.bool true) ∧ Below w.heap.size w w' := by
  have HK := Lib.hid hk
  have HA := Lib.hid ha
  have HG := Lib.hid hg
  have HGL := Lib.hid (show (0 : Nat) < w.heap.size from block_lt_of_cell hg)
  have HE0 := Lib.hid (show errOf 0 = Value.nilIface from rfl)
  clear hk ha hg
  go_enter Tryz.func4, Tryz.ntmps4
  go_wp2_with fail
  refine (few_any L A ca _ HA.out).mono ?_
  rintro e w1 ⟨hb1, b, rfl, hf⟩
  have HB1 := Lib.hid hb1
  clear hb1
  cases b
  case false =>
    go_wp2
    go_ret
    exact ⟨rfl, HB1.out⟩
  have HL := Lib.hid (hf rfl)
  clear hf
  by_cases hnm : 40 < name.size
  · go_wp2
    go_ret
    exact ⟨rfl, HB1.out⟩
  have HNM := Lib.hid (show name.size ≤ 40 by omega)
  go_wp2_with fail
  clear hnm
  refine (told_any DF FC _ (HK.out.below HB1.out HK.out.lt)).mono ?_
  rintro e w2 ⟨rfl, hb2⟩
  have HB2 := Lib.hid (HB1.out.trans (hb2.mono HB1.out.size))
  clear hb2
  go_wp2_with fail
  refine (lain_any _ (HK.out.below HB2.out HK.out.lt)).mono ?_
  rintro e w3 ⟨rfl, hb3⟩
  have HB3 := Lib.hid (HB2.out.trans (hb3.mono HB2.out.size))
  clear hb3
  go_wp2_with fail
  refine (apart_any L A ca name _ (HK.out.below HB3.out HK.out.lt) (HA.out.below HB3.out) (by have := HL.out.1; omega) (by have := HNM.out; omega) (fun x hx => by have := HL.out.2 x hx; omega)).mono ?_
  rintro e w4 ⟨hb4, b, rfl, hf⟩
  have HB4 := Lib.hid (HB3.out.trans (hb4.mono HB3.out.size))
  clear hb4
  cases b
  case false =>
    go_wp2
    go_ret
    exact ⟨rfl, HB4.out⟩
  have HPT := Lib.hid (hf rfl)
  clear hf
  go_wp2_with fail
  refine (play_any DF L A ca _ (HK.out.below HB4.out HK.out.lt) (HA.out.below HB4.out) (by have := HL.out.1; omega) (fun x hx => by have := HL.out.2 x hx; omega)).mono ?_
  rintro e w5 ⟨p, F, v, rfl, hb5, hd5, hf5, P, hp5⟩
  have HB5 := Lib.hid (HB4.out.trans (hb5.mono HB4.out.size))
  have HD5 := Lib.hid hd5
  have HP5 := Lib.hid hp5
  have HW4 := Lib.hid HB4.out.size
  have HF5 := Lib.hid (show ∀ k, F k → w.heap.size ≤ k from fun k hk => Nat.le_trans HB4.out.size (hf5 k hk))
  have HOK := Lib.hid (show DOk (playK DF.pa (newDst sec16) L) ∧ EpsDim (playK DF.pa (newDst sec16) L) ∧ (playK DF.pa (newDst sec16) L).secret = sec16 from ⟨playK_ok (newDst_ok sec16_size) L, playK_dim' DF.pa L, playK_sec DF.pa L⟩)
  have HCH := Lib.hid (played DF.pa sec16 L)
  clear hb5 hd5 hf5 hp5
  generalize playK DF.pa (newDst sec16) L = d at HD5 HP5 HOK HCH
  go_wp2_with fail
  refine (DF.epochs F p d _ HD5.out HOK.out.1 (HK.out.below HB5.out HK.out.lt)).mono ?_
  rintro e w6 ⟨AE, ce, ME, rfl, hme, hmc, hb6, hsg6, hna, hnt⟩
  have HB6 := Lib.hid (HB5.out.trans (hb6.mono HB5.out.size))
  have HD6 := Lib.hid (DF.same HD5.out (same_of_below hb6 (DF.lt HD5.out)))
  have HP6 := Lib.hid (HP5.out.below hb6)
  have HSG := Lib.hid hsg6
  have HME := Lib.hid hme
  have HNA := Lib.hid hna
  have HNT := Lib.hid hnt
  have hln : ME.length = d.eps.length := by rw [← hme, List.length_map]
  have hpl : P.length = ME.length := by rw [HP6.out.len, hln]
  have hm8 : ME.length ≤ 8 := by rw [hln]; exact HOK.out.1.few
  obtain ⟨pv, cv, rfl⟩ := HP6.out.row.any
  have HLN := Lib.hid hln
  have HPL := Lib.hid hpl
  have e1 : ((ME.length : Int) == (P.length : Int)) = true := by rw [beq_iff_eq, hpl]
  have e2 : ((ME.length : Int) != (P.length : Int)) = false := by rw [hpl]; simp
  clear hme hmc hb6 hsg6 hna hnt hln hpl
  by_cases h0 : ME.length = 0
  · have HLK := Lib.hid (show DF.pa.tells d annT = (noAnsw, 6) from by unfold Pub.tells; rw [if_pos ann_ok, if_pos (by rw [← HLN.out]; exact h0)])
    have e3 : ((ME.length : Int) == 0) = true := by rw [beq_iff_eq, h0]; rfl
    have H6 := Lib.hid (show errOf 6 = .iface 28 (.int .i64 6) from by unfold errOf; rw [if_neg (by decide)])
    clear h0
    go_wp2_with fail
    refine (DF.lookup F p d annT noAnsw 6 _ HD6.out HOK.out.1 (HK.out.below HB6.out HK.out.lt) (by decide) HLK.out).mono ?_
    rintro e w7 ⟨m, rfl, hb7, -, -⟩
    rw [H6.out]
    obtain ⟨⟨s1, A1, ca1, B1, cb1⟩, C1, cc1, x1⟩ := m
    simp only [AnM.cells]
    have HB7 := Lib.hid (HB6.out.trans (hb7.mono HB6.out.size))
    have HB8 := Lib.hid (HB7.out.trans ((alloc_below w7 (.cells #[.int .i64 s1.head.epoch, .string s1.head.root, .string s1.head.prev, .int .i64 s1.key, .slice A1 s1.sig.length ca1, .slice B1 s1.path.length cb1, .slice C1 x1.path.length cc1, .string x1.leaf.1, .string x1.leaf.2, .string x1.opening, .string x1.value] 65)).mono HB7.out.size))
    clear hb7
    go_wp2_with fail
    refine (tell_errno 6 _ ((HB8.out.cell HGL.out).trans HG.out)).mono ?_
    rintro e w9 ⟨rfl, hb9⟩
    have HB9 := Lib.hid (HB8.out.trans (hb9.mono HB8.out.size))
    clear hb9
    go_wp2
    go_ret
    exact ⟨rfl, HB9.out⟩
  · have e3 : ((ME.length : Int) == 0) = false := by rw [beq_eq_false_iff_ne]; omega
    have hpos : 0 < ME.length := by omega
    have HLAST := Lib.hid (show ∃ lm, P.getLast? = some lm from by
      have hP : P ≠ [] := fun e => by have := HPL.out; rw [e] at this; simp at this; omega
      exact ⟨_, List.getLast?_eq_some_getLast hP⟩)
    obtain ⟨lm, hlm⟩ := HLAST.out
    obtain ⟨-, -, -, NN, hmap, hsay⟩ := HP6.out.last lm hlm
    have HMAP := Lib.hid hmap
    have HSAY := Lib.hid hsay
    have HLM := Lib.hid hlm
    clear h0 hlm hmap hsay HLAST
    go_wp2_with fail
    refine (DF.pub F p d _ HD6.out HOK.out.1 (HK.out.below HB6.out HK.out.lt)).mono ?_
    rintro e w7 ⟨rfl, hb7⟩
    obtain ⟨pub, hpub⟩ : ∃ pub, boxPub (dirSeed d.secret) = pub := ⟨_, rfl⟩
    have HPUB := Lib.hid (show dirPub d.secret = pub from hpub)
    rw [hpub]
    have HP16 := Lib.hid (show pub.size = 16 from by rw [← hpub]; exact rowsOf_size _ _ (by omega))
    have HB7 := Lib.hid (HB6.out.trans (hb7.mono HB6.out.size))
    have HB67 := Lib.hid hb7
    clear hb7 hpub
    go_wp2_with fail
    refine (FC.new pub _ HP16.out (HK.out.below HB7.out HK.out.lt)).mono ?_
    rintro e w8 ⟨pc, G0, rfl, hb8, hc8, hgf⟩
    have HLO := Lib.hid (show (∀ k, F k → k < w6.heap.size) ∧ (∀ a, AE = some a → 0 < ME.length → a.block < w6.heap.size) ∧ (∀ m ∈ ME, (∀ a, m.A = some a → 0 < m.s.sig.length → a.block < w6.heap.size) ∧ (∀ a, m.B = some a → 0 < m.s.path.length → a.block < w6.heap.size)) ∧ (∀ k, (Value.slice pv P.length cv).ownBlock = some k → k < w6.heap.size) ∧ lm < w6.heap.size from
      ⟨DF.lt HD6.out, fun a e l => by
        obtain ⟨a', e', hl, _⟩ := HSG.out 0 _ (List.getElem?_eq_getElem l)
        rw [e] at e'
        obtain rfl := Option.some.inj e'
        exact hl, fun m hm => by
        obtain ⟨i, hi⟩ := List.getElem?_of_mem hm
        obtain ⟨_, _, _, _, _, _, _, _, _, hs, hp, _⟩ := HSG.out i m hi
        exact ⟨hs.lt, hp.lt⟩, fun k hk => (HP6.out.row.lt k hk).2, HMAP.out.lt⟩)
    have HFR := Lib.hid (show FrAt DF FC w w8 p pc F G0 d ⟨pub, (headsOf d).take 0⟩ AE ME (.slice pv P.length cv) P lm NN from by
      have hb68 := HB67.out.trans (hb8.mono HB67.out.size)
      have h67 := HB67.out.size
      exact ⟨HB7.out.trans (hb8.mono HB7.out.size), DF.same HD6.out (same_of_below hb68 (DF.lt HD6.out)), hc8, fun k h1 h2 => by have := HLO.out.1 k h1; have := hgf k h2; omega, fun k h => Nat.le_trans HB7.out.size (hgf k h), HSG.out.below hb68, fun a e l h => by have := HLO.out.2.1 a e l; have := hgf _ h; omega,
        fun m hm => ⟨fun a e l h => by have := (HLO.out.2.2.1 m hm).1 a e l; have := hgf _ h; omega, fun a e l h => by have := (HLO.out.2.2.1 m hm).2 a e l; have := hgf _ h; omega⟩, (HP6.out.row.mono HW4.out).belowAll hb68, fun k hk h => by have := HLO.out.2.2.2.1 k hk; have := hgf _ h; omega, HMAP.out.block (hb68.block lm HMAP.out.lt), fun h => by have := HLO.out.2.2.2.2; have := hgf _ h; omega⟩)
    have HDM := Lib.hid (show ∀ m ∈ ME, SgnDim m.s from fun m hm => HOK.out.2.1 m.s (by rw [← HME.out]; exact List.mem_map_of_mem hm))
    have HZ8 := Lib.hid (show w6.heap.size ≤ w8.heap.size ∧ w.heap.size ≤ w6.heap.size from ⟨Nat.le_trans HB67.out.size hb8.size, HB6.out.size⟩)
    clear hb8 hc8 hgf HD6 HSG HMAP HP6 HB67
    go_wp2
    clear e1 e2 e3
    go_loopw [12, 13] (fun hv i wr => ∃ (k : Nat), k ≤ ME.length ∧ i = .int .i64 (k : Int) ∧ Hid (∃ G, FrAt DF FC w wr p pc F G d ⟨pub, (headsOf d).take k⟩ AE ME (.slice pv P.length cv) P lm NN ∧ Row wr w6.heap.size 3 hv k (hdCells ((headsOf d).take k)) ∧ (∀ q, hv.ownBlock = some q → ¬ G q) ∧ w6.heap.size ≤ wr.heap.size)) (fun _ i _ => ME.length - (intOf i).toNat)
    case atStart => exact ⟨0, by omega, rfl, Lib.hid ⟨G0, HFR.out, Row.nil _ _ _, (fun q e => by cases e), HZ8.out.1⟩⟩
    case round =>
      clear HFR
      obtain ⟨k, hk, rfl, HU⟩ := hrel
      obtain ⟨G, hfr, hrow, hng, hwz⟩ := HU.out
      have HWZ := Lib.hid hwz
      have HFR := Lib.hid hfr
      have HROW := Lib.hid hrow
      have HNG := Lib.hid hng
      clear hfr hrow hng hwz HU
      by_cases hlt : k < ME.length
      · obtain ⟨m, hm⟩ : ∃ m, ME[k]? = some m := ⟨_, List.getElem?_eq_getElem hlt⟩
        have hde : d.eps[k]? = some m.s := by rw [← HME.out, List.getElem?_map, hm]; rfl
        have HDE := Lib.hid hde
        have HHK := Lib.hid (show hdCells ((headsOf d).take k) ++ m.s.head.cells = hdCells ((headsOf d).take (k + 1)) from by
          rw [List.take_add_one, headsOf_get hde, hdCells_append]
          simp [hdCells])
        have HSEE := Lib.hid (show seeAns ⟨pub, (headsOf d).take k⟩ m.s = (⟨pub, (headsOf d).take (k + 1)⟩, 0) from by
          have h := see_eps HOK.out.1 HCH.out.1 hde (n := k) (by rw [← HLN.out]; omega)
          rw [if_neg (Nat.lt_irrefl k), if_pos rfl, HPUB.out] at h
          exact h)
        have HMM := Lib.hid (List.mem_of_getElem? hm)
        obtain ⟨a, rfl, hal, c0, c1, c2, c3, c4, c5, hs, hp⟩ := HFR.out.sg.six' hm
        have HAL := Lib.hid hal
        have HS := Lib.hid hs
        have HP := Lib.hid hp
        have hk0 : (0 : Int) ≤ (k : Int) := by omega
        have hk1 : (k : Int) < (ME.length : Int) := by omega
        clear hde hs hp hal
        have HM := Lib.hid hm
        clear hm
        go_upto_region 24 with (first | (at_builtin; refine wpList_append_cells rfl (.tmp 87) (.tmp 93) 84 rfl 49 Tryz.underlying84 _ 3 40 infoHd rfl (by decide) (by decide) w6.heap.size u12 k (hdCells ((headsOf d).take k)) rfl (HROW.out.alloc _) (by have := HFR.out.below.size; have := HZ8.out; have := HWZ.out; simp; omega) (by omega) m.s.head.cells rfl (by intro u hu; simp [Hd.cells] at hu; rcases hu with rfl | rfl | rfl <;> rfl) wr.heap.size rfl 49 (heap_alloc_new _ _) ?_; intro v9 w9 hrow9 hg9 hm9))
        clear c0 c1 c2 c3 c4 c5
        have HF9 := Lib.hid ((HFR.out.calm (alloc_below wr (.cells m.s.head.cells.toArray 49))).grow hg9.out HZ8.out.2 HLO.out (fun q e => ⟨(HROW.out.lt q e).1, HNG.out q e⟩))
        have HR9 := Lib.hid (show Row w9 w6.heap.size 3 v9 (k + 1) (hdCells ((headsOf d).take (k + 1))) from by have h := hrow9.out; rwa [HHK.out] at h)
        have HN9 := Lib.hid (show ∀ q, v9.ownBlock = some q → ¬ G q ∧ q < w9.heap.size from fun q e => by
          refine ⟨?_, (HR9.out.lt q e).2⟩
          rcases hm9.out with h | h
          · exact HNG.out q (h.symm.trans e)
          · intro hg
            have h1 : (wr.alloc (.cells m.s.head.cells.toArray 49)).heap.size ≤ q := h q e
            have h2 := FC.lt HFR.out.ci q hg
            have h3 : (wr.alloc (.cells m.s.head.cells.toArray 49)).heap.size = wr.heap.size + 1 := World.size_alloc _ _
            omega)
        have HW9 := Lib.hid (show w6.heap.size ≤ w9.heap.size from by
          have h1 : (wr.alloc (.cells m.s.head.cells.toArray 49)).heap.size ≤ w9.heap.size := hg9.out.size
          have h3 : (wr.alloc (.cells m.s.head.cells.toArray 49)).heap.size = wr.heap.size + 1 := World.size_alloc _ _
          have := HWZ.out
          omega)
        clear hrow9 hg9 hm9 HROW HNG HFR HWZ
        obtain ⟨a', ea, hal, c0, c1, c2, c3, c4, c5, hs, hp⟩ := HF9.out.sg.six' HM.out
        obtain rfl := Option.some.inj ea
        have HS9 := Lib.hid hs
        have HP9 := Lib.hid hp
        clear hs hp hal ea
        go_wp2_with fail
        clear c0 c1 c2 c3 c4 c5
        refine (FC.see G pc ⟨pub, (headsOf d).take k⟩ ⟨pub, (headsOf d).take (k + 1)⟩ m.s.head m.s.key m.s.sig m.s.path m.A m.B m.ca m.cb 0 w9 HF9.out.ci (HK.out.below HF9.out.below HK.out.lt) (by show ((headsOf d).take k).length ≤ 1000; rw [List.length_take]; omega) (by have := (HDM.out m HMM.out).sig; omega) (by have := (HDM.out m HMM.out).path; omega) (HDM.out m HMM.out).ep HS9.out HP9.out (HF9.out.tx m HMM.out).1 (HF9.out.tx m HMM.out).2 HSEE.out).mono ?_
        rintro e w10 ⟨rfl, G2, ho10, hg10, hc10⟩
        rw [HE0.out]
        have HF10 := Lib.hid (HF9.out.prog ho10 hg10 hc10)
        have HR10 := Lib.hid (HR9.out.kept (fun q e => ho10.block q (HN9.out q e).2 (HN9.out q e).1) ho10.size)
        have HN10 := Lib.hid (show ∀ q, v9.ownBlock = some q → ¬ G2 q from fun q e h => by
          rcases hg10 q h with h1 | h1
          · exact (HN9.out q e).1 h1
          · have := (HN9.out q e).2; omega)
        have HW10 := Lib.hid (Nat.le_trans HW9.out ho10.size)
        clear ho10 hg10 hc10
        go_wp2
        go_roundw
        case rel => exact ⟨k + 1, by omega, by go_num, Lib.hid ⟨G2, HF10.out, HR10.out, HN10.out, HW10.out⟩⟩
        case measure => simp [intOf]; omega
      · have hke : k = ME.length := by omega
        have hhl : (headsOf d).length = ME.length := by unfold headsOf; rw [List.length_map, HLN.out]
        have HTK := Lib.hid (show (headsOf d).take k = headsOf d from List.take_of_length_le (by omega))
        have HFR := Lib.hid (show FrAt DF FC w wr p pc F G d ⟨pub, headsOf d⟩ AE ME (.slice pv P.length cv) P lm NN from by have h := HFR.out; rwa [HTK.out] at h)
        have HRH := Lib.hid (show Row wr w6.heap.size 3 u12 ME.length (hdCells (headsOf d)) from by have h := HROW.out; rwa [HTK.out, hke] at h)
        obtain ⟨g6, c6, rfl, -, -, hc6, -, -⟩ := HRH.out.shape hpos
        obtain ⟨-, AH, cH, hv, hhd⟩ := HRH.out.hds
        injection hv with hv1 _ hv3
        subst hv1
        subst hv3
        have HWHO := Lib.hid (show Calls Tryz.prog 34 #[.slice (some ⟨g6, 0, none⟩) ME.length c6] wr fun e w' => ∃ y : Int, e = .returned (.tuple #[.int .i64 y, .bool true]) ∧ Below wr.heap.size wr w' from by
          have h := pWhole_any (headsOf d) (some ⟨g6, 0, none⟩) c6 wr (HK.out.below HFR.out.below HK.out.lt) (by omega) (by omega) hhd
          rw [hhl, whole_chained HCH.out.1] at h
          exact h.mono fun e w' ⟨h1, h2⟩ => ⟨_, h1, h2⟩)
        clear HROW HNG HTK hhd hc6 hhl hke HRH
        go_wp2_with fail
        clear hlt hk
        refine HWHO.out.mono ?_
        rintro e w9 ⟨y, rfl, hb9⟩
        have HF9 := Lib.hid (HFR.out.calm hb9)
        have HW9 := Lib.hid (Nat.le_trans HWZ.out hb9.size)
        clear hb9 HFR HWZ HWHO
        obtain ⟨q, hq⟩ : ∃ q : Nat, P.length = q + 1 := ⟨P.length - 1, by have := HPL.out; omega⟩
        obtain ⟨g7, c7, hv, -, hg7, -, hcell, -⟩ := HF9.out.row.shape (by have := HPL.out; omega)
        injection hv with hv1 _ hv3
        subst hv1
        have hcl : w9.cell? ⟨g7, q, none⟩ = some (.map (some lm)) := hcell q _ (by
          have h := HLM.out
          rw [List.getLast?_eq_getElem?, hq, Nat.add_sub_cancel] at h
          rw [List.getElem?_map, h]; rfl)
        have hq1 : (P.length : Int) - 1 = (q : Int) := by omega
        have hq2 : (0 : Int) ≤ (q : Int) := by omega
        have hq3 : (q : Int) < (P.length : Int) := by omega
        have hp8 : P.length ≤ 8 := by have := HPL.out; omega
        have HNN := Lib.hid (show NN.length ≤ 61 from by have := sameLen HF9.out.map.keys HOK.out.1.vk HSAY.out; have := HOK.out.1.vals_len; omega)
        have HNW := Lib.hid (show Holds (w9.alloc (.cells #[.string name] 9)) w9.heap.size 1 (fun _ => .string name) 9 from Holds.new w9 1 (fun _ => .string name) 9)
        have HFW := Lib.hid (HF9.out.calm (alloc_below w9 (.cells #[.string name] 9)))
        clear hcell hq hv3
        go_wp2_with (first | (at_range; refine wpList_mapRange kS rfl (.tmp 117) rfl lm NN rfl HFW.out.map ?_; intro w10 hrg10 hg10 hs10))
        go_frame
        obtain ⟨r, hr⟩ : ∃ r, (w9.alloc (.cells #[.string name] 9)).heap.size = r := ⟨_, rfl⟩
        have hr2 : r = w9.heap.size + 1 := by rw [← hr, World.size_alloc]
        have HRE := Lib.hid hr2
        rw [hr] at hrg10 ⊢
        have HRG := Lib.hid (show Rng kS w10 lm r NN [] NN.length from hrg10.out)
        have hb10 := grownBy.below hg10.out (Nat.le_refl _) (fun k hk => by cases hk)
        have HFA := Lib.hid (HFW.out.calm hb10)
        have HGW := Lib.hid (show ∀ k, G k → k < w9.heap.size from FC.lt HF9.out.ci)
        have HNR := Lib.hid (show Row w10 w9.heap.size 1 (.slice (some ⟨w9.heap.size, 0, none⟩) 1 1) 1 (stCells [name]) from by
          have hh := HNW.out.below hb10 HNW.out.lt
          refine ⟨rfl, .inr ⟨w9.heap.size, 1, rfl, Nat.le_refl _, hh.lt, Nat.le_refl _, fun j u hj => ?_, fun j hj => ?_⟩⟩
          · have hj1 : j < 1 := (List.getElem?_eq_some_iff.1 hj).1
            obtain rfl : j = 0 := by omega
            obtain rfl : Value.string name = u := Option.some.inj hj
            exact hh.cell 0 (by omega)
          · obtain rfl : j = 0 := by omega
            exact ⟨by rw [hh.cell 0 (by omega)]; rfl, hh.free 0⟩)
        clear hr hr2 hrg10 hg10 hs10 hb10 HNW HFW HF9 hcl hq1 hq2 hq3
        go_loopw [17, 18] (fun nv _ wr => ∃ S cnt, Rng kS wr lm r NN S cnt ∧ Hid (FrAt DF FC w wr p pc F G d ⟨pub, headsOf d⟩ AE ME (.slice (some ⟨g7, 0, none⟩) P.length cv) P lm NN ∧ Row wr w9.heap.size 1 nv (S.length + 1) (stCells (name :: S)) ∧ ∀ q, nv.ownBlock = some q → q ≠ r ∧ w9.heap.size ≤ q)) (fun _ _ wr => wr.rangeLeft lm r)
        case atStart => exact ⟨[], _, HRG.out, Lib.hid ⟨HFA.out, HNR.out, fun q e => by
          have h1 : w9.heap.size = q := Option.some.inj e
          have := HRE.out
          omega⟩⟩
        case round =>
          clear HRG HFA HNR
          obtain ⟨S, cnt, hrg, HU⟩ := hrel
          have HRG := Lib.hid hrg
          clear hrg
          go_wp2_with (first | (at_next; refine wpList_mapNext kS rfl (.tmp 118) rfl lm r NN S cnt rfl HRG.out ?_ ?_))
          · intro hperm
            obtain ⟨NM, hNM⟩ : ∃ NM, name :: S = NM := ⟨_, rfl⟩
            have hkeys := SameSay.keys (L := NN) (M := d.vals) HSAY.out HRG.out.keys HOK.out.1.vk
            have HNE := Lib.hid (show ∀ nm ∈ NM, nm.size ≤ 1000000 ∧ (nm = name ∨ nm ∈ keysL d.vals) from fun nm h => by
              rw [← hNM] at h
              rcases List.mem_cons.1 h with e | h
              · rw [e]; exact ⟨by have := HNM.out; omega, .inl rfl⟩
              · have h1 := hperm.mem_iff.1 h
                obtain ⟨pr, hpr, rfl⟩ := List.mem_map.1 h1
                exact ⟨HRG.out.short pr hpr, .inr (hkeys.mem_iff.1 h1)⟩)
            have HNLEN := Lib.hid (show NM.length ≤ 62 from by
              rw [← hNM, List.length_cons, hperm.length_eq, keysL_length]
              have := HNN.out; omega)
            obtain ⟨-, NA, nc, rfl, hns⟩ := (show Row wr w9.heap.size 1 u17 NM.length (stCells NM) from by have h := HU.out.2.1; rw [hNM, show S.length + 1 = NM.length by rw [← hNM]; rfl] at h; exact h).strs
            have HNS := Lib.hid hns
            have HNG := Lib.hid (show ∀ a, NA = some a → ¬ G a.block from fun a e h => by
              have h1 := HU.out.2.2 a.block (by rw [e]; rfl)
              have := HGW.out _ h; omega)
            have HFL := Lib.hid HU.out.1
            clear hperm hkeys hNM hns HU HRG HNN
            go_wp2
            go_loopw [19] (fun i wr => ∃ k : Nat, k ≤ NM.length ∧ i = .int .i64 (k : Int) ∧ Hid (∃ G, FrAt DF FC w wr p pc F G d ⟨pub, headsOf d⟩ AE ME (.slice (some ⟨g7, 0, none⟩) P.length cv) P lm NN ∧ Strs wr NA NM ∧ ∀ a, NA = some a → ¬ G a.block)) (fun i _ => NM.length - (intOf i).toNat)
            case atStart => exact ⟨0, by omega, rfl, Lib.hid ⟨G, HFL.out, HNS.out, HNG.out⟩⟩
            case round =>
              clear HFL HNS HNG
              obtain ⟨k, hkl, rfl, HU⟩ := hrel
              obtain ⟨G2, hf, hns, hng⟩ := HU.out
              have HF := Lib.hid hf
              have HNS := Lib.hid hns
              have HNG := Lib.hid hng
              clear hf hns hng HU
              by_cases hlt : k < NM.length
              · obtain ⟨nm, hnm⟩ : ∃ nm, NM[k]? = some nm := ⟨_, List.getElem?_eq_getElem hlt⟩
                obtain ⟨na, rfl, hnal, n0⟩ := HNS.out k nm hnm
                have HNK := Lib.hid (HNE.out nm (List.mem_of_getElem? hnm))
                have HNI := Lib.hid hnm
                have HNAL := Lib.hid hnal
                have hk0 : (0 : Int) ≤ (k : Int) := by omega
                have hk1 : (k : Int) < (NM.length : Int) := by omega
                have hk2 : NM.length ≤ 62 := HNLEN.out
                clear hnm hnal
                by_cases hok : nameOk nm.data.toList = true
                · have HLK := Lib.hid (show DF.pa.tells d nm = (foundAns d nm (ofAns nm).1, 0) from by rw [DF.pa.tells_plain HOK.out.1 (HPT.out.mono fun s hs => List.mem_cons_of_mem _ (HCH.out.2.1 s hs))]; unfold lookupAns; rw [if_pos hok, if_neg (by rw [← HLN.out]; omega)])
                  have HASK := Lib.hid (show askAns ⟨pub, headsOf d⟩ nm (foundAns d nm (ofAns nm).1) = (⟨pub, headsOf d⟩, (look d.vals nm).getD ⟨#[]⟩, (look d.vals nm).isSome, 0) from by
                    have hel : 0 < d.eps.length := by rw [← HLN.out]; exact hpos
                    have hs := see_eps HOK.out.1 HCH.out.1 (i := d.eps.length - 1) (n := d.eps.length) (s := lastSgn d) (by unfold lastSgn; rw [List.getD_eq_getElem?_getD, List.getElem?_eq_getElem (by omega)]; rfl) (Nat.le_refl _)
                    rw [if_neg (by omega), if_neg (by omega), HPUB.out, show (headsOf d).take d.eps.length = headsOf d from List.take_of_length_le (by unfold headsOf; rw [List.length_map]; omega)] at hs
                    have h := ask_found HOK.out.1 (name := nm) (HPT.out.mono fun s hs => by
                      rcases List.mem_cons.1 hs with e | hs
                      · rw [e]
                        rcases HNK.out.2 with e2 | e2
                        · rw [e2]; simp
                        · exact List.mem_cons_of_mem _ (HCH.out.2.1 nm e2)
                      · exact List.mem_cons_of_mem _ (HCH.out.2.1 s hs)) hok (c := ⟨pub, headsOf d⟩) (by rw [hs]) (by rw [← DF.pa.its_plain HOK.out.1 (HPT.out.mono fun s hs => List.mem_cons_of_mem _ (HCH.out.2.1 s hs))]; exact HCH.out.2.2 (fun e => by rw [e] at hel; simp at hel))
                    rw [h, hs])
                  have HDA := Lib.hid (show SpDim (foundAns d nm (ofAns nm).1) from by
                    have h := DF.pa.tells_dim HOK.out.1 HOK.out.2.1 nm
                    rw [HLK.out] at h
                    replace h : AnsDim (foundAns d nm (ofAns nm).1) := h
                    exact h.sp)
                  generalize foundAns d nm (ofAns nm).1 = a1 at HLK HASK HDA
                  obtain ⟨V, hV⟩ : ∃ V, (look d.vals nm).getD ⟨#[]⟩ = V := ⟨_, rfl⟩
                  obtain ⟨T, hT⟩ : ∃ T, (look d.vals nm).isSome = T := ⟨_, rfl⟩
                  rw [hV, hT] at HASK
                  have HVT := Lib.hid (show (look NN nm).getD ⟨#[]⟩ = V ∧ (look NN nm).isSome = T from by rw [HSAY.out nm]; exact ⟨hV, hT⟩)
                  clear hV hT hok
                  go_wp2_with fail
                  clear n0
                  refine (DF.lookup F p d nm a1 0 _ HF.out.di HOK.out.1 (HK.out.below HF.out.below HK.out.lt) HNK.out.1 HLK.out).mono ?_
                  rintro e w13 ⟨m1, rfl, hb13, hin13, hn13⟩
                  rw [HE0.out]
                  obtain ⟨⟨s1, A1, ca1, B1, cb1⟩, C1, cc1, x1⟩ := m1
                  obtain rfl : x1 = a1 := hin13.is
                  obtain rfl : s1 = x1.sgn := hin13.sgn
                  simp only [AnM.cells]
                  have hb14 := alloc_below w13 (.cells #[.int .i64 x1.sgn.head.epoch, .string x1.sgn.head.root, .string x1.sgn.head.prev, .int .i64 x1.sgn.key, .slice A1 x1.sgn.sig.length ca1, .slice B1 x1.sgn.path.length cb1, .slice C1 x1.path.length cc1, .string x1.leaf.1, .string x1.leaf.2, .string x1.opening, .string x1.value] 65)
                  have HG13 := Lib.hid (show ∀ q, G2 q → q < w13.heap.size from fun q h => Nat.lt_of_lt_of_le (FC.lt HF.out.ci q h) hb13.size)
                  have HAP := Lib.hid (show (∀ b, A1 = some b → 0 < x1.sgn.sig.length → ¬ G2 b.block) ∧ (∀ b, B1 = some b → 0 < x1.sgn.path.length → ¬ G2 b.block) ∧ (∀ b, C1 = some b → 0 < x1.path.length → ¬ G2 b.block) from
                    ⟨hn13.1.apart HF.out.fg (FC.lt HF.out.ci), hn13.2.1.apart HF.out.fg (FC.lt HF.out.ci), hn13.2.2.apart HF.out.fg (FC.lt HF.out.ci)⟩)
                  have HY14 := Lib.hid (show Holds (w13.alloc (.cells #[.int .i64 x1.sgn.head.epoch, .string x1.sgn.head.root, .string x1.sgn.head.prev, .int .i64 x1.sgn.key, .slice A1 x1.sgn.sig.length ca1, .slice B1 x1.sgn.path.length cb1, .slice C1 x1.path.length cc1, .string x1.leaf.1, .string x1.leaf.2, .string x1.opening, .string x1.value] 65)) w13.heap.size 11 (anF ⟨x1.sgn, A1, ca1, B1, cb1⟩ C1 x1.path.length cc1 x1.leaf x1.opening x1.value) 65 from Holds.new w13 11 (anF ⟨x1.sgn, A1, ca1, B1, cb1⟩ C1 x1.path.length cc1 x1.leaf x1.opening x1.value) 65)
                  have HF14 := Lib.hid (HF.out.calm (hb13.trans (hb14.mono hb13.size)))
                  have HI14 := Lib.hid (hin13.later hb14)
                  have HS14 := Lib.hid (HNS.out.below (hb13.trans (hb14.mono hb13.size)))
                  clear hb13 hb14 hin13 hn13 HF HNS
                  go_upto_region 42 with (fail)
                  generalize w13.alloc (.cells #[.int .i64 x1.sgn.head.epoch, .string x1.sgn.head.root, .string x1.sgn.head.prev, .int .i64 x1.sgn.key, .slice A1 x1.sgn.sig.length ca1, .slice B1 x1.sgn.path.length cb1, .slice C1 x1.path.length cc1, .string x1.leaf.1, .string x1.leaf.2, .string x1.opening, .string x1.value] 65) = w14 at HY14 HF14 HI14 HS14 ⊢
                  have HZ := Lib.hid (show ∀ u : World, Strs u (some na) NM → Holds u w13.heap.size 11 (anF ⟨x1.sgn, A1, ca1, B1, cb1⟩ C1 x1.path.length cc1 x1.leaf x1.opening x1.value) 65 → (u.cell? (na.add k) = some (.string nm) ∧ u.cell? ⟨w13.heap.size, 0, none⟩ = some (.int .i64 x1.sgn.head.epoch) ∧ u.cell? ⟨w13.heap.size, 1, none⟩ = some (.string x1.sgn.head.root) ∧ u.cell? ⟨w13.heap.size, 2, none⟩ = some (.string x1.sgn.head.prev) ∧ u.cell? ⟨w13.heap.size, 3, none⟩ = some (.int .i64 x1.sgn.key) ∧ u.cell? ⟨w13.heap.size, 4, none⟩ = some (.slice A1 x1.sgn.sig.length ca1) ∧ u.cell? ⟨w13.heap.size, 5, none⟩ = some (.slice B1 x1.sgn.path.length cb1) ∧ u.cell? ⟨w13.heap.size, 6, none⟩ = some (.slice C1 x1.path.length cc1) ∧ u.cell? ⟨w13.heap.size, 7, none⟩ = some (.string x1.leaf.1) ∧ u.cell? ⟨w13.heap.size, 8, none⟩ = some (.string x1.leaf.2) ∧ u.cell? ⟨w13.heap.size, 9, none⟩ = some (.string x1.opening) ∧ u.cell? ⟨w13.heap.size, 10, none⟩ = some (.string x1.value)) from fun u h1 h2 => by
                    obtain ⟨a', ea, -, hc⟩ := h1 k nm HNI.out
                    obtain rfl := Option.some.inj ea
                    exact ⟨hc, an_cells h2⟩)
                  have HFD := Lib.hid (HF14.out.calm (Below.refl _ _).drew)
                  have HID := Lib.hid (HI14.out.later (Below.refl _ _).drew)
                  have HSD := Lib.hid (HS14.out.below (Below.refl _ _).drew)
                  have HYD := Lib.hid (show Holds w14.drew w13.heap.size 11 (anF ⟨x1.sgn, A1, ca1, B1, cb1⟩ C1 x1.path.length cc1 x1.leaf x1.opening x1.value) 65 from HY14.out)
                  have T5 := Lib.hid (HZ.out w14 HS14.out HY14.out)
                  have T6 := Lib.hid (HZ.out w14.drew HSD.out HYD.out)
                  clear HF14 HI14 HS14 HY14
                  go_region_held3 (fun u => u.cell? (na.add k) = some (.string nm) ∧ u.cell? ⟨w13.heap.size, 0, none⟩ = some (.int .i64 x1.sgn.head.epoch) ∧ u.cell? ⟨w13.heap.size, 1, none⟩ = some (.string x1.sgn.head.root) ∧ u.cell? ⟨w13.heap.size, 2, none⟩ = some (.string x1.sgn.head.prev) ∧ u.cell? ⟨w13.heap.size, 3, none⟩ = some (.int .i64 x1.sgn.key) ∧ u.cell? ⟨w13.heap.size, 4, none⟩ = some (.slice A1 x1.sgn.sig.length ca1) ∧ u.cell? ⟨w13.heap.size, 5, none⟩ = some (.slice B1 x1.sgn.path.length cb1) ∧ u.cell? ⟨w13.heap.size, 6, none⟩ = some (.slice C1 x1.path.length cc1) ∧ u.cell? ⟨w13.heap.size, 7, none⟩ = some (.string x1.leaf.1) ∧ u.cell? ⟨w13.heap.size, 8, none⟩ = some (.string x1.leaf.2) ∧ u.cell? ⟨w13.heap.size, 9, none⟩ = some (.string x1.opening) ∧ u.cell? ⟨w13.heap.size, 10, none⟩ = some (.string x1.value))
                    (first | with_reducible exact T6.out | with_reducible exact T7.out | with_reducible exact T5.out)
                    (first | (go_at_call 36; refine (FC.ask G2 pc ⟨pub, headsOf d⟩ ⟨pub, headsOf d⟩ nm ⟨⟨x1.sgn, A1, ca1, B1, cb1⟩, C1, cc1, x1⟩ x1 V T 0 w14.drew HFD.out.ci (HK.out.below HFD.out.below HK.out.lt) (by show (headsOf d).length ≤ 1000; unfold headsOf; rw [List.length_map, ← HLN.out]; omega) HNK.out.1 HDA.out HID.out HAP.out.1 HAP.out.2.1 HAP.out.2.2 HASK.out).mono ?_; rintro e w15 ⟨rfl, G3, ho15, hg15, hc15⟩; rw [HE0.out]; have HF15 := Lib.hid (HFD.out.prog ho15 hg15 hc15); have HN15 := Lib.hid (HSD.out.aside ho15 (fun a e _ => HNG.out a e)); have HY15 := Lib.hid (HYD.out.off ho15 (fun h => by have := HG13.out _ h; omega)); have HG15 := Lib.hid (show ∀ a, (some na : Option Addr) = some a → ¬ G3 a.block from fun a e h => (hg15 _ h).elim (fun h1 => HNG.out a e h1) (fun h1 => by have := HSD.out.lt a e (by omega); omega)); have T7 := Lib.hid (HZ.out w15 HN15.out HY15.out); clear ho15 hg15 hc15 HFD HID HSD HYD T6 T5))
                  obtain ⟨na', ea, -, n0⟩ := HN15.out k nm HNI.out
                  obtain rfl := Option.some.inj ea
                  have hlk : (Instr.lookup 39 (.map (some lm)) (.string nm) true).run Tryz.prog w15 = .ok (.tuple #[.string V, .bool T]) w15 := by
                    have h := HF15.out.map.lookOk HNK.out.1
                    rw [show (look NN nm).getD kS.zero = V from HVT.out.1, HVT.out.2] at h
                    exact h
                  clear ea
                  go_wp2
                  clear n0 hlk
                  go_roundw
                  case rel => exact ⟨k + 1, by omega, by go_num, Lib.hid ⟨G3, HF15.out, HN15.out, HG15.out⟩⟩
                  case measure => simp [intOf]; omega
                · have HLK := Lib.hid (show DF.pa.tells d nm = (noAnsw, 5) from by unfold Pub.tells; rw [if_neg hok])
                  have HNO := Lib.hid (show nameOk nm.data.toList = false from by simpa using hok)
                  have H5 := Lib.hid (show errOf 5 = .iface 28 (.int .i64 5) from by unfold errOf; rw [if_neg (by decide)])
                  clear hok
                  go_wp2_with fail
                  clear n0
                  refine (DF.lookup F p d nm noAnsw 5 _ HF.out.di HOK.out.1 (HK.out.below HF.out.below HK.out.lt) HNK.out.1 HLK.out).mono ?_
                  rintro e w13 ⟨m, rfl, hb13, -, -⟩
                  rw [H5.out]
                  obtain ⟨⟨s1, A1, ca1, B1, cb1⟩, C1, cc1, x1⟩ := m
                  simp only [AnM.cells]
                  have HBB := Lib.hid (show Below wr.heap.size wr (w13.alloc (.cells #[.int .i64 s1.head.epoch, .string s1.head.root, .string s1.head.prev, .int .i64 s1.key, .slice A1 s1.sig.length ca1, .slice B1 s1.path.length cb1, .slice C1 x1.path.length cc1, .string x1.leaf.1, .string x1.leaf.2, .string x1.opening, .string x1.value] 65)) from hb13.trans ((alloc_below w13 _).mono hb13.size))
                  have HFB := Lib.hid (HF.out.calm HBB.out)
                  have HNB := Lib.hid (HNS.out.below HBB.out)
                  obtain ⟨na', ea, -, n0⟩ := HNB.out k nm HNI.out
                  obtain rfl := Option.some.inj ea
                  clear hb13 ea
                  go_wp2_with fail
                  clear n0
                  refine (name_any nm _).mono ?_
                  rintro e w14 ⟨rfl, rfl⟩
                  rw [HNO.out]
                  go_wp2
                  go_roundw
                  case rel => exact ⟨k + 1, by omega, by go_num, Lib.hid ⟨G2, HFB.out, HNB.out, HNG.out⟩⟩
                  case measure => simp [intOf]; omega
              · go_wp2
                go_ret
                exact ⟨rfl, HF.out.below⟩
          · intro s y' w11 cnt' hlk hns hgd hrg11 hlt11 hg11 hs11 hen
            have HSL := Lib.hid (show S.length ≤ 61 from by have h1 := HRG.out.room; have h2 := HNN.out; omega)
            have HRG11 := Lib.hid hrg11.out
            have HF11 := Lib.hid (HU.out.1.grow hg11.out HZ8.out.2 HLO.out (fun q e => by
              obtain rfl := Option.some.inj e
              have h1 := HRE.out
              have h2 := HW9.out
              exact ⟨by omega, fun hg => by have := HGW.out _ hg; omega⟩))
            have HNR := Lib.hid (HU.out.2.1.kept (fun q e => hg11.out.block q (HU.out.2.1.lt q e).2 (fun e' => (HU.out.2.2 q e).1 (Option.some.inj e'))) hg11.out.size)
            have HNO := Lib.hid HU.out.2.2
            have HLT := Lib.hid (show wr.rangeLeft lm r = cnt ∧ cnt' < cnt from ⟨HRG.out.left_eq, hlt11.out⟩)
            have HW11 := Lib.hid (show w9.heap.size ≤ w11.heap.size from by have h1 := HRG11.out.lt; have h2 := HRE.out; omega)
            clear hlk hns hrg11 hlt11 hg11 hs11 hgd HU HRG
            go_wp2_with (at_builtin; refine wpList_append_one2 rfl (.tmp 123) (.tmp 125) 50 rfl 9 Tryz.underlying50 _ 16 infoStr rfl (by decide) w9.heap.size _ (S.length + 1) _ rfl HNR.out HW11.out (by have := HSL.out; omega) _ rfl rfl 9 ?_; intro v12 w12 hrow12 hg12 hm12)
            have HOW := Lib.hid (show ∀ q, v12.ownBlock = some q → q ≠ r ∧ w9.heap.size ≤ q from fun q e => by
              refine ⟨?_, ?_⟩
              · rcases (show v12.ownBlock = u17.ownBlock ∨ ∀ b, v12.ownBlock = some b → w11.heap.size ≤ b from hm12.out) with h | h
                · exact (HNO.out q (h.symm.trans e)).1
                · have h1 := h q e
                  have h2 := HRG11.out.lt
                  omega
              · exact (hrow12.out.lt q e).1)
            have HF12 := Lib.hid (HF11.out.grow (show w11.grownBy w12 u17.ownBlock from hg12.out) HZ8.out.2 HLO.out (fun q e => by
              have h1 := (HNO.out q e).2
              have h2 := HW9.out
              exact ⟨by omega, fun hg => by have := HGW.out _ hg; omega⟩))
            have HRG12 := Lib.hid (HRG11.out.block ((show w11.grownBy w12 u17.ownBlock from hg12.out).block lm HRG11.out.map.lt (fun e => by
              have h1 := (HNO.out lm e.symm).2
              have h2 := HW9.out
              have h3 := HLO.out.2.2.2.2
              omega)) ((show w11.grownBy w12 u17.ownBlock from hg12.out).block r HRG11.out.lt (fun e => (HNO.out r e.symm).1 rfl)))
            have HR12 := Lib.hid (show Row w12 w9.heap.size 1 v12 ((S ++ [s]).length + 1) (stCells (name :: (S ++ [s]))) from by
              have h := hrow12.out
              rw [List.length_append, List.length_singleton]
              rw [show name :: (S ++ [s]) = (name :: S) ++ [s] from rfl, stCells_append]
              exact h)
            clear hrow12 hg12 hm12 HNR hen
            go_roundw
            case rel => first | exact ⟨_, _, HRG12.out, Lib.hid ⟨HF12.out, HR12.out, HOW.out⟩⟩ | exact ⟨_, ⟨_, HRG12.out⟩, Lib.hid ⟨HF12.out, HR12.out, HOW.out⟩⟩
            case measure =>
              rw [HRG12.out.left_eq, HLT.out.1]
              exact HLT.out.2
end Go.Proofs.YtcfpmofmjnhonaaGreatDoor
