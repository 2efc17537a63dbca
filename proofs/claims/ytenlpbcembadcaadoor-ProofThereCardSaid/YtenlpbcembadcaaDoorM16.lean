/- Parts of the proof, one behind the other: ThereLaw. -/
import Derived.Test.YtenlpbcembadcaaDoorM10
import Derived.Test.YtenlpbcembadcaaDoorM12
import Derived.Test.YtenlpbcembadcaaDoorM15
import Derived.Deep.RegionLaw
/- ProofThere, the walk. -/
namespace Go.Proofs.YtenlpbcembadcaaDoor
open Go.RowKit

def cellNat (p : Value) (w : World) : Nat := match p with
  | .pointer (some a) => (match w.cell? a with
    | some (.int _ z) => z.toNat
    | _ => 0)
  | _ => 0
theorem cellNat_of {w : World} {b : Nat} {z : Int} {t : TypeId} (h : Holds w b 1 (fun _ => .int .i64 z) t) : cellNat (.pointer (some ⟨b, 0, none⟩)) w = z.toNat := by
  have := h.cell 0 (by omega)
  unfold cellNat
  simp only [this]
/-- What is asked: a text, and the indexes of the items. -/
def asksOf (ix : ByteArray) (M : List It) (k : Nat) : List ByteArray := ix :: (M.take k).map (·.1)
theorem asks_next {M : List It} {k : Nat} {x : It} (ix : ByteArray) (h : M[k]? = some x) : asksOf ix M (k + 1) = asksOf ix M k ++ [x.1] := by
  unfold asksOf
  rw [List.take_add_one, h]; simp
theorem asks_length (ix : ByteArray) (M : List It) (k : Nat) (h : k ≤ M.length) : (asksOf ix M k).length = k + 1 := by
  unfold asksOf
  rw [List.length_cons, List.length_map, List.length_take, Nat.min_eq_left h]
/-- What is told of a text: what lies there, or that nothing does. -/
def Told (M : List It) (q c : ByteArray) (t : Bool) : Prop := (t = true ∧ ∃ z ∈ M, z.1 = q ∧ c = z.2) ∨ (t = false ∧ c = ⟨#[]⟩ ∧ ∀ z ∈ M, z.1 ≠ q)
theorem pair_same : ∀ {M : List It} {x y : It}, M.Pairwise (fun x y => x.1 ≠ y.1) → x ∈ M → y ∈ M → x.1 = y.1 → x = y
  | [], _, _, _, hx, _, _ => by cases hx
  | a :: r, x, y, hp, hx, hy, h => by
    obtain ⟨h1, h2⟩ := List.pairwise_cons.1 hp
    rcases List.mem_cons.1 hx with rfl | hx'
    · rcases List.mem_cons.1 hy with rfl | hy'
      · rfl
      · exact absurd h (h1 y hy')
    · rcases List.mem_cons.1 hy with rfl | hy'
      · exact absurd h.symm (h1 x hx')
      · exact pair_same h2 hx' hy' h
theorem same_item {M : List It} {x y : It} (hr : rightItems M = true) (hx : x ∈ M) (hy : y ∈ M) (h : x.1 = y.1) : x = y := by
  exact pair_same (right_apart hr).2.1 hx hy h
structure AskRel (pb N : Nat) (w wr : World) (S : List ByteArray) (v : Value) : Prop where
  below : Below N w wr
  own : Holds wr pb 1 (fun _ => v) 22
  row : Row wr N 1 v S.length (stCells S)
  apart : v.ownBlock ≠ some pb
theorem row_text (w : World) (s : ByteArray) (t : TypeId) : Row (w.alloc (.cells #[.string s] t)) w.heap.size 1 (.slice (some ⟨w.heap.size, 0, none⟩) 1 1) 1 (stCells [s]) := by
  have h : Holds (w.alloc (.cells #[.string s] t)) w.heap.size 1 (fun _ => .string s) t := Holds.new w 1 (fun _ => .string s) t
  refine ⟨rfl, .inr ⟨w.heap.size, 1, rfl, Nat.le_refl _, h.lt, Nat.le_refl _, fun j u hj => ?_, fun j hj => ?_⟩⟩
  · have hj1 := (List.getElem?_eq_some_iff.1 hj).1
    obtain rfl : j = 0 := by simp [stCells] at hj1; exact hj1
    have hc := h.cell 0 (by omega)
    simp [stCells] at hj
    rw [hc, hj]
  · obtain rfl : j = 0 := by omega
    exact ⟨by rw [h.cell 0 (by omega)]; rfl, h.free 0⟩
theorem AskRel.next {pb N : Nat} {w wr w6 : World} {S : List ByteArray} {v v' : Value} {y : ByteArray} (h : AskRel pb N w wr S v) (hN : N ≤ pb) (hrow : Row w6 N 1 v' (S.length + 1) (stCells S ++ [.string y])) (hg : (wr.drew).grownBy w6 v.ownBlock) (hm : Moved wr.drew v v') :
    AskRel pb N w (w6.setCell ⟨pb, 0, none⟩ v') (S ++ [y]) v' := by
  have hown := h.own.drew
  have hlt : pb < wr.heap.size := h.own.lt
  have h6 := grownBy.holds hg hown h.apart
  have hap : v'.ownBlock ≠ some pb := fun e => by
    rcases hm with e2 | e2
    · rw [e2] at e; exact h.apart e
    · have h3 := e2 pb e
      have h4 : wr.drew.heap.size = wr.heap.size := rfl
      omega
  refine ⟨(grown_below h.below.drew h.row.drew hg (Nat.le_refl _) (show N ≤ wr.heap.size by omega)).setCell (p := ⟨pb, 0, none⟩) hN _, ?_, ?_, hap⟩
  · refine (h6.set 0 v').congr fun i hi => ?_
    obtain rfl : i = 0 := by omega
    rfl
  · have e : stCells (S ++ [y]) = stCells S ++ [.string y] := by simp [stCells]
    rw [List.length_append, e]
    exact hrow.setOther hap _
set_option maxHeartbeats 8000000 in
set_option maxRecDepth 100000 in
theorem proofThere_any (F : VerifyFace) (L : List It) (A : Option Addr) (cap : Nat) (ix : ByteArray) (w : World) (hk : HasK w) (hm : Itms w A L) :
    Calls Tryd.prog 4 #[.slice A L.length cap, .string ix] w fun e w' => e = .returned (.bool true) ∧ Below w.heap.size w w' := by
  have HK := Lib.hid hk
  have HF := Lib.hid F
  have HM := Lib.hid hm
  clear hk hm F
  go_enter Tryd.func4, Tryd.ntmps4
  go_wp2_with fail
  refine (held_any L A cap _ HM.out).mono ?_
  rintro e w1 ⟨hb1, b, rfl, hq⟩
  have HB1 := Lib.hid hb1
  clear hb1
  cases b with
  | false =>
    go_wp2
    go_ret
    exact ⟨rfl, HB1.out⟩
  | true =>
    have hl40 : L.length ≤ 40 := (hq rfl).1
    clear hq
    go_wp2_with fail
    refine (proved_any HF.out _ (HK.out.below HB1.out HK.out.lt)).mono ?_
    rintro e w2 ⟨rfl, hb2⟩
    have HB2 := Lib.hid (HB1.out.trans (hb2.mono HB1.out.size))
    clear hb2
    go_wp2_with fail
    refine (made_any L A cap _ (HM.out.below HB2.out) (by omega)).mono ?_
    rintro e w3 ⟨MA, mc, rfl, hb3, hmi, hmc⟩
    have HB3 := Lib.hid (HB2.out.trans (hb3.mono HB2.out.size))
    have HMI := Lib.hid hmi
    have HMC := Lib.hid hmc
    have HRM := Lib.hid (made_right L (by omega)).1
    have hml : (madeOf L).length ≤ 60 := right_length HRM.out
    generalize madeOf L = M at HMI HMC HRM hml
    clear hb3 hmi hmc
    obtain ⟨R, hR⟩ : ∃ R, rootOf M = R := ⟨_, rfl⟩
    have HRR := Lib.hid hR
    have HRA := Lib.hid (show rootAns M = (R, 0) by unfold rootAns; rw [if_pos HRM.out, hR])
    clear hR
    go_wp2_with fail
    refine (tRoot_is M MA mc R 0 _ (HK.out.below HB3.out HK.out.lt) (by omega) HMC.out HMI.out HRA.out).mono ?_
    rintro e w4 ⟨rfl, hb4⟩
    have HB4 := Lib.hid (HB3.out.trans (hb4.mono HB3.out.size))
    have HMI4 := Lib.hid (HMI.out.below hb4)
    clear hb4 HMI
    rw [show errOf 0 = .nilIface from rfl]
    go_wp2
    have HREL := Lib.hid (show AskRel (w4.heap.size + 1) w4.heap.size w4 ((w4.alloc (.cells #[.string ix] 9)).alloc (.cells #[.slice (some ⟨w4.heap.size, 0, none⟩) 1 1] 22)) (asksOf ix M 0) (.slice (some ⟨w4.heap.size, 0, none⟩) 1 1) from
      ⟨(alloc_below w4 _).alloc (by simp) _, by
        have h : Holds ((w4.alloc (.cells #[.string ix] 9)).alloc (.cells #[.slice (some ⟨w4.heap.size, 0, none⟩) 1 1] 22)) (w4.alloc (.cells #[.string ix] 9)).heap.size 1 (fun _ => .slice (some ⟨w4.heap.size, 0, none⟩) 1 1) 22 := Holds.new _ 1 (fun _ => .slice (some ⟨w4.heap.size, 0, none⟩) 1 1) 22
        rwa [show (w4.alloc (.cells #[.string ix] 9)).heap.size = w4.heap.size + 1 by simp] at h, (row_text w4 ix 9).alloc _, by show some w4.heap.size ≠ some (w4.heap.size + 1); simp⟩)
    generalize (w4.alloc (.cells #[.string ix] 9)).alloc (.cells #[.slice (some ⟨w4.heap.size, 0, none⟩) 1 1] 22) = w5 at HREL
    obtain ⟨pb, hpb⟩ : ∃ pb, w4.heap.size + 1 = pb := ⟨_, rfl⟩
    rw [hpb] at HREL ⊢
    have HPB := Lib.hid (show w4.heap.size ≤ pb by omega)
    clear hpb
    go_loopw [9] (fun i wr => ∃ (k : Nat) (v : Value), k ≤ M.length ∧ i = .int .i64 (k : Int) ∧ AskRel pb w4.heap.size w4 wr (asksOf ix M k) v) (fun i _ => M.length - (intOf i).toNat)
    case atStart => exact ⟨0, _, by omega, rfl, HREL.out⟩
    case round =>
      clear HREL
      obtain ⟨k, v, hk, rfl, hr⟩ := hrel
      have HR := Lib.hid hr
      clear hr
      by_cases hlt : k < M.length
      · have hmk := HMI4.out.below HR.out.below
        obtain ⟨a, rfl, hal, c0, c1⟩ := hmk.at_ hlt
        have HNX := Lib.hid (asks_next ix (show M[k]? = some (itAt M k) by rw [List.getElem?_eq_getElem hlt, itAt_get (List.getElem?_eq_getElem hlt)]))
        have HLN := Lib.hid (asks_length ix M k hk)
        clear hmk c1 hal
        generalize itAt M k = x at c0 HNX
        generalize asksOf ix M k = S at HR HNX HLN
        have hki : (k : Int) < (M.length : Int) := by omega
        have hsl : S.length ≤ 100 := by have := HLN.out; omega
        have q0 := HR.out.own.cell 0 (by omega)
        have hpl : pb < wr.heap.size := HR.out.own.lt
        have HROW := Lib.hid HR.out.row.drew
        have c6 : ((wr.drew).alloc (.cells #[.string x.1] 9)).cell? ⟨pb, 0, none⟩ = some v := (World.cell?_alloc_lt wr.drew _ ⟨pb, 0, none⟩ hpl).trans q0
        go_wp2_with fail
        go_region_law (first
          | (refine step_of_list rfl ?_; refine wpList_append_one2 rfl (.tmp 42) (.tmp 48) 22 rfl 9 Tryd.underlying22 _ 16 infoStr rfl (by decide) w4.heap.size v S.length (stCells S) rfl HROW.out (show w4.heap.size ≤ wr.heap.size by have := HPB.out; omega) (by omega) (.string x.1) rfl rfl 9 ?_; intro v' w6 hrow6 hgrow6 hmove6; obtain ⟨p', cap6, rfl⟩ := hrow6.out.any; have t0 := (grownBy.holds hgrow6.out HR.out.own.drew HR.out.apart).cell 0 (by omega); have t1 := (grownBy.holds hgrow6.out HR.out.own.drew HR.out.apart).free 0; refine then1 ?_))
        all_goals
          go_wp2
          go_roundw
          case rel =>
            refine ⟨k + 1, .slice p' (S.length + 1) cap6, hlt, by go_num, ?_⟩
            rw [HNX.out]
            exact HR.out.next HPB.out hrow6.out hgrow6.out hmove6.out
          case measure => simp [intOf]; omega
      · have hkm : k = M.length := by omega
        have hki : ¬ (k : Int) < (M.length : Int) := by omega
        obtain ⟨wl, hwl⟩ : ∃ wl, wl = wr := ⟨_, rfl⟩
        subst hwl
        have HLN := Lib.hid (asks_length ix M k hk)
        generalize asksOf ix M k = S at HR HLN
        have hsl : S.length ≤ 100 := by have := HLN.out; omega
        obtain ⟨SA, sc, rfl⟩ := HR.out.row.any
        have HSTR := Lib.hid HR.out.row.texts
        have HPC := Lib.hid (HR.out.own.cell 0 (by omega))
        have HBL := Lib.hid HR.out.below
        have HMI5 := Lib.hid (HMI4.out.below HBL.out)
        have HK5 := Lib.hid ((HK.out.below HB4.out HK.out.lt).below HBL.out (Nat.lt_of_lt_of_le HK.out.lt HB4.out.size))
        have HBF := Lib.hid (HB4.out.trans (HBL.out.mono HB4.out.size))
        clear hkm hlt HR HMI4 HLN
        go_wp2
        have HI0 := Lib.hid (show Holds (wl.alloc (.cells #[.int .i64 0] 3)) wl.heap.size 1 (fun _ => .int .i64 ((0 : Nat) : Int)) 3 from Holds.new wl 1 (fun _ => .int .i64 ((0 : Nat) : Int)) 3)
        have HBI := Lib.hid (alloc_below wl (.cells #[.int .i64 0] 3))
        go_loopw [10] (fun p wr => ∃ i ib : Nat, p = .pointer (some ⟨ib, 0, none⟩) ∧ wl.heap.size ≤ ib ∧ Holds wr ib 1 (fun _ => .int .i64 (i : Int)) 3 ∧ i ≤ S.length ∧ Below wl.heap.size wl wr) (fun p wr => S.length - cellNat p wr)
        case atStart => exact ⟨0, _, rfl, Nat.le_refl _, HI0.out, Nat.zero_le _, HBI.out⟩
        case round =>
          clear HI0 HBI
          obtain ⟨i, ib, rfl, hib, hh, hi, hb⟩ := hrel
          have HB := Lib.hid hb
          have HH := Lib.hid hh
          have hpc := (hb.cell (block_lt_of_cell HPC.out)).trans HPC.out
          have HPR := Lib.hid hpc
          have hic := hh.cell 0 (by omega)
          clear hb hh
          by_cases hlt : i < S.length
          · obtain ⟨sa, rfl, hsal, cq⟩ := (HSTR.out.below HB.out) i _ (textAt_of hlt)
            have hii : (i : Int) < (S.length : Int) := by omega
            have HIX := Lib.hid (show ∀ u : World, Below wr.heap.size wr u → Calls Tryd.prog 22 #[.slice MA M.length mc, .func (.func 23) #[] #[.pointer (some ⟨pb, 0, none⟩), .pointer (some ⟨ib, 0, none⟩)]] u fun e w' => Below u.heap.size u w' ∧ ∃ n : Int, e = .returned (.int .i64 n) ∧ FoundAt M (textAt S i) n from
              fun u hu => thereIx_any S M (some sa) MA sc mc i pb ib u hlt (by omega) (by omega) ((HSTR.out.below HB.out).below hu) ((HMI5.out.below HB.out).below hu) ((hu.cell (block_lt_of_cell HPR.out)).trans HPR.out) ((hu.cell (block_lt_of_cell hic)).trans hic))
            generalize textAt S i = q at cq HIX
            obtain ⟨P, y, n, hp⟩ : ∃ P y n, proveAns M q = (P, y, n) := ⟨_, _, _, rfl⟩
            have HP := Lib.hid hp
            have HCQ := Lib.hid cq
            go_wp2_with fail
            refine (tProve_is M MA mc q P y n _ (HK5.out.below HB.out HK5.out.lt) (by omega) HMC.out (HMI5.out.below HB.out) HP.out).mono ?_
            rintro e w7 ⟨PA, pc, rfl, hb7, hps⟩
            have HB7 := Lib.hid (HB.out.trans (hb7.mono HB.out.size))
            have HR7 := Lib.hid hb7
            have HPS := Lib.hid hps
            clear hb7 hps cq hpc
            by_cases h16 : q.size = 16
            · obtain rfl : n = 0 := by
                unfold proveAns at hp
                rw [if_pos ⟨HRM.out, h16⟩] at hp
                exact (congrArg (fun t => t.2.2) hp).symm
              clear hp hic
              rw [show errOf 0 = .nilIface from rfl]
              have HV := Lib.hid (verified HRM.out h16 HP.out)
              rw [HRR.out] at HV
              have HFAR := Lib.hid (asked_far HRM.out h16 HP.out)
              have HPL := Lib.hid (show P.length ≤ 1000000 by have := (asked HRM.out h16 HP.out).2.2.few; omega)
              have HYS := Lib.hid (show y.1.size ≤ 1000000 ∧ y.2.size ≤ 1000000 by
                rcases (asked HRM.out h16 HP.out).2.2.leaf with rfl | ⟨hy, _⟩
                · exact ⟨by decide, by decide⟩
                · have := right_sizes HRM.out y hy
                  omega)
              have H16 := Lib.hid h16
              clear h16
              have h8 : Holds (w7.alloc (.cells #[.slice PA P.length pc, .string y.1, .string y.2] 26)) w7.heap.size 3 (pCells (.slice PA P.length pc) y) 26 := Holds.new w7 3 (pCells (.slice PA P.length pc) y) 26
              have HP8 := Lib.hid h8
              have HB8 := Lib.hid (alloc_below w7 (.cells #[.slice PA P.length pc, .string y.1, .string y.2] 26))
              clear h8
              go_wp2_with fail
              generalize w7.alloc (.cells #[.slice PA P.length pc, .string y.1, .string y.2] 26) = w8 at HP8 HB8
              obtain ⟨pp, hpp⟩ : ∃ pp, w7.heap.size = pp := ⟨_, rfl⟩
              have HB8' := Lib.hid (HB7.out.trans (HB8.out.mono HB7.out.size))
              have HR8 := Lib.hid (HR7.out.trans (HB8.out.mono HR7.out.size))
              have HPS8 := Lib.hid (HPS.out.below HB8.out)
              rw [hpp] at HP8 ⊢
              clear hpp HB8
              have hpbl : pb < w8.heap.size := Nat.lt_of_lt_of_le (block_lt_of_cell HPC.out) HB8'.out.size
              have hibl : ib < w8.heap.size := Nat.lt_of_lt_of_le HH.out.lt HR8.out.size
              have hppl : pp < w8.heap.size := HP8.out.lt
              have hsal' : sa.block < wr.heap.size := hsal
              have hsl8 : (sa.add i).block < w8.heap.size := by rw [block_add]; exact Nat.lt_of_lt_of_le hsal' HR8.out.size
              have c8 : w8.cell? (sa.add i) = some (.string q) := (HR8.out.cell (by rw [block_add]; exact hsal')).trans HCQ.out
              have HS0 := Lib.hid (show (w8.cell? ⟨pb, 0, none⟩ = some (.slice (some sa) S.length sc) ∧ w8.cell? ⟨ib, 0, none⟩ = some (.int .i64 (i : Int)) ∧ w8.cell? (sa.add i) = some (.string q) ∧ w8.cell? ⟨pp, 0, none⟩ = some (.slice PA P.length pc) ∧ w8.cell? ⟨pp, 1, none⟩ = some (.string y.1) ∧ w8.cell? ⟨pp, 2, none⟩ = some (.string y.2) ∧ Below w8.heap.size w8 w8.drew) from
                ⟨(HR8.out.cell (p := ⟨pb, 0, none⟩) (block_lt_of_cell HPR.out)).trans HPR.out, (HH.out.below HR8.out HH.out.lt).cell 0 (by omega), c8, HP8.out.cell 0 (by omega), HP8.out.cell 1 (by omega), HP8.out.cell 2 (by omega), (Below.refl _ _).drew⟩)
              have HKEEP := Lib.hid (show ∀ u v : World, (u.cell? ⟨pb, 0, none⟩ = some (.slice (some sa) S.length sc) ∧ u.cell? ⟨ib, 0, none⟩ = some (.int .i64 (i : Int)) ∧ u.cell? (sa.add i) = some (.string q) ∧ u.cell? ⟨pp, 0, none⟩ = some (.slice PA P.length pc) ∧ u.cell? ⟨pp, 1, none⟩ = some (.string y.1) ∧ u.cell? ⟨pp, 2, none⟩ = some (.string y.2) ∧ Below w8.heap.size w8 u) → Below u.heap.size u v → (v.cell? ⟨pb, 0, none⟩ = some (.slice (some sa) S.length sc) ∧ v.cell? ⟨ib, 0, none⟩ = some (.int .i64 (i : Int)) ∧ v.cell? (sa.add i) = some (.string q) ∧ v.cell? ⟨pp, 0, none⟩ = some (.slice PA P.length pc) ∧ v.cell? ⟨pp, 1, none⟩ = some (.string y.1) ∧ v.cell? ⟨pp, 2, none⟩ = some (.string y.2) ∧ Below w8.heap.size w8 v) from
                fun u v ⟨h0, h1, h2, h3, h4, h5, hb⟩ hv => ⟨(hv.cell (p := ⟨pb, 0, none⟩) (Nat.lt_of_lt_of_le hpbl hb.size)).trans h0, (hv.cell (p := ⟨ib, 0, none⟩) (Nat.lt_of_lt_of_le hibl hb.size)).trans h1, (hv.cell (Nat.lt_of_lt_of_le hsl8 hb.size)).trans h2, (hv.cell (p := ⟨pp, 0, none⟩) (Nat.lt_of_lt_of_le hppl hb.size)).trans h3, (hv.cell (p := ⟨pp, 1, none⟩) (Nat.lt_of_lt_of_le hppl hb.size)).trans h4, (hv.cell (p := ⟨pp, 2, none⟩) (Nat.lt_of_lt_of_le hppl hb.size)).trans h5, hb.trans (hv.mono hb.size)⟩)
              have HKK := Lib.hid (show ∀ u : World, (u.cell? ⟨pb, 0, none⟩ = some (.slice (some sa) S.length sc) ∧ u.cell? ⟨ib, 0, none⟩ = some (.int .i64 (i : Int)) ∧ u.cell? (sa.add i) = some (.string q) ∧ u.cell? ⟨pp, 0, none⟩ = some (.slice PA P.length pc) ∧ u.cell? ⟨pp, 1, none⟩ = some (.string y.1) ∧ u.cell? ⟨pp, 2, none⟩ = some (.string y.2) ∧ Below w8.heap.size w8 u) → HasK u from fun u hu => (HK5.out.below HB8'.out HK5.out.lt).below hu.2.2.2.2.2.2 (Nat.lt_of_lt_of_le HK5.out.lt HB8'.out.size))
              have HPSS := Lib.hid (show ∀ u : World, (u.cell? ⟨pb, 0, none⟩ = some (.slice (some sa) S.length sc) ∧ u.cell? ⟨ib, 0, none⟩ = some (.int .i64 (i : Int)) ∧ u.cell? (sa.add i) = some (.string q) ∧ u.cell? ⟨pp, 0, none⟩ = some (.slice PA P.length pc) ∧ u.cell? ⟨pp, 1, none⟩ = some (.string y.1) ∧ u.cell? ⟨pp, 2, none⟩ = some (.string y.2) ∧ Below w8.heap.size w8 u) → Strs u PA P from fun u hu => HPS8.out.below hu.2.2.2.2.2.2)
              obtain ⟨c, t, hv, HCT⟩ : ∃ (c : ByteArray) (t : Bool), verifyAns R q P y = (c, t, 0) ∧ Hid (Told M q c t) := by
                rcases HV.out with ⟨z, hz, he, h⟩ | ⟨h0, h⟩
                · exact ⟨_, _, h, Lib.hid (.inl ⟨rfl, z, hz, he, rfl⟩)⟩
                · exact ⟨_, _, h, Lib.hid (.inr ⟨rfl, rfl, h0⟩)⟩
              have HVV := Lib.hid hv
              clear hv HV c8
              go_region_held3 (fun u => (u.cell? ⟨pb, 0, none⟩ = some (.slice (some sa) S.length sc) ∧ u.cell? ⟨ib, 0, none⟩ = some (.int .i64 (i : Int)) ∧ u.cell? (sa.add i) = some (.string q) ∧ u.cell? ⟨pp, 0, none⟩ = some (.slice PA P.length pc) ∧ u.cell? ⟨pp, 1, none⟩ = some (.string y.1) ∧ u.cell? ⟨pp, 2, none⟩ = some (.string y.2) ∧ Below w8.heap.size w8 u))
                (first | exact HS0.out | assumption | (refine HKEEP.out _ _ ?_ (by assumption); first | exact HS0.out | assumption | exact ⟨by assumption, by assumption, by assumption, by assumption, by assumption, by assumption, by assumption⟩))
                (first | (go_at_call 14; refine (HF.out.verify R q P PA pc y c t 0 _ (HKK.out _ (by first | exact HS0.out | assumption)) HPL.out (HPSS.out _ (by first | exact HS0.out | assumption)) (by have := H16.out; omega) HYS.out.1 HYS.out.2 HVV.out).mono ?_; rintro e wv ⟨he, hbv⟩; rw [show errOf 0 = Value.nilIface from rfl] at he; subst he))
              rename_i hheld
              have HB9 := Lib.hid (HB8'.out.trans (hheld.2.2.2.2.2.2.mono HB8'.out.size))
              have HR9 := Lib.hid (HR8.out.trans (hheld.2.2.2.2.2.2.mono HR8.out.size))
              have HCV := Lib.hid hheld
              clear hheld hbv HS0 HPSS HKK HPS8 HVV
              go_wp2_with fail
              refine (HIX.out _ HR9.out).mono ?_
              rintro e w10 ⟨hb10, nn, rfl, hfa⟩
              have HC10 := Lib.hid (HKEEP.out _ _ HCV.out hb10)
              have HB10 := Lib.hid (HB9.out.trans (hb10.mono HB9.out.size))
              clear hb10 HCV HB9 HR9 HIX
              rcases HCT.out with ⟨rfl, z, hz, hzq, rfl⟩ | ⟨rfl, rfl, hno⟩
              · rcases hfa with ⟨kk, rfl, hkk, hek⟩ | ⟨_, hn⟩
                · obtain ⟨a, rfl, hal, m0, m1⟩ := (HMI5.out.below HB10.out).at_ hkk
                  have hzk : itAt M kk = z := same_item HRM.out (itAt_mem hkk) hz (hek.trans hzq.symm)
                  rw [hzk] at m1
                  have m2 : w10.cell? ⟨(a.add (kk * 2)).block, (a.add (kk * 2)).off + 1, none⟩ = some (.string z.2) := m1
                  have hk0 : (0 : Int) ≤ (kk : Int) := by omega
                  have hkl : (kk : Int) < (M.length : Int) := by omega
                  clear hzk m1 m0 hal hek hzq hz HCT
                  have HNI := Lib.hid (show ∀ z ∈ M, z.1.size = 16 from fun z hz => (right_sizes HRM.out z hz).1)
                  go_wp2
                  go_loopw [16, 17] (fun f t wr3 => ∃ (j F : Nat), f = .int .i64 (F : Int) ∧ t = .int .i64 (j : Int) ∧ j ≤ M.length ∧ F ≤ 129 ∧ (∀ z ∈ M.take j, z.1 ≠ q → commonOf q.data.toList z.1.data.toList + 1 ≤ F) ∧ Below w10.heap.size w10 wr3) (fun _ t _ => M.length - (intOf t).toNat)
                  case atStart => exact ⟨0, 0, rfl, rfl, by omega, by omega, fun z hz => by simp at hz, Below.refl _ _⟩
                  case round =>
                    obtain ⟨j, F, rfl, rfl, hj, hF, hall, hb3⟩ := hrel
                    have HALL := Lib.hid hall
                    have HB3L := Lib.hid hb3
                    obtain ⟨h0, h1, h2, h3, h4, h5, h6⟩ := HKEEP.out _ _ HC10.out hb3
                    have hmk := (HMI5.out.below HB10.out).below hb3
                    clear hall hb3 h4 h5 h6
                    by_cases hjl : j < M.length
                    · obtain ⟨a2, ha2, hal2, m0, m1⟩ := hmk.at_ hjl
                      cases ha2
                      have hjx : M[j]? = some (itAt M j) := by rw [List.getElem?_eq_getElem hjl, itAt_get (List.getElem?_eq_getElem hjl)]
                      have hz16 := HNI.out _ (itAt_mem hjl)
                      have HTK := Lib.hid (show M.take (j + 1) = M.take j ++ [itAt M j] by rw [List.take_add_one, hjx]; rfl)
                      clear hmk hal2 m1 hjx h3
                      generalize itAt M j = z at m0 hz16 HTK
                      obtain ⟨N, hN⟩ : ∃ N, commonOf q.data.toList z.1.data.toList = N := ⟨_, rfl⟩
                      have hN8 : N ≤ 128 := by rw [← hN]; exact commonOf_le _ _
                      have HCOM := Lib.hid (show comAns q z.1 = ((N : Int), 0) by unfold comAns; rw [if_pos ⟨H16.out, hz16⟩, hN])
                      have HN := Lib.hid hN
                      have hji : (j : Int) < (M.length : Int) := by omega
                      clear hN hz16
                      go_wp2_with fail
                      go_quiet ((go_at_call 24; exact Calls.quiet_of_same (ixCommon_is q z.1 (N : Int) 0 _ HCOM.out)))
                      rw [show errOf 0 = .nilIface from rfl]
                      by_cases hzq : z.1 = q
                      · have e1 : (z.1.toList == q.toList) = true := by rw [sameB, decide_eq_true hzq]
                        have HZQ := Lib.hid hzq
                        clear hzq
                        go_wp2_with fail
                        go_quiet (fail)
                        go_wp2
                        go_roundw
                        case rel =>
                          refine ⟨j + 1, F, rfl, by go_num, hjl, hF, fun y hy hne => ?_, below_drew HB3L.out _⟩
                          rw [HTK.out] at hy
                          rcases List.mem_append.1 hy with h | h
                          · exact HALL.out y h hne
                          · rw [List.mem_singleton] at h
                            subst h
                            exact absurd HZQ.out hne
                        case measure => simp [intOf]; omega
                      · have e1 : (z.1.toList == q.toList) = false := by rw [sameB, decide_eq_false hzq]
                        clear hzq
                        go_wp2_with fail
                        go_quiet (fail)
                        by_cases hmx : F < N + 1
                        · have hmi : (F : Int) < (N : Int) + 1 := by omega
                          go_wp2
                          go_roundw
                          case rel =>
                            refine ⟨j + 1, N + 1, by go_num, by go_num, hjl, by omega, fun y hy hne => ?_, below_drew HB3L.out _⟩
                            rw [HTK.out] at hy
                            rcases List.mem_append.1 hy with h | h
                            · have := HALL.out y h hne; omega
                            · rw [List.mem_singleton] at h
                              subst h
                              rw [HN.out]
                              exact Nat.le_refl _
                          case measure => simp [intOf]; omega
                        · have hmi : ¬ (F : Int) < (N : Int) + 1 := by omega
                          go_wp2
                          go_roundw
                          case rel =>
                            refine ⟨j + 1, F, by go_num, by go_num, hjl, hF, fun y hy hne => ?_, below_drew HB3L.out _⟩
                            rw [HTK.out] at hy
                            rcases List.mem_append.1 hy with h | h
                            · exact HALL.out y h hne
                            · rw [List.mem_singleton] at h
                              subst h
                              rw [HN.out]
                              omega
                          case measure => simp [intOf]; omega
                    · have hji : ¬ (j : Int) < (M.length : Int) := by omega
                      have hpf : P.length ≤ F := by
                        rcases HFAR.out with h | ⟨z, hz, hne, h⟩
                        · rw [h]; exact Nat.zero_le _
                        · have := HALL.out z (by rw [List.take_of_length_le (by omega)]; exact hz) hne
                          omega
                      have hpi : ¬ (F : Int) < (P.length : Int) := by omega
                      clear hmk h2 hpf
                      have n9 : Holds (wr.alloc (.cells #[.int .i64 (i : Int)] 3)) wr.heap.size 1 (fun _ => .int .i64 (i : Int)) 3 := Holds.new wr 1 (fun _ => .int .i64 (i : Int)) 3
                      have m0 := n9.cell 0 (by omega)
                      have m1 := n9.free 0
                      clear n9
                      go_wp2
                      have HBW := Lib.hid (HB10.out.trans (HB3L.out.mono HB10.out.size))
                      have e2 : ((i : Int) + 1) = ((i + 1 : Nat) : Int) := by omega
                      have hnew : Holds (wr.alloc (.cells #[.int .i64 ((i : Int) + 1)] 3)) wr.heap.size 1 (fun _ => .int .i64 ((i + 1 : Nat) : Int)) 3 := by rw [e2]; exact Holds.new wr 1 (fun _ => .int .i64 ((i + 1 : Nat) : Int)) 3
                      refine ⟨⟨i + 1, wr.heap.size, rfl, HBW.out.size, hnew, hlt, HBW.out.alloc HBW.out.size _⟩, ?_⟩
                      rw [cellNat_of hnew, cellNat_of HH.out]
                      omega
                · exact absurd hzq (hn z hz)
              · rcases hfa with ⟨kk, rfl, hkk, hek⟩ | ⟨rfl, _⟩
                · exact absurd hek (hno _ (itAt_mem hkk))
                · clear hno HCT
                  have HNI := Lib.hid (show ∀ z ∈ M, z.1.size = 16 from fun z hz => (right_sizes HRM.out z hz).1)
                  go_wp2
                  go_loopw [16, 17] (fun f t wr3 => ∃ (j F : Nat), f = .int .i64 (F : Int) ∧ t = .int .i64 (j : Int) ∧ j ≤ M.length ∧ F ≤ 129 ∧ (∀ z ∈ M.take j, z.1 ≠ q → commonOf q.data.toList z.1.data.toList + 1 ≤ F) ∧ Below w10.heap.size w10 wr3) (fun _ t _ => M.length - (intOf t).toNat)
                  case atStart => exact ⟨0, 0, rfl, rfl, by omega, by omega, fun z hz => by simp at hz, Below.refl _ _⟩
                  case round =>
                    obtain ⟨j, F, rfl, rfl, hj, hF, hall, hb3⟩ := hrel
                    have HALL := Lib.hid hall
                    have HB3L := Lib.hid hb3
                    obtain ⟨h0, h1, h2, h3, h4, h5, h6⟩ := HKEEP.out _ _ HC10.out hb3
                    have hmk := (HMI5.out.below HB10.out).below hb3
                    clear hall hb3 h4 h5 h6
                    by_cases hjl : j < M.length
                    · obtain ⟨a2, ha2, hal2, m0, m1⟩ := hmk.at_ hjl
                      cases ha2
                      have hjx : M[j]? = some (itAt M j) := by rw [List.getElem?_eq_getElem hjl, itAt_get (List.getElem?_eq_getElem hjl)]
                      have hz16 := HNI.out _ (itAt_mem hjl)
                      have HTK := Lib.hid (show M.take (j + 1) = M.take j ++ [itAt M j] by rw [List.take_add_one, hjx]; rfl)
                      clear hmk hal2 m1 hjx h3
                      generalize itAt M j = z at m0 hz16 HTK
                      obtain ⟨N, hN⟩ : ∃ N, commonOf q.data.toList z.1.data.toList = N := ⟨_, rfl⟩
                      have hN8 : N ≤ 128 := by rw [← hN]; exact commonOf_le _ _
                      have HCOM := Lib.hid (show comAns q z.1 = ((N : Int), 0) by unfold comAns; rw [if_pos ⟨H16.out, hz16⟩, hN])
                      have HN := Lib.hid hN
                      have hji : (j : Int) < (M.length : Int) := by omega
                      clear hN hz16
                      go_wp2_with fail
                      go_quiet ((go_at_call 24; exact Calls.quiet_of_same (ixCommon_is q z.1 (N : Int) 0 _ HCOM.out)))
                      rw [show errOf 0 = .nilIface from rfl]
                      by_cases hzq : z.1 = q
                      · have e1 : (z.1.toList == q.toList) = true := by rw [sameB, decide_eq_true hzq]
                        have HZQ := Lib.hid hzq
                        clear hzq
                        go_wp2_with fail
                        go_quiet (fail)
                        go_wp2
                        go_roundw
                        case rel =>
                          refine ⟨j + 1, F, rfl, by go_num, hjl, hF, fun y hy hne => ?_, below_drew HB3L.out _⟩
                          rw [HTK.out] at hy
                          rcases List.mem_append.1 hy with h | h
                          · exact HALL.out y h hne
                          · rw [List.mem_singleton] at h
                            subst h
                            exact absurd HZQ.out hne
                        case measure => simp [intOf]; omega
                      · have e1 : (z.1.toList == q.toList) = false := by rw [sameB, decide_eq_false hzq]
                        clear hzq
                        go_wp2_with fail
                        go_quiet (fail)
                        by_cases hmx : F < N + 1
                        · have hmi : (F : Int) < (N : Int) + 1 := by omega
                          go_wp2
                          go_roundw
                          case rel =>
                            refine ⟨j + 1, N + 1, by go_num, by go_num, hjl, by omega, fun y hy hne => ?_, below_drew HB3L.out _⟩
                            rw [HTK.out] at hy
                            rcases List.mem_append.1 hy with h | h
                            · have := HALL.out y h hne; omega
                            · rw [List.mem_singleton] at h
                              subst h
                              rw [HN.out]
                              exact Nat.le_refl _
                          case measure => simp [intOf]; omega
                        · have hmi : ¬ (F : Int) < (N : Int) + 1 := by omega
                          go_wp2
                          go_roundw
                          case rel =>
                            refine ⟨j + 1, F, by go_num, by go_num, hjl, hF, fun y hy hne => ?_, below_drew HB3L.out _⟩
                            rw [HTK.out] at hy
                            rcases List.mem_append.1 hy with h | h
                            · exact HALL.out y h hne
                            · rw [List.mem_singleton] at h
                              subst h
                              rw [HN.out]
                              omega
                          case measure => simp [intOf]; omega
                    · have hji : ¬ (j : Int) < (M.length : Int) := by omega
                      have hpf : P.length ≤ F := by
                        rcases HFAR.out with h | ⟨z, hz, hne, h⟩
                        · rw [h]; exact Nat.zero_le _
                        · have := HALL.out z (by rw [List.take_of_length_le (by omega)]; exact hz) hne
                          omega
                      have hpi : ¬ (F : Int) < (P.length : Int) := by omega
                      clear hmk h2 hpf
                      have n9 : Holds (wr.alloc (.cells #[.int .i64 (i : Int)] 3)) wr.heap.size 1 (fun _ => .int .i64 (i : Int)) 3 := Holds.new wr 1 (fun _ => .int .i64 (i : Int)) 3
                      have m0 := n9.cell 0 (by omega)
                      have m1 := n9.free 0
                      clear n9
                      go_wp2
                      have HBW := Lib.hid (HB10.out.trans (HB3L.out.mono HB10.out.size))
                      have e2 : ((i : Int) + 1) = ((i + 1 : Nat) : Int) := by omega
                      have hnew : Holds (wr.alloc (.cells #[.int .i64 ((i : Int) + 1)] 3)) wr.heap.size 1 (fun _ => .int .i64 ((i + 1 : Nat) : Int)) 3 := by rw [e2]; exact Holds.new wr 1 (fun _ => .int .i64 ((i + 1 : Nat) : Int)) 3
                      refine ⟨⟨i + 1, wr.heap.size, rfl, HBW.out.size, hnew, hlt, HBW.out.alloc HBW.out.size _⟩, ?_⟩
                      rw [cellNat_of hnew, cellNat_of HH.out]
                      omega
            · obtain rfl : n = 1 := by
                unfold proveAns at hp
                rw [if_neg (fun h => h16 h.2)] at hp
                exact (congrArg (fun t => t.2.2) hp).symm
              have h16i : ((q.size : Int) == 16) = false := by rw [beq_eq_false_iff_ne]; omega
              clear hp h16 HIX
              rw [show errOf 1 = .iface 31 (.int .i64 1) from rfl]
              have HB8 := Lib.hid (alloc_below w7 (.cells #[.slice PA P.length pc, .string y.1, .string y.2] 26))
              have HBW := Lib.hid (HB7.out.trans (HB8.out.mono HB7.out.size))
              have HR8 := Lib.hid (HR7.out.trans (HB8.out.mono HR7.out.size))
              have hal8 : sa.block < wr.heap.size := hsal
              have h0 := (HR8.out.cell (p := ⟨pb, 0, none⟩) (block_lt_of_cell HPR.out)).trans HPR.out
              have h1 := (HH.out.below HR8.out HH.out.lt).cell 0 (by omega)
              have h2 : _ = some (Value.string q) := (HR8.out.cell (by rw [block_add]; exact hal8)).trans HCQ.out
              go_wp2
              have e2 : ((i : Int) + 1) = ((i + 1 : Nat) : Int) := by omega
              have hsz : (w7.alloc (.cells #[.slice PA P.length pc, .string y.1, .string y.2] 26)).heap.size = w7.heap.size + 1 := by simp
              have hnew : Holds ((w7.alloc (.cells #[.slice PA P.length pc, .string y.1, .string y.2] 26)).alloc (.cells #[.int .i64 ((i : Int) + 1)] 3)) (w7.heap.size + 1) 1 (fun _ => .int .i64 ((i + 1 : Nat) : Int)) 3 := by
                rw [e2, ← hsz]
                exact Holds.new (w7.alloc (.cells #[.slice PA P.length pc, .string y.1, .string y.2] 26)) 1 (fun _ => .int .i64 ((i + 1 : Nat) : Int)) 3
              refine ⟨⟨i + 1, w7.heap.size + 1, rfl, by have := HB7.out.size; omega, hnew, hlt, HBW.out.alloc HBW.out.size _⟩, ?_⟩
              rw [cellNat_of hnew, cellNat_of HH.out]
              omega
          · have hii : ¬ (i : Int) < (S.length : Int) := by omega
            go_wp2
            go_ret
            exact ⟨rfl, HBF.out.trans (HB.out.mono HBF.out.size)⟩
end Go.Proofs.YtenlpbcembadcaaDoor
