/- Parts of the proof, one behind the other: SealG. -/
import Derived.Test.YtcfpmofmjnhonaaGreatDoorM15
import Derived.Test.YtcfpmofmjnhonaaGreatDoorM17
/- The document's SealSign. -/
namespace Go.Proofs.YtcfpmofmjnhonaaGreatDoor
open Go.RowKit

theorem infoSeal : (Tryz.prog.info? 52).map (·.size) = some 3 := by kernel_rfl
theorem sealPath_next (seed : ByteArray) (key t : Nat) : sealPath seed key (t + 1) = sealPath seed key t ++ [(rowsOf seed).getD (rowBase t + sib (key / 2 ^ t)) ⟨#[]⟩] := by
  unfold sealPath
  rw [List.range_succ, List.map_append]; rfl
theorem sealPath_length (seed : ByteArray) (key t : Nat) : (sealPath seed key t).length = t := by unfold sealPath; simp
theorem seal_step (kk t : Nat) (hk : kk ≤ 7) (ht : t < 3) : rowBase (t + 1) = rowBase t + rowLen t ∧ rowLen (t + 1) = rowLen t / 2 ∧ 2 ≤ rowLen t ∧ rowLen t ≤ 8 ∧ rowBase t ≤ 12 ∧ kk / 2 ^ (t + 1) = kk / 2 ^ t / 2 ∧ kk / 2 ^ t ≤ 7 ∧ rowBase t + sib (kk / 2 ^ t) < 15 :=
  (show ∀ k, k < 8 → ∀ t, t < 3 → rowBase (t + 1) = rowBase t + rowLen t ∧ rowLen (t + 1) = rowLen t / 2 ∧ 2 ≤ rowLen t ∧ rowLen t ≤ 8 ∧ rowBase t ≤ 12 ∧ k / 2 ^ (t + 1) = k / 2 ^ t / 2 ∧ k / 2 ^ t ≤ 7 ∧ rowBase t + sib (k / 2 ^ t) < 15 by decide) kk (by omega) t ht
theorem Strs.keep {w : World} {A : Option Addr} {L : List ByteArray} (h : Strs w A L) (x : Addr) (v : Value) (hx : ∀ a, A = some a → 0 < L.length → x.block < a.block) : Strs (w.setCell x v) A L := fun i p hp => by
  obtain ⟨a, ha, hl, hc⟩ := h i p hp
  have hn := hx a ha (by have := (List.getElem?_eq_some_iff.1 hp).1; omega)
  refine ⟨a, ha, by simp [World.setCell]; exact hl, ?_⟩
  have hb : (w.setCell x v).heap[(a.add i).block]? = w.heap[(a.add i).block]? := Below.heap_setCell _ _ _ _ (by rw [block_add]; omega)
  rw [← hc]
  unfold World.cell?
  rw [hb]
theorem Row.above {w : World} {base : Nat} {A : Option Addr} {cap n : Nat} {xs : List Value} (h : Row w base 1 (.slice A n cap) n xs) : ∀ a, A = some a → 0 < n → base ≤ a.block := fun a ha hn => by
  obtain ⟨g, c, hv, hb, _⟩ := h.shape hn
  injection hv with e _ _
  rw [ha] at e
  injection e with e
  rw [e]; exact hb
/-- The seal under way. -/
structure SealRel (pb : Nat) (w wr : World) (key : Int) (A : Option Addr) (ca : Nat) (S P : List ByteArray) (v : Value) : Prop where
  below : Below w.heap.size w wr
  lt : w.heap.size < pb
  res : Holds wr w.heap.size 3 (slF 0 (.slice none 0 0) (.slice none 0 0)) 52
  own : Holds wr pb 3 (slF key (.slice A S.length ca) v) 52
  sig : Strs wr A S
  sigLt : ∀ a, A = some a → 0 < S.length → a.block < pb
  row : Row wr (pb + 1) 1 v P.length (stCells P)
theorem SealRel.next {pb : Nat} {w wr w6 : World} {key : Int} {A : Option Addr} {ca : Nat} {S P : List ByteArray} {v v' : Value} {y : ByteArray} (h : SealRel pb w wr key A ca S P v)
    (hrow : Row w6 (pb + 1) 1 v' (P.length + 1) (stCells P ++ [.string y])) (hg : wr.drew.grownBy w6 v.ownBlock) : SealRel pb w (w6.setCell ⟨pb, 2, none⟩ v') key A ca S (P ++ [y]) v' := by
  have hlt := h.lt
  have hpb := h.own.lt
  have hv := fun j hj => (h.row.lt j hj).1
  have hG : Below (pb + 1) wr w6 := (show Below (pb + 1) wr wr.drew from (Below.refl _ _).drew).grown hg (show pb + 1 ≤ wr.heap.size from hpb) hv
  have hGp : Below pb wr (w6.setCell ⟨pb, 2, none⟩ v') := (hG.mono (Nat.le_succ pb)).setCell (p := ⟨pb, 2, none⟩) (Nat.le_refl _) v'
  refine ⟨h.below.trans (hGp.mono (by omega)), hlt, h.res.below hGp hlt, ?_, ?_, h.sigLt, ?_⟩
  · refine ((h.own.below hG (Nat.lt_succ_self pb)).set 2 v').congr fun i hi => ?_
    unfold upd slF
    rcases (show i = 0 ∨ i = 1 ∨ i = 2 by omega) with rfl | rfl | rfl <;> simp
  · intro i p hp
    obtain ⟨a, ha, hl, hc⟩ := h.sig i p hp
    have hap := h.sigLt a ha (by have := (List.getElem?_eq_some_iff.1 hp).1; omega)
    exact ⟨a, ha, Nat.lt_of_lt_of_le hl hGp.size, (hGp.cell (by rw [block_add]; exact hap)).trans hc⟩
  · have e : stCells (P ++ [y]) = stCells P ++ [.string y] := by simp [stCells]
    rw [List.length_append, e]
    exact hrow.setOther (hrow.fresh (Nat.lt_succ_self _)) _
structure SealZ (pb bb g i : Nat) (v u : Value) (y : ByteArray) where
  at' : World
  h0 : at'.cell? ⟨pb, 2, none⟩ = some v
  h1 : at'.cell? ⟨bb, 1, none⟩ = some u
  h2 : at'.cell? ⟨g, i, none⟩ = some (.string y)
theorem slF_zero (i : Nat) (hi : i < 3) : (#[Value.int .i64 0, .slice none 0 0, .slice none 0 0] : Array Value)[i]? = some (slF 0 (.slice none 0 0) (.slice none 0 0) i) := by
  rcases (show i = 0 ∨ i = 1 ∨ i = 2 by omega) with rfl | rfl | rfl <;> rfl

set_option maxHeartbeats 2000000 in
set_option maxRecDepth 100000 in
theorem refSealSign_at (b bb : Nat) (seed : ByteArray) (key : Int) (m : ByteArray) (kk : Int) (S P : List ByteArray) (n : Int) (w : World) (hr : Holds w b 72 refCells 121) (hbx : BoxIs w bb seed) (h : sealAns seed key m = (kk, S, P, n)) :
    Calls Tryz.prog 66 #[.pointer (some ⟨b, 0, none⟩), .pointer (some ⟨bb, 0, none⟩), .int .i64 key, .string m] w fun e w' => ∃ A ca B cb, e = .returned (.tuple #[.agg #[.int .i64 kk, .slice A S.length ca, .slice B P.length cb], .int .i64 n]) ∧ Below w.heap.size w w' ∧ Strs w' A S ∧ Strs w' B P ∧ (∀ a, A = some a → 0 < S.length → w.heap.size ≤ a.block) ∧ (∀ a, B = some a → 0 < P.length → w.heap.size ≤ a.block) ∧ S.length ≤ ca := by
  have HB0 := Lib.hid (alloc_below w (.cells #[.int .i64 0, .slice none 0 0, .slice none 0 0] 52))
  have HS0 := Lib.hid (show Holds (w.alloc (.cells #[.int .i64 0, .slice none 0 0, .slice none 0 0] 52)) w.heap.size 3 (slF 0 (.slice none 0 0) (.slice none 0 0)) 52 from Holds.new w 3 (slF 0 (.slice none 0 0) (.slice none 0 0)) 52)
  have HR := Lib.hid (hr.below HB0.out hr.lt)
  have HBX := Lib.hid (hbx.below HB0.out)
  have HBLT := Lib.hid hbx.lt
  have HBXW := Lib.hid hbx
  clear hr hbx
  unfold sealAns at h
  by_cases hkey : 0 ≤ key ∧ key ≤ 7
  · rw [if_pos hkey] at h
    obtain ⟨U, l, hu⟩ : ∃ U l, signAns seed key m = (U, l) := ⟨_, _, rfl⟩
    rw [hu] at h
    have HU0 := Lib.hid hu
    clear hu
    go_enter Tryz.func66, Tryz.ntmps66
    go_wp2_with fail
    generalize w.alloc (.cells #[.int .i64 0, .slice none 0 0, .slice none 0 0] 52) = w0 at HB0 HS0 HR HBX
    refine (in_any _ _ _ _).mono ?_
    rintro e w1 ⟨rfl, rfl⟩
    rw [show (decide ((0 : Int) ≤ key) && decide (key ≤ 7)) = true by simp [hkey]]
    have c0 := HBX.out.sd
    go_wp2_with fail
    clear c0
    refine (refOnceSign_is b seed key m U l _ HR.out HU0.out).mono ?_
    rintro e w2 ⟨v, rfl, hb2, hrow⟩
    obtain ⟨-, A, ca, rfl, hti⟩ := hrow.strs
    have HCAP := Lib.hid (show U.length ≤ ca from by
      rcases hrow.2 with ⟨_, h2⟩ | ⟨g, c, hv, _, _, hle, _⟩
      · omega
      · injection hv with _ _ e3
        omega)
    have HAB := Lib.hid (show ∀ a, A = some a → 0 < U.length → w.heap.size < a.block from fun a ha hn => Nat.lt_of_lt_of_le HS0.out.lt (hrow.above a ha hn))
    have HB2 := Lib.hid (HB0.out.trans (hb2.mono HB0.out.size))
    have HS2 := Lib.hid (HS0.out.below hb2 HS0.out.lt)
    have HBX2 := Lib.hid (HBX.out.below hb2)
    have HTI := Lib.hid hti
    clear hb2 hrow hti
    by_cases hl : l = 0
    · subst hl
      rw [if_pos rfl] at h
      simp only [Prod.mk.injEq] at h
      obtain ⟨rfl, rfl, hP, rfl⟩ := h
      obtain ⟨kk, rfl⟩ : ∃ kk : Nat, key = (kk : Int) := ⟨key.toNat, by omega⟩
      have hkk : kk ≤ 7 := by omega
      rw [Int.toNat_natCast] at hP
      have HP := Lib.hid hP
      clear hP hkey
      have HSTART := Lib.hid (show SealRel w2.heap.size w (w2.alloc (.cells #[.int .i64 (kk : Int), .slice A U.length ca, .slice none 0 0] 52)) (kk : Int) A ca U (sealPath seed kk 0) (.slice none 0 0) from
        ⟨HB2.out.alloc HB2.out.size _, HS2.out.lt, HS2.out.alloc _, Holds.new w2 3 (slF (kk : Int) (.slice A U.length ca) (.slice none 0 0)) 52, HTI.out.below (alloc_below _ _),
          fun a ha hn => by obtain ⟨a', ha', hl, _⟩ := HTI.out 0 _ (List.getElem?_eq_getElem hn); obtain rfl := Option.some.inj (ha.symm.trans ha'); exact hl,
          Row.nil _ _ _⟩)
      go_wp2
      generalize w2.alloc (.cells #[.int .i64 (kk : Int), .slice A U.length ca, .slice none 0 0] 52) = w3 at HSTART ⊢
      generalize w2.heap.size = pb at HSTART ⊢
      go_loopw [13, 14, 15] (fun fv kv nv wr => ∃ (t F K N : Nat) (v : Value), t ≤ 3 ∧ fv = .int .i64 (F : Int) ∧ kv = .int .i64 (K : Int) ∧ nv = .int .i64 (N : Int) ∧ Hid (F = rowBase t ∧ K = kk / 2 ^ t ∧ N = rowLen t ∧ SealRel pb w wr (kk : Int) A ca U (sealPath seed kk t) v)) (fun _ _ nv _ => (intOf nv).toNat)
      case atStart => exact ⟨0, 0, kk, 8, _, by omega, rfl, rfl, rfl, Lib.hid ⟨rfl, by simp, rfl, HSTART.out⟩⟩
      case round =>
        obtain ⟨t, F, K, N, v, ht, rfl, rfl, rfl, HU⟩ := hrel
        by_cases hlt : t < 3
        · have hst := seal_step kk t hkk hlt
          rw [← HU.out.1, ← HU.out.2.1, ← HU.out.2.2.1] at hst
          obtain ⟨s1, s2, s3, s4, s5, s6, s7, s8⟩ := hst
          have S1 := Lib.hid s1
          have S2 := Lib.hid s2
          have S6 := Lib.hid s6
          have S8 := Lib.hid s8
          clear s1 s2 s6 s8
          have e14 : decide ((1 : Int) < (N : Int)) = true := by simp; omega
          by_cases hodd : K % 2 = 1
          · have eo : ((K : Int) % 2 == 1) = true := by rw [beq_iff_eq]; omega
            obtain ⟨O, hO⟩ : ∃ O : Nat, sib K = O := ⟨_, rfl⟩
            have hO2 : (K : Int) - 1 = (O : Int) := by rw [← hO]; unfold sib; rw [if_pos hodd]; omega
            rw [hO] at S8
            have HO := Lib.hid hO
            clear hO hodd
            have hfo : F + O < 15 := S8.out
            obtain ⟨g, rc, hgw, hrw, hcells⟩ := HBXW.out.rows
            have hgl : g < wr.heap.size := Nat.lt_of_lt_of_le hgw HU.out.2.2.2.below.size
            have r0 : wr.cell? ⟨pb, 2, none⟩ = some v := HU.out.2.2.2.own.cell 2 (by omega)
            have r1 : wr.cell? ⟨bb, 1, none⟩ = some (.slice (some ⟨g, 0, none⟩) 15 rc) := (HU.out.2.2.2.below.cell (p := ⟨bb, 1, none⟩) HBLT.out).trans hrw
            have r2 : wr.cell? ⟨g, F + O, none⟩ = some (.string ((rowsOf seed).getD (F + O) ⟨#[]⟩)) := (HU.out.2.2.2.below.cell (p := ⟨g, F + O, none⟩) hgw).trans (hcells _ hfo)
            obtain ⟨y, hy⟩ : ∃ y, (rowsOf seed).getD (F + O) ⟨#[]⟩ = y := ⟨_, rfl⟩
            rw [hy] at r2
            have HY := Lib.hid hy
            clear hy hcells hrw
            have z0 : ∀ z : SealZ pb bb g (F + O) v (.slice (some ⟨g, 0, none⟩) 15 rc) y, z.at'.cell? ⟨pb, 2, none⟩ = some v := fun z => z.h0
            have z1 : ∀ z : SealZ pb bb g (F + O) v (.slice (some ⟨g, 0, none⟩) 15 rc) y, z.at'.cell? ⟨bb, 1, none⟩ = some (.slice (some ⟨g, 0, none⟩) 15 rc) := fun z => z.h1
            have z2 : ∀ z : SealZ pb bb g (F + O) v (.slice (some ⟨g, 0, none⟩) 15 rc) y, z.at'.cell? ⟨g, F + O, none⟩ = some (.string y) := fun z => z.h2
            have zn : Nonempty (SealZ pb bb g (F + O) v (.slice (some ⟨g, 0, none⟩) 15 rc) y) := ⟨⟨wr.drew, r0, r1, r2⟩⟩
            have k3 : IntKind.i64.wrap ((F : Int) + (O : Int)) = (F : Int) + (O : Int) := IntWalk.i64_in _ (by omega)
            have k4 : (F : Int) + (O : Int) < 15 := by omega
            have k5 : ((F : Int) + (O : Int)).toNat = F + O := by omega
            have k6 : (0 : Int) ≤ (F : Int) + (O : Int) := by omega
            go_wp2
            clear hO2
            refine wp_region_taken (fun w' => ∃ z : SealZ pb bb g (F + O) v (.slice (some ⟨g, 0, none⟩) 15 rc) y, w' = z.at') [0, 1, 2, 3, 4, 5, 6, 7, 8, 9, 10] [11, 12, 13, 14] (by kernel_rfl) (by kernel_rfl) (by intro c d v a w h; cases d <;> exact h) ⟨⟨wr.drew, r0, r1, r2⟩, rfl⟩ ?_
            simp only [pickOps, List.filterMap_cons, List.filterMap_nil, List.getElem?_cons_zero, List.getElem?_cons_succ]
            repeat (first | go_big_quiet_step (fail) | quiet_step (fail))
            refine wpQuiet_nil ?_
            have HZ := Lib.hid (show ∀ u : World, Below wr.heap.size wr u → ∃ z : SealZ pb bb g (F + O) v (.slice (some ⟨g, 0, none⟩) 15 rc) y, u = z.at' from
              fun u hu => ⟨⟨u, (hu.cell (p := ⟨pb, 2, none⟩) HU.out.2.2.2.own.lt).trans r0, (hu.cell (p := ⟨bb, 1, none⟩) (Nat.lt_of_lt_of_le HBLT.out HU.out.2.2.2.below.size)).trans r1, (hu.cell (p := ⟨g, F + O, none⟩) hgl).trans r2⟩, rfl⟩)
            clear z0 z1 z2 zn k3 k4 k5 k6
            refine wpSeq_one rfl (fun K' hK => ?_)
            go_wp2
            refine hK _ _ (HZ.out _ ((Below.refl _ _).alloc (Nat.le_refl _) _).drew) ?_
            clear hK K'
            have HPL := Lib.hid (show (sealPath seed kk t).length ≤ 2147483647 by have := sealPath_length seed kk t; omega)
            refine wpSeq_one rfl (fun K' hK => ?_)
            refine wpList_append_one3 rfl (.tmp 52) (.tmp 62) 50 rfl 9 Tryz.underlying50 _ 16 infoStr rfl (by decide) (pb + 1) v (sealPath seed kk t).length (stCells (sealPath seed kk t)) rfl HU.out.2.2.2.row.drew (show pb + 1 ≤ wr.heap.size from HU.out.2.2.2.own.lt) HPL.out (.string y) rfl rfl 9 ?_
            intro v' w6 hrow6 hgrow6 hmove6 _
            have HG6 := Lib.hid (show Below (pb + 1) wr w6 from (show Below (pb + 1) wr wr.drew from (Below.refl _ _).drew).grown hgrow6.out (show pb + 1 ≤ wr.heap.size from HU.out.2.2.2.own.lt) (fun j hj => (HU.out.2.2.2.row.lt j hj).1))
            obtain ⟨p6, cap6, rfl⟩ := hrow6.out.any
            have hlt6 : w.heap.size < pb := HU.out.2.2.2.lt
            have t0 : w6.cell? ⟨pb, 2, none⟩ = some v := (HG6.out.cell (p := ⟨pb, 2, none⟩) (Nat.lt_succ_self pb)).trans r0
            have t1 : w6.frozen? ⟨pb, 2, none⟩ = false := (HG6.out.frozen (p := ⟨pb, 2, none⟩) (Nat.lt_succ_self pb)).trans (HU.out.2.2.2.own.free 2)
            have HZ6 := Lib.hid (show ∃ z : SealZ pb bb g (F + O) v (.slice (some ⟨g, 0, none⟩) 15 rc) y, w6 = z.at' from
              ⟨⟨w6, t0, (HG6.out.cell (p := ⟨bb, 1, none⟩) (by have := HBLT.out; show bb < pb + 1; omega)).trans r1, (HG6.out.cell (p := ⟨g, F + O, none⟩) (by show g < pb + 1; omega)).trans r2⟩, rfl⟩)
            refine hK _ _ HZ6.out ?_
            clear hK K'
            refine wpSeq_one rfl (fun K' hK => ?_)
            go_wp2
            refine hK _ _ HZ6.out ?_
            clear hK K'
            refine wpSeq_last rfl (fun K' hK => ?_)
            go_wp2
            refine hK _ _ ?_
            clear hK K' e14
            go_wp2
            go_roundw
            case rel =>
              refine ⟨t + 1, F + N, K / 2, N / 2, .slice p6 ((sealPath seed kk t).length + 1) cap6, by omega, by go_num, by go_num, by go_num, Lib.hid ⟨S1.out.symm, S6.out.symm, S2.out.symm, ?_⟩⟩
              have e : sealPath seed kk (t + 1) = sealPath seed kk t ++ [y] := by rw [sealPath_next, ← HU.out.1, ← HU.out.2.1, HO.out, HY.out]
              rw [e]
              exact SealRel.next HU.out.2.2.2 hrow6.out hgrow6.out
            case measure => simp [intOf]; omega
          · have eo : ((K : Int) % 2 == 1) = false := by rw [beq_eq_false_iff_ne]; omega
            obtain ⟨O, hO⟩ : ∃ O : Nat, sib K = O := ⟨_, rfl⟩
            have hO2 : (K : Int) + 1 = (O : Int) := by rw [← hO]; unfold sib; rw [if_neg hodd]; omega
            rw [hO] at S8
            have HO := Lib.hid hO
            clear hO hodd
            have hfo : F + O < 15 := S8.out
            obtain ⟨g, rc, hgw, hrw, hcells⟩ := HBXW.out.rows
            have hgl : g < wr.heap.size := Nat.lt_of_lt_of_le hgw HU.out.2.2.2.below.size
            have r0 : wr.cell? ⟨pb, 2, none⟩ = some v := HU.out.2.2.2.own.cell 2 (by omega)
            have r1 : wr.cell? ⟨bb, 1, none⟩ = some (.slice (some ⟨g, 0, none⟩) 15 rc) := (HU.out.2.2.2.below.cell (p := ⟨bb, 1, none⟩) HBLT.out).trans hrw
            have r2 : wr.cell? ⟨g, F + O, none⟩ = some (.string ((rowsOf seed).getD (F + O) ⟨#[]⟩)) := (HU.out.2.2.2.below.cell (p := ⟨g, F + O, none⟩) hgw).trans (hcells _ hfo)
            obtain ⟨y, hy⟩ : ∃ y, (rowsOf seed).getD (F + O) ⟨#[]⟩ = y := ⟨_, rfl⟩
            rw [hy] at r2
            have HY := Lib.hid hy
            clear hy hcells hrw
            have z0 : ∀ z : SealZ pb bb g (F + O) v (.slice (some ⟨g, 0, none⟩) 15 rc) y, z.at'.cell? ⟨pb, 2, none⟩ = some v := fun z => z.h0
            have z1 : ∀ z : SealZ pb bb g (F + O) v (.slice (some ⟨g, 0, none⟩) 15 rc) y, z.at'.cell? ⟨bb, 1, none⟩ = some (.slice (some ⟨g, 0, none⟩) 15 rc) := fun z => z.h1
            have z2 : ∀ z : SealZ pb bb g (F + O) v (.slice (some ⟨g, 0, none⟩) 15 rc) y, z.at'.cell? ⟨g, F + O, none⟩ = some (.string y) := fun z => z.h2
            have zn : Nonempty (SealZ pb bb g (F + O) v (.slice (some ⟨g, 0, none⟩) 15 rc) y) := ⟨⟨wr.drew, r0, r1, r2⟩⟩
            have k3 : IntKind.i64.wrap ((F : Int) + (O : Int)) = (F : Int) + (O : Int) := IntWalk.i64_in _ (by omega)
            have k4 : (F : Int) + (O : Int) < 15 := by omega
            have k5 : ((F : Int) + (O : Int)).toNat = F + O := by omega
            have k6 : (0 : Int) ≤ (F : Int) + (O : Int) := by omega
            go_wp2
            clear hO2
            refine wp_region_taken (fun w' => ∃ z : SealZ pb bb g (F + O) v (.slice (some ⟨g, 0, none⟩) 15 rc) y, w' = z.at') [0, 1, 2, 3, 4, 5, 6, 7, 8, 9, 10] [11, 12, 13, 14] (by kernel_rfl) (by kernel_rfl) (by intro c d v a w h; cases d <;> exact h) ⟨⟨wr.drew, r0, r1, r2⟩, rfl⟩ ?_
            simp only [pickOps, List.filterMap_cons, List.filterMap_nil, List.getElem?_cons_zero, List.getElem?_cons_succ]
            repeat (first | go_big_quiet_step (fail) | quiet_step (fail))
            refine wpQuiet_nil ?_
            have HZ := Lib.hid (show ∀ u : World, Below wr.heap.size wr u → ∃ z : SealZ pb bb g (F + O) v (.slice (some ⟨g, 0, none⟩) 15 rc) y, u = z.at' from
              fun u hu => ⟨⟨u, (hu.cell (p := ⟨pb, 2, none⟩) HU.out.2.2.2.own.lt).trans r0, (hu.cell (p := ⟨bb, 1, none⟩) (Nat.lt_of_lt_of_le HBLT.out HU.out.2.2.2.below.size)).trans r1, (hu.cell (p := ⟨g, F + O, none⟩) hgl).trans r2⟩, rfl⟩)
            clear z0 z1 z2 zn k3 k4 k5 k6
            refine wpSeq_one rfl (fun K' hK => ?_)
            go_wp2
            refine hK _ _ (HZ.out _ ((Below.refl _ _).alloc (Nat.le_refl _) _).drew) ?_
            clear hK K'
            have HPL := Lib.hid (show (sealPath seed kk t).length ≤ 2147483647 by have := sealPath_length seed kk t; omega)
            refine wpSeq_one rfl (fun K' hK => ?_)
            refine wpList_append_one3 rfl (.tmp 52) (.tmp 62) 50 rfl 9 Tryz.underlying50 _ 16 infoStr rfl (by decide) (pb + 1) v (sealPath seed kk t).length (stCells (sealPath seed kk t)) rfl HU.out.2.2.2.row.drew (show pb + 1 ≤ wr.heap.size from HU.out.2.2.2.own.lt) HPL.out (.string y) rfl rfl 9 ?_
            intro v' w6 hrow6 hgrow6 hmove6 _
            have HG6 := Lib.hid (show Below (pb + 1) wr w6 from (show Below (pb + 1) wr wr.drew from (Below.refl _ _).drew).grown hgrow6.out (show pb + 1 ≤ wr.heap.size from HU.out.2.2.2.own.lt) (fun j hj => (HU.out.2.2.2.row.lt j hj).1))
            obtain ⟨p6, cap6, rfl⟩ := hrow6.out.any
            have hlt6 : w.heap.size < pb := HU.out.2.2.2.lt
            have t0 : w6.cell? ⟨pb, 2, none⟩ = some v := (HG6.out.cell (p := ⟨pb, 2, none⟩) (Nat.lt_succ_self pb)).trans r0
            have t1 : w6.frozen? ⟨pb, 2, none⟩ = false := (HG6.out.frozen (p := ⟨pb, 2, none⟩) (Nat.lt_succ_self pb)).trans (HU.out.2.2.2.own.free 2)
            have HZ6 := Lib.hid (show ∃ z : SealZ pb bb g (F + O) v (.slice (some ⟨g, 0, none⟩) 15 rc) y, w6 = z.at' from
              ⟨⟨w6, t0, (HG6.out.cell (p := ⟨bb, 1, none⟩) (by have := HBLT.out; show bb < pb + 1; omega)).trans r1, (HG6.out.cell (p := ⟨g, F + O, none⟩) (by show g < pb + 1; omega)).trans r2⟩, rfl⟩)
            refine hK _ _ HZ6.out ?_
            clear hK K'
            refine wpSeq_one rfl (fun K' hK => ?_)
            go_wp2
            refine hK _ _ HZ6.out ?_
            clear hK K'
            refine wpSeq_last rfl (fun K' hK => ?_)
            go_wp2
            refine hK _ _ ?_
            clear hK K' e14
            go_wp2
            go_roundw
            case rel =>
              refine ⟨t + 1, F + N, K / 2, N / 2, .slice p6 ((sealPath seed kk t).length + 1) cap6, by omega, by go_num, by go_num, by go_num, Lib.hid ⟨S1.out.symm, S6.out.symm, S2.out.symm, ?_⟩⟩
              have e : sealPath seed kk (t + 1) = sealPath seed kk t ++ [y] := by rw [sealPath_next, ← HU.out.1, ← HU.out.2.1, HO.out, HY.out]
              rw [e]
              exact SealRel.next HU.out.2.2.2 hrow6.out hgrow6.out
            case measure => simp [intOf]; omega
        · have HT3 := Lib.hid (show t = 3 by omega)
          have hN : N = 1 := by rw [HU.out.2.2.1, HT3.out]; rfl
          have e14 : decide ((1 : Int) < (N : Int)) = false := by simp; omega
          clear hN
          have hrow := HU.out.2.2.2.row
          rw [HT3.out] at hrow
          obtain ⟨-, PB, pc, rfl, hpi⟩ := hrow.strs
          have HPB := Lib.hid (show ∀ a, PB = some a → 0 < P.length → w.heap.size < a.block from fun a ha hn => by
            have h1 := hrow.above a ha (by rw [HP.out]; exact hn)
            have h2 := HU.out.2.2.2.lt
            omega)
          have HPI := Lib.hid hpi
          have HBE := Lib.hid HU.out.2.2.2.below
          have HRE := Lib.hid HU.out.2.2.2.res
          have HSE := Lib.hid HU.out.2.2.2.sig
          have c0 : wr.cell? ⟨pb, 0, none⟩ = some (.int .i64 (kk : Int)) := HU.out.2.2.2.own.cell 0 (by omega)
          have c1 : wr.cell? ⟨pb, 1, none⟩ = some (.slice A U.length ca) := HU.out.2.2.2.own.cell 1 (by omega)
          have c2 : wr.cell? ⟨pb, 2, none⟩ = some (.slice PB (sealPath seed kk 3).length pc) := HU.out.2.2.2.own.cell 2 (by omega)
          rw [HP.out] at c2 hpi HPI
          clear hrow hpi
          have p0 : wr.cell? ⟨w.heap.size, 0, none⟩ = some (.int .i64 0) := HRE.out.cell 0 (by omega)
          have p1 : wr.cell? ⟨w.heap.size, 1, none⟩ = some (.slice none 0 0) := HRE.out.cell 1 (by omega)
          have p2 : wr.cell? ⟨w.heap.size, 2, none⟩ = some (.slice none 0 0) := HRE.out.cell 2 (by omega)
          have f0 : wr.frozen? ⟨w.heap.size, 0, none⟩ = false := HRE.out.free 0
          have f1 : wr.frozen? ⟨w.heap.size, 1, none⟩ = false := HRE.out.free 1
          have f2 : wr.frozen? ⟨w.heap.size, 2, none⟩ = false := HRE.out.free 2
          have HFIN := Lib.hid (show Holds (((wr.setCell ⟨w.heap.size, 0, none⟩ (.int .i64 (kk : Int))).setCell ⟨w.heap.size, 1, none⟩ (.slice A U.length ca)).setCell ⟨w.heap.size, 2, none⟩ (.slice PB P.length pc)) w.heap.size 3 (slF (kk : Int) (.slice A U.length ca) (.slice PB P.length pc)) 52 from
            (((HRE.out.set 0 _).set 1 _).set 2 _).congr fun i hi => by
              rcases (show i = 0 ∨ i = 1 ∨ i = 2 by omega) with rfl | rfl | rfl <;> simp [upd, slF])
          have HFB := Lib.hid (show Below w.heap.size w (((wr.setCell ⟨w.heap.size, 0, none⟩ (.int .i64 (kk : Int))).setCell ⟨w.heap.size, 1, none⟩ (.slice A U.length ca)).setCell ⟨w.heap.size, 2, none⟩ (.slice PB P.length pc)) from
            (((HBE.out.setCell (Nat.le_refl _) _).setCell (Nat.le_refl _) _).setCell (Nat.le_refl _) _))
          go_wp2
          refine bodyPost_ret (results_row2 rfl _ _ w.heap.size 52 (arr 3 (slF (kk : Int) (.slice A U.length ca) (.slice PB P.length pc))) (0, 0) _ rfl HFIN.out Tryz.underlying52 rfl (by rw [arr_size]; exact infoSeal)) rfl ?_
          exact ⟨A, ca, PB, pc, rfl, HFB.out, ((HSE.out.keep _ _ HAB.out).keep _ _ HAB.out).keep _ _ HAB.out, ((HPI.out.keep _ _ HPB.out).keep _ _ HPB.out).keep _ _ HPB.out, fun a ha hp => Nat.le_of_lt (HAB.out a ha hp), fun a ha hp => Nat.le_of_lt (HPB.out a ha hp), HCAP.out⟩
    · rw [if_neg hl] at h
      simp only [Prod.mk.injEq] at h
      obtain ⟨rfl, rfl, rfl, rfl⟩ := h
      have e1 : (l == 0) = false := by rw [beq_eq_false_iff_ne]; exact hl
      have e2 : (l != 0) = true := by simpa using hl
      have p0 : w2.cell? ⟨w.heap.size, 0, none⟩ = some (.int .i64 0) := HS2.out.cell 0 (by omega)
      have p1 : w2.cell? ⟨w.heap.size, 1, none⟩ = some (.slice none 0 0) := HS2.out.cell 1 (by omega)
      have p2 : w2.cell? ⟨w.heap.size, 2, none⟩ = some (.slice none 0 0) := HS2.out.cell 2 (by omega)
      have f0 : w2.frozen? ⟨w.heap.size, 0, none⟩ = false := HS2.out.free 0
      have f1 : w2.frozen? ⟨w.heap.size, 1, none⟩ = false := HS2.out.free 1
      have f2 : w2.frozen? ⟨w.heap.size, 2, none⟩ = false := HS2.out.free 2
      have HFIN := Lib.hid (show Holds (((w2.setCell ⟨w.heap.size, 0, none⟩ (.int .i64 0)).setCell ⟨w.heap.size, 1, none⟩ (.slice none 0 0)).setCell ⟨w.heap.size, 2, none⟩ (.slice none 0 0)) w.heap.size 3 (slF 0 (.slice none 0 0) (.slice none 0 0)) 52 from
        (((HS2.out.set 0 _).set 1 _).set 2 _).congr fun i hi => by
          rcases (show i = 0 ∨ i = 1 ∨ i = 2 by omega) with rfl | rfl | rfl <;> simp [upd, slF])
      have HFB := Lib.hid (show Below w.heap.size w (((w2.setCell ⟨w.heap.size, 0, none⟩ (.int .i64 0)).setCell ⟨w.heap.size, 1, none⟩ (.slice none 0 0)).setCell ⟨w.heap.size, 2, none⟩ (.slice none 0 0)) from
        (((HB2.out.setCell (Nat.le_refl _) _).setCell (Nat.le_refl _) _).setCell (Nat.le_refl _) _))
      go_wp2
      refine bodyPost_ret (results_row2 rfl _ _ w.heap.size 52 (arr 3 (slF 0 (.slice none 0 0) (.slice none 0 0))) (0, 0) _ rfl HFIN.out Tryz.underlying52 rfl (by rw [arr_size]; exact infoSeal)) rfl ?_
      exact ⟨none, 0, none, 0, rfl, HFB.out, Strs.nil _ _, Strs.nil _ _, (fun a ha => by cases ha), (fun a ha => by cases ha), Nat.le_refl 0⟩
  · rw [if_neg hkey] at h
    simp only [Prod.mk.injEq] at h
    obtain ⟨rfl, rfl, rfl, rfl⟩ := h
    go_enter Tryz.func66, Tryz.ntmps66
    go_wp2_with fail
    generalize w.alloc (.cells #[.int .i64 0, .slice none 0 0, .slice none 0 0] 52) = w0 at HB0 HS0
    refine (in_any _ _ _ _).mono ?_
    rintro e w1 ⟨rfl, rfl⟩
    rw [show (decide ((0 : Int) ≤ key) && decide (key ≤ 7)) = false by
      by_cases h0 : 0 ≤ key
      · have : ¬ key ≤ 7 := fun h => hkey ⟨h0, h⟩
        simp [this]
      · simp [h0]]
    have p0 : w1.cell? ⟨w.heap.size, 0, none⟩ = some (.int .i64 0) := HS0.out.cell 0 (by omega)
    have p1 : w1.cell? ⟨w.heap.size, 1, none⟩ = some (.slice none 0 0) := HS0.out.cell 1 (by omega)
    have p2 : w1.cell? ⟨w.heap.size, 2, none⟩ = some (.slice none 0 0) := HS0.out.cell 2 (by omega)
    have f0 : w1.frozen? ⟨w.heap.size, 0, none⟩ = false := HS0.out.free 0
    have f1 : w1.frozen? ⟨w.heap.size, 1, none⟩ = false := HS0.out.free 1
    have f2 : w1.frozen? ⟨w.heap.size, 2, none⟩ = false := HS0.out.free 2
    have HFIN := Lib.hid (show Holds (((w1.setCell ⟨w.heap.size, 0, none⟩ (.int .i64 0)).setCell ⟨w.heap.size, 1, none⟩ (.slice none 0 0)).setCell ⟨w.heap.size, 2, none⟩ (.slice none 0 0)) w.heap.size 3 (slF 0 (.slice none 0 0) (.slice none 0 0)) 52 from
      (((HS0.out.set 0 _).set 1 _).set 2 _).congr fun i hi => by
        rcases (show i = 0 ∨ i = 1 ∨ i = 2 by omega) with rfl | rfl | rfl <;> simp [upd, slF])
    have HFB := Lib.hid (show Below w.heap.size w (((w1.setCell ⟨w.heap.size, 0, none⟩ (.int .i64 0)).setCell ⟨w.heap.size, 1, none⟩ (.slice none 0 0)).setCell ⟨w.heap.size, 2, none⟩ (.slice none 0 0)) from
      (((HB0.out.setCell (Nat.le_refl _) _).setCell (Nat.le_refl _) _).setCell (Nat.le_refl _) _))
    go_wp2
    refine bodyPost_ret (results_row2 rfl _ _ w.heap.size 52 (arr 3 (slF 0 (.slice none 0 0) (.slice none 0 0))) (0, 0) _ rfl HFIN.out Tryz.underlying52 rfl (by rw [arr_size]; exact infoSeal)) rfl ?_
    exact ⟨none, 0, none, 0, rfl, HFB.out, Strs.nil _ _, Strs.nil _ _, (fun a ha => by cases ha), (fun a ha => by cases ha), Nat.le_refl 0⟩
theorem refSealSign_is (b bb : Nat) (seed : ByteArray) (key : Int) (m : ByteArray) (kk : Int) (S P : List ByteArray) (n : Int) (w : World) (hr : Holds w b 72 refCells 121) (hbx : BoxIs w bb seed) (h : sealAns seed key m = (kk, S, P, n)) :
    Calls Tryz.prog 66 #[.pointer (some ⟨b, 0, none⟩), .pointer (some ⟨bb, 0, none⟩), .int .i64 key, .string m] w fun e w' => ∃ A ca B cb, e = .returned (.tuple #[.agg #[.int .i64 kk, .slice A S.length ca, .slice B P.length cb], .int .i64 n]) ∧ Below w.heap.size w w' ∧ Strs w' A S ∧ Strs w' B P :=
  (refSealSign_at b bb seed key m kk S P n w hr hbx h).mono fun _ _ ⟨A, ca, B, cb, h1, h2, h3, h4, _⟩ => ⟨A, ca, B, cb, h1, h2, h3, h4⟩
end Go.Proofs.YtcfpmofmjnhonaaGreatDoor
