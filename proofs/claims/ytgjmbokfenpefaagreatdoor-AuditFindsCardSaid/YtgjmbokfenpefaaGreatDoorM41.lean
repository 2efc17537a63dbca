/- Parts of the proof, one behind the other: SealG, RDirO, RDirI. -/
import Derived.WalkKit
import Derived.Lib.Hide
import Derived.WalkLawsBesides
import Derived.Deep.QuietTactic
import Derived.Deep.WholeRow
import Derived.ArgAppend
import Derived.Laws.AppendOwnNone
import Derived.Laws.CopyRow
import Derived.Deep.RegionLaw
import Derived.Laws.BytesString
import Derived.Laws.IdiomStrings
import Derived.Test.YtgjmbokfenpefaaGreatDoorProg
import Derived.Laws.BitsAllLaws
import Derived.Outline
import Derived.BigQuiet
import Derived.Laws.CopyOwn
import Derived.RegionTactic
import Derived.StillTail
import Derived.Deep.Quiet
import Derived.Deep.RegionHeld3
import Derived.Deep.DeepCutAuto
import Derived.Laws.ResultCell
import Derived.IntWalk
import Derived.Sort.Walk0
import Derived.Tactics
import Derived.Orders
import Derived.LaidEql
import Derived.Stop.Asserts
import Derived.RowKitTokens
import Derived.OrdersHeld
import Derived.StringKeys
import Derived.Maps.Own
import Derived.Maps.Views
import Derived.Maps.OwnSet
import Derived.Maps.OwnOps
import Derived.Maps.RangeWalk
import Derived.Sort.KeysCollected
import Derived.Sort.LotA
import Derived.Lib.SortBridge
import Derived.Shelf.SlSortFuncK.WholeK
import Derived.Ground.GgsProg
import Derived.Shelf.GgSortFunc.Tiny
import Derived.Test.YtgjmbokfenpefaaGreatDoorM1
import Derived.Test.YtgjmbokfenpefaaGreatDoorM2
import Derived.Test.YtgjmbokfenpefaaGreatDoorM3
import Derived.Test.YtgjmbokfenpefaaGreatDoorM4
import Derived.Test.YtgjmbokfenpefaaGreatDoorM5
import Derived.Test.YtgjmbokfenpefaaGreatDoorM6
import Derived.Test.YtgjmbokfenpefaaGreatDoorM7
import Derived.Test.YtgjmbokfenpefaaGreatDoorM8
import Derived.Test.YtgjmbokfenpefaaGreatDoorM16
import Derived.Test.YtgjmbokfenpefaaGreatDoorM33
import Derived.Test.YtgjmbokfenpefaaGreatDoorM34
import Derived.Test.YtgjmbokfenpefaaGreatDoorM35
import Derived.Test.YtgjmbokfenpefaaGreatDoorM36
import Derived.Test.YtgjmbokfenpefaaGreatDoorM37
import Derived.Test.YtgjmbokfenpefaaGreatDoorM38
import Derived.Test.YtgjmbokfenpefaaGreatDoorM39
import Derived.Test.YtgjmbokfenpefaaGreatDoorM40
/- The document's SealSign. -/
namespace Go.Proofs.YtgjmbokfenpefaaGreatDoor
open Go.RowKit

theorem sealPath_next (seed : ByteArray) (key t : Nat) : sealPath seed key (t + 1) = sealPath seed key t ++ [(rowsOf seed).getD (rowBase t + sib (key / 2 ^ t)) ⟨#[]⟩] := by
  unfold sealPath
  rw [List.range_succ, List.map_append]; rfl
theorem seal_step (kk t : Nat) (hk : kk ≤ 7) (ht : t < 3) : rowBase (t + 1) = rowBase t + rowLen t ∧ rowLen (t + 1) = rowLen t / 2 ∧ 2 ≤ rowLen t ∧ rowLen t ≤ 8 ∧ rowBase t ≤ 12 ∧ kk / 2 ^ (t + 1) = kk / 2 ^ t / 2 ∧ kk / 2 ^ t ≤ 7 ∧ rowBase t + sib (kk / 2 ^ t) < 15 :=
  (show ∀ k, k < 8 → ∀ t, t < 3 → rowBase (t + 1) = rowBase t + rowLen t ∧ rowLen (t + 1) = rowLen t / 2 ∧ 2 ≤ rowLen t ∧ rowLen t ≤ 8 ∧ rowBase t ≤ 12 ∧ k / 2 ^ (t + 1) = k / 2 ^ t / 2 ∧ k / 2 ^ t ≤ 7 ∧ rowBase t + sib (k / 2 ^ t) < 15 by decide) kk (by omega) t ht
theorem Row.above {w : World} {base : Nat} {A : Option Addr} {cap n : Nat} {xs : List Value} (h : Row w base 1 (.slice A n cap) n xs) : ∀ a, A = some a → 0 < n → base ≤ a.block := fun a ha hn => by
  obtain ⟨g, c, hv, hb, _⟩ := h.shape hn
  injection hv with e _ _
  rw [ha] at e
  injection e with e
  rw [e]; exact hb
set_option maxHeartbeats 2000000 in
set_option maxRecDepth 100000 in
theorem refSealSign_at (b bb : Nat) (seed : ByteArray) (key : Int) (m : ByteArray) (kk : Int) (S P : List ByteArray) (n : Int) (w : World) (hr : Holds w b 72 refCells 97) (hbx : BoxIs w bb seed) (h : sealAns seed key m = (kk, S, P, n)) :
    Calls Tryz.prog 71 #[.pointer (some ⟨b, 0, none⟩), .pointer (some ⟨bb, 0, none⟩), .int .i64 key, .string m] w fun e w' => ∃ A ca B cb, e = .returned (.tuple #[.agg #[.int .i64 kk, .slice A S.length ca, .slice B P.length cb], .int .i64 n]) ∧ Below w.heap.size w w' ∧ Strs w' A S ∧ Strs w' B P ∧ (∀ a, A = some a → 0 < S.length → w.heap.size ≤ a.block) ∧ (∀ a, B = some a → 0 < P.length → w.heap.size ≤ a.block) ∧ S.length ≤ ca := by
  have HB0 := Lib.hid (alloc_below w (.cells #[.int .i64 0, .slice none 0 0, .slice none 0 0] 55))
  have HS0 := Lib.hid (show Holds (w.alloc (.cells #[.int .i64 0, .slice none 0 0, .slice none 0 0] 55)) w.heap.size 3 (slF 0 (.slice none 0 0) (.slice none 0 0)) 55 from Holds.new w 3 (slF 0 (.slice none 0 0) (.slice none 0 0)) 55)
  have HR := Lib.hid (hr.below HB0.out hr.lt)
  have HBX := Lib.hid (hbx.below HB0.out)
  have HBLT := Lib.hid hbx.lt
  have HBXW := Lib.hid hbx
  clear hr hbx
  unfold sealAns at h
  by_cases hkey : 0 ≤ key ∧ key ≤ 7
  · rw [if_pos hkey] at h
    obtain ⟨U, l, hu⟩ : ∃ U l, signAns seed key m = (U, l) := ⟨_, _, rfl⟩
    rw [hu] at h
    have HU0 := Lib.hid hu
    clear hu
    go_enter Tryz.func71, Tryz.ntmps71
    go_wp2_with fail
    generalize w.alloc (.cells #[.int .i64 0, .slice none 0 0, .slice none 0 0] 55) = w0 at HB0 HS0 HR HBX
    refine (in_any _ _ _ _).mono ?_
    rintro e w1 ⟨rfl, rfl⟩
    rw [show (decide ((0 : Int) ≤ key) && decide (key ≤ 7)) = true by simp [hkey]]
    have c0 := HBX.out.sd
    go_wp2_with fail
    clear c0
    refine (refOnceSign_is b seed key m U l _ HR.out HU0.out).mono ?_
    rintro e w2 ⟨v, rfl, hb2, hrow⟩
    obtain ⟨-, A, ca, rfl, hti⟩ := hrow.strs
    have HCAP := Lib.hid (show U.length ≤ ca from by
      rcases hrow.2 with ⟨_, h2⟩ | ⟨g, c, hv, _, _, hle, _⟩
      · omega
      · injection hv with _ _ e3
        omega)
    have HAB := Lib.hid (show ∀ a, A = some a → 0 < U.length → w.heap.size < a.block from fun a ha hn => Nat.lt_of_lt_of_le HS0.out.lt (hrow.above a ha hn))
    have HB2 := Lib.hid (HB0.out.trans (hb2.mono HB0.out.size))
    have HS2 := Lib.hid (HS0.out.below hb2 HS0.out.lt)
    have HBX2 := Lib.hid (HBX.out.below hb2)
    have HTI := Lib.hid hti
    clear hb2 hrow hti
    by_cases hl : l = 0
    · subst hl
      rw [if_pos rfl] at h
      simp only [Prod.mk.injEq] at h
      obtain ⟨rfl, rfl, hP, rfl⟩ := h
      obtain ⟨kk, rfl⟩ : ∃ kk : Nat, key = (kk : Int) := ⟨key.toNat, by omega⟩
      have hkk : kk ≤ 7 := by omega
      rw [Int.toNat_natCast] at hP
      have HP := Lib.hid hP
      clear hP hkey
      have HSTART := Lib.hid (show SealRel w2.heap.size w (w2.alloc (.cells #[.int .i64 (kk : Int), .slice A U.length ca, .slice none 0 0] 55)) (kk : Int) A ca U (sealPath seed kk 0) (.slice none 0 0) from
        ⟨HB2.out.alloc HB2.out.size _, HS2.out.lt, HS2.out.alloc _, Holds.new w2 3 (slF (kk : Int) (.slice A U.length ca) (.slice none 0 0)) 55, HTI.out.below (alloc_below _ _),
          fun a ha hn => by obtain ⟨a', ha', hl, _⟩ := HTI.out 0 _ (List.getElem?_eq_getElem hn); obtain rfl := Option.some.inj (ha.symm.trans ha'); exact hl,
          Row.nil _ _ _⟩)
      go_wp2
      generalize w2.alloc (.cells #[.int .i64 (kk : Int), .slice A U.length ca, .slice none 0 0] 55) = w3 at HSTART ⊢
      generalize w2.heap.size = pb at HSTART ⊢
      go_loopw [13, 14, 15] (fun fv kv nv wr => ∃ (t F K N : Nat) (v : Value), t ≤ 3 ∧ fv = .int .i64 (F : Int) ∧ kv = .int .i64 (K : Int) ∧ nv = .int .i64 (N : Int) ∧ Hid (F = rowBase t ∧ K = kk / 2 ^ t ∧ N = rowLen t ∧ SealRel pb w wr (kk : Int) A ca U (sealPath seed kk t) v)) (fun _ _ nv _ => (intOf nv).toNat)
      case atStart => exact ⟨0, 0, kk, 8, _, by omega, rfl, rfl, rfl, Lib.hid ⟨rfl, by simp, rfl, HSTART.out⟩⟩
      case round =>
        obtain ⟨t, F, K, N, v, ht, rfl, rfl, rfl, HU⟩ := hrel
        by_cases hlt : t < 3
        · have hst := seal_step kk t hkk hlt
          rw [← HU.out.1, ← HU.out.2.1, ← HU.out.2.2.1] at hst
          obtain ⟨s1, s2, s3, s4, s5, s6, s7, s8⟩ := hst
          have S1 := Lib.hid s1
          have S2 := Lib.hid s2
          have S6 := Lib.hid s6
          have S8 := Lib.hid s8
          clear s1 s2 s6 s8
          have e14 : decide ((1 : Int) < (N : Int)) = true := by simp; omega
          by_cases hodd : K % 2 = 1
          · have eo : ((K : Int) % 2 == 1) = true := by rw [beq_iff_eq]; omega
            obtain ⟨O, hO⟩ : ∃ O : Nat, sib K = O := ⟨_, rfl⟩
            have hO2 : (K : Int) - 1 = (O : Int) := by rw [← hO]; unfold sib; rw [if_pos hodd]; omega
            rw [hO] at S8
            have HO := Lib.hid hO
            clear hO hodd
            have hfo : F + O < 15 := S8.out
            obtain ⟨g, rc, hgw, hrw, hcells⟩ := HBXW.out.rows
            have hgl : g < wr.heap.size := Nat.lt_of_lt_of_le hgw HU.out.2.2.2.below.size
            have r0 : wr.cell? ⟨pb, 2, none⟩ = some v := HU.out.2.2.2.own.cell 2 (by omega)
            have r1 : wr.cell? ⟨bb, 1, none⟩ = some (.slice (some ⟨g, 0, none⟩) 15 rc) := (HU.out.2.2.2.below.cell (p := ⟨bb, 1, none⟩) HBLT.out).trans hrw
            have r2 : wr.cell? ⟨g, F + O, none⟩ = some (.string ((rowsOf seed).getD (F + O) ⟨#[]⟩)) := (HU.out.2.2.2.below.cell (p := ⟨g, F + O, none⟩) hgw).trans (hcells _ hfo)
            obtain ⟨y, hy⟩ : ∃ y, (rowsOf seed).getD (F + O) ⟨#[]⟩ = y := ⟨_, rfl⟩
            rw [hy] at r2
            have HY := Lib.hid hy
            clear hy hcells hrw
            have z0 : ∀ z : SealZ pb bb g (F + O) v (.slice (some ⟨g, 0, none⟩) 15 rc) y, z.at'.cell? ⟨pb, 2, none⟩ = some v := fun z => z.h0
            have z1 : ∀ z : SealZ pb bb g (F + O) v (.slice (some ⟨g, 0, none⟩) 15 rc) y, z.at'.cell? ⟨bb, 1, none⟩ = some (.slice (some ⟨g, 0, none⟩) 15 rc) := fun z => z.h1
            have z2 : ∀ z : SealZ pb bb g (F + O) v (.slice (some ⟨g, 0, none⟩) 15 rc) y, z.at'.cell? ⟨g, F + O, none⟩ = some (.string y) := fun z => z.h2
            have zn : Nonempty (SealZ pb bb g (F + O) v (.slice (some ⟨g, 0, none⟩) 15 rc) y) := ⟨⟨wr.drew, r0, r1, r2⟩⟩
            have k3 : IntKind.i64.wrap ((F : Int) + (O : Int)) = (F : Int) + (O : Int) := IntWalk.i64_in _ (by omega)
            have k4 : (F : Int) + (O : Int) < 15 := by omega
            have k5 : ((F : Int) + (O : Int)).toNat = F + O := by omega
            have k6 : (0 : Int) ≤ (F : Int) + (O : Int) := by omega
            go_wp2
            clear hO2
            refine wp_region_taken (fun w' => ∃ z : SealZ pb bb g (F + O) v (.slice (some ⟨g, 0, none⟩) 15 rc) y, w' = z.at') [0, 1, 2, 3, 4, 5, 6, 7, 8, 9, 10] [11, 12, 13, 14] (by kernel_rfl) (by kernel_rfl) (by intro c d v a w h; cases d <;> exact h) ⟨⟨wr.drew, r0, r1, r2⟩, rfl⟩ ?_
            simp only [pickOps, List.filterMap_cons, List.filterMap_nil, List.getElem?_cons_zero, List.getElem?_cons_succ]
            repeat (first | go_big_quiet_step (fail) | quiet_step (fail))
            refine wpQuiet_nil ?_
            have HZ := Lib.hid (show ∀ u : World, Below wr.heap.size wr u → ∃ z : SealZ pb bb g (F + O) v (.slice (some ⟨g, 0, none⟩) 15 rc) y, u = z.at' from
              fun u hu => ⟨⟨u, (hu.cell (p := ⟨pb, 2, none⟩) HU.out.2.2.2.own.lt).trans r0, (hu.cell (p := ⟨bb, 1, none⟩) (Nat.lt_of_lt_of_le HBLT.out HU.out.2.2.2.below.size)).trans r1, (hu.cell (p := ⟨g, F + O, none⟩) hgl).trans r2⟩, rfl⟩)
            clear z0 z1 z2 zn k3 k4 k5 k6
            refine wpSeq_one rfl (fun K' hK => ?_)
            go_wp2
            refine hK _ _ (HZ.out _ ((Below.refl _ _).alloc (Nat.le_refl _) _).drew) ?_
            clear hK K'
            have HPL := Lib.hid (show (sealPath seed kk t).length ≤ 2147483647 by have := sealPath_length seed kk t; omega)
            refine wpSeq_one rfl (fun K' hK => ?_)
            refine wpList_append_one3 rfl (.tmp 52) (.tmp 62) 53 rfl 9 Tryz.underlying53 _ 16 infoStr rfl (by decide) (pb + 1) v (sealPath seed kk t).length (stCells (sealPath seed kk t)) rfl HU.out.2.2.2.row.drew (show pb + 1 ≤ wr.heap.size from HU.out.2.2.2.own.lt) HPL.out (.string y) rfl rfl 9 ?_
            intro v' w6 hrow6 hgrow6 hmove6 _
            have HG6 := Lib.hid (show Below (pb + 1) wr w6 from (show Below (pb + 1) wr wr.drew from (Below.refl _ _).drew).grown hgrow6.out (show pb + 1 ≤ wr.heap.size from HU.out.2.2.2.own.lt) (fun j hj => (HU.out.2.2.2.row.lt j hj).1))
            obtain ⟨p6, cap6, rfl⟩ := hrow6.out.any
            have hlt6 : w.heap.size < pb := HU.out.2.2.2.lt
            have t0 : w6.cell? ⟨pb, 2, none⟩ = some v := (HG6.out.cell (p := ⟨pb, 2, none⟩) (Nat.lt_succ_self pb)).trans r0
            have t1 : w6.frozen? ⟨pb, 2, none⟩ = false := (HG6.out.frozen (p := ⟨pb, 2, none⟩) (Nat.lt_succ_self pb)).trans (HU.out.2.2.2.own.free 2)
            have HZ6 := Lib.hid (show ∃ z : SealZ pb bb g (F + O) v (.slice (some ⟨g, 0, none⟩) 15 rc) y, w6 = z.at' from
              ⟨⟨w6, t0, (HG6.out.cell (p := ⟨bb, 1, none⟩) (by have := HBLT.out; show bb < pb + 1; omega)).trans r1, (HG6.out.cell (p := ⟨g, F + O, none⟩) (by show g < pb + 1; omega)).trans r2⟩, rfl⟩)
            refine hK _ _ HZ6.out ?_
            clear hK K'
            refine wpSeq_one rfl (fun K' hK => ?_)
            go_wp2
            refine hK _ _ HZ6.out ?_
            clear hK K'
            refine wpSeq_last rfl (fun K' hK => ?_)
            go_wp2
            refine hK _ _ ?_
            clear hK K' e14
            go_wp2
            go_roundw
            case rel =>
              refine ⟨t + 1, F + N, K / 2, N / 2, .slice p6 ((sealPath seed kk t).length + 1) cap6, by omega, by go_num, by go_num, by go_num, Lib.hid ⟨S1.out.symm, S6.out.symm, S2.out.symm, ?_⟩⟩
              have e : sealPath seed kk (t + 1) = sealPath seed kk t ++ [y] := by rw [sealPath_next, ← HU.out.1, ← HU.out.2.1, HO.out, HY.out]
              rw [e]
              exact SealRel.next HU.out.2.2.2 hrow6.out hgrow6.out
            case measure => simp [intOf]; omega
          · have eo : ((K : Int) % 2 == 1) = false := by rw [beq_eq_false_iff_ne]; omega
            obtain ⟨O, hO⟩ : ∃ O : Nat, sib K = O := ⟨_, rfl⟩
            have hO2 : (K : Int) + 1 = (O : Int) := by rw [← hO]; unfold sib; rw [if_neg hodd]; omega
            rw [hO] at S8
            have HO := Lib.hid hO
            clear hO hodd
            have hfo : F + O < 15 := S8.out
            obtain ⟨g, rc, hgw, hrw, hcells⟩ := HBXW.out.rows
            have hgl : g < wr.heap.size := Nat.lt_of_lt_of_le hgw HU.out.2.2.2.below.size
            have r0 : wr.cell? ⟨pb, 2, none⟩ = some v := HU.out.2.2.2.own.cell 2 (by omega)
            have r1 : wr.cell? ⟨bb, 1, none⟩ = some (.slice (some ⟨g, 0, none⟩) 15 rc) := (HU.out.2.2.2.below.cell (p := ⟨bb, 1, none⟩) HBLT.out).trans hrw
            have r2 : wr.cell? ⟨g, F + O, none⟩ = some (.string ((rowsOf seed).getD (F + O) ⟨#[]⟩)) := (HU.out.2.2.2.below.cell (p := ⟨g, F + O, none⟩) hgw).trans (hcells _ hfo)
            obtain ⟨y, hy⟩ : ∃ y, (rowsOf seed).getD (F + O) ⟨#[]⟩ = y := ⟨_, rfl⟩
            rw [hy] at r2
            have HY := Lib.hid hy
            clear hy hcells hrw
            have z0 : ∀ z : SealZ pb bb g (F + O) v (.slice (some ⟨g, 0, none⟩) 15 rc) y, z.at'.cell? ⟨pb, 2, none⟩ = some v := fun z => z.h0
            have z1 : ∀ z : SealZ pb bb g (F + O) v (.slice (some ⟨g, 0, none⟩) 15 rc) y, z.at'.cell? ⟨bb, 1, none⟩ = some (.slice (some ⟨g, 0, none⟩) 15 rc) := fun z => z.h1
            have z2 : ∀ z : SealZ pb bb g (F + O) v (.slice (some ⟨g, 0, none⟩) 15 rc) y, z.at'.cell? ⟨g, F + O, none⟩ = some (.string y) := fun z => z.h2
            have zn : Nonempty (SealZ pb bb g (F + O) v (.slice (some ⟨g, 0, none⟩) 15 rc) y) := ⟨⟨wr.drew, r0, r1, r2⟩⟩
            have k3 : IntKind.i64.wrap ((F : Int) + (O : Int)) = (F : Int) + (O : Int) := IntWalk.i64_in _ (by omega)
            have k4 : (F : Int) + (O : Int) < 15 := by omega
            have k5 : ((F : Int) + (O : Int)).toNat = F + O := by omega
            have k6 : (0 : Int) ≤ (F : Int) + (O : Int) := by omega
            go_wp2
            clear hO2
            refine wp_region_taken (fun w' => ∃ z : SealZ pb bb g (F + O) v (.slice (some ⟨g, 0, none⟩) 15 rc) y, w' = z.at') [0, 1, 2, 3, 4, 5, 6, 7, 8, 9, 10] [11, 12, 13, 14] (by kernel_rfl) (by kernel_rfl) (by intro c d v a w h; cases d <;> exact h) ⟨⟨wr.drew, r0, r1, r2⟩, rfl⟩ ?_
            simp only [pickOps, List.filterMap_cons, List.filterMap_nil, List.getElem?_cons_zero, List.getElem?_cons_succ]
            repeat (first | go_big_quiet_step (fail) | quiet_step (fail))
            refine wpQuiet_nil ?_
            have HZ := Lib.hid (show ∀ u : World, Below wr.heap.size wr u → ∃ z : SealZ pb bb g (F + O) v (.slice (some ⟨g, 0, none⟩) 15 rc) y, u = z.at' from
              fun u hu => ⟨⟨u, (hu.cell (p := ⟨pb, 2, none⟩) HU.out.2.2.2.own.lt).trans r0, (hu.cell (p := ⟨bb, 1, none⟩) (Nat.lt_of_lt_of_le HBLT.out HU.out.2.2.2.below.size)).trans r1, (hu.cell (p := ⟨g, F + O, none⟩) hgl).trans r2⟩, rfl⟩)
            clear z0 z1 z2 zn k3 k4 k5 k6
            refine wpSeq_one rfl (fun K' hK => ?_)
            go_wp2
            refine hK _ _ (HZ.out _ ((Below.refl _ _).alloc (Nat.le_refl _) _).drew) ?_
            clear hK K'
            have HPL := Lib.hid (show (sealPath seed kk t).length ≤ 2147483647 by have := sealPath_length seed kk t; omega)
            refine wpSeq_one rfl (fun K' hK => ?_)
            refine wpList_append_one3 rfl (.tmp 52) (.tmp 62) 53 rfl 9 Tryz.underlying53 _ 16 infoStr rfl (by decide) (pb + 1) v (sealPath seed kk t).length (stCells (sealPath seed kk t)) rfl HU.out.2.2.2.row.drew (show pb + 1 ≤ wr.heap.size from HU.out.2.2.2.own.lt) HPL.out (.string y) rfl rfl 9 ?_
            intro v' w6 hrow6 hgrow6 hmove6 _
            have HG6 := Lib.hid (show Below (pb + 1) wr w6 from (show Below (pb + 1) wr wr.drew from (Below.refl _ _).drew).grown hgrow6.out (show pb + 1 ≤ wr.heap.size from HU.out.2.2.2.own.lt) (fun j hj => (HU.out.2.2.2.row.lt j hj).1))
            obtain ⟨p6, cap6, rfl⟩ := hrow6.out.any
            have hlt6 : w.heap.size < pb := HU.out.2.2.2.lt
            have t0 : w6.cell? ⟨pb, 2, none⟩ = some v := (HG6.out.cell (p := ⟨pb, 2, none⟩) (Nat.lt_succ_self pb)).trans r0
            have t1 : w6.frozen? ⟨pb, 2, none⟩ = false := (HG6.out.frozen (p := ⟨pb, 2, none⟩) (Nat.lt_succ_self pb)).trans (HU.out.2.2.2.own.free 2)
            have HZ6 := Lib.hid (show ∃ z : SealZ pb bb g (F + O) v (.slice (some ⟨g, 0, none⟩) 15 rc) y, w6 = z.at' from
              ⟨⟨w6, t0, (HG6.out.cell (p := ⟨bb, 1, none⟩) (by have := HBLT.out; show bb < pb + 1; omega)).trans r1, (HG6.out.cell (p := ⟨g, F + O, none⟩) (by show g < pb + 1; omega)).trans r2⟩, rfl⟩)
            refine hK _ _ HZ6.out ?_
            clear hK K'
            refine wpSeq_one rfl (fun K' hK => ?_)
            go_wp2
            refine hK _ _ HZ6.out ?_
            clear hK K'
            refine wpSeq_last rfl (fun K' hK => ?_)
            go_wp2
            refine hK _ _ ?_
            clear hK K' e14
            go_wp2
            go_roundw
            case rel =>
              refine ⟨t + 1, F + N, K / 2, N / 2, .slice p6 ((sealPath seed kk t).length + 1) cap6, by omega, by go_num, by go_num, by go_num, Lib.hid ⟨S1.out.symm, S6.out.symm, S2.out.symm, ?_⟩⟩
              have e : sealPath seed kk (t + 1) = sealPath seed kk t ++ [y] := by rw [sealPath_next, ← HU.out.1, ← HU.out.2.1, HO.out, HY.out]
              rw [e]
              exact SealRel.next HU.out.2.2.2 hrow6.out hgrow6.out
            case measure => simp [intOf]; omega
        · have HT3 := Lib.hid (show t = 3 by omega)
          have hN : N = 1 := by rw [HU.out.2.2.1, HT3.out]; rfl
          have e14 : decide ((1 : Int) < (N : Int)) = false := by simp; omega
          clear hN
          have hrow := HU.out.2.2.2.row
          rw [HT3.out] at hrow
          obtain ⟨-, PB, pc, rfl, hpi⟩ := hrow.strs
          have HPB := Lib.hid (show ∀ a, PB = some a → 0 < P.length → w.heap.size < a.block from fun a ha hn => by
            have h1 := hrow.above a ha (by rw [HP.out]; exact hn)
            have h2 := HU.out.2.2.2.lt
            omega)
          have HPI := Lib.hid hpi
          have HBE := Lib.hid HU.out.2.2.2.below
          have HRE := Lib.hid HU.out.2.2.2.res
          have HSE := Lib.hid HU.out.2.2.2.sig
          have c0 : wr.cell? ⟨pb, 0, none⟩ = some (.int .i64 (kk : Int)) := HU.out.2.2.2.own.cell 0 (by omega)
          have c1 : wr.cell? ⟨pb, 1, none⟩ = some (.slice A U.length ca) := HU.out.2.2.2.own.cell 1 (by omega)
          have c2 : wr.cell? ⟨pb, 2, none⟩ = some (.slice PB (sealPath seed kk 3).length pc) := HU.out.2.2.2.own.cell 2 (by omega)
          rw [HP.out] at c2 hpi HPI
          clear hrow hpi
          have p0 : wr.cell? ⟨w.heap.size, 0, none⟩ = some (.int .i64 0) := HRE.out.cell 0 (by omega)
          have p1 : wr.cell? ⟨w.heap.size, 1, none⟩ = some (.slice none 0 0) := HRE.out.cell 1 (by omega)
          have p2 : wr.cell? ⟨w.heap.size, 2, none⟩ = some (.slice none 0 0) := HRE.out.cell 2 (by omega)
          have f0 : wr.frozen? ⟨w.heap.size, 0, none⟩ = false := HRE.out.free 0
          have f1 : wr.frozen? ⟨w.heap.size, 1, none⟩ = false := HRE.out.free 1
          have f2 : wr.frozen? ⟨w.heap.size, 2, none⟩ = false := HRE.out.free 2
          have HFIN := Lib.hid (show Holds (((wr.setCell ⟨w.heap.size, 0, none⟩ (.int .i64 (kk : Int))).setCell ⟨w.heap.size, 1, none⟩ (.slice A U.length ca)).setCell ⟨w.heap.size, 2, none⟩ (.slice PB P.length pc)) w.heap.size 3 (slF (kk : Int) (.slice A U.length ca) (.slice PB P.length pc)) 55 from
            (((HRE.out.set 0 _).set 1 _).set 2 _).congr fun i hi => by
              rcases (show i = 0 ∨ i = 1 ∨ i = 2 by omega) with rfl | rfl | rfl <;> simp [upd, slF])
          have HFB := Lib.hid (show Below w.heap.size w (((wr.setCell ⟨w.heap.size, 0, none⟩ (.int .i64 (kk : Int))).setCell ⟨w.heap.size, 1, none⟩ (.slice A U.length ca)).setCell ⟨w.heap.size, 2, none⟩ (.slice PB P.length pc)) from
            (((HBE.out.setCell (Nat.le_refl _) _).setCell (Nat.le_refl _) _).setCell (Nat.le_refl _) _))
          go_wp2
          refine bodyPost_ret (results_row2 rfl _ _ w.heap.size 55 (arr 3 (slF (kk : Int) (.slice A U.length ca) (.slice PB P.length pc))) (0, 0) _ rfl HFIN.out Tryz.underlying55 rfl (by rw [arr_size]; exact infoSeal)) rfl ?_
          exact ⟨A, ca, PB, pc, rfl, HFB.out, ((HSE.out.keep _ _ HAB.out).keep _ _ HAB.out).keep _ _ HAB.out, ((HPI.out.keep _ _ HPB.out).keep _ _ HPB.out).keep _ _ HPB.out, fun a ha hp => Nat.le_of_lt (HAB.out a ha hp), fun a ha hp => Nat.le_of_lt (HPB.out a ha hp), HCAP.out⟩
    · rw [if_neg hl] at h
      simp only [Prod.mk.injEq] at h
      obtain ⟨rfl, rfl, rfl, rfl⟩ := h
      have e1 : (l == 0) = false := by rw [beq_eq_false_iff_ne]; exact hl
      have e2 : (l != 0) = true := by simpa using hl
      have p0 : w2.cell? ⟨w.heap.size, 0, none⟩ = some (.int .i64 0) := HS2.out.cell 0 (by omega)
      have p1 : w2.cell? ⟨w.heap.size, 1, none⟩ = some (.slice none 0 0) := HS2.out.cell 1 (by omega)
      have p2 : w2.cell? ⟨w.heap.size, 2, none⟩ = some (.slice none 0 0) := HS2.out.cell 2 (by omega)
      have f0 : w2.frozen? ⟨w.heap.size, 0, none⟩ = false := HS2.out.free 0
      have f1 : w2.frozen? ⟨w.heap.size, 1, none⟩ = false := HS2.out.free 1
      have f2 : w2.frozen? ⟨w.heap.size, 2, none⟩ = false := HS2.out.free 2
      have HFIN := Lib.hid (show Holds (((w2.setCell ⟨w.heap.size, 0, none⟩ (.int .i64 0)).setCell ⟨w.heap.size, 1, none⟩ (.slice none 0 0)).setCell ⟨w.heap.size, 2, none⟩ (.slice none 0 0)) w.heap.size 3 (slF 0 (.slice none 0 0) (.slice none 0 0)) 55 from
        (((HS2.out.set 0 _).set 1 _).set 2 _).congr fun i hi => by
          rcases (show i = 0 ∨ i = 1 ∨ i = 2 by omega) with rfl | rfl | rfl <;> simp [upd, slF])
      have HFB := Lib.hid (show Below w.heap.size w (((w2.setCell ⟨w.heap.size, 0, none⟩ (.int .i64 0)).setCell ⟨w.heap.size, 1, none⟩ (.slice none 0 0)).setCell ⟨w.heap.size, 2, none⟩ (.slice none 0 0)) from
        (((HB2.out.setCell (Nat.le_refl _) _).setCell (Nat.le_refl _) _).setCell (Nat.le_refl _) _))
      go_wp2
      refine bodyPost_ret (results_row2 rfl _ _ w.heap.size 55 (arr 3 (slF 0 (.slice none 0 0) (.slice none 0 0))) (0, 0) _ rfl HFIN.out Tryz.underlying55 rfl (by rw [arr_size]; exact infoSeal)) rfl ?_
      exact ⟨none, 0, none, 0, rfl, HFB.out, Strs.nil _ _, Strs.nil _ _, (fun a ha => by cases ha), (fun a ha => by cases ha), Nat.le_refl 0⟩
  · rw [if_neg hkey] at h
    simp only [Prod.mk.injEq] at h
    obtain ⟨rfl, rfl, rfl, rfl⟩ := h
    go_enter Tryz.func71, Tryz.ntmps71
    go_wp2_with fail
    generalize w.alloc (.cells #[.int .i64 0, .slice none 0 0, .slice none 0 0] 55) = w0 at HB0 HS0
    refine (in_any _ _ _ _).mono ?_
    rintro e w1 ⟨rfl, rfl⟩
    rw [show (decide ((0 : Int) ≤ key) && decide (key ≤ 7)) = false by
      by_cases h0 : 0 ≤ key
      · have : ¬ key ≤ 7 := fun h => hkey ⟨h0, h⟩
        simp [this]
      · simp [h0]]
    have p0 : w1.cell? ⟨w.heap.size, 0, none⟩ = some (.int .i64 0) := HS0.out.cell 0 (by omega)
    have p1 : w1.cell? ⟨w.heap.size, 1, none⟩ = some (.slice none 0 0) := HS0.out.cell 1 (by omega)
    have p2 : w1.cell? ⟨w.heap.size, 2, none⟩ = some (.slice none 0 0) := HS0.out.cell 2 (by omega)
    have f0 : w1.frozen? ⟨w.heap.size, 0, none⟩ = false := HS0.out.free 0
    have f1 : w1.frozen? ⟨w.heap.size, 1, none⟩ = false := HS0.out.free 1
    have f2 : w1.frozen? ⟨w.heap.size, 2, none⟩ = false := HS0.out.free 2
    have HFIN := Lib.hid (show Holds (((w1.setCell ⟨w.heap.size, 0, none⟩ (.int .i64 0)).setCell ⟨w.heap.size, 1, none⟩ (.slice none 0 0)).setCell ⟨w.heap.size, 2, none⟩ (.slice none 0 0)) w.heap.size 3 (slF 0 (.slice none 0 0) (.slice none 0 0)) 55 from
      (((HS0.out.set 0 _).set 1 _).set 2 _).congr fun i hi => by
        rcases (show i = 0 ∨ i = 1 ∨ i = 2 by omega) with rfl | rfl | rfl <;> simp [upd, slF])
    have HFB := Lib.hid (show Below w.heap.size w (((w1.setCell ⟨w.heap.size, 0, none⟩ (.int .i64 0)).setCell ⟨w.heap.size, 1, none⟩ (.slice none 0 0)).setCell ⟨w.heap.size, 2, none⟩ (.slice none 0 0)) from
      (((HB0.out.setCell (Nat.le_refl _) _).setCell (Nat.le_refl _) _).setCell (Nat.le_refl _) _))
    go_wp2
    refine bodyPost_ret (results_row2 rfl _ _ w.heap.size 55 (arr 3 (slF 0 (.slice none 0 0) (.slice none 0 0))) (0, 0) _ rfl HFIN.out Tryz.underlying55 rfl (by rw [arr_size]; exact infoSeal)) rfl ?_
    exact ⟨none, 0, none, 0, rfl, HFB.out, Strs.nil _ _, Strs.nil _ _, (fun a ha => by cases ha), (fun a ha => by cases ha), Nat.le_refl 0⟩
end Go.Proofs.YtgjmbokfenpefaaGreatDoor
/- The document's opening. -/
namespace Go.Proofs.YtgjmbokfenpefaaGreatDoor
open Go.RowKit

set_option maxRecDepth 100000 in
set_option maxHeartbeats 1000000 in
theorem refOpening_is (F : Nat → Prop) (p rb : Nat) (d : Dst) (name : ByteArray) (w : World) (hd : RDir F w p rb d) (hr : Holds w rb 72 refCells 97) (hs : d.secret.size ≤ 1000000) (hn : name.size ≤ 1000000) :
    Calls Tryz.prog 110 #[.pointer (some ⟨p, 0, none⟩), .string name] w fun e w' => e = .returned (.string (openOf d name)) ∧ Below w.heap.size w w' := by
  obtain ⟨bb, g, m1, m2, m3, v, M, hd⟩ := hd
  have HR := Lib.hid hr
  obtain ⟨n, hnn⟩ : ∃ n, (look d.since name).getD 0 = n := ⟨_, rfl⟩
  have HO := Lib.hid (show openOf d name = markOf 111 [d.secret, name, txt (num8 n)] by unfold openOf; rw [hnn])
  have HT := Lib.hid (show total [d.secret, name, txt (num8 n)] ≤ 1073741800 by simp [total, num_size]; omega)
  rw [HO.out]
  have HF := Lib.hid (show ∀ u : World, Below w.heap.size w u → (u.cell? ⟨p, 0, none⟩ = some (.pointer (some ⟨rb, 0, none⟩)) ∧ u.cell? ⟨p, 1, none⟩ = some (.string d.secret) ∧ u.cell? ⟨p, 5, none⟩ = some (.map (some m3)) ∧
      (Instr.lookup 37 (.map (some m3)) (.string name) false).run Tryz.prog u = .ok (.int .i64 n) u ∧ Below w.heap.size w u) from fun u hb =>
    ⟨(hb.cell (p := ⟨p, 0, none⟩) hd.own.lt).trans (hd.own.cell 0 (by omega)), (hb.cell (p := ⟨p, 1, none⟩) hd.own.lt).trans (hd.own.cell 1 (by omega)), (hb.cell (p := ⟨p, 5, none⟩) hd.own.lt).trans (hd.own.cell 5 (by omega)),
      by rw [← hnn]; exact (hd.since.block (hb.block _ hd.since.lt)).look1 hn, hb⟩)
  clear hr hd hnn hs hn
  generalize d.secret = S at HT HO HF ⊢
  go_enter Tryz.func110, Tryz.ntmps110
  go_wp2
  have HS0 := Lib.hid (HF.out w.drew (Below.refl _ _).drew)
  have HKEEP := Lib.hid (show ∀ u v : World, (u.cell? ⟨p, 0, none⟩ = some (.pointer (some ⟨rb, 0, none⟩)) ∧ u.cell? ⟨p, 1, none⟩ = some (.string S) ∧ u.cell? ⟨p, 5, none⟩ = some (.map (some m3)) ∧
      (Instr.lookup 37 (.map (some m3)) (.string name) false).run Tryz.prog u = .ok (.int .i64 n) u ∧ Below w.heap.size w u) → Below u.heap.size u v → (v.cell? ⟨p, 0, none⟩ = some (.pointer (some ⟨rb, 0, none⟩)) ∧ v.cell? ⟨p, 1, none⟩ = some (.string S) ∧ v.cell? ⟨p, 5, none⟩ = some (.map (some m3)) ∧
      (Instr.lookup 37 (.map (some m3)) (.string name) false).run Tryz.prog v = .ok (.int .i64 n) v ∧ Below w.heap.size w v) from fun u v h hb => HF.out v (h.2.2.2.2.trans (hb.mono h.2.2.2.2.size)))
  have HHOLD := Lib.hid (show ∀ u : World, (u.cell? ⟨p, 0, none⟩ = some (.pointer (some ⟨rb, 0, none⟩)) ∧ u.cell? ⟨p, 1, none⟩ = some (.string S) ∧ u.cell? ⟨p, 5, none⟩ = some (.map (some m3)) ∧
      (Instr.lookup 37 (.map (some m3)) (.string name) false).run Tryz.prog u = .ok (.int .i64 n) u ∧ Below w.heap.size w u) → Holds u rb 72 refCells 97 from fun u hu => HR.out.below hu.2.2.2.2 HR.out.lt)
  go_region_held3 (fun w' => w'.cell? ⟨p, 0, none⟩ = some (.pointer (some ⟨rb, 0, none⟩)) ∧ w'.cell? ⟨p, 1, none⟩ = some (.string S) ∧ w'.cell? ⟨p, 5, none⟩ = some (.map (some m3)) ∧ (Instr.lookup 37 (.map (some m3)) (.string name) false).run Tryz.prog w' = .ok (.int .i64 n) w' ∧ Below w.heap.size w w')
    (first | exact HS0.out | (refine HKEEP.out _ _ ?_ (by assumption); first | exact HS0.out | assumption | exact ⟨by assumption, by assumption, by assumption, by assumption, by assumption⟩) | (refine HKEEP.out _ _ ?_ (alloc_below _ _); first | exact HS0.out | assumption | exact ⟨by assumption, by assumption, by assumption, by assumption, by assumption⟩))
    (first | (go_at_call 63; refine (refNum_any n _).mono ?_; rintro e w2 ⟨rfl, hb2⟩) | (go_at_call 34; refine (refMark_any rb 111 [S, name, txt (num8 n)] (some ⟨_, 0, none⟩) 3 _ (HHOLD.out _ (by assumption)) HT.out (by simp) (strs_new _ [S, name, txt (num8 n)] 9)).mono ?_; rintro e w2 ⟨rfl, hb2⟩))
  rename_i _ _ w2 _ hheld
  have HB2 := Lib.hid hheld.2.2.2.2
  clear hheld
  go_wp2
  go_ret
  exact ⟨rfl, HB2.out⟩
end Go.Proofs.YtgjmbokfenpefaaGreatDoor
/- The document's items of a directory: sorted. -/
namespace Go.Proofs.YtgjmbokfenpefaaGreatDoor
open Go.RowKit Go.Sort Go.Shelf

theorem leI_of_sorted {M : List It} (h : SortedIn ltIB 0 M.length M.toArray) : M.Pairwise leI := by
  rw [List.pairwise_iff_getElem]
  intro i j hi hj hij
  have h1 := h i j (Nat.zero_le _) hij hj
  have e1 : M.toArray[j]! = M[j] := by simp [hj]
  have e2 : M.toArray[i]! = M[i] := by simp [hi]
  rw [e1, e2] at h1
  unfold ltIB ltStr at h1
  have h2 : ¬ M[j].1.data.toList < M[i].1.data.toList := by simpa using h1
  exact h2
set_option maxHeartbeats 2000000 in
theorem less2_any (blk off c Bs size : Nat) (W : World) (G : Nat → ByteArray) (hs : W.cell? ⟨Bs, 0, none⟩ = some (.slice (some ⟨blk, off, none⟩) size c))
    (hc : ∀ t, t < size → W.cell? ⟨blk, off + t * 2, none⟩ = some (.string (G t))) (i j : Nat) (hi : i < size) (hj : j < size) (_hsz : size < 4611686018427387904) :
    Calls Tryz.prog 111 #[.int .i64 i, .int .i64 j, .pointer (some ⟨Bs, 0, none⟩)] W fun e w' => e = .returned (.bool (Op.bytesLess (G i).toList (G j).toList)) ∧ ∃ q, w' = W.drewN q := by
  have ci := hc i hi
  have cj := hc j hj
  go_enter Tryz.func111, Tryz.ntmps111
  go_wp2
  go_quiet (fail)
  go_wp2
  go_ret
  exact ⟨rfl, nq, rfl⟩
set_option maxRecDepth 100000 in
theorem sort2_any (blk off c Bs : Nat) (d : Array It) (h2 : 2 ≤ d.size) (hsz : d.size < 4611686018427387904) (w : World) (hH : HoldsK encI 2 w blk off d) (hblk : blk < w.heap.size)
    (hBs : w.cell? ⟨Bs, 0, none⟩ = some (.slice (some ⟨blk, off, none⟩) d.size c)) (hB1 : Bs < w.heap.size) (hB2 : Bs ≠ blk) :
    Calls Tryz.prog 48 #[.iface 155 (.slice (some ⟨blk, off, none⟩) d.size c), .func (.func 111) #[] #[.pointer (some ⟨Bs, 0, none⟩)]] w fun e w' =>
      e = .returned (.tuple #[]) ∧ ∃ d' n os, PermIn 0 d.size d d' ∧ SortedIn ltIB 0 d.size d' ∧ w' = grow (putRowK encI 2 (Sort.ahead w n) blk off d') os := by
  have hless : LessReadsK Tryz.prog 111 #[.pointer (some ⟨Bs, 0, none⟩)] encI 2 ltIB blk off d.size w := by
    intro m os dk hs i j hi hj
    have e : sortWorldK encI 2 w blk off m dk os = putRowK encI 2 (grow (Sort.ahead w m) os) blk off dk := by
      unfold sortWorldK; rw [putRowK_grow _ _ (Sort.ahead w m) _ blk off _ hblk]
    have hHg : HoldsK encI 2 (grow (Sort.ahead w m) os) blk off d := holdsK_grow _ _ _ _ blk off d hblk (holdsK_ahead _ _ _ _ _ _ _ hH)
    have key := less2_any blk off c Bs d.size (sortWorldK encI 2 w blk off m dk os) (fun t => dk[t]!.1) (by rw [e, cell?_putRowK_other _ _ _ blk off dk _ (by exact hB2), cell?_grow _ _ _ (by exact hB1)]; exact hBs)
      (fun t ht => by rw [e]; exact ((holdsK_putRowK _ _ _ blk off d dk hHg hs).cell (i := t) (c := 0) (by omega) (by omega)).1) i j hi hj (by omega)
    refine key.mono fun ev w' ⟨he, hw⟩ => ⟨?_, hw⟩
    rw [he]
    unfold ltIB ltStr
    rw [bytesLess_eq, ByteArray.toList_eq, ByteArray.toList_eq]
  have hf := svK d.size h2
  exact Any.sort_Slice_cells_sorted Tryz.laysGg6 155 59 svT svE (by kernel_rfl) (by kernel_rfl) (by kernel_rfl) (by kernel_rfl) 25 (fun _ => by kernel_rfl) encI 2 (fun _ => rfl) (by kernel_rfl) (fun _ => by kernel_rfl)
    (fun x v hv => by simp [encI] at hv; rcases hv with rfl | rfl <;> rfl) ltIB swo_ltIB 111 _
    (enters_of Tryz.func111 (by kernel_rfl) rfl) blk off c d h2 hsz 130 (by rw [hf]; kernel_rfl) false
    (fun args W => run_callFunc_extern Tryz.func130 (by kernel_rfl) (by kernel_rfl) (by kernel_rfl) (e := Extern.ReflectliteSwapper.swap false) (by kernel_rfl) args W) w hless hH hblk
set_option maxRecDepth 100000 in
theorem sort2_row (base g cap Bs : Nat) (L : List It) (w : World) (hrow : Row w base 2 (.slice (some ⟨g, 0, none⟩) L.length cap) L.length (itCells L)) (h1 : 1 ≤ L.length) (hsz : L.length ≤ 1000000)
    (hBs : w.cell? ⟨Bs, 0, none⟩ = some (.slice (some ⟨g, 0, none⟩) L.length cap)) (hne : Bs ≠ g) :
    Calls Tryz.prog 48 #[.iface 155 (.slice (some ⟨g, 0, none⟩) L.length cap), .func (.func 111) #[] #[.pointer (some ⟨Bs, 0, none⟩)]] w fun e w' =>
      e = .returned (.tuple #[]) ∧ ∃ M : List It, M.Perm L ∧ M.Pairwise leI ∧ Row w' base 2 (.slice (some ⟨g, 0, none⟩) L.length cap) L.length (itCells M) ∧ w.grownBy w' (some g) := by
  have hg : g < w.heap.size := (hrow.lt g rfl).2
  have hB1 : Bs < w.heap.size := by
    have := block_lt_of_cell hBs
    exact this
  by_cases h2 : 2 ≤ L.length
  · have key := sort2_any g 0 cap Bs L.toArray (by simpa using h2) (by simp; omega) w (row_holdsK hrow (by omega)) hg (by simpa using hBs) hB1 hne
    rw [List.size_toArray] at key
    refine key.mono ?_
    rintro e w' ⟨rfl, d', n, os, hp, hso, rfl⟩
    have hlen : d'.toList.length = L.length := by have := hp.1; simpa using this
    have hperm : d'.toList.Perm L := by
      have := perm_of_in (d := L.toArray) (d' := d') (by simpa using hp)
      simpa using this
    obtain ⟨hr, hgr⟩ := row_sorted (q := n) (os := os) (M := d'.toList) hrow (by omega) hlen
    refine ⟨rfl, d'.toList, hperm, ?_, ?_, ?_⟩
    · refine leI_of_sorted ?_
      rw [hlen]; exact hso
    · rw [hlen] at hr
      exact hr
    · exact hgr
  · have hl1 : L.length = 1 := by omega
    have hk : Lib.swapperK L.length svE 25 = 2 := by rw [hl1]; rfl
    have key : Calls Tryz.prog 48 #[.iface 155 (.slice (some ⟨g, 0, none⟩) L.length cap), .func (.func 111) #[] #[.pointer (some ⟨Bs, 0, none⟩)]] w fun e w' => e = .returned (.tuple #[]) ∧ ∃ os, w' = Go.Sort.grow w os := Any.sort_Slice_tiny Tryz.laysGg6 155 59 svT svE (by kernel_rfl) (by kernel_rfl) (by kernel_rfl) (by kernel_rfl) 25 (fun _ => by kernel_rfl) (some ⟨g, 0, none⟩) L.length cap (by omega) 123 (by rw [hk]; kernel_rfl) (.func 111) #[] #[.pointer (some ⟨Bs, 0, none⟩)] w
    refine key.mono ?_
    rintro e w' ⟨rfl, os, rfl⟩
    refine ⟨rfl, L, List.Perm.refl _, pairwise_one hl1, hrow.kept (fun k hk => grow_block w os k (hrow.lt k hk).2) (by unfold Go.Sort.grow; simp), grow_grownBy w os _⟩

theorem sort2_none (A : Option Addr) (cap Bs : Nat) (w : World) :
    Calls Tryz.prog 48 #[.iface 155 (.slice A 0 cap), .func (.func 111) #[] #[.pointer (some ⟨Bs, 0, none⟩)]] w fun e w' => e = .returned (.tuple #[]) ∧ w.grownBy w' none := by
  have hk : Lib.swapperK 0 svE 25 = 1 := rfl
  have key : Calls Tryz.prog 48 #[.iface 155 (.slice A 0 cap), .func (.func 111) #[] #[.pointer (some ⟨Bs, 0, none⟩)]] w fun e w' => e = .returned (.tuple #[]) ∧ ∃ os, w' = Go.Sort.grow w os := Any.sort_Slice_tiny Tryz.laysGg6 155 59 svT svE (by kernel_rfl) (by kernel_rfl) (by kernel_rfl) (by kernel_rfl) 25 (fun _ => by kernel_rfl) A 0 cap (by omega) 122 (by rw [hk]; kernel_rfl) (.func 111) #[] #[.pointer (some ⟨Bs, 0, none⟩)] w
  refine key.mono ?_
  rintro e w' ⟨rfl, os, rfl⟩
  exact ⟨rfl, grow_grownBy w os _⟩
end Go.Proofs.YtgjmbokfenpefaaGreatDoor
