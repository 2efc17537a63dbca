/- Parts of the proof, one behind the other: RForks, AuditF, SpoiltB. -/
import Derived.WalkKit
import Derived.Lib.Hide
import Derived.WalkLawsBesides
import Derived.Deep.QuietTactic
import Derived.Deep.WholeRow
import Derived.ArgAppend
import Derived.Laws.AppendOwnNone
import Derived.Laws.CopyRow
import Derived.Deep.RegionLaw
import Derived.Laws.BytesString
import Derived.Laws.IdiomStrings
import Derived.Test.YtgjmbokfenpefaaGreatDoorProg
import Derived.StringKeys
import Derived.Maps.Own
import Derived.Maps.Views
import Derived.Maps.OwnSet
import Derived.Maps.OwnOps
import Derived.Maps.RangeWalk
import Derived.Sort.KeysCollected
import Derived.Laws.BitsAllLaws
import Derived.Outline
import Derived.BigQuiet
import Derived.Laws.CopyOwn
import Derived.RegionTactic
import Derived.StillTail
import Derived.Deep.Quiet
import Derived.Deep.RegionHeld3
import Derived.Deep.DeepCutAuto
import Derived.Laws.ResultCell
import Derived.IntWalk
import Derived.Sort.Walk0
import Derived.Tactics
import Derived.Orders
import Derived.LaidEql
import Derived.Stop.Asserts
import Derived.RowKitTokens
import Derived.OrdersHeld
import Derived.Sort.LotA
import Derived.Lib.SortBridge
import Derived.Shelf.SlSortFuncK.WholeK
import Derived.Ground.GgsProg
import Derived.Shelf.GgSortFunc.Tiny
import Derived.Shelf.Strings.Repeat
import Derived.KernelRfl
import Derived.Laws.StructEq
import Derived.WideKeyEntry
import Derived.Deep.CutRange
import Derived.Deep.AppendSrc
import Derived.Test.YtgjmbokfenpefaaGreatDoorM1
import Derived.Test.YtgjmbokfenpefaaGreatDoorM2
import Derived.Test.YtgjmbokfenpefaaGreatDoorM3
import Derived.Test.YtgjmbokfenpefaaGreatDoorM4
import Derived.Test.YtgjmbokfenpefaaGreatDoorM5
import Derived.Test.YtgjmbokfenpefaaGreatDoorM6
import Derived.Test.YtgjmbokfenpefaaGreatDoorM7
import Derived.Test.YtgjmbokfenpefaaGreatDoorM8
import Derived.Test.YtgjmbokfenpefaaGreatDoorM9
import Derived.Test.YtgjmbokfenpefaaGreatDoorM12
import Derived.Test.YtgjmbokfenpefaaGreatDoorM13
import Derived.Test.YtgjmbokfenpefaaGreatDoorM14
import Derived.Test.YtgjmbokfenpefaaGreatDoorM15
import Derived.Test.YtgjmbokfenpefaaGreatDoorM16
import Derived.Test.YtgjmbokfenpefaaGreatDoorM33
import Derived.Test.YtgjmbokfenpefaaGreatDoorM34
import Derived.Test.YtgjmbokfenpefaaGreatDoorM35
import Derived.Test.YtgjmbokfenpefaaGreatDoorM36
import Derived.Test.YtgjmbokfenpefaaGreatDoorM37
import Derived.Test.YtgjmbokfenpefaaGreatDoorM38
import Derived.Test.YtgjmbokfenpefaaGreatDoorM39
import Derived.Test.YtgjmbokfenpefaaGreatDoorM40
import Derived.Test.YtgjmbokfenpefaaGreatDoorM41
import Derived.Test.YtgjmbokfenpefaaGreatDoorM42
import Derived.Test.YtgjmbokfenpefaaGreatDoorM43
import Derived.Test.YtgjmbokfenpefaaGreatDoorM44
import Derived.Test.YtgjmbokfenpefaaGreatDoorM45
import Derived.Test.YtgjmbokfenpefaaGreatDoorM46
/- The document's auditor: Forks. -/
namespace Go.Proofs.YtgjmbokfenpefaaGreatDoor
open Go.RowKit Go.Maps

theorem infoFk : (Tryz.prog.info? 73).map (fun i => (i.zero, i.size, i.bytes)) = some (some (.agg #[.string ⟨#[]⟩, .string ⟨#[]⟩, .int .i64 0]), 3, 40) := by kernel_rfl
set_option maxRecDepth 100000 in
set_option maxHeartbeats 4000000 in
theorem refForks_is (F : Nat → Prop) (p rb : Nat) (a : Au) (N : Nat) (w : World) (ha : RAu F w p rb a) (hok : AuOk a N) (hN : N ≤ 500) :
    Calls Tryz.prog 21 #[.pointer (some ⟨p, 0, none⟩)] w fun e w' => ∃ (A : Option Addr) (cap : Nat) (L : List Fk) (base : Nat), e = .returned (.slice A L.length cap) ∧ ForksIs a L ∧ L.length ≤ N * N ∧ Row w' base 3 (.slice A L.length cap) L.length (cellsK encF L) ∧ Below w.heap.size w w' := by
  obtain ⟨b, W, G, ha⟩ := ha
  have HA := Lib.hid ha
  have HOK := Lib.hid hok
  have HN := Lib.hid hN
  have HWL := Lib.hid (show W.length ≤ N from by rw [ha.len hok.keys]; exact hok.few)
  have hb0 := alloc_below w (.cells #[.slice none 0 0] 70)
  have g2 : (w.alloc (.cells #[.slice none 0 0] 70)).cell? ⟨p, 2, none⟩ = some (.map (some b)) := (hb0.cell (p := ⟨p, 2, none⟩) ha.own.lt).trans (ha.own.cell 2 (by omega))
  have HM := Lib.hid (ha.map.block (hb0.block _ ha.map.lt))
  have HF0 := Lib.hid (show FkRel w.heap.size w (w.alloc (.cells #[.slice none 0 0] 70)) [] (.slice none 0 0) from ⟨hb0, Nat.le_refl _, Holds.new w 1 (fun _ => .slice none 0 0) _, Row.nil _ _ _⟩)
  clear ha hok hN hb0
  go_enter Tryz.func21, Tryz.ntmps21
  go_wp2_with (first | (at_range; refine wpList_mapRange kC rfl (.tmp 12) rfl b W rfl HM.out ?_; intro w2 hrg2 hg2 hs2))
  go_frame
  have HF2 := Lib.hid (HF0.out.later (grownBy.below hg2.out (Nat.le_refl _) (fun k hk => by cases hk)))
  have HR2 := Lib.hid (show Rng kC w2 b (w.heap.size + 1) W [] W.length from by have := hrg2.out; rwa [World.size_alloc] at this)
  clear g2 hg2 hs2 hrg2 HM HF0
  rw [show (w.alloc (.cells #[.slice none 0 0] 70)).heap.size = w.heap.size + 1 by simp]
  obtain ⟨lb, hlb⟩ : ∃ lb, w.heap.size = lb := ⟨_, rfl⟩
  obtain ⟨r, hr⟩ : ∃ r, lb + 1 = r := ⟨_, rfl⟩
  rw [hlb, hr] at HR2
  rw [hlb] at HF2
  rw [hlb, hr]
  have HLB := Lib.hid hlb
  have HRR := Lib.hid hr
  clear hlb hr
  go_loopw [4] (fun _ wr => ∃ S cnt K v, Hid (Rng kC wr b r W S cnt) ∧ Hid (FkRel lb w wr K v) ∧ Hid (Found a S ⟨#[]⟩ [] N K) ∧ Hid (v.ownBlock ≠ some r)) (fun _ wr => wr.rangeLeft b r)
  case atStart => exact ⟨[], _, [], _, HR2, HF2, Lib.hid (Found.none a _ N), Lib.hid (by intro h; cases h)⟩
  case round =>
    clear HR2 HF2
    obtain ⟨S, cnt, K, v, HR, HF, HX, HV⟩ := hrel
    go_wp2_with (first | (at_next; refine wpList_mapNext kC rfl (.tmp 13) rfl b r W S cnt rfl HR.out ?_ ?_))
    · intro hperm
      have HFI := Lib.hid (show ∀ f, f ∈ K ↔ IsFork a f from fun f => by
        rw [HX.out.mem]
        refine ⟨fun h => h.1, fun h => ⟨h, .inl ?_⟩⟩
        obtain ⟨c, _, _, k1, _⟩ := h
        exact hperm.mem_iff.2 (look_isSome.1 (by rw [HA.out.all, k1]; rfl)))
      have HLS := Lib.hid (show K.length ≤ N * N ∧ N * N ≤ 250000 from by
        have h1 := HX.out.few
        have h2 := hperm.length_eq
        simp only [keysL, List.length_map] at h2
        have h3 := Nat.mul_le_mul_right N (show S.length ≤ N by have := HWL.out; omega)
        have h4 := Nat.mul_le_mul HN.out HN.out
        simp only [List.length_nil] at h1
        omega)
      have HON := Lib.hid HX.out.once
      clear hperm HX
      by_cases h0 : K.length = 0
      · obtain rfl : K = [] := List.eq_nil_of_length_eq_zero h0
        obtain ⟨av, cv, rfl⟩ := HF.out.row.any
        have q0 : wr.cell? ⟨lb, 0, none⟩ = some (.slice av 0 cv) := HF.out.own.cell 0 (by omega)
        go_wp2_with fail
        refine (sort3_none av cv lb _).mono ?_
        rintro e w5 ⟨rfl, hg5⟩
        have hb5 : Below wr.heap.size wr w5 := grownBy.below hg5 (Nat.le_refl _) (fun k hk => by cases hk)
        have HI5 := Lib.hid (HF.out.later hb5)
        have q5 : w5.cell? ⟨lb, 0, none⟩ = some (.slice av 0 cv) := HI5.out.own.cell 0 (by omega)
        clear hg5 hb5 q0
        go_wp2
        go_ret
        exact ⟨av, cv, [], lb + 1, rfl, ⟨List.Pairwise.nil, HFI.out⟩, Nat.zero_le _, HI5.out.row, HI5.out.below⟩
      · obtain ⟨g', cg, rfl, hgb, _, _, _⟩ := HF.out.row.shape (by omega)
        have q0 : wr.cell? ⟨lb, 0, none⟩ = some (.slice (some ⟨g', 0, none⟩) K.length cg) := HF.out.own.cell 0 (by omega)
        have key := sort3_row (lb + 1) g' cg lb K _ HF.out.row (by omega) (by have := HLS.out; omega) q0 (by omega)
        go_wp2_with fail
        refine key.mono ?_
        clear key
        rintro e w5 ⟨rfl, M, hperm, hrise, hrow5, hg5⟩
        have hown5 : Holds w5 lb 1 (fun _ => .slice (some ⟨g', 0, none⟩) K.length cg) 70 := by
          have h := HF.out.own
          have hl := h.lt
          unfold Holds at h ⊢
          rw [hg5.block lb hl (fun e => by cases e; omega)]; exact h
        have q5 := hown5.cell 0 (by omega)
        have HB5 := Lib.hid (HF.out.below.grown hg5 HF.out.below.size (fun c hc => by cases hc; have := HF.out.lt; omega))
        have HFM := Lib.hid (show ForksIs a M from ⟨rises_forks hrise (((hperm.pairwise_iff (R := fun (x y : Fk) => ¬ (x.a = y.a ∧ x.b = y.b)) (fun h e => h ⟨e.1.symm, e.2.symm⟩)).2 HON.out).imp fun h e => h ⟨text_of e.1, text_of e.2⟩), fun f => (hperm.mem_iff).trans (HFI.out f)⟩)
        have HLL := Lib.hid hperm.length_eq
        have HRW := Lib.hid hrow5
        clear hown5 hperm hrise hrow5 hg5 q0
        go_wp2
        go_ret
        exact ⟨_, cg, M, lb + 1, by rw [HLL.out]; rfl, HFM.out, by rw [HLL.out]; exact HLS.out.1, by rw [HLL.out]; exact HRW.out, HB5.out⟩
    · intro s x w3 cnt' hlk hns hgood HR3 HC3 HG3 HS3 hen
      obtain ⟨c, hc⟩ : ∃ c, look a.who s = some c := Option.isSome_iff_exists.1 (by rw [← HA.out.all s, hlk]; rfl)
      obtain ⟨q, hq, hcl⟩ := HA.out.cl s c hc
      rw [hlk] at hq
      obtain rfl := Option.some.inj hq
      have hen' : (Instr.entry (.pointer (some ⟨r, 0, none⟩))).run Tryz.prog w3 = .ok (.tuple #[.string s, .pointer (some ⟨q, 0, none⟩)]) w3 := hen
      have HF3 := Lib.hid (HF.out.other HG3.out (by have := HRR.out; omega) HV.out)
      have HLK := Lib.hid hc
      have HNS := Lib.hid hns
      have HCL := Lib.hid hcl
      have g2 : w3.cell? ⟨p, 2, none⟩ = some (.map (some b)) := (HF3.out.below.cell (p := ⟨p, 2, none⟩) HA.out.own.lt).trans (HA.out.own.cell 2 (by omega))
      have HZ3 := Lib.hid (show r < w3.heap.size from HR3.out.lt)
      clear hen hgood HS3 hcl hq hlk hns hc
      go_wp2_with (first | (at_range; refine wpList_mapRange kC rfl (.tmp 22) rfl b W rfl HR3.out.map ?_; intro w4 hrg4 hg4 hs4))
      go_frame
      have HF4 := Lib.hid (HF3.out.later (grownBy.below hg4.out (Nat.le_refl _) (fun k hk => by cases hk)))
      have HR4 := Lib.hid (HR3.out.block (hg4.out.block _ HR3.out.map.lt (by simp)) (hg4.out.block _ HR3.out.lt (by simp)))
      have HV4 := Lib.hid (show v.ownBlock ≠ some r ∧ v.ownBlock ≠ some w3.heap.size from ⟨HV.out, fun e => by have := (HF3.out.row.lt _ e).2; omega⟩)
      have HI4 := Lib.hid (show Rng kC w4 b w3.heap.size W [] W.length from hrg4.out)
      clear g2 hg4 hs4 hrg4 hen' HG3
      generalize w3.heap.size = r2 at HI4 HV4 HZ3
      have HX4 := Lib.hid (HX.out.start (t := s))
      go_loopw [6] (fun _ wr => ∃ T cnt2 K v, Hid (Rng kC wr b r W (S ++ [s]) cnt') ∧ Hid (Rng kC wr b r2 W T cnt2) ∧ Hid (FkRel lb w wr K v) ∧ Hid (Found a S s T N K) ∧ Hid (v.ownBlock ≠ some r ∧ v.ownBlock ≠ some r2)) (fun _ wr => wr.rangeLeft b r2)
      case atStart => exact ⟨[], _, K, v, HR4, HI4, HF4, HX4, HV4⟩
      case round =>
        clear HR4 HI4 HF4 HX4 HV4 HF3 HR3 HX HV HF
        obtain ⟨T, cnt2, K2, v2, HRO, HRI, HF5, HX5, HV5⟩ := hrel
        go_wp2_with (first | (at_next; refine wpList_mapNext kC rfl (.tmp 23) rfl b r2 W T cnt2 rfl HRI.out ?_ ?_))
        · intro hperm
          have HX6 := Lib.hid (HX5.out.done (t := ⟨#[]⟩) (fun u hu => hperm.mem_iff.2 (look_isSome.1 (by rw [HA.out.all u]; exact hu))) (by have h2 := hperm.length_eq; simp only [keysL, List.length_map] at h2; have := HWL.out; omega))
          have HV6 := Lib.hid HV5.out.1
          clear hperm
          go_wp2
          go_roundw
          case rel => exact ⟨S ++ [s], cnt', K2, v2, HRO, HF5, HX6, HV6⟩
          case measure => rw [HRO.out.left_eq, HR.out.left_eq]; exact HC3.out
        · intro t y w5 cnt5 hlk hns hgood HR5 HC5 HG5 HS5 hen
          obtain ⟨d, hd⟩ : ∃ d, look a.who t = some d := Option.isSome_iff_exists.1 (by rw [← HA.out.all t, hlk]; rfl)
          obtain ⟨q2, hq, hdl⟩ := HA.out.cl t d hd
          rw [hlk] at hq
          obtain rfl := Option.some.inj hq
          have hen' : (Instr.entry (.pointer (some ⟨r2, 0, none⟩))).run Tryz.prog w5 = .ok (.tuple #[.string t, .pointer (some ⟨q2, 0, none⟩)]) w5 := hen
          have HF6 := Lib.hid (HF5.out.other HG5.out (by have := HRR.out; have := HZ3.out; omega) HV5.out.2)
          have HRO6 := Lib.hid (HRO.out.block (HG5.out.block _ HRO.out.map.lt (fun e => by have h1 := Option.some.inj e; exact HRI.out.ne h1.symm)) (HG5.out.block _ HRO.out.lt (fun e => by have h1 := Option.some.inj e; have h2 := HZ3.out; omega)))
          have HLD := Lib.hid hd
          have HNT := Lib.hid hns
          obtain ⟨vc, hvc⟩ := HCL.out.same (same_of_below HF6.out.below HCL.out.lt)
          obtain ⟨vd, hvd⟩ := hdl.same (same_of_below HF6.out.below hdl.lt)
          obtain ⟨_, pa, ca, rfl, hda⟩ := hvc.row.hds
          obtain ⟨_, pd, cd, rfl, hdd⟩ := hvd.row.hds
          have HCA := Lib.hid hda
          have HCD := Lib.hid hdd
          have HOC := Lib.hid hvc.own
          have HOD := Lib.hid hvd.own
          have HLC := Lib.hid (show c.heads.length ≤ N ∧ d.heads.length ≤ N ∧ N ≤ 500 from ⟨(HOK.out.mine s c HLK.out).2, (HOK.out.mine t d hd).2, HN.out⟩)
          clear hen hgood HS5 HG5 hq hlk hns hd hdl hvc hvd hda hdd HRO HF5
          go_wp2
          clear hen'
          go_loopw [8] (fun i wr => ∃ k : Nat, k ≤ c.heads.length ∧ i = .int .i64 (k : Int) ∧ Hid (Below w5.heap.size w5 wr) ∧ Hid (∀ j, j < k → hdAt c.heads j = hdAt d.heads j)) (fun i _ => c.heads.length - (intOf i).toNat)
          case atStart => exact ⟨0, Nat.zero_le _, rfl, Lib.hid (Below.refl _ _), Lib.hid (fun j hj => by omega)⟩
          case round =>
            obtain ⟨k, hkl, rfl, HBW, HEQ⟩ := hrel
            have HFW := Lib.hid (HF6.out.later HBW.out)
            have HROW := Lib.hid (HRO6.out.block (HBW.out.block _ HRO6.out.map.lt) (HBW.out.block _ HRO6.out.lt))
            have HRIW := Lib.hid (HR5.out.block (HBW.out.block _ HR5.out.map.lt) (HBW.out.block _ HR5.out.lt))
            have e1 : wr.cell? ⟨q, 2, none⟩ = some (.slice pa c.heads.length ca) := (HBW.out.cell (p := ⟨q, 2, none⟩) HOC.out.lt).trans (HOC.out.cell 2 (by omega))
            have e2 : wr.cell? ⟨q2, 2, none⟩ = some (.slice pd d.heads.length cd) := (HBW.out.cell (p := ⟨q2, 2, none⟩) HOD.out.lt).trans (HOD.out.cell 2 (by omega))
            have HSK : (¬ (Op.bytesLess s.toList t.toList = true ∧ k < c.heads.length ∧ k < d.heads.length)) → Hid (Found a S s (T ++ [t]) N K2) := fun hno => Lib.hid (HX5.out.skip fun f hf he => by
              obtain ⟨c1, d1, i, h1, h2, h3, h4, _⟩ := hf
              rw [he.1, HLK.out] at h1
              rw [he.2, HLD.out] at h2
              cases h1; cases h2
              rw [he.1, he.2] at h3
              refine hno ⟨by rw [bytesLess_eq, ByteArray.toList_eq, ByteArray.toList_eq]; exact decide_eq_true h3, ?_⟩
              have h5 : ¬ i < k := fun h => h4.2.2.1 (HEQ.out i h)
              exact ⟨by have := h4.1; omega, by have := h4.2.1; omega⟩)
            cases hst : Op.bytesLess s.toList t.toList with
            | false =>
              have HX7 := HSK (fun h => by rw [hst] at h; cases h.1)
              clear HSK
              go_wp2
              go_roundw
              case rel => exact ⟨T ++ [t], cnt5, K2, v2, HROW, HRIW, HFW, HX7, HV5⟩
              case measure => rw [HRIW.out.left_eq, HRI.out.left_eq]; exact HC5.out
            | true =>
              by_cases hk1 : k < c.heads.length
              · by_cases hk2 : k < d.heads.length
                · clear HSK
                  obtain ⟨ga, rfl, _, c0, c1, c2⟩ := (HCA.out.below HBW.out).at_ hk1
                  obtain ⟨gd, rfl, _, b0, b1, b2⟩ := (HCD.out.below HBW.out).at_ hk2
                  have d1 : wr.cell? ⟨(ga.add (k * 3)).block, (ga.add (k * 3)).off + 1, none⟩ = some (.string (hdAt c.heads k).root) := c1
                  have d2 : wr.cell? ⟨(ga.add (k * 3)).block, (ga.add (k * 3)).off + 2, none⟩ = some (.string (hdAt c.heads k).prev) := c2
                  have f1 : wr.cell? ⟨(gd.add (k * 3)).block, (gd.add (k * 3)).off + 1, none⟩ = some (.string (hdAt d.heads k).root) := b1
                  have f2 : wr.cell? ⟨(gd.add (k * 3)).block, (gd.add (k * 3)).off + 2, none⟩ = some (.string (hdAt d.heads k).prev) := b2
                  obtain ⟨X, hX⟩ : ∃ X, hdAt c.heads k = X := ⟨_, rfl⟩
                  obtain ⟨Z, hZ⟩ : ∃ Z, hdAt d.heads k = Z := ⟨_, rfl⟩
                  rw [hX] at c0 d1 d2
                  rw [hZ] at b0 f1 f2
                  have HXE := Lib.hid hX
                  have HZE := Lib.hid hZ
                  clear hX hZ c1 c2 b1 b2
                  have hk5 : k ≤ 500 := by have := HLC.out; omega
                  by_cases hxz : X = Z
                  · subst hxz
                    go_wp2
                    go_quiet (fail)
                    go_wp2
                    go_roundw
                    case rel =>
                      refine ⟨k + 1, by omega, by go_num, Lib.hid (HBW.out.trans (below_drewP (Below.refl _ _) _)), Lib.hid (fun j hj => ?_)⟩
                      rcases Nat.lt_succ_iff_lt_or_eq.1 hj with h | h
                      · exact HEQ.out j h
                      · subst h; rw [HXE.out, HZE.out]
                    case measure => simp [intOf]; omega
                  · have hne : ∀ u : World, (binOp .neq 52 (.agg #[.int .i64 X.epoch, .string X.root, .string X.prev]) (.agg #[.int .i64 Z.epoch, .string Z.root, .string Z.prev])).run Tryz.prog u = .ok (.bool true) u := fun u => by rw [run_neq_heads, decide_eq_false hxz]; rfl
                    have HFN := Lib.hid (show IsFork a ⟨s, t, (k : Int) + 1⟩ from ⟨c, d, k, HLK.out, HLD.out, by rw [bytesLess_eq, ByteArray.toList_eq, ByteArray.toList_eq] at hst; exact of_decide_eq_true hst, ⟨hk1, hk2, by rw [HXE.out, HZE.out]; exact hxz, HEQ.out⟩, rfl⟩)
                    go_wp2
                    go_quiet (fail)
                    have hbz : Below wr.heap.size wr (wr.drewN nq) := below_drewP (Below.refl _ _) nq
                    have HFZ := Lib.hid (HFW.out.later hbz)
                    have HROZ := Lib.hid (HROW.out.block (hbz.block _ HROW.out.map.lt) (hbz.block _ HROW.out.lt))
                    have HRIZ := Lib.hid (HRIW.out.block (hbz.block _ HRIW.out.map.lt) (hbz.block _ HRIW.out.lt))
                    clear hbz hne c0 d1 d2 b0 f1 f2 e1 e2 HFW HROW HRIW hst
                    generalize wr.drewN nq = wz at HFZ HROZ HRIZ ⊢
                    obtain ⟨pv, cv, rfl⟩ := HFZ.out.row.any
                    have q0 : wz.cell? ⟨lb, 0, none⟩ = some (.slice pv K2.length cv) := HFZ.out.own.cell 0 (by omega)
                    have hol : lb < wz.heap.size := HFZ.out.own.lt
                    have hkw : wrap64 ((k : Int) + 1) = (k : Int) + 1 := by have := HLC.out; unfold wrap64; omega
                    have HKL := Lib.hid (show K2.length ≤ 1000000 from by
                      have h1 := HX5.out.few
                      have h2 := HWL.out
                      have h3 := HR.out.room
                      have h4 := HRI.out.room
                      have h5 := HN.out
                      have h6 := Nat.mul_le_mul (show S.length ≤ 500 by omega) h5
                      omega)
                    go_wp2_with (first | (at_builtin; refine wpList_append_cells rfl (.tmp 67) (.tmp 73) 70 rfl 73 Tryz.underlying70 _ 3 40 infoFk rfl (by decide) (by decide) (lb + 1) (.slice pv K2.length cv) K2.length (cellsK encF K2) rfl (HFZ.out.row.alloc _) (by simp; omega) HKL.out [.string s, .string t, .int .i64 ((k : Int) + 1)] rfl (by intro u hu; simp at hu; rcases hu with rfl | rfl | rfl <;> rfl) wz.heap.size rfl 73 (heap_alloc_new _ _) ?_; intro v' w6 hrow6 hgrow6 hmove6; obtain ⟨p', cap', rfl⟩ := hrow6.out.any; have s0 := HFZ.out.after hgrow6.out; have t0 := s0.cell 0 (by omega); have t1 := s0.free 0; clear s0))
                    have hrow : Row w6 (lb + 1) 3 (.slice p' (K2.length + 1) cap') (K2 ++ [(⟨s, t, (k : Int) + 1⟩ : Fk)]).length (cellsK encF (K2 ++ [(⟨s, t, (k : Int) + 1⟩ : Fk)])) := by
                      rw [List.length_append, List.length_singleton, cellsK_append]
                      exact hrow6.out
                    have HF7 := Lib.hid (HFZ.out.put hrow hgrow6.out)
                    have hlbw := HLB.out
                    have hbl : b < lb := by have := HA.out.map.lt; omega
                    have hrl := HRR.out
                    have hz3 := HZ3.out
                    have hro := HROZ.out.lt
                    have hri := HRIZ.out.lt
                    have hbk : ∀ m, m < wz.heap.size → m ≠ lb → (Value.slice pv K2.length cv).ownBlock ≠ some m → (w6.setCell ⟨lb, 0, none⟩ (.slice p' (K2.length + 1) cap')).heap[m]? = wz.heap[m]? := fun m hm hne hv =>
                      (Below.heap_setCell _ _ _ _ hne).trans ((hgrow6.out.block m (by simp; omega) (fun e => hv e.symm)).trans (Below.heap_alloc _ _ _ hm))
                    have hbb := hbk b (by omega) (by omega) (fun e => by have := (HFZ.out.row.lt _ e).1; omega)
                    have HRO7 := Lib.hid (HROZ.out.block hbb (hbk r hro (by omega) HV5.out.1))
                    have HRI7 := Lib.hid (HRIZ.out.block hbb (hbk r2 hri (by omega) HV5.out.2))
                    have HV7 := Lib.hid (show (Value.slice p' (K2.length + 1) cap').ownBlock ≠ some r ∧ (Value.slice p' (K2.length + 1) cap').ownBlock ≠ some r2 from by
                      rcases hmove6.out with h | h
                      · rw [h]; exact HV5.out
                      · exact ⟨fun e => by have := h _ e; simp at this; omega, fun e => by have := h _ e; simp at this; omega⟩)
                    have HX7 := Lib.hid (HX5.out.more HFN.out ⟨rfl, rfl⟩ HNS.out HNT.out)
                    refine ⟨⟨T ++ [t], cnt5, K2 ++ [(⟨s, t, (k : Int) + 1⟩ : Fk)], _, HRO7, HRI7, HF7, HX7, HV7⟩, ?_⟩
                    rw [HRI7.out.left_eq, HRI.out.left_eq]; exact HC5.out
                · have HX7 := HSK (fun h => hk2 h.2.2)
                  clear HSK
                  go_wp2
                  go_roundw
                  case rel => exact ⟨T ++ [t], cnt5, K2, v2, HROW, HRIW, HFW, HX7, HV5⟩
                  case measure => rw [HRIW.out.left_eq, HRI.out.left_eq]; exact HC5.out
              · have HX7 := HSK (fun h => hk1 h.2.1)
                clear HSK
                go_wp2
                go_roundw
                case rel => exact ⟨T ++ [t], cnt5, K2, v2, HROW, HRIW, HFW, HX7, HV5⟩
                case measure => rw [HRIW.out.left_eq, HRI.out.left_eq]; exact HC5.out
end Go.Proofs.YtgjmbokfenpefaaGreatDoor
/- What the program's auditor answers (a Face), and what AuditFinds keeps from deed to deed. -/
namespace Go.Proofs.YtgjmbokfenpefaaGreatDoor
open Go.RowKit

section
variable {FA : AuditFace} {w1 wr w2 : World} {pa pb pw pc rb : Nat} {Fa Fb Fw Fw' Fc Fc' : Nat → Prop} {da db : Dst} {c c' c2 c2' : Au}
theorem Qs.ref (h : Qs FA w1 wr pa pb pw pc rb Fa Fb Fw Fc da db c c2) (ho : Off Fw wr w2) (hg : Grew wr Fw Fw') (hr : RAu Fw' w2 pw rb c') : Qs FA w1 w2 pa pb pw pc rb Fa Fb Fw' Fc da db c' c2 where
  below := h.below.trans (ho.below h.bw h.below.size)
  da := h.da.same (ho.same h.da.lt h.aw)
  db := h.db.same (ho.same h.db.lt h.dw)
  rc := hr
  pc := FA.same h.pc (ho.same (FA.lt h.pc) h.cw)
  bw := hg.base h.bw h.below.size
  bc := h.bc
  aw := hg.apart h.da.lt h.aw
  ac := h.ac
  dw := hg.apart h.db.lt h.dw
  dc := h.dc
  cw := hg.apart (FA.lt h.pc) h.cw
end
end Go.Proofs.YtgjmbokfenpefaaGreatDoor
/- The law's spoilt: one more mark, another first text. -/
namespace Go.Proofs.YtgjmbokfenpefaaGreatDoor
open Go.RowKit

set_option maxHeartbeats 4000000 in
set_option maxRecDepth 100000 in
theorem spoilt_7 (h : Hd) (key : Int) (S P W : List ByteArray) (x : It) (o vl : ByteArray) (A B C : Option Addr) (ca cb cc : Nat) (w : World) (hA : Strs w A S) (hB : Strs w B P) (hW : Strs w C W) (_hls : S.length ≤ 1000) (hlw : W.length ≤ 1000)
    (_ho : o.size ≤ 1000000) (_hv : vl.size ≤ 1000000) (_hx2 : x.2.size ≤ 1000000) (_hrt : h.root.size ≤ 1000000) (hca : S.length ≤ ca) (hsg : ∀ p ∈ S, p.size ≤ 1000000) :
    Calls Tryz.prog 15 #[.agg #[.int .i64 h.epoch, .string h.root, .string h.prev, .int .i64 key, .slice A S.length ca, .slice B P.length cb, .slice C W.length cc, .string x.1, .string x.2, .string o, .string vl], .int .i64 7] w fun e w' => ∃ m' : AnM,
      e = .returned (.agg m'.cells) ∧ AnIn w' m' (spoiltA ⟨⟨h, key, S, P⟩, W, x, o, vl⟩ 7) ∧ AnNear w ⟨⟨⟨h, key, S, P⟩, A, ca, B, cb⟩, C, cc, ⟨⟨h, key, S, P⟩, W, x, o, vl⟩⟩ m' ∧ Below w.heap.size w w' := by
  have HA := Lib.hid hA
  have HB := Lib.hid hB
  have HW := Lib.hid hW
  have HAL := Lib.hid hA.lt
  have HBL := Lib.hid hB.lt
  have HWL := Lib.hid hW.lt
  have HSG := Lib.hid hsg
  have HB0 := Lib.hid (show Below w.heap.size w ((w.alloc (.cells #[.int .i64 h.epoch, .string h.root, .string h.prev, .int .i64 key, .slice A S.length ca, .slice B P.length cb, .slice C W.length cc, .string x.1, .string x.2, .string o, .string vl] 63)).alloc (.cells #[.int .i64 0, .string ⟨#[]⟩, .string ⟨#[]⟩, .int .i64 0, .slice none 0 0, .slice none 0 0, .slice none 0 0, .string ⟨#[]⟩, .string ⟨#[]⟩, .string ⟨#[]⟩, .string ⟨#[]⟩] 63)) from
    ((Below.refl _ w).alloc (Nat.le_refl _) _).alloc (by simp) _)
  have HX0 := Lib.hid (show Holds ((w.alloc (.cells #[.int .i64 h.epoch, .string h.root, .string h.prev, .int .i64 key, .slice A S.length ca, .slice B P.length cb, .slice C W.length cc, .string x.1, .string x.2, .string o, .string vl] 63)).alloc (.cells #[.int .i64 0, .string ⟨#[]⟩, .string ⟨#[]⟩, .int .i64 0, .slice none 0 0, .slice none 0 0, .slice none 0 0, .string ⟨#[]⟩, .string ⟨#[]⟩, .string ⟨#[]⟩, .string ⟨#[]⟩] 63)) w.heap.size 11 (anF ⟨⟨h, key, S, P⟩, A, ca, B, cb⟩ C W.length cc x o vl) 63 from
    (Holds.new w 11 (anF ⟨⟨h, key, S, P⟩, A, ca, B, cb⟩ C W.length cc x o vl) 63).alloc _)
  have HZ0 := Lib.hid (show Holds ((w.alloc (.cells #[.int .i64 h.epoch, .string h.root, .string h.prev, .int .i64 key, .slice A S.length ca, .slice B P.length cb, .slice C W.length cc, .string x.1, .string x.2, .string o, .string vl] 63)).alloc (.cells #[.int .i64 0, .string ⟨#[]⟩, .string ⟨#[]⟩, .int .i64 0, .slice none 0 0, .slice none 0 0, .slice none 0 0, .string ⟨#[]⟩, .string ⟨#[]⟩, .string ⟨#[]⟩, .string ⟨#[]⟩] 63)) (w.heap.size + 1) 11 noAnF 63 from by
    have h1 := Holds.new (w.alloc (.cells #[.int .i64 h.epoch, .string h.root, .string h.prev, .int .i64 key, .slice A S.length ca, .slice B P.length cb, .slice C W.length cc, .string x.1, .string x.2, .string o, .string vl] 63)) 11 noAnF 63
    rw [World.size_alloc] at h1
    exact h1)
  clear hA hB hW hsg
  go_enter Tryz.func15, Tryz.ntmps15
  go_upto_region 1 with (fail)
  generalize ((w.alloc (.cells #[.int .i64 h.epoch, .string h.root, .string h.prev, .int .i64 key, .slice A S.length ca, .slice B P.length cb, .slice C W.length cc, .string x.1, .string x.2, .string o, .string vl] 63)).alloc (.cells #[.int .i64 0, .string ⟨#[]⟩, .string ⟨#[]⟩, .int .i64 0, .slice none 0 0, .slice none 0 0, .slice none 0 0, .string ⟨#[]⟩, .string ⟨#[]⟩, .string ⟨#[]⟩, .string ⟨#[]⟩] 63)) = w0 at HB0 HX0 HZ0 ⊢
  obtain ⟨c0, c1, c2, c3, c4, c5, c6, c7, c8, c9, c10⟩ := an_cells HX0.out
  have HROW := Lib.hid (show Row (w0.alloc (.cells #[.string ⟨#[48, 49, 50, 51, 52, 53, 54, 55, 56, 57, 97, 98, 99, 100, 101, 102]⟩] 9)) w0.heap.size 1 (.slice (some ⟨w0.heap.size, 0, none⟩) 1 1) 1 (stCells [text16]) from row_oneS w0 text16 9)
  have t6 : (w0.alloc (.cells #[.string ⟨#[48, 49, 50, 51, 52, 53, 54, 55, 56, 57, 97, 98, 99, 100, 101, 102]⟩] 9)).cell? ⟨w.heap.size, 6, none⟩ = some (.slice C W.length cc) := ((alloc_below w0 _).cell (p := ⟨w.heap.size, 6, none⟩) HX0.out.lt).trans c6
  go_upto_region 16 with (fail)
  go_upto_region 20 with (first | (at_builtin; go_loud (refine wpList_append_texts rfl (.tmp 65) (.tmp 68) 53 rfl 9 Tryz.underlying53 _ infoStr rfl w0.heap.size 1 [text16] rfl ⟨w0.heap.size, 0, none⟩ 1 rfl HROW.out (by simp) (by omega) W W.length rfl C cc rfl ((HW.out.below HB0.out).below (alloc_below _ _)) (by omega) ?_); intro v' w2 hrow2 hg2; have hrow3 := hrow2.out; rw [Nat.add_comm 1 W.length] at hrow3; obtain ⟨-, C', cc', rfl, hst⟩ := (show Row w2 w0.heap.size 1 v' (W.length + 1) (stCells (text16 :: W)) from hrow3).strs; have hb2 : Below w0.heap.size w0 w2 := ((Below.refl w0.heap.size w0).alloc (Nat.le_refl _) _).grown hg2.out (by simp) (fun j hj => (HROW.out.lt j hj).1); have HB1 := Lib.hid (HB0.out.trans (hb2.mono HB0.out.size)); have HX1 := Lib.hid (HX0.out.below hb2 HX0.out.lt); have HZ1 := Lib.hid (HZ0.out.below hb2 HZ0.out.lt); have HCB := Lib.hid (show ∀ a, C' = some a → w0.heap.size ≤ a.block from fun a e => hrow3.above a e (Nat.succ_pos _)); have HST := Lib.hid hst; clear t6 hrow2 hrow3 hg2 hb2 hst c0 c1 c2 c3 c4 c5 c6 c7 c8 c9 c10; have t0 : w2.cell? ⟨w.heap.size, 6, none⟩ = some (.slice C W.length cc) := HX1.out.cell 6 (by omega); have t1 : w2.frozen? ⟨w.heap.size, 6, none⟩ = false := HX1.out.free 6))
  have HQL := Lib.hid (show w.heap.size + 1 < w0.heap.size from HZ0.out.lt)
  have HP := Lib.hid (show ∃ m' : AnM, SpAt w (w2.setCell ⟨w.heap.size, 6, none⟩ (.slice C' (W.length + 1) cc')) ⟨⟨⟨h, key, S, P⟩, A, ca, B, cb⟩, C, cc, ⟨⟨h, key, S, P⟩, W, x, o, vl⟩⟩ m' (spoiltA ⟨⟨h, key, S, P⟩, W, x, o, vl⟩ 7) from ⟨⟨⟨⟨h, key, S, P⟩, A, ca, B, cb⟩, C', cc', ⟨⟨h, key, S, P⟩, text16 :: W, x, o, vl⟩⟩,
    ⟨HX1.out.one 6 _ (fun j hj => by rcases (show j = 0 ∨ j = 1 ∨ j = 2 ∨ j = 3 ∨ j = 4 ∨ j = 5 ∨ j = 6 ∨ j = 7 ∨ j = 8 ∨ j = 9 ∨ j = 10 by omega) with rfl | rfl | rfl | rfl | rfl | rfl | rfl | rfl | rfl | rfl | rfl <;> rfl), HZ1.out.other (show w.heap.size + 1 ≠ w.heap.size by omega) _, HB1.out.setCell (Nat.le_refl _) _,
      ⟨rfl, rfl, Strs.box (HA.out.below HB1.out) (fun a e l => by have := HAL.out a e l; omega) _ _, Strs.box (HB.out.below HB1.out) (fun a e l => by have := HBL.out a e l; omega) _ _, Strs.box HST.out (fun a e l => by have := HCB.out a e; have := HQL.out; omega) _ _, hca⟩,
      ⟨.inl ⟨rfl, rfl⟩, ⟨rfl, rfl⟩, .inr fun a e => by have := HCB.out a e; have := HQL.out; omega⟩, (fun a e l => by have := HAL.out a e l; omega), (fun a e l => by have := HBL.out a e l; omega), (fun a e l => by have := HCB.out a e; have := HQL.out; omega)⟩⟩)
  clear t0 t1 HB1 HX1 HZ1 HB0 HX0 HZ0 HROW HST
  generalize w2.setCell ⟨w.heap.size, 6, none⟩ (.slice C' (W.length + 1) cc') = wz at HP ⊢
  all_goals
    obtain ⟨m', hsp⟩ := HP.out
    have HSP := Lib.hid hsp
    obtain ⟨d0, d1, d2, d3, d4, d5, d6, d7, d8, d9, d10⟩ := an_cells (show Holds wz w.heap.size 11 (anF m'.sg m'.C m'.a.path.length m'.cc m'.a.leaf m'.a.opening m'.a.value) 63 from hsp.box)
    obtain ⟨z0, z1, z2, z3, z4, z5, z6, z7, z8, z9, z10⟩ := an_cells (show Holds wz (w.heap.size + 1) 11 (anF noM none 0 0 noIt ⟨#[]⟩ ⟨#[]⟩) 63 from hsp.res)
    have f0 := hsp.res.free 0
    have f1 := hsp.res.free 1
    have f2 := hsp.res.free 2
    have f3 := hsp.res.free 3
    have f4 := hsp.res.free 4
    have f5 := hsp.res.free 5
    have f6 := hsp.res.free 6
    have f7 := hsp.res.free 7
    have f8 := hsp.res.free 8
    have f9 := hsp.res.free 9
    have f10 := hsp.res.free 10
    have HFIN := Lib.hid (put11_holds hsp.res m'.sg m'.C m'.a.path.length m'.cc m'.a.leaf m'.a.opening m'.a.value)
    have HFB := Lib.hid (put11_below hsp.below (Nat.le_succ _) m'.sg m'.C m'.a.path.length m'.cc m'.a.leaf m'.a.opening m'.a.value)
    have HAN := Lib.hid (show AnIn (put11 wz (w.heap.size + 1) m'.sg m'.C m'.a.path.length m'.cc m'.a.leaf m'.a.opening m'.a.value) m' _ from
      ⟨hsp.is.is, hsp.is.sgn, put11_box hsp.is.sig (fun a e l => hsp.ga a e (by rw [hsp.is.sgn]; exact l)) _ _ _ _ _ _ _, put11_box hsp.is.path (fun a e l => hsp.gb a e (by rw [hsp.is.sgn]; exact l)) _ _ _ _ _ _ _, put11_box hsp.is.way (fun a e l => hsp.gc a e (by rw [hsp.is.is]; exact l)) _ _ _ _ _ _ _, hsp.is.cap⟩)
    clear hsp HP
    go_wp2
    refine bodyPost_ret (results_cell_row rfl _ _ (w.heap.size + 1) 63 (arr 11 (anFM m')) (0, 0) _ rfl HFIN.out Tryz.underlying63 rfl (by rw [arr_size]; exact infoAnsw)) rfl ?_
    exact ⟨m', rfl, HAN.out, HSP.out.near, HFB.out⟩
set_option maxHeartbeats 4000000 in
set_option maxRecDepth 100000 in
theorem spoilt_8f (h : Hd) (key : Int) (S P W : List ByteArray) (x : It) (o vl : ByteArray) (A B C : Option Addr) (ca cb cc : Nat) (hs3 : ¬ 3 < S.length) (w : World) (hA : Strs w A S) (hB : Strs w B P) (hW : Strs w C W) (_hls : S.length ≤ 1000) (_hlw : W.length ≤ 1000)
    (_ho : o.size ≤ 1000000) (_hv : vl.size ≤ 1000000) (_hx2 : x.2.size ≤ 1000000) (_hrt : h.root.size ≤ 1000000) (hca : S.length ≤ ca) (hsg : ∀ p ∈ S, p.size ≤ 1000000) :
    Calls Tryz.prog 15 #[.agg #[.int .i64 h.epoch, .string h.root, .string h.prev, .int .i64 key, .slice A S.length ca, .slice B P.length cb, .slice C W.length cc, .string x.1, .string x.2, .string o, .string vl], .int .i64 8] w fun e w' => ∃ m' : AnM,
      e = .returned (.agg m'.cells) ∧ AnIn w' m' (spoiltA ⟨⟨h, key, S, P⟩, W, x, o, vl⟩ 8) ∧ AnNear w ⟨⟨⟨h, key, S, P⟩, A, ca, B, cb⟩, C, cc, ⟨⟨h, key, S, P⟩, W, x, o, vl⟩⟩ m' ∧ Below w.heap.size w w' := by
  have HA := Lib.hid hA
  have HB := Lib.hid hB
  have HW := Lib.hid hW
  have HAL := Lib.hid hA.lt
  have HBL := Lib.hid hB.lt
  have HWL := Lib.hid hW.lt
  have HSG := Lib.hid hsg
  have HB0 := Lib.hid (show Below w.heap.size w ((w.alloc (.cells #[.int .i64 h.epoch, .string h.root, .string h.prev, .int .i64 key, .slice A S.length ca, .slice B P.length cb, .slice C W.length cc, .string x.1, .string x.2, .string o, .string vl] 63)).alloc (.cells #[.int .i64 0, .string ⟨#[]⟩, .string ⟨#[]⟩, .int .i64 0, .slice none 0 0, .slice none 0 0, .slice none 0 0, .string ⟨#[]⟩, .string ⟨#[]⟩, .string ⟨#[]⟩, .string ⟨#[]⟩] 63)) from
    ((Below.refl _ w).alloc (Nat.le_refl _) _).alloc (by simp) _)
  have HX0 := Lib.hid (show Holds ((w.alloc (.cells #[.int .i64 h.epoch, .string h.root, .string h.prev, .int .i64 key, .slice A S.length ca, .slice B P.length cb, .slice C W.length cc, .string x.1, .string x.2, .string o, .string vl] 63)).alloc (.cells #[.int .i64 0, .string ⟨#[]⟩, .string ⟨#[]⟩, .int .i64 0, .slice none 0 0, .slice none 0 0, .slice none 0 0, .string ⟨#[]⟩, .string ⟨#[]⟩, .string ⟨#[]⟩, .string ⟨#[]⟩] 63)) w.heap.size 11 (anF ⟨⟨h, key, S, P⟩, A, ca, B, cb⟩ C W.length cc x o vl) 63 from
    (Holds.new w 11 (anF ⟨⟨h, key, S, P⟩, A, ca, B, cb⟩ C W.length cc x o vl) 63).alloc _)
  have HZ0 := Lib.hid (show Holds ((w.alloc (.cells #[.int .i64 h.epoch, .string h.root, .string h.prev, .int .i64 key, .slice A S.length ca, .slice B P.length cb, .slice C W.length cc, .string x.1, .string x.2, .string o, .string vl] 63)).alloc (.cells #[.int .i64 0, .string ⟨#[]⟩, .string ⟨#[]⟩, .int .i64 0, .slice none 0 0, .slice none 0 0, .slice none 0 0, .string ⟨#[]⟩, .string ⟨#[]⟩, .string ⟨#[]⟩, .string ⟨#[]⟩] 63)) (w.heap.size + 1) 11 noAnF 63 from by
    have h1 := Holds.new (w.alloc (.cells #[.int .i64 h.epoch, .string h.root, .string h.prev, .int .i64 key, .slice A S.length ca, .slice B P.length cb, .slice C W.length cc, .string x.1, .string x.2, .string o, .string vl] 63)) 11 noAnF 63
    rw [World.size_alloc] at h1
    exact h1)
  clear hA hB hW hsg
  go_enter Tryz.func15, Tryz.ntmps15
  go_upto_region 1 with (fail)
  generalize ((w.alloc (.cells #[.int .i64 h.epoch, .string h.root, .string h.prev, .int .i64 key, .slice A S.length ca, .slice B P.length cb, .slice C W.length cc, .string x.1, .string x.2, .string o, .string vl] 63)).alloc (.cells #[.int .i64 0, .string ⟨#[]⟩, .string ⟨#[]⟩, .int .i64 0, .slice none 0 0, .slice none 0 0, .slice none 0 0, .string ⟨#[]⟩, .string ⟨#[]⟩, .string ⟨#[]⟩, .string ⟨#[]⟩] 63)) = w0 at HB0 HX0 HZ0 ⊢
  obtain ⟨c0, c1, c2, c3, c4, c5, c6, c7, c8, c9, c10⟩ := an_cells HX0.out
  have hs3' : ¬ (3 : Int) < (S.length : Int) := by omega
  have HP := Lib.hid (show ∃ m' : AnM, SpAt w w0 ⟨⟨⟨h, key, S, P⟩, A, ca, B, cb⟩, C, cc, ⟨⟨h, key, S, P⟩, W, x, o, vl⟩⟩ m' (spoiltA ⟨⟨h, key, S, P⟩, W, x, o, vl⟩ 8) from ⟨⟨⟨⟨h, key, S, P⟩, A, ca, B, cb⟩, C, cc, ⟨⟨h, key, S, P⟩, W, x, o, vl⟩⟩, by
    rw [show spoiltA ⟨⟨h, key, S, P⟩, W, x, o, vl⟩ 8 = ⟨⟨h, key, S, P⟩, W, x, o, vl⟩ from if_neg hs3]
    exact ⟨HX0.out, HZ0.out, HB0.out, ⟨rfl, rfl, HA.out.below HB0.out, HB.out.below HB0.out, HW.out.below HB0.out, hca⟩, ⟨.inl ⟨rfl, rfl⟩, ⟨rfl, rfl⟩, .inl ⟨rfl, rfl⟩⟩, (fun a e l => by have := HAL.out a e l; omega), (fun a e l => by have := HBL.out a e l; omega), (fun a e l => by have := HWL.out a e l; omega)⟩⟩)
  go_upto_region 20 with (fail)
  clear HB0 HX0 HZ0 c0 c1 c2 c3 c4 c5 c6 c7 c8 c9 c10 hs3'
  generalize w0 = wz at HP ⊢
  all_goals
    obtain ⟨m', hsp⟩ := HP.out
    have HSP := Lib.hid hsp
    obtain ⟨d0, d1, d2, d3, d4, d5, d6, d7, d8, d9, d10⟩ := an_cells (show Holds wz w.heap.size 11 (anF m'.sg m'.C m'.a.path.length m'.cc m'.a.leaf m'.a.opening m'.a.value) 63 from hsp.box)
    obtain ⟨z0, z1, z2, z3, z4, z5, z6, z7, z8, z9, z10⟩ := an_cells (show Holds wz (w.heap.size + 1) 11 (anF noM none 0 0 noIt ⟨#[]⟩ ⟨#[]⟩) 63 from hsp.res)
    have f0 := hsp.res.free 0
    have f1 := hsp.res.free 1
    have f2 := hsp.res.free 2
    have f3 := hsp.res.free 3
    have f4 := hsp.res.free 4
    have f5 := hsp.res.free 5
    have f6 := hsp.res.free 6
    have f7 := hsp.res.free 7
    have f8 := hsp.res.free 8
    have f9 := hsp.res.free 9
    have f10 := hsp.res.free 10
    have HFIN := Lib.hid (put11_holds hsp.res m'.sg m'.C m'.a.path.length m'.cc m'.a.leaf m'.a.opening m'.a.value)
    have HFB := Lib.hid (put11_below hsp.below (Nat.le_succ _) m'.sg m'.C m'.a.path.length m'.cc m'.a.leaf m'.a.opening m'.a.value)
    have HAN := Lib.hid (show AnIn (put11 wz (w.heap.size + 1) m'.sg m'.C m'.a.path.length m'.cc m'.a.leaf m'.a.opening m'.a.value) m' _ from
      ⟨hsp.is.is, hsp.is.sgn, put11_box hsp.is.sig (fun a e l => hsp.ga a e (by rw [hsp.is.sgn]; exact l)) _ _ _ _ _ _ _, put11_box hsp.is.path (fun a e l => hsp.gb a e (by rw [hsp.is.sgn]; exact l)) _ _ _ _ _ _ _, put11_box hsp.is.way (fun a e l => hsp.gc a e (by rw [hsp.is.is]; exact l)) _ _ _ _ _ _ _, hsp.is.cap⟩)
    clear hsp HP
    go_wp2
    refine bodyPost_ret (results_cell_row rfl _ _ (w.heap.size + 1) 63 (arr 11 (anFM m')) (0, 0) _ rfl HFIN.out Tryz.underlying63 rfl (by rw [arr_size]; exact infoAnsw)) rfl ?_
    exact ⟨m', rfl, HAN.out, HSP.out.near, HFB.out⟩
end Go.Proofs.YtgjmbokfenpefaaGreatDoor
