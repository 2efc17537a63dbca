/- The program's auditor: Forks. -/
import Derived.WalkKit
import Derived.Lib.Hide
import Derived.WalkLawsBesides
import Derived.Deep.QuietTactic
import Derived.Deep.WholeRow
import Derived.ArgAppend
import Derived.Laws.AppendOwnNone
import Derived.Laws.CopyRow
import Derived.Deep.RegionLaw
import Derived.Laws.BytesString
import Derived.Laws.IdiomStrings
import Derived.Test.YtgjmbokfenpefaaGreatDoorProg
import Derived.StringKeys
import Derived.Maps.Own
import Derived.Maps.Views
import Derived.Maps.OwnSet
import Derived.Maps.OwnOps
import Derived.Maps.RangeWalk
import Derived.Sort.KeysCollected
import Derived.Laws.BitsAllLaws
import Derived.Outline
import Derived.BigQuiet
import Derived.Laws.CopyOwn
import Derived.RegionTactic
import Derived.StillTail
import Derived.Deep.Quiet
import Derived.Deep.RegionHeld3
import Derived.Deep.DeepCutAuto
import Derived.Laws.ResultCell
import Derived.IntWalk
import Derived.Sort.Walk0
import Derived.Tactics
import Derived.Orders
import Derived.LaidEql
import Derived.Stop.Asserts
import Derived.RowKitTokens
import Derived.OrdersHeld
import Derived.Sort.LotA
import Derived.Lib.SortBridge
import Derived.Deep.AppendSrc
import Derived.Shelf.SlSortFuncK.WholeK
import Derived.Ground.GgsProg
import Derived.Shelf.GgSortFunc.Tiny
import Derived.Shelf.Strings.Repeat
import Derived.KernelRfl
import Derived.Laws.StructEq
import Derived.WideKeyEntry
import Derived.Deep.CutRange
import Derived.Shelf.SlGeneric
import Derived.Shelf.SlIter.Nil
import Derived.Shelf.SortM.Plain
import Derived.Shelf.SortM.SortNone
import Derived.Ground.GgzProg
import Derived.Ground.SlgmProg
import Derived.RangeFuncNested
import Derived.RangeFuncBound
import Derived.RangeFuncCalls
import Derived.RangeFuncLeaves
import Derived.Shelf.Abstract
import Derived.Shelf.RegionOpen
import Derived.OwnWalkIn
import Derived.TacticsInMore
import Derived.LoopNIn
import Derived.LoopIn
import Derived.OrdersIn
import Derived.TacticsIn
import Derived.Shelf.Small.Strs
import Derived.Test.YtgjmbokfenpefaaGreatDoorM1
import Derived.Test.YtgjmbokfenpefaaGreatDoorM2
import Derived.Test.YtgjmbokfenpefaaGreatDoorM3
import Derived.Test.YtgjmbokfenpefaaGreatDoorM4
import Derived.Test.YtgjmbokfenpefaaGreatDoorM5
import Derived.Test.YtgjmbokfenpefaaGreatDoorM6
import Derived.Test.YtgjmbokfenpefaaGreatDoorM7
import Derived.Test.YtgjmbokfenpefaaGreatDoorM8
import Derived.Test.YtgjmbokfenpefaaGreatDoorM9
import Derived.Test.YtgjmbokfenpefaaGreatDoorM10
import Derived.Test.YtgjmbokfenpefaaGreatDoorM12
import Derived.Test.YtgjmbokfenpefaaGreatDoorM13
import Derived.Test.YtgjmbokfenpefaaGreatDoorPAu
import Derived.Test.YtgjmbokfenpefaaGreatDoorForkU
import Derived.Test.YtgjmbokfenpefaaGreatDoorIterC
import Derived.Test.YtgjmbokfenpefaaGreatDoorPLast
import Derived.Test.YtgjmbokfenpefaaGreatDoorPHeadsOf
import Derived.Test.YtgjmbokfenpefaaGreatDoorPNames
namespace Go.Proofs.YtgjmbokfenpefaaGreatDoor
open Go.RowKit Go.Maps

theorem infoPf : (Tryz.prog.info? 74).map (fun i => (i.zero, i.size, i.bytes)) = some (some (.agg #[.string ⟨#[]⟩, .string ⟨#[]⟩, .int .i64 0]), 3, 40) := by kernel_rfl
/-- What has been found so far, and where it lies. -/
structure PfRel (a : Au) (N : Nat) (w wr : World) (S : List ByteArray) (s : ByteArray) (T : List ByteArray) (K : List Fk) (v : Value) : Prop where
  below : Below w.heap.size w wr
  row : Row wr w.heap.size 3 v K.length (cellsK encF K)
  found : Found a S s T N K
  rise : K.Pairwise ltF
theorem PfRel.later {a : Au} {N : Nat} {w wr w2 : World} {S T : List ByteArray} {s : ByteArray} {K : List Fk} {v : Value} (h : PfRel a N w wr S s T K v) (hb : Below wr.heap.size wr w2) : PfRel a N w w2 S s T K v :=
  ⟨h.below.trans (hb.mono h.below.size), h.row.belowAll hb, h.found, h.rise⟩
theorem isFork_of {a : Au} {s t : ByteArray} {c d : Cl} {n : Int} (h1 : look a.who s = some c) (h2 : look a.who t = some d) (hlt : s.data.toList < t.data.toList) (hn : partNo c.heads d.heads = n) (h0 : 0 < n) : IsFork a ⟨s, t, n⟩ := by
  subst hn
  obtain ⟨hp, he⟩ := partNo_at h0
  exact ⟨c, d, _, h1, h2, hlt, hp, he⟩
theorem notFork_of {a : Au} {s t : ByteArray} {c d : Cl} {n : Int} (h1 : look a.who s = some c) (h2 : look a.who t = some d) (hn : partNo c.heads d.heads = n) (h0 : ¬ 0 < n) : ∀ f, IsFork a f → ¬ (f.a = s ∧ f.b = t) := by
  rintro f ⟨c', d', i, k1, k2, _, k4, _⟩ ⟨e1, e2⟩
  rw [e1, h1] at k1
  rw [e2, h2] at k2
  obtain rfl := Option.some.inj k1
  obtain rfl := Option.some.inj k2
  subst hn
  exact partNo_not h0 i k4
set_option maxRecDepth 100000 in
set_option maxHeartbeats 4000000 in
theorem pForks_is (F : Nat → Prop) (p : Nat) (a : Au) (N : Nat) (w : World) (ha : PAu F w p a) (he : AuEps a) (hok : AuOk a N) (hN : N ≤ 500) :
    Calls Tryz.prog 20 #[.pointer (some ⟨p, 0, none⟩)] w fun e w' => ∃ (A : Option Addr) (cap : Nat) (L : List Fk) (base : Nat), e = .returned (.slice A L.length cap) ∧ ForksIs a L ∧ L.length ≤ N * N ∧ Row w' base 3 (.slice A L.length cap) L.length (cellsK encF L) ∧ Below w.heap.size w w' := by
  obtain ⟨b, W, G, ha⟩ := ha
  have HA := Lib.hid ha
  have HOK := Lib.hid hok
  have HN := Lib.hid hN
  have HEP := Lib.hid he
  have HWL := Lib.hid (show W.length ≤ N from by
    have h : (keysL W).Perm (keysL a.who) := (List.perm_ext_iff_of_nodup ha.map.keys hok.keys).2 fun s => by rw [← look_isSome, ← look_isSome, ha.all s]
    have := h.length_eq
    unfold keysL at this
    rw [List.length_map, List.length_map] at this
    have := hok.few
    omega)
  have g1 : w.cell? ⟨p, 1, none⟩ = some (.map (some b)) := ha.own.cell 1 (by omega)
  clear ha hok hN he
  go_enter Tryz.func20, Tryz.ntmps20
  go_wp2_with fail
  refine (Tryz.keysCl_any (some b) _).mono ?_
  rintro e w1 ⟨rfl, rfl⟩
  go_wp2_with fail
  refine (sortedNames_any b W w HA.out.map (by have := HWL.out; have := HN.out; omega)).mono ?_
  rintro e w2 ⟨S, AS, cS, rfl, hb2, hst2, hperm, hrise⟩
  have HB2 := Lib.hid hb2
  have HST2 := Lib.hid hst2
  have HRISE := Lib.hid hrise
  have HAL := Lib.hid (show ∀ s ∈ S, (look a.who s).isSome = true from fun s hs => by rw [← HA.out.all s]; exact look_isSome.2 (hperm.mem_iff.1 hs))
  have HALL := Lib.hid (show ∀ u, (look a.who u).isSome = true → u ∈ S from fun u hu => hperm.mem_iff.2 (look_isSome.1 (by rw [HA.out.all u]; exact hu)))
  have HSL := Lib.hid (show S.length ≤ N ∧ N ≤ 500 from ⟨by have := hperm.length_eq; rw [keysL_length] at this; have := HWL.out; omega, HN.out⟩)
  clear hb2 hst2 hperm hrise g1
  go_wp2_with fail
  refine (pHeadsOf_is F p a b W G N S AS cS _ (HA.out.same (same_of_below HB2.out HA.out.lt)) HOK.out (by have := HN.out; omega) HST2.out HAL.out (by have := HSL.out; omega)).mono ?_
  rintro e w3 ⟨B, cB, rfl, hb3, hh3⟩
  have HB3 := Lib.hid (HB2.out.trans (hb3.mono HB2.out.size))
  have HST := Lib.hid (HST2.out.below hb3)
  have HHS := Lib.hid hh3
  have HLS := Lib.hid (show (S.map fun s => (auCl a s).heads).length = S.length from List.length_map _)
  clear hb3 hh3 HST2 HB2
  go_wp2
  go_loopw [5, 21] (fun v i wr => ∃ (k : Nat) (K : List Fk), k ≤ S.length ∧ i = .int .i64 (k : Int) ∧ Hid (PfRel a N w3 wr (S.take k) ⟨#[]⟩ [] K v)) (fun _ i _ => S.length - (intOf i).toNat)
  case atStart => exact ⟨0, [], by omega, rfl, Lib.hid ⟨Below.refl _ _, Row.nil _ _ _, Found.none a _ N, List.Pairwise.nil⟩⟩
  case round =>
    obtain ⟨k, K, hk, rfl, HR⟩ := hrel
    have HB := Lib.hid HR.out.below
    have hsl := HSL.out
    by_cases hlt : k < S.length
    · obtain ⟨s, hsk⟩ : ∃ s, S[k]? = some s := ⟨_, List.getElem?_eq_getElem hlt⟩
      have HSK := Lib.hid (show s = S[k] from by rw [List.getElem?_eq_getElem hlt] at hsk; exact (Option.some.inj hsk).symm)
      obtain ⟨c, hc⟩ := Option.isSome_iff_exists.1 (HAL.out s (List.mem_of_getElem? hsk))
      have HC := Lib.hid hc
      have HLk := Lib.hid (show (S.map fun s => (auCl a s).heads)[k]? = some c.heads from by rw [List.getElem?_map, hsk]; show some (auCl a s).heads = _; unfold auCl; rw [hc]; rfl)
      obtain ⟨bb, Ak, ck, rfl, -, -, -⟩ := HHS.out k c.heads HLk.out
      obtain ⟨x, rfl, hxl, c0⟩ := (HST.out.below HB.out) k s hsk
      have hki : (k : Int) < (S.length : Int) := by omega
      have hk0 : (0 : Int) ≤ (k : Int) := by omega
      have hkw : wrap64 ((k : Int) + 1) = (k : Int) + 1 := by unfold wrap64; omega
      clear hsk hc hxl
      go_wp2
      clear c0
      go_loopw [5, 8] (fun v j wr => ∃ (m : Nat) (K : List Fk), k + 1 ≤ m ∧ m ≤ S.length ∧ j = .int .i64 (m : Int) ∧ Hid (PfRel a N w3 wr (S.take k) s (S.take m) K v)) (fun _ j _ => S.length - (intOf j).toNat)
      case atStart => exact ⟨k + 1, K, by omega, by omega, by go_num, Lib.hid ⟨HR.out.below, HR.out.row, HR.out.found.start.jump (by rw [HSK.out]; exact rising_jump HRISE.out hlt), HR.out.rise⟩⟩
      case round =>
        clear HR HB
        obtain ⟨m, K2, hkm, hm, rfl, HR⟩ := hrel
        have HB := Lib.hid HR.out.below
        by_cases hml : m < S.length
        · obtain ⟨t, hmt⟩ : ∃ t, S[m]? = some t := ⟨_, List.getElem?_eq_getElem hml⟩
          have HMT := Lib.hid (show t = S[m] from by rw [List.getElem?_eq_getElem hml] at hmt; exact (Option.some.inj hmt).symm)
          obtain ⟨d, hd⟩ := Option.isSome_iff_exists.1 (HAL.out t (List.mem_of_getElem? hmt))
          have HD := Lib.hid hd
          have HLm := (show (S.map fun s => (auCl a s).heads)[m]? = some d.heads from by rw [List.getElem?_map, hmt]; show some (auCl a t).heads = _; unfold auCl; rw [hd]; rfl)
          obtain ⟨bk, Ak, ck, ek, hbk, c1, hhk⟩ := (HHS.out.below HB.out) k c.heads HLk.out
          obtain rfl := Option.some.inj ek
          obtain ⟨bm, Am, cm, em, hbm, c2, hhm⟩ := (HHS.out.below HB.out) m d.heads HLm
          obtain rfl := Option.some.inj em
          obtain ⟨y, ey, hyl, c3⟩ := (HST.out.below HB.out) m t hmt
          obtain rfl := Option.some.inj ey
          obtain ⟨n, hn⟩ : ∃ n, partNo c.heads d.heads = n := ⟨_, rfl⟩
          have HPN := Lib.hid hn
          have HCT := Lib.hid c3
          have HYL := Lib.hid hyl
          have HPT := Lib.hid (show ∀ z : Later wr.heap.size wr, Calls Tryz.prog 47 #[.slice Ak c.heads.length ck, .slice Am d.heads.length cm] z.at' fun e w' => e = .returned (.int .i64 n) ∧ Below z.at'.heap.size z.at' w' from fun z => by
            rw [← hn]
            exact pParting_any c.heads d.heads Ak Am ck cm z.at' (by have := (HOK.out.mine s c HC.out).2; omega) (by have := (HOK.out.mine t d hd).2; omega) (hhk.below z.below) (hhm.below z.below) (HEP.out s c HC.out))
          have z1 : ∀ z : Later wr.heap.size wr, z.at'.cell? (bb.add k) = some (.slice Ak c.heads.length ck) := fun z => (z.below.cell (by rw [block_add]; exact hbk)).trans c1
          have z2 : ∀ z : Later wr.heap.size wr, z.at'.cell? (bb.add m) = some (.slice Am d.heads.length cm) := fun z => (z.below.cell (by rw [block_add]; exact hbm)).trans c2
          have hmi : (m : Int) < (S.length : Int) := by omega
          have hm0 : (0 : Int) ≤ (m : Int) := by omega
          clear hmt hd c1 c2 c3 hhk hhm hbk hbm hyl hn em ey ek HLm
          have hls := HLS.out
          go_wp2
          refine wp_region_later (by kernel_rfl) (by kernel_rfl) ?_
          repeat (go_big_quiet_step ((first | (go_at_call 47; refine later_of (HPT.out _)))))
          refine wpQuiet_nil ?_
          rintro w4 ⟨⟨w4, hb4⟩, rfl⟩
          have HR4 := Lib.hid (HR.out.later hb4)
          have c4 : w4.cell? (x.add m) = some (.string t) := (hb4.cell (by rw [block_add]; exact HYL.out)).trans HCT.out
          clear z1 z2 hb4 HPT HCT HYL
          by_cases h0 : 0 < n
          · have HFN := Lib.hid (isFork_of HC.out HD.out (by rw [HSK.out, HMT.out]; exact (List.pairwise_iff_getElem.1 HRISE.out) k m hlt hml (by omega)) HPN.out h0)
            obtain ⟨pv, cv, rfl⟩ := HR4.out.row.any
            have HKL := Lib.hid (show K2.length ≤ 1000000 from by
              have h1 := HR4.out.found.few
              have h6 := Nat.mul_le_mul (show (S.take k).length ≤ 500 by rw [List.length_take]; omega) (show N ≤ 500 by omega)
              have h7 : (S.take m).length ≤ 500 := by rw [List.length_take]; omega
              omega)
            go_wp2_with (first | (at_builtin; refine wpList_append_cells rfl (.tmp 45) (.tmp 53) 68 rfl 74 Tryz.underlying68 _ 3 40 infoPf rfl (by decide) (by decide) w3.heap.size (.slice pv K2.length cv) K2.length (cellsK encF K2) rfl (HR4.out.row.alloc _) (by have := HR4.out.below.size; simp; omega) HKL.out [.string s, .string t, .int .i64 n] rfl (by intro u hu; simp at hu; rcases hu with rfl | rfl | rfl <;> rfl) w4.heap.size rfl 74 (heap_alloc_new _ _) ?_; intro v' w6 hrow6 hgrow6 hmove6))
            have hrow : Row w6 w3.heap.size 3 v' (K2 ++ [(⟨s, t, n⟩ : Fk)]).length (cellsK encF (K2 ++ [(⟨s, t, n⟩ : Fk)])) := by
              rw [List.length_append, List.length_singleton, cellsK_append]
              exact hrow6.out
            have HR6 := Lib.hid (show PfRel a N w3 w6 (S.take k) s (S.take (m + 1)) (K2 ++ [(⟨s, t, n⟩ : Fk)]) v' from by
              refine ⟨(HR4.out.below.alloc HR4.out.below.size _).grown hgrow6.out (by have := HR4.out.below.size; simp; omega) (fun g hg => (HR4.out.row.lt g hg).1), hrow, ?_, ?_⟩
              · rw [take_snoc hml, ← HMT.out]
                exact HR4.out.found.more HFN.out ⟨rfl, rfl⟩ (by rw [HSK.out]; exact rising_not HRISE.out hlt) (by rw [HMT.out]; exact rising_not HRISE.out hml)
              · exact HR4.out.found.behind rfl (by rw [HSK.out]; exact rising_take HRISE.out hlt) (by show ∀ u ∈ S.take m, u.data.toList < t.data.toList; rw [HMT.out]; exact rising_take HRISE.out hml) HR4.out.rise)
            clear hrow6 hgrow6 hmove6 hrow c4
            go_wp2
            go_roundw
            case rel => exact ⟨m + 1, _, by omega, by omega, by go_num, HR6⟩
            case measure => simp [intOf]; omega
          · have HR6 := Lib.hid (show PfRel a N w3 w4 (S.take k) s (S.take (m + 1)) K2 _ from ⟨HR4.out.below, HR4.out.row, by rw [take_snoc hml, ← HMT.out]; exact HR4.out.found.skip (notFork_of HC.out HD.out HPN.out h0), HR4.out.rise⟩)
            clear c4
            go_wp2
            go_roundw
            case rel => exact ⟨m + 1, K2, by omega, by omega, by go_num, HR6⟩
            case measure => simp [intOf]; omega
        · obtain rfl : m = S.length := by omega
          clear hml
          have HR6 := Lib.hid (show PfRel a N w3 wr (S.take (k + 1)) ⟨#[]⟩ [] K2 _ from ⟨HR.out.below, HR.out.row, by rw [take_snoc hlt, ← HSK.out]; exact HR.out.found.done (by rw [List.take_length]; exact HALL.out) (by rw [List.take_length]; exact hsl.1), HR.out.rise⟩)
          go_wp2
          go_roundw
          case rel => exact ⟨k + 1, K2, by omega, by go_num, HR6⟩
          case measure => simp [intOf]; omega
    · obtain rfl : k = S.length := by omega
      clear hlt
      obtain ⟨pv, cv, rfl⟩ := HR.out.row.any
      go_wp2
      go_ret
      refine ⟨pv, cv, K, w3.heap.size, rfl, ⟨HR.out.rise, fun f => ?_⟩, ?_, HR.out.row, HB3.out.trans (HB.out.mono HB3.out.size)⟩
      · rw [HR.out.found.mem, List.take_length]
        refine ⟨fun h => h.1, fun h => ⟨h, .inl ?_⟩⟩
        obtain ⟨c, _, _, k1, _⟩ := h
        exact HALL.out _ (by rw [k1]; rfl)
      · have h1 := HR.out.found.few
        rw [List.take_length] at h1
        have h3 := Nat.mul_le_mul_right N hsl.1
        simp only [List.length_nil] at h1
        omega
end Go.Proofs.YtgjmbokfenpefaaGreatDoor
