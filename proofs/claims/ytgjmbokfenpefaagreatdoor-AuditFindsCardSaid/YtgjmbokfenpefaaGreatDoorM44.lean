/- Parts of the proof, one behind the other: RDirU. -/
import Derived.WalkKit
import Derived.Lib.Hide
import Derived.WalkLawsBesides
import Derived.Deep.QuietTactic
import Derived.Deep.WholeRow
import Derived.ArgAppend
import Derived.Laws.AppendOwnNone
import Derived.Laws.CopyRow
import Derived.Deep.RegionLaw
import Derived.Laws.BytesString
import Derived.Laws.IdiomStrings
import Derived.Test.YtgjmbokfenpefaaGreatDoorProg
import Derived.StringKeys
import Derived.Maps.Own
import Derived.Maps.Views
import Derived.Maps.OwnSet
import Derived.Maps.OwnOps
import Derived.Maps.RangeWalk
import Derived.Sort.KeysCollected
import Derived.Laws.BitsAllLaws
import Derived.Outline
import Derived.BigQuiet
import Derived.Laws.CopyOwn
import Derived.RegionTactic
import Derived.StillTail
import Derived.Deep.Quiet
import Derived.Deep.RegionHeld3
import Derived.Deep.DeepCutAuto
import Derived.Laws.ResultCell
import Derived.IntWalk
import Derived.Sort.Walk0
import Derived.Tactics
import Derived.Orders
import Derived.LaidEql
import Derived.Stop.Asserts
import Derived.RowKitTokens
import Derived.OrdersHeld
import Derived.Sort.LotA
import Derived.Lib.SortBridge
import Derived.Shelf.SlSortFuncK.WholeK
import Derived.Ground.GgsProg
import Derived.Shelf.GgSortFunc.Tiny
import Derived.Shelf.Strings.Repeat
import Derived.KernelRfl
import Derived.WideKeyEntry
import Derived.Deep.CutRange
import Derived.Test.YtgjmbokfenpefaaGreatDoorM1
import Derived.Test.YtgjmbokfenpefaaGreatDoorM2
import Derived.Test.YtgjmbokfenpefaaGreatDoorM3
import Derived.Test.YtgjmbokfenpefaaGreatDoorM4
import Derived.Test.YtgjmbokfenpefaaGreatDoorM5
import Derived.Test.YtgjmbokfenpefaaGreatDoorM6
import Derived.Test.YtgjmbokfenpefaaGreatDoorM7
import Derived.Test.YtgjmbokfenpefaaGreatDoorM8
import Derived.Test.YtgjmbokfenpefaaGreatDoorM16
import Derived.Test.YtgjmbokfenpefaaGreatDoorM33
import Derived.Test.YtgjmbokfenpefaaGreatDoorM34
import Derived.Test.YtgjmbokfenpefaaGreatDoorM35
import Derived.Test.YtgjmbokfenpefaaGreatDoorM36
import Derived.Test.YtgjmbokfenpefaaGreatDoorM37
import Derived.Test.YtgjmbokfenpefaaGreatDoorM38
import Derived.Test.YtgjmbokfenpefaaGreatDoorM39
import Derived.Test.YtgjmbokfenpefaaGreatDoorM40
import Derived.Test.YtgjmbokfenpefaaGreatDoorM41
import Derived.Test.YtgjmbokfenpefaaGreatDoorM42
/- The document's Publish. -/
namespace Go.Proofs.YtgjmbokfenpefaaGreatDoor
open Go.RowKit Go.Maps

set_option maxRecDepth 100000 in
set_option maxHeartbeats 8000000 in
theorem refPublish_t (F : Nat → Prop) (p rb : Nat) (d d' : Dst) (sg : Sgn) (n : Int) (w : World) (hd : RDir F w p rb d) (hr : Holds w rb 72 refCells 97) (hs : d.secret.size ≤ 1000000) (hrb : ¬ F rb) (hl : d.vals.length ≤ 50000) (hlw : d.wait.length ≤ 50000) (hls : d.since.length ≤ 50000)
    (h : publishAns d = (d', sg, n)) (h8 : d.eps.length < 8) :
    Calls Tryz.prog 36 #[.pointer (some ⟨p, 0, none⟩)] w fun e w' => ∃ (m : SgM) (F' : Nat → Prop), m.s = sg ∧ e = .returned (.tuple #[.agg #[.int .i64 sg.head.epoch, .string sg.head.root, .string sg.head.prev, .int .i64 sg.key, .slice m.A sg.sig.length m.ca, .slice m.B sg.path.length m.cb], .int .i64 n]) ∧ Off F w w' ∧ Grew w F F' ∧ RDir F' w' p rb d' ∧ SgIn F' w' m := by
  obtain ⟨bb, g, m1, m2, m3, v, M, hd⟩ := hd
  have HD := Lib.hid hd
  have HR := Lib.hid hr
  have HME := Lib.hid (show M.length = d.eps.length by rw [← hd.eps, List.length_map])
  obtain ⟨w0, hw0⟩ : ∃ w0, w.alloc (.cells #[.int .i64 0, .string ⟨#[]⟩, .string ⟨#[]⟩, .int .i64 0, .slice none 0 0, .slice none 0 0] 57) = w0 := ⟨_, rfl⟩
  have hb0 : Below w.heap.size w w0 := by rw [← hw0]; exact alloc_below _ _
  have HB0 := Lib.hid hb0
  have HZ := Lib.hid (show Holds w0 w.heap.size 6 (sgF noHd 0 (.slice none 0 0) (.slice none 0 0)) 57 by rw [← hw0]; exact Holds.new w 6 (sgF noHd 0 (.slice none 0 0) (.slice none 0 0)) 57)
  obtain ⟨pv, cv, rfl⟩ := hd.row.any
  have c3 : w0.cell? ⟨p, 3, none⟩ = some (.map (some m1)) := (hb0.cell (p := ⟨p, 3, none⟩) hd.own.lt).trans (hd.own.cell 3 (by omega))
  have c6 : w0.cell? ⟨p, 6, none⟩ = some (.slice pv M.length cv) := (hb0.cell (p := ⟨p, 6, none⟩) hd.own.lt).trans (hd.own.cell 6 (by omega))
  have HMW := Lib.hid (hd.wait.block (hb0.block _ hd.wait.lt))
  clear hd hr hb0
  have h1 : ¬ (8 : Int) < ((M.length : Int) + 1) := by have := HME.out; omega
  have h2 : IntKind.i64.wrap ((M.length : Int) + 1) = (M.length : Int) + 1 := IntWalk.i64_in _ (by have := HME.out; omega)
  go_enter Tryz.func36, Tryz.ntmps36
  go_wp2_with (first | (at_range; refine wpList_mapRange kS rfl (.tmp 30) rfl m1 d.wait rfl HMW.out ?_; intro w2 hrg2 hg2 hs2))
  clear hs2
  obtain ⟨r, hrr⟩ : ∃ r, w0.heap.size = r := ⟨_, rfl⟩
  rw [hrr] at hrg2 ⊢
  have HRR := Lib.hid hrr
  clear hrr
  have HRNG := Lib.hid (show Rng kS w2 m1 r d.wait [] d.wait.length from hrg2.out)
  have HB2 := Lib.hid (HB0.out.trans ((grownBy.below hg2.out (Nat.le_refl _) (fun k hk => by cases hk)).mono HB0.out.size))
  have HRD := Lib.hid (show RDirM F w2 p rb (midDst d ((M.length : Int) + 1) []) bb g m1 m2 m3 (.slice pv M.length cv) M from HD.out.same (same_of_below HB2.out HD.out.lt))
  have HRN := Lib.hid (show w.heap.size ≤ r from by have := HRR.out; have := HB0.out.size; omega)
  have HSZ := Lib.hid (show w.heap.size < r from by have := HRR.out; rw [← this, ← hw0]; simp)
  have HZ2 := Lib.hid (HZ.out.below (grownBy.below hg2.out (Nat.le_refl _) (fun k hk => by cases hk)) HZ.out.lt)
  clear hrg2 hg2 c3 c6 HMW HB0 HZ
  go_loopw [5, 6] (fun _ _ wr => ∃ S cnt, Rng kS wr m1 r d.wait S cnt ∧ RDirM F wr p rb (midDst d ((M.length : Int) + 1) S) bb g m1 m2 m3 (.slice pv M.length cv) M ∧ Off F w wr ∧ Holds wr w.heap.size 6 (sgF noHd 0 (.slice none 0 0) (.slice none 0 0)) 57) (fun _ _ wr => wr.rangeLeft m1 r)
  case atStart => exact ⟨[], _, HRNG.out, HRD.out, Off.of_below HB2.out, HZ2.out⟩
  case round =>
    clear HRNG HRD HB2 HZ2
    obtain ⟨S, cnt, hr, hrd, ho, hzr⟩ := hrel
    have HZR := Lib.hid hzr
    clear hzr
    have HRG := Lib.hid hr
    have HRD := Lib.hid hrd
    have HO := Lib.hid ho
    clear hr hrd ho
    go_wp2_with (first | (at_next; refine wpList_mapNext kS rfl (.tmp 31) rfl m1 r d.wait S cnt rfl HRG.out ?_ ?_))
    · intro hperm
      have HS1 := Lib.hid (midDst_settled HRD.out hperm HRG.out.came.1 (by have := HME.out; omega) HD.out.vals.keys HD.out.since.keys)
      have HF := Lib.hid (show RDirM (fun k => F k ∨ k = wr.heap.size) ((wr.alloc (.map #[] 0)).setCell ⟨p, 3, none⟩ (.map (some wr.heap.size))) p rb (settled d) bb g wr.heap.size m2 m3 (.slice pv M.length cv) M from HS1.out.fresh)
      have HOF := Lib.hid (show Off F w ((wr.alloc (.map #[] 0)).setCell ⟨p, 3, none⟩ (.map (some wr.heap.size))) from (HO.out.alloc _).setCell (.inr HD.out.fp) _)
      have HGR := Lib.hid (show Grew w F (fun k => F k ∨ k = wr.heap.size) from fun k hk => hk.imp id fun e => by subst e; exact HO.out.size)
      have HZ4 := Lib.hid ((HZR.out.alloc (.map #[] 0)).other (a := ⟨p, 3, none⟩) (show w.heap.size ≠ p by have := HD.out.lt _ HD.out.fp; omega) (.map (some wr.heap.size)))
      have hmm := @run_makeMap Tryz.prog
      have q3 : (wr.alloc (.map #[] 0)).cell? ⟨p, 3, none⟩ = some (.map (some m1)) := (HS1.out.own.alloc _).cell 3 (by omega)
      have r3 : (wr.alloc (.map #[] 0)).frozen? ⟨p, 3, none⟩ = false := (HS1.out.own.alloc _).free 3
      have k6 : ((wr.alloc (.map #[] 0)).setCell ⟨p, 3, none⟩ (.map (some wr.heap.size))).cell? ⟨p, 6, none⟩ = some (.slice pv M.length cv) := HF.out.own.cell 6 (by omega)
      clear hperm HRG HRD HS1 HO
      go_upto_region 10 with (fail)
      clear hmm q3 r3
      have HM1 := Lib.hid (show w.heap.size < wr.heap.size from HZR.out.lt)
      generalize wr.heap.size = m1' at HF HOF HGR HM1 k6 HZ4 ⊢
      generalize (wr.alloc (.map #[] 0)).setCell ⟨p, 3, none⟩ (.map (some m1')) = w4 at HF HOF k6 HZ4 ⊢
      go_wp2
      obtain ⟨H, hH⟩ : ∃ H, d.eps.map (·.head) = H := ⟨_, rfl⟩
      have HHE := Lib.hid hH
      have HHL := Lib.hid (show H.length = M.length by rw [← hH, List.length_map, ← HME.out])
      clear hH
      go_loopw [7, 62] (fun hv i wr => ∃ (k : Nat), k ≤ M.length ∧ i = .int .i64 (k : Int) ∧ Below w4.heap.size w4 wr ∧ Row wr w4.heap.size 3 hv k (hdCells (H.take k))) (fun _ i _ => M.length - (intOf i).toNat)
      case atStart => exact ⟨0, by omega, rfl, Below.refl _ _, Row.nil _ _ _⟩
      case round =>
        obtain ⟨k, hk, rfl, hb5, hrow5⟩ := hrel
        have HB5 := Lib.hid hb5
        have HR5 := Lib.hid hrow5
        clear hb5 hrow5
        by_cases hlt : k < M.length
        · obtain ⟨g5, cg, hv5, _, hgl, _, hpc, _⟩ := HF.out.row.shape (by omega)
          injection hv5 with hv1 _ _
          subst hv1
          obtain ⟨m, hmk⟩ : ∃ m, M[k]? = some m := ⟨_, List.getElem?_eq_getElem hlt⟩
          have hcell : ∀ j v, j < 6 → m.cells[j]? = some v → wr.cell? ⟨g5, k * 6 + j, none⟩ = some v := fun j v hj hv =>
            (HB5.out.cell (p := ⟨g5, k * 6 + j, none⟩) hgl).trans (hpc _ _ ((sgCells_get M k m j hmk hj).trans hv))
          have f0 : wr.cell? ⟨g5, k * 6, none⟩ = some (.int .i64 m.s.head.epoch) := hcell 0 _ (by omega) rfl
          have f1 : wr.cell? ⟨g5, k * 6 + 1, none⟩ = some (.string m.s.head.root) := hcell 1 _ (by omega) rfl
          have f2 : wr.cell? ⟨g5, k * 6 + 2, none⟩ = some (.string m.s.head.prev) := hcell 2 _ (by omega) rfl
          have f3 : wr.cell? ⟨g5, k * 6 + 3, none⟩ = some (.int .i64 m.s.key) := hcell 3 _ (by omega) rfl
          have f4 : wr.cell? ⟨g5, k * 6 + 4, none⟩ = some (.slice m.A m.s.sig.length m.ca) := hcell 4 _ (by omega) rfl
          have f5 : wr.cell? ⟨g5, k * 6 + 5, none⟩ = some (.slice m.B m.s.path.length m.cb) := hcell 5 _ (by omega) rfl
          have HHK := Lib.hid (show hdCells (H.take k) ++ m.s.head.cells = hdCells (H.take (k + 1)) by
            have hde : d.eps[k]? = some m.s := by rw [← HD.out.eps, List.getElem?_map, hmk]; rfl
            rw [List.take_add_one, show H[k]? = some m.s.head by rw [← HHE.out, List.getElem?_map, hde]; rfl, hdCells_append]
            simp [hdCells])
          have hki : (k : Int) < (M.length : Int) := by omega
          clear hcell hpc hmk k6
          go_wp2_with (first | (at_builtin; refine wpList_append_cells rfl (.tmp 66) (.tmp 69) 129 rfl 52 Tryz.underlying129 _ 3 40 infoHd rfl (by decide) (by decide) w4.heap.size u7 k (hdCells (H.take k)) rfl ((HR5.out.alloc _).alloc _) (Nat.le_trans HB5.out.size (by simp; omega)) (by have := HME.out; omega) m.s.head.cells rfl (by intro u hu; simp [Hd.cells] at hu; rcases hu with rfl | rfl | rfl <;> rfl) (wr.heap.size + 1) rfl 52 (heap_alloc2_new wr _ _) ?_; intro v' w6 hrow6 hgrow6 hmove6))
          go_roundw
          case rel =>
            have hBB := ((HB5.out.alloc HB5.out.size (.cells #[.int .i64 m.s.head.epoch, .string m.s.head.root, .string m.s.head.prev, .int .i64 m.s.key, .slice m.A m.s.sig.length m.ca, .slice m.B m.s.path.length m.cb] 57)).alloc (Nat.le_trans HB5.out.size (by simp)) (.cells #[.int .i64 m.s.head.epoch, .string m.s.head.root, .string m.s.head.prev] 52)).grown hgrow6.out (Nat.le_trans HB5.out.size (by simp; omega)) (fun c hc => (HR5.out.lt c hc).1)
            have hRR := hrow6.out
            rw [HHK.out] at hRR
            exact ⟨v', _, _, ⟨k + 1, hlt, by go_num, hBB, hRR⟩, rfl, rfl, rfl⟩
          case measure => simp [intOf]; omega
        · obtain rfl : k = M.length := by omega
          obtain ⟨hml, HA, hc, rfl, hhs⟩ := (show Row wr w4.heap.size 3 u7 M.length (hdCells H) from by have := HR5.out; rwa [List.take_of_length_le (by have := HHL.out; omega)] at this).hds
          have HHS := Lib.hid hhs
          clear hhs HR5 hml
          have k6w : wr.cell? ⟨p, 6, none⟩ = some (.slice pv M.length cv) := (HB5.out.cell (p := ⟨p, 6, none⟩) HF.out.own.lt).trans k6
          have HF5 := Lib.hid (HF.out.same (same_of_below HB5.out HF.out.lt))
          have HO5 := Lib.hid (HOF.out.then HB5.out)
          have HZ5 := Lib.hid (HZ4.out.below HB5.out HZ4.out.lt)
          clear k6 HF HOF HB5
          have HRB := Lib.hid (show ∀ u : World, Below wr.heap.size wr u → Holds u rb 72 refCells 97 from fun u hb => by
            have h1 := HR.out
            have hl := h1.lt
            unfold Holds at h1 ⊢
            rw [hb.block rb (Nat.lt_of_lt_of_le hl HO5.out.size), HO5.out.block rb hl hrb]; exact h1)
          obtain ⟨root, nr, hra⟩ : ∃ root nr, rootAns (itemsOf (settled d)) = (root, nr) := ⟨_, _, rfl⟩
          have HRA := Lib.hid hra
          have d0 : wr.cell? ⟨p, 0, none⟩ = some (.pointer (some ⟨rb, 0, none⟩)) := HF5.out.own.cell 0 (by omega)
          have hpl : p < wr.heap.size := block_lt_of_cell d0
          have HIT := Lib.hid (show ∀ u : World, Below wr.heap.size wr u → Calls Tryz.prog 68 #[.pointer (some ⟨p, 0, none⟩)] u fun e w' => ∃ A cap, ∃ L : List It, e = .returned (.slice A L.length cap) ∧ Itms w' A L ∧ rootAns L = (root, nr) ∧ L.length ≤ 1000000 ∧ Below wr.heap.size wr w' ∧ p < w'.heap.size ∧ w'.cell? ⟨p, 0, none⟩ = some (.pointer (some ⟨rb, 0, none⟩)) ∧ Below u.heap.size u w' from fun u hb =>
            (refItems_is _ p rb (settled d) _ ⟨bb, g, m1', m2, m3, _, M, HF5.out.same (same_of_below hb HF5.out.lt)⟩ (HRB.out u hb) hs (by have := upsAll_len d.vals d.wait; show (upsAll d.vals d.wait).length ≤ _; omega)).mono fun e w' ⟨A, cap, L, he, hm, hp, hso, hb'⟩ =>
              ⟨A, cap, L, he, hm, (sorted_root (hp.trans (sortIts_perm _).symm) hso (sortIts_sorted _)).trans HRA.out, by
                rw [hp.length_eq]; unfold itemsRaw; rw [List.length_map]
                have := upsAll_len d.vals d.wait
                show (upsAll d.vals d.wait).length ≤ _
                omega, hb.trans (hb'.mono hb.size), Nat.lt_of_lt_of_le hpl (Nat.le_trans hb.size hb'.size), ((hb.trans (hb'.mono hb.size)).cell (p := ⟨p, 0, none⟩) hpl).trans d0, hb'⟩)
          clear hra
          go_upto_region 15 with (fail)
          go_cut [10, 11] from 72 to 81 (fun a e wx => a = .string root ∧ e = .int .i64 nr ∧ Below wr.heap.size wr wx)
          case first =>
            go_region_with ((first
              | (go_at_call 68; refine (HIT.out _ ((Below.refl _ _).drew)).mono ?_; rintro e w7 ⟨A7, cap7, L7, rfl, hm7, hr7, hl7, hw7, hpl7, hc7, hb7⟩)
              | (go_at_call 67; refine (refRoot_is rb L7 A7 cap7 root nr _ hl7 (HRB.out _ hw7) hm7 hr7).mono ?_; rintro e w8 ⟨rfl, hb8⟩)))
            all_goals
              go_wp2
              go_meet
              exact ⟨rfl, rfl, hw7.trans (hb8.mono (Below.size hw7))⟩
          case rest =>
            obtain ⟨rfl, rfl, hbc⟩ := hcut
            have HBC := Lib.hid hbc
            have e0 : wc.cell? ⟨p, 0, none⟩ = some (.pointer (some ⟨rb, 0, none⟩)) := (hbc.cell (p := ⟨p, 0, none⟩) hpl).trans d0
            obtain ⟨y, ny, hna⟩ : ∃ y ny, nextAns H root = (y, ny) := ⟨_, _, rfl⟩
            have HNA := Lib.hid hna
            have HNX := Lib.hid (show Calls Tryz.prog 69 #[.pointer (some ⟨rb, 0, none⟩), .slice HA M.length hc, .string root] wc fun e w' => e = .returned (.tuple #[.agg #[.int .i64 y.epoch, .string y.root, .string y.prev], .int .i64 ny]) ∧ Below wc.heap.size wc w' by
              rw [← HHL.out]; exact refNext_is rb H HA hc root y ny wc (by have := HHL.out; have := HME.out; omega) (HRB.out wc hbc) (HHS.out.below hbc) hna)
            clear hna hbc d0 k6w HIT HHS
            go_wp2_with fail
            refine HNX.out.mono ?_
            rintro e w9 ⟨rfl, hb9⟩
            have HB9 := Lib.hid (HBC.out.trans (hb9.mono HBC.out.size))
            clear hb9 e0
            go_upto_region 17 with (fail)
            have hbA := alloc_below w9 (.cells #[.int .i64 y.epoch, .string y.root, .string y.prev] 52)
            have HBA := Lib.hid (HB9.out.trans (hbA.mono HB9.out.size))
            have HYA := Lib.hid (show Holds (w9.alloc (.cells #[.int .i64 y.epoch, .string y.root, .string y.prev] 52)) w9.heap.size 3 (hdF y) 52 from Holds.new w9 3 (hdF y) 52)
            clear hbA
            generalize w9.alloc (.cells #[.int .i64 y.epoch, .string y.root, .string y.prev] 52) = wA at HBA HYA ⊢
            have HYL := Lib.hid (show wr.heap.size ≤ w9.heap.size from HB9.out.size)
            generalize w9.heap.size = yb at HYA HYL ⊢
            obtain ⟨mk, nm, hma⟩ : ∃ mk nm, headMarkAns y = (mk, nm) := ⟨_, _, rfl⟩
            have HMA := Lib.hid hma
            clear hma
            have y0 : wA.cell? ⟨yb, 0, none⟩ = some (.int .i64 y.epoch) := HYA.out.cell 0 (by omega)
            have y1 : wA.cell? ⟨yb, 1, none⟩ = some (.string y.root) := HYA.out.cell 1 (by omega)
            have y2 : wA.cell? ⟨yb, 2, none⟩ = some (.string y.prev) := HYA.out.cell 2 (by omega)
            have e0 : wA.cell? ⟨p, 0, none⟩ = some (.pointer (some ⟨rb, 0, none⟩)) := (HBA.out.cell (p := ⟨p, 0, none⟩) hpl).trans (HF5.out.own.cell 0 (by omega))
            have HKEEP := Lib.hid (show ∀ u : World, Below wA.heap.size wA u → (u.cell? ⟨p, 0, none⟩ = some (.pointer (some ⟨rb, 0, none⟩)) ∧ u.cell? ⟨yb, 0, none⟩ = some (.int .i64 y.epoch) ∧ u.cell? ⟨yb, 1, none⟩ = some (.string y.root) ∧ u.cell? ⟨yb, 2, none⟩ = some (.string y.prev)) from fun u hb =>
              ⟨(hb.cell (p := ⟨p, 0, none⟩) (block_lt_of_cell e0)).trans e0, (hb.cell (p := ⟨yb, 0, none⟩) HYA.out.lt).trans y0, (hb.cell (p := ⟨yb, 1, none⟩) HYA.out.lt).trans y1, (hb.cell (p := ⟨yb, 2, none⟩) HYA.out.lt).trans y2⟩)
            go_region_held3 (fun w' => w'.cell? ⟨p, 0, none⟩ = some (.pointer (some ⟨rb, 0, none⟩)) ∧ w'.cell? ⟨yb, 0, none⟩ = some (.int .i64 y.epoch) ∧ w'.cell? ⟨yb, 1, none⟩ = some (.string y.root) ∧ w'.cell? ⟨yb, 2, none⟩ = some (.string y.prev))
              (first | exact ⟨e0, y0, y1, y2⟩ | exact HKEEP.out _ (((Below.refl _ wA).drew).trans hbB))
              (first | (go_at_call 70; refine (refHeadMark_is rb y mk nm _ (HRB.out _ (HBA.out.drew)) HMA.out).mono ?_; rintro e wB ⟨rfl, hbB⟩))
            have HBB := Lib.hid (HBA.out.trans ((((Below.refl _ wA).drew).trans hbB).mono HBA.out.size))
            have HYB := Lib.hid (HYA.out.below (((Below.refl _ wA).drew).trans hbB) HYA.out.lt)
            clear hbB HKEEP e0 y0 y1 y2
            obtain ⟨kk, S1, P1, ns, hsa⟩ : ∃ kk S1 P1 ns, sealAns (dirSeed d.secret) (M.length : Int) mk = (kk, S1, P1, ns) := ⟨_, _, _, _, rfl⟩
            have HSA := Lib.hid hsa
            clear hsa
            have hw18 : IntKind.i64.wrap ((M.length : Int) + 1 - 1) = (M.length : Int) := by rw [IntWalk.i64_in _ (by have := HME.out; omega)]; omega
            have hw19 : IntKind.i64.wrap (M.length : Int) = (M.length : Int) := IntWalk.i64_in _ (by have := HME.out; omega)
            have HFB := Lib.hid (HF5.out.same (same_of_below HBB.out HF5.out.lt))
            have e0 : wB.cell? ⟨p, 0, none⟩ = some (.pointer (some ⟨rb, 0, none⟩)) := HFB.out.own.cell 0 (by omega)
            have e2 : wB.cell? ⟨p, 2, none⟩ = some (.pointer (some ⟨bb, 0, none⟩)) := HFB.out.own.cell 2 (by omega)
            have hplB : p < wB.heap.size := block_lt_of_cell e0
            have HSG := Lib.hid (show ∀ u : World, Below wB.heap.size wB u → Calls Tryz.prog 71 #[.pointer (some ⟨rb, 0, none⟩), .pointer (some ⟨bb, 0, none⟩), .int .i64 (M.length : Int), .string mk] u fun e w' => ∃ A ca B cb, e = .returned (.tuple #[.agg #[.int .i64 kk, .slice A S1.length ca, .slice B P1.length cb], .int .i64 ns]) ∧ Below u.heap.size u w' ∧ Strs w' A S1 ∧ Strs w' B P1 ∧ (∀ a, A = some a → 0 < S1.length → u.heap.size ≤ a.block) ∧ (∀ a, B = some a → 0 < P1.length → u.heap.size ≤ a.block) ∧ S1.length ≤ ca from fun u hb =>
              refSealSign_at rb bb (dirSeed d.secret) (M.length : Int) mk kk S1 P1 ns u (HRB.out u (HBB.out.trans (hb.mono HBB.out.size))) ((HFB.out.same (same_of_below hb HFB.out.lt)).box.is) HSA.out)
            go_upto_region 18 with (fail)
            go_cut [16, 17] from 101 to 115 (fun q e wx => ∃ (sb : Nat) (A : Option Addr) (ca : Nat) (B : Option Addr) (cb : Nat), q = .pointer (some ⟨sb, 0, none⟩) ∧ e = .int .i64 ns ∧ wB.heap.size ≤ sb ∧ Below wB.heap.size wB wx ∧ Holds wx sb 3 (slF kk (.slice A S1.length ca) (.slice B P1.length cb)) 55 ∧ Strs wx A S1 ∧ Strs wx B P1 ∧ (∀ a, A = some a → 0 < S1.length → wB.heap.size ≤ a.block) ∧ (∀ a, B = some a → 0 < P1.length → wB.heap.size ≤ a.block) ∧ S1.length ≤ ca)
            case first =>
              go_region_with ((first
                | (go_at_call 71; refine (HSG.out _ (by first | exact (Below.refl _ _).drew | exact ((Below.refl _ _).drew).alloc (Nat.le_refl _) _)).mono ?_; rintro e wC ⟨A, ca, B, cb, rfl, hbC, hsC, hpC, haC, hcC, hkC⟩; (try (have hz3 : Holds wC wB.heap.size 3 (slF 0 (.slice none 0 0) (.slice none 0 0)) 55 := (fun hn : Holds (wB.drew.alloc (.cells #[.int .i64 0, .slice none 0 0, .slice none 0 0] 55)) wB.heap.size 3 (slF 0 (.slice none 0 0) (.slice none 0 0)) 55 => hn.below hbC hn.lt) (Holds.new wB.drew 3 (slF 0 (.slice none 0 0) (.slice none 0 0)) 55); have ft0 := hz3.cell 0 (by omega); have ft1 := hz3.cell 1 (by omega); have ft2 := hz3.cell 2 (by omega); have ff0 := hz3.free 0; have ff1 := hz3.free 1; have ff2 := hz3.free 2)))))
              all_goals
                go_wp2
                go_meet
                first
                  | (have hB : Below wB.heap.size wB wC := ((Below.refl _ wB).drew).trans hbC
                     exact ⟨wC.heap.size, A, ca, B, cb, rfl, rfl, Below.size hB, hB.alloc (Below.size hB) _, Holds.new wC 3 (slF kk (.slice A S1.length ca) (.slice B P1.length cb)) 55, hsC.below (alloc_below _ _), hpC.below (alloc_below _ _), haC, hcC, hkC⟩)
                  | (have hA := ((Below.refl wB.heap.size wB).drew).alloc (Nat.le_refl _) (.cells #[.int .i64 0, .slice none 0 0, .slice none 0 0] 55)
                     have hB := hA.trans (hbC.mono (Below.size hA))
                     have hl : wB.heap.size < (wB.drew.alloc (.cells #[.int .i64 0, .slice none 0 0, .slice none 0 0] 55)).heap.size := Nat.lt_of_lt_of_eq (Nat.lt_succ_self _) (World.size_alloc _ _).symm
                     have hS := seal_stored (c := ca) (c' := cb) (kk := kk) hz3 (Nat.le_refl _) hB hsC hpC (fun a ha hp => Nat.lt_of_lt_of_le hl (haC a ha hp)) (fun a ha hp => Nat.lt_of_lt_of_le hl (hcC a ha hp))
                     exact ⟨wB.heap.size, A, ca, B, cb, rfl, rfl, Nat.le_refl _, hS.1, hS.2.1, hS.2.2.1, hS.2.2.2, fun a ha hp => Nat.le_of_lt (Nat.lt_of_lt_of_le hl (haC a ha hp)), fun a ha hp => Nat.le_of_lt (Nat.lt_of_lt_of_le hl (hcC a ha hp)), hkC⟩)
            case rest =>
              obtain ⟨sb, A, ca, B, cb, rfl, rfl, hsb, hbx, hsh, hsA, hsB, haA, haB, hcap⟩ := hcut
              have HCAP := Lib.hid hcap
              clear hcap
              have HBD := Lib.hid (HBB.out.trans (hbx.mono HBB.out.size))
              have HFD := Lib.hid (HF5.out.same (same_of_below HBD.out HF5.out.lt))
              have HYD := Lib.hid (HYB.out.below hbx HYB.out.lt)
              have HSD := Lib.hid hsh
              have HNB := Lib.hid (show wB.heap.size ≤ wc.heap.size from hbx.size)
              have HPV := Lib.hid (show (Value.slice pv M.length cv).ownBlock ≠ some p from HFD.out.row.fresh (Nat.lt_succ_self p))
              have HZD := Lib.hid (HZ5.out.below HBD.out HZ5.out.lt)
              have HOD := Lib.hid (HO5.out.then HBD.out)
              have HSTA := Lib.hid hsA
              have HSTB := Lib.hid hsB
              have HAA := Lib.hid haA
              have HAB := Lib.hid haB
              have r0 : wc.cell? ⟨p, 6, none⟩ = some (.slice pv M.length cv) := HFD.out.own.cell 6 (by omega)
              have r1 : wc.cell? ⟨yb, 0, none⟩ = some (.int .i64 y.epoch) := HYD.out.cell 0 (by omega)
              have r2 : wc.cell? ⟨yb, 1, none⟩ = some (.string y.root) := HYD.out.cell 1 (by omega)
              have r3 : wc.cell? ⟨yb, 2, none⟩ = some (.string y.prev) := HYD.out.cell 2 (by omega)
              have r4 : wc.cell? ⟨sb, 0, none⟩ = some (.int .i64 kk) := hsh.cell 0 (by omega)
              have r5 : wc.cell? ⟨sb, 1, none⟩ = some (.slice A S1.length ca) := hsh.cell 1 (by omega)
              have r6 : wc.cell? ⟨sb, 2, none⟩ = some (.slice B P1.length cb) := hsh.cell 2 (by omega)
              clear e0 e2 HSG hbx hsh hsA hsB haA haB
              have z0 : ∀ z : PubZ p yb sb (.slice pv M.length cv) y kk (.slice A S1.length ca) (.slice B P1.length cb), z.at'.cell? ⟨p, 6, none⟩ = some (.slice pv M.length cv) := fun z => z.h0
              have z1 : ∀ z : PubZ p yb sb (.slice pv M.length cv) y kk (.slice A S1.length ca) (.slice B P1.length cb), z.at'.cell? ⟨yb, 0, none⟩ = some (.int .i64 y.epoch) := fun z => z.h1
              have z2 : ∀ z : PubZ p yb sb (.slice pv M.length cv) y kk (.slice A S1.length ca) (.slice B P1.length cb), z.at'.cell? ⟨yb, 1, none⟩ = some (.string y.root) := fun z => z.h2
              have z3 : ∀ z : PubZ p yb sb (.slice pv M.length cv) y kk (.slice A S1.length ca) (.slice B P1.length cb), z.at'.cell? ⟨yb, 2, none⟩ = some (.string y.prev) := fun z => z.h3
              have z4 : ∀ z : PubZ p yb sb (.slice pv M.length cv) y kk (.slice A S1.length ca) (.slice B P1.length cb), z.at'.cell? ⟨sb, 0, none⟩ = some (.int .i64 kk) := fun z => z.h4
              have z5 : ∀ z : PubZ p yb sb (.slice pv M.length cv) y kk (.slice A S1.length ca) (.slice B P1.length cb), z.at'.cell? ⟨sb, 1, none⟩ = some (.slice A S1.length ca) := fun z => z.h5
              have z6 : ∀ z : PubZ p yb sb (.slice pv M.length cv) y kk (.slice A S1.length ca) (.slice B P1.length cb), z.at'.cell? ⟨sb, 2, none⟩ = some (.slice B P1.length cb) := fun z => z.h6
              have zn : Nonempty (PubZ p yb sb (.slice pv M.length cv) y kk (.slice A S1.length ca) (.slice B P1.length cb)) := ⟨⟨wc.drew, r0, r1, r2, r3, r4, r5, r6⟩⟩
              go_upto_region 19 with (fail)
              refine wp_region_taken (fun w' => ∃ z : PubZ p yb sb (.slice pv M.length cv) y kk (.slice A S1.length ca) (.slice B P1.length cb), w' = z.at') [0, 1, 2, 3, 4, 5, 6] [7, 8, 9, 10, 11, 12] (by kernel_rfl) (by kernel_rfl) (by intro c d v a w h; cases d <;> exact h) ⟨⟨wc.drew, r0, r1, r2, r3, r4, r5, r6⟩, rfl⟩ ?_
              simp only [pickOps, List.filterMap_cons, List.filterMap_nil, List.getElem?_cons_zero, List.getElem?_cons_succ]
              repeat (first | go_big_quiet_step (fail) | quiet_step (fail))
              refine wpQuiet_nil ?_
              have HZZ := Lib.hid (show ∀ u : World, Below wc.heap.size wc u → ∃ z : PubZ p yb sb (.slice pv M.length cv) y kk (.slice A S1.length ca) (.slice B P1.length cb), u = z.at' from fun u hu =>
                ⟨⟨u, (hu.cell (p := ⟨p, 6, none⟩) HFD.out.own.lt).trans r0, (hu.cell (p := ⟨yb, 0, none⟩) HYD.out.lt).trans r1, (hu.cell (p := ⟨yb, 1, none⟩) HYD.out.lt).trans r2, (hu.cell (p := ⟨yb, 2, none⟩) HYD.out.lt).trans r3, (hu.cell (p := ⟨sb, 0, none⟩) HSD.out.lt).trans r4, (hu.cell (p := ⟨sb, 1, none⟩) HSD.out.lt).trans r5, (hu.cell (p := ⟨sb, 2, none⟩) HSD.out.lt).trans r6⟩, rfl⟩)
              clear z0 z1 z2 z3 z4 z5 z6 zn
              refine wpSeq_one rfl (fun K' hK => ?_)
              go_wp2
              refine hK _ _ (HZZ.out _ (Below.refl _ _).drew) ?_
              clear hK K'
              refine wpSeq_one rfl (fun K' hK => ?_)
              go_wp2
              refine hK _ _ (HZZ.out _ ((Below.refl _ _).alloc (Nat.le_refl _) _).drew) ?_
              clear hK K'
              refine wpSeq_one rfl (fun K' hK => ?_)
              refine wpList_append_cells rfl (.tmp 120) (.tmp 124) 38 rfl 57 Tryz.underlying38 _ 6 96 infoSg rfl (by decide) (by decide) (p + 1) (.slice pv M.length cv) M.length (sgCells M) rfl (HFD.out.row.drew.alloc _) (by have := HFD.out.own.lt; simp; omega) (by have := HME.out; omega) [.int .i64 y.epoch, .string y.root, .string y.prev, .int .i64 kk, .slice A S1.length ca, .slice B P1.length cb] rfl (by intro u hu; simp at hu; rcases hu with rfl | rfl | rfl | rfl | rfl | rfl <;> rfl) wc.heap.size rfl 57 (heap_alloc_new _ _) ?_
              intro v7 w7 hrow7 hgrow7 hmove7
              obtain ⟨q7, cap7, rfl⟩ := hrow7.out.any
              have HSN := Lib.hid (show nextSgn d = ⟨y, kk, S1, P1⟩ by
                unfold nextSgn signOf
                rw [HRA.out, HHE.out]
                show (⟨(nextAns H root).1, _, _, _⟩ : Sgn) = _
                rw [HNA.out]
                show (⟨y, (sealAns (dirSeed d.secret) (d.eps.length : Int) (headMarkAns y).1).1, (sealAns (dirSeed d.secret) (d.eps.length : Int) (headMarkAns y).1).2.1, (sealAns (dirSeed d.secret) (d.eps.length : Int) (headMarkAns y).1).2.2.1⟩ : Sgn) = _
                rw [HMA.out, ← HME.out, HSA.out])
              have HPUB := Lib.hid (published (F := F) (w := w) (wc := wc.drew) (d := settled d) (m := ⟨⟨y, kk, S1, P1⟩, A, ca, B, cb⟩) (N := wB.heap.size) (HFD.out.same ⟨Nat.le_refl _, fun _ _ => rfl⟩) HOD.out.drew HGR.out HZD.out.drew (HSTA.out.below (Below.refl _ _).drew) (HSTB.out.below (Below.refl _ _).drew) HCAP.out HAA.out HAB.out
                (fun k hk => Nat.lt_of_lt_of_le (HF5.out.lt k hk) HBB.out.size) (Nat.lt_of_lt_of_le HZ5.out.lt HBB.out.size) (fun hk => by
                  rcases hk with hk | hk
                  · have := HD.out.lt _ hk; omega
                  · have := HM1.out; omega) hrow7.out hgrow7.out hmove7.out HNB.out HD.out.fp HD.out.fv)
              have HBLK := Lib.hid (show ∀ k, k < wc.heap.size → (Value.slice pv M.length cv).ownBlock ≠ some k → w7.heap[k]? = wc.heap[k]? from fun k hk hv =>
                (hgrow7.out.block k (by simp; omega) (fun e => hv e.symm)).trans ((alloc_below wc.drew _).block k hk))
              have HVO := Lib.hid (show ∀ k, w.heap.size ≤ k → (Value.slice pv M.length cv).ownBlock ≠ some k from fun k hk e => by have := HD.out.lt k (HD.out.fv k e); omega)
              have HWB := Lib.hid (show w.heap.size < wr.heap.size ∧ wr.heap.size ≤ wB.heap.size ∧ wr.heap.size ≤ yb ∧ wB.heap.size ≤ sb from ⟨HZ5.out.lt, HBB.out.size, HYL.out, hsb⟩)
              have HZ7 := Lib.hid (show ∃ z : PubZ p yb sb (.slice pv M.length cv) y kk (.slice A S1.length ca) (.slice B P1.length cb), w7 = z.at' from by
                have e1 := HWB.out
                have b1 := HBLK.out p HFD.out.own.lt HPV.out
                have b2 := HBLK.out yb HYD.out.lt (HVO.out yb (by omega))
                have b3 := HBLK.out sb HSD.out.lt (HVO.out sb (by omega))
                exact ⟨⟨w7, (World.cell?_of_block (w := wc) (a := ⟨p, 6, none⟩) b1).trans r0, (World.cell?_of_block (w := wc) (a := ⟨yb, 0, none⟩) b2).trans r1, (World.cell?_of_block (w := wc) (a := ⟨yb, 1, none⟩) b2).trans r2, (World.cell?_of_block (w := wc) (a := ⟨yb, 2, none⟩) b2).trans r3, (World.cell?_of_block (w := wc) (a := ⟨sb, 0, none⟩) b3).trans r4, (World.cell?_of_block (w := wc) (a := ⟨sb, 1, none⟩) b3).trans r5, (World.cell?_of_block (w := wc) (a := ⟨sb, 2, none⟩) b3).trans r6⟩, rfl⟩)
              have HP7 := Lib.hid (show Holds w7 p 7 (rdF rb bb m1' m2 m3 d.secret (.slice pv M.length cv)) 40 from by
                have h1 := HFD.out.own
                unfold Holds at h1 ⊢
                rw [HBLK.out p HFD.out.own.lt HPV.out]; exact h1)
              have HY8 := Lib.hid (show Holds (w7.setCell ⟨p, 6, none⟩ (.slice q7 (M.length + 1) cap7)) yb 3 (hdF y) 52 from by
                have h1 := HYD.out
                have e1 := HWB.out
                have e2 := HFD.out.own.lt
                have e3 := HF5.out.lt _ HF5.out.fp
                unfold Holds at h1 ⊢
                rw [Below.heap_setCell _ _ _ _ (show yb ≠ p by omega), HBLK.out yb HYD.out.lt (HVO.out yb (by omega))]; exact h1)
              have HS8 := Lib.hid (show Holds (w7.setCell ⟨p, 6, none⟩ (.slice q7 (M.length + 1) cap7)) sb 3 (slF kk (.slice A S1.length ca) (.slice B P1.length cb)) 55 from by
                have h1 := HSD.out
                have e1 := HWB.out
                have e3 := HF5.out.lt _ HF5.out.fp
                unfold Holds at h1 ⊢
                rw [Below.heap_setCell _ _ _ _ (show sb ≠ p by omega), HBLK.out sb HSD.out.lt (HVO.out sb (by omega))]; exact h1)
              have HZ8 := Lib.hid (show Holds (w7.setCell ⟨p, 6, none⟩ (.slice q7 (M.length + 1) cap7)) w.heap.size 6 (sgF noHd 0 (.slice none 0 0) (.slice none 0 0)) 57 from by
                have h1 := HZD.out
                have e3 := HD.out.lt _ HD.out.fp
                unfold Holds at h1 ⊢
                rw [Below.heap_setCell _ _ _ _ (show w.heap.size ≠ p by omega), HBLK.out _ HZD.out.lt (HVO.out _ (Nat.le_refl _))]; exact h1)
              have t6 : w7.cell? ⟨p, 6, none⟩ = some (.slice pv M.length cv) := HP7.out.cell 6 (by omega)
              have t6f : w7.frozen? ⟨p, 6, none⟩ = false := HP7.out.free 6
              clear r0 r1 r2 r3 r4 r5 r6
              refine hK _ _ HZ7.out ?_
              clear hK K'
              refine wpSeq_one rfl (fun K' hK => ?_)
              go_wp2
              refine hK _ _ HZ7.out ?_
              clear hK K'
              refine wpSeq_one rfl (fun K' hK => ?_)
              go_wp2
              refine hK _ _ HZ7.out ?_
              clear hK K'
              refine wpSeq_last rfl (fun K' hK => ?_)
              go_wp2
              refine hK _ _ ?_
              clear hK K' t6 t6f
              generalize w7.setCell ⟨p, 6, none⟩ (.slice q7 (M.length + 1) cap7) = w8 at HPUB HY8 HS8 HZ8 ⊢
              have y0 : w8.cell? ⟨yb, 0, none⟩ = some (.int .i64 y.epoch) := HY8.out.cell 0 (by omega)
              have y1 : w8.cell? ⟨yb, 1, none⟩ = some (.string y.root) := HY8.out.cell 1 (by omega)
              have y2 : w8.cell? ⟨yb, 2, none⟩ = some (.string y.prev) := HY8.out.cell 2 (by omega)
              have s0 : w8.cell? ⟨sb, 0, none⟩ = some (.int .i64 kk) := HS8.out.cell 0 (by omega)
              have s1 : w8.cell? ⟨sb, 1, none⟩ = some (.slice A S1.length ca) := HS8.out.cell 1 (by omega)
              have s2 : w8.cell? ⟨sb, 2, none⟩ = some (.slice B P1.length cb) := HS8.out.cell 2 (by omega)
              have p0 : w8.cell? ⟨w.heap.size, 0, none⟩ = some (.int .i64 0) := HZ8.out.cell 0 (by omega)
              have p1 : w8.cell? ⟨w.heap.size, 1, none⟩ = some (.string ⟨#[]⟩) := HZ8.out.cell 1 (by omega)
              have p2 : w8.cell? ⟨w.heap.size, 2, none⟩ = some (.string ⟨#[]⟩) := HZ8.out.cell 2 (by omega)
              have p3 : w8.cell? ⟨w.heap.size, 3, none⟩ = some (.int .i64 0) := HZ8.out.cell 3 (by omega)
              have p4 : w8.cell? ⟨w.heap.size, 4, none⟩ = some (.slice none 0 0) := HZ8.out.cell 4 (by omega)
              have p5 : w8.cell? ⟨w.heap.size, 5, none⟩ = some (.slice none 0 0) := HZ8.out.cell 5 (by omega)
              have f0 : w8.frozen? ⟨w.heap.size, 0, none⟩ = false := HZ8.out.free 0
              have f1 : w8.frozen? ⟨w.heap.size, 1, none⟩ = false := HZ8.out.free 1
              have f2 : w8.frozen? ⟨w.heap.size, 2, none⟩ = false := HZ8.out.free 2
              have f3 : w8.frozen? ⟨w.heap.size, 3, none⟩ = false := HZ8.out.free 3
              have f4 : w8.frozen? ⟨w.heap.size, 4, none⟩ = false := HZ8.out.free 4
              have f5 : w8.frozen? ⟨w.heap.size, 5, none⟩ = false := HZ8.out.free 5
              go_wp2
              have hh := h
              unfold publishAns at hh
              rw [if_pos h8, HSN.out] at hh
              simp only [Prod.mk.injEq] at hh
              obtain ⟨rfl, rfl, rfl⟩ := hh
              obtain ⟨F', g1, g2, g3, g4, g5⟩ := HPUB.out
              refine bodyPost_ret (results_row2 rfl _ _ w.heap.size 57 (arr 6 (sgF y kk (.slice A S1.length ca) (.slice B P1.length cb))) (0, 0) _ rfl g5 Tryz.underlying57 rfl (by rw [arr_size]; exact infoSg6)) rfl ?_
              exact ⟨⟨⟨y, kk, S1, P1⟩, A, ca, B, cb⟩, F', rfl, rfl, g1, g2, g3, g4⟩
    · intro s x w3 cnt' hlk hns hgood HR3 HC3 HG3 HS3 hen
      have hen' : (Instr.entry (.pointer (some ⟨r, 0, none⟩))).run Tryz.prog w3 = .ok (.tuple #[.string s, .string x]) w3 := hen
      have HRN2 := Lib.hid (show ¬ F r from fun h => absurd (HD.out.lt r h) (by have := HRN.out; omega))
      have HD3 := Lib.hid (show RDirM F w3 p rb (midDst d ((M.length : Int) + 1) S) bb g m1 m2 m3 (.slice pv M.length cv) M from HRD.out.same ⟨HG3.out.size, fun k hk => HG3.out.block k (HRD.out.lt k hk) (fun e => by cases e; exact HRN2.out hk)⟩)
      have HSS := Lib.hid (show s.size ≤ 1000000 from HRG.out.short _ (look_mem hlk))
      have HLK := Lib.hid hlk
      have HLV := Lib.hid (show (midDst d ((M.length : Int) + 1) S).vals.length ≤ 1000000 by
        have h1 := upsAll_len d.vals (valsFor d S)
        have h2 := HRG.out.room
        rw [show (valsFor d S).length = S.length from List.length_map _] at h1
        show (upsAll d.vals (valsFor d S)).length ≤ _
        omega)
      have HLS := Lib.hid (show (midDst d ((M.length : Int) + 1) S).since.length ≤ 1000000 by
        have h1 := upsAll_len d.since (sinceFor ((M.length : Int) + 1) S)
        have h2 := HRG.out.room
        rw [show (sinceFor ((M.length : Int) + 1) S).length = S.length from List.length_map _] at h1
        show (upsAll d.since (sinceFor ((M.length : Int) + 1) S)).length ≤ _
        omega)
      obtain ⟨v0, st0, wa, ha1, hga, hza, hstA⟩ := (show MapIs kS w3.drew m2 (midDst d ((M.length : Int) + 1) S).vals from HD3.out.vals.block rfl).entry (HLV.out) HSS.out (y := x) hgood
      obtain ⟨wb, hb1, hmb, hgb, hzb⟩ := hstA wa rfl
      have ha1' : (Instr.mapEntry 36 (.map (some m2)) (.string s)).run Tryz.prog w3.drew = .ok (.tuple #[v0, .int .i64 (st0 : Int)]) wa := ha1
      have hb1' : (Instr.entryStore 36 (.map (some m2)) (.int .i64 (st0 : Int)) (.string x)).run Tryz.prog wa = .ok () wb := hb1
      have HDB := Lib.hid (show RDirM F wb p rb { midDst d ((M.length : Int) + 1) S with vals := ups (midDst d ((M.length : Int) + 1) S).vals s x } bb g m1 m2 m3 (.slice pv M.length cv) M from
        ((show RDirM F w3.drew p rb (midDst d ((M.length : Int) + 1) S) bb g m1 m2 m3 (.slice pv M.length cv) M from HD3.out.same ⟨Nat.le_refl _, fun _ _ => rfl⟩).put2 (w' := wb) (hga.andThen hgb (fun j hj => .inr hj)) hmb))
      obtain ⟨v1, st1, wd, hd1, hgd, hzd, hstD⟩ := HDB.out.since.entry HLS.out HSS.out (y := (M.length : Int) + 1) (show (Lit.int .i64 ((M.length : Int) + 1)).wf = true from WalkArith.wf_i64 (by have := HME.out; omega))
      obtain ⟨we, he1, hme, hge, hze⟩ := hstD wd rfl
      have hd1' : (Instr.mapEntry 37 (.map (some m3)) (.string s)).run Tryz.prog wb = .ok (.tuple #[v1, .int .i64 (st1 : Int)]) wd := hd1
      have he1' : (Instr.entryStore 37 (.map (some m3)) (.int .i64 (st1 : Int)) (.int .i64 ((M.length : Int) + 1))).run Tryz.prog wd = .ok () we := he1
      have k4 : w3.cell? ⟨p, 4, none⟩ = some (.map (some m2)) := HD3.out.own.cell 4 (by omega)
      have k5 : w3.cell? ⟨p, 5, none⟩ = some (.map (some m3)) := HD3.out.own.cell 5 (by omega)
      have hp2 : p ≠ m2 := holds_map HD3.out.own HD3.out.vals
      have k5a : wa.cell? ⟨p, 5, none⟩ = some (.map (some m3)) := (World.cell?_of_block (w := w3) (a := ⟨p, 5, none⟩) (hga.block p HD3.out.own.lt (by simpa using hp2))).trans k5
      have k5b : wb.cell? ⟨p, 5, none⟩ = some (.map (some m3)) := HDB.out.own.cell 5 (by omega)
      have HLKG := Lib.hid (show (look d.wait s).getD ⟨#[]⟩ = x by rw [HLK.out]; rfl)
      have HDE := Lib.hid (show RDirM F we p rb (midDst d ((M.length : Int) + 1) (S ++ [s])) bb g m1 m2 m3 (.slice pv M.length cv) M by
        have h := HDB.out.put3 (w' := we) (hgd.andThen hge (fun j hj => .inr hj)) hme
        unfold midDst at h ⊢
        rw [valsFor_snoc, sinceFor_snoc, upsAll_snoc, upsAll_snoc, HLKG.out]
        exact h)
      have HOE := Lib.hid (show Off F w we from
        ((((HO.out.trans (Off.of_grown HG3.out (F := fun k => k = r) (fun k hk => by cases hk; rfl)) (fun i hi e => absurd hi (by subst e; have := HRN.out; omega))).drew).trans (Off.of_grown (hga.andThen hgb (fun j hj => .inr hj)) (F := F) (fun k hk => by cases hk; exact HD.out.f2)) (fun _ _ h => h)).trans (Off.of_grown (hgd.andThen hge (fun j hj => .inr hj)) (F := F) (fun k hk => by cases hk; exact HD.out.f3)) (fun _ _ h => h)))
      have hz3 : Holds w3 w.heap.size 6 (sgF noHd 0 (.slice none 0 0) (.slice none 0 0)) 57 := grown_keeps HZR.out HG3.out (by have := HSZ.out; omega)
      have hzb2 : Holds wb w.heap.size 6 (sgF noHd 0 (.slice none 0 0) (.slice none 0 0)) 57 := grown_keeps hz3.drew (hga.andThen hgb (fun j hj => .inr hj)) (by have := HD.out.lt _ HD.out.f2; omega)
      have HZE := Lib.hid (show Holds we w.heap.size 6 (sgF noHd 0 (.slice none 0 0) (.slice none 0 0)) 57 from grown_keeps hzb2 (hgd.andThen hge (fun j hj => .inr hj)) (by have := HD.out.lt _ HD.out.f3; omega))
      clear hz3 hzb2
      have hr2 : r ≠ m2 := fun e => HRN2.out (e ▸ HD.out.f2)
      have hr3 : r ≠ m3 := fun e => HRN2.out (e ▸ HD.out.f3)
      have HRE := Lib.hid (show Rng kS we m1 r d.wait (S ++ [s]) cnt' from by
        have hrl := HR3.out.lt
        have hml := HR3.out.map.lt
        have n12 := HD.out.n12
        have n13 := HD.out.n13
        refine HR3.out.block ?_ ?_
        · exact (((hgd.andThen hge (fun j hj => .inr hj)).block m1 (by rw [hzb, hza]; exact hml) (by simpa using n13)).trans ((hga.andThen hgb (fun j hj => .inr hj)).block m1 hml (by simpa using n12)))
        · exact (((hgd.andThen hge (fun j hj => .inr hj)).block r (by rw [hzb, hza]; exact hrl) (by simpa using hr3)).trans ((hga.andThen hgb (fun j hj => .inr hj)).block r hrl (by simpa using hr2))))
      clear hen ha1 hb1 hd1 he1 hstA hstD hlk hns hgood hr2 hr3 hza hzb hzd hze hmb hme
      go_upto_region 7 with (fail)
      go_region_with (fail)
      all_goals
        go_wp2
        go_roundw
        case rel => exact ⟨S ++ [s], cnt', HRE.out, HDE.out, HOE.out, HZE.out⟩
        case measure => rw [HRE.out.left_eq, HRG.out.left_eq]; exact HC3.out
end Go.Proofs.YtgjmbokfenpefaaGreatDoor
