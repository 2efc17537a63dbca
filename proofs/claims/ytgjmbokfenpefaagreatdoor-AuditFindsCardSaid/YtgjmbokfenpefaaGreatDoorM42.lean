/- Parts of the proof, one behind the other: RDirI2, RDirW. -/
import Derived.WalkKit
import Derived.Lib.Hide
import Derived.WalkLawsBesides
import Derived.Deep.QuietTactic
import Derived.Deep.WholeRow
import Derived.ArgAppend
import Derived.Laws.AppendOwnNone
import Derived.Laws.CopyRow
import Derived.Deep.RegionLaw
import Derived.Laws.BytesString
import Derived.Laws.IdiomStrings
import Derived.Test.YtgjmbokfenpefaaGreatDoorProg
import Derived.StringKeys
import Derived.Maps.Own
import Derived.Maps.Views
import Derived.Maps.OwnSet
import Derived.Maps.OwnOps
import Derived.Maps.RangeWalk
import Derived.Sort.KeysCollected
import Derived.Laws.BitsAllLaws
import Derived.Outline
import Derived.BigQuiet
import Derived.Laws.CopyOwn
import Derived.RegionTactic
import Derived.StillTail
import Derived.Deep.Quiet
import Derived.Deep.RegionHeld3
import Derived.Deep.DeepCutAuto
import Derived.Laws.ResultCell
import Derived.IntWalk
import Derived.Sort.Walk0
import Derived.Tactics
import Derived.Orders
import Derived.LaidEql
import Derived.Stop.Asserts
import Derived.RowKitTokens
import Derived.OrdersHeld
import Derived.Sort.LotA
import Derived.Lib.SortBridge
import Derived.Shelf.SlSortFuncK.WholeK
import Derived.Ground.GgsProg
import Derived.Shelf.GgSortFunc.Tiny
import Derived.Shelf.Strings.Repeat
import Derived.KernelRfl
import Derived.WideKeyEntry
import Derived.Deep.CutRange
import Derived.Test.YtgjmbokfenpefaaGreatDoorM1
import Derived.Test.YtgjmbokfenpefaaGreatDoorM2
import Derived.Test.YtgjmbokfenpefaaGreatDoorM3
import Derived.Test.YtgjmbokfenpefaaGreatDoorM4
import Derived.Test.YtgjmbokfenpefaaGreatDoorM5
import Derived.Test.YtgjmbokfenpefaaGreatDoorM6
import Derived.Test.YtgjmbokfenpefaaGreatDoorM7
import Derived.Test.YtgjmbokfenpefaaGreatDoorM8
import Derived.Test.YtgjmbokfenpefaaGreatDoorM16
import Derived.Test.YtgjmbokfenpefaaGreatDoorM33
import Derived.Test.YtgjmbokfenpefaaGreatDoorM34
import Derived.Test.YtgjmbokfenpefaaGreatDoorM35
import Derived.Test.YtgjmbokfenpefaaGreatDoorM36
import Derived.Test.YtgjmbokfenpefaaGreatDoorM37
import Derived.Test.YtgjmbokfenpefaaGreatDoorM38
import Derived.Test.YtgjmbokfenpefaaGreatDoorM39
import Derived.Test.YtgjmbokfenpefaaGreatDoorM40
import Derived.Test.YtgjmbokfenpefaaGreatDoorM41
/- The document's items of a directory: the walk. -/
namespace Go.Proofs.YtgjmbokfenpefaaGreatDoor
open Go.RowKit Go.Maps

def itemsFor (d : Dst) (S : List ByteArray) : List It := S.map fun s => itemOf d (s, (look d.vals s).getD ⟨#[]⟩)
theorem itemsFor_len (d : Dst) (S : List ByteArray) : (itemsFor d S).length = S.length := by simp [itemsFor]
theorem itemsFor_snoc (d : Dst) (S : List ByteArray) (s : ByteArray) : itemsFor d (S ++ [s]) = itemsFor d S ++ [itemOf d (s, (look d.vals s).getD ⟨#[]⟩)] := by simp [itemsFor]
theorem itemsFor_perm {d : Dst} {S : List ByteArray} (hk : (keysL d.vals).Nodup) (h : S.Perm (keysL d.vals)) : (itemsFor d S).Perm (itemsRaw d) := by
  refine (h.map _).trans ?_
  unfold itemsRaw keysL
  rw [List.map_map]
  refine List.Perm.of_eq (List.map_congr_left fun p hp => ?_)
  show itemOf d (p.1, (look d.vals p.1).getD ⟨#[]⟩) = itemOf d p
  rw [look_of_mem hk (s := p.1) (x := p.2) hp]; rfl
set_option maxRecDepth 100000 in
set_option maxHeartbeats 2000000 in
theorem refItems_is (F : Nat → Prop) (p rb : Nat) (d : Dst) (w : World) (hd : RDir F w p rb d) (hr : Holds w rb 72 refCells 97) (hs : d.secret.size ≤ 1000000) (hl : d.vals.length ≤ 100000) :
    Calls Tryz.prog 68 #[.pointer (some ⟨p, 0, none⟩)] w fun e w' => ∃ A cap, ∃ L : List It, e = .returned (.slice A L.length cap) ∧ Itms w' A L ∧ L.Perm (itemsRaw d) ∧ L.Pairwise leI ∧ Below w.heap.size w w' := by
  have HDD := Lib.hid hd
  obtain ⟨bb, g, m1, m2, m3, v, M, hd⟩ := hd
  have HD := Lib.hid hd
  have HR := Lib.hid hr
  have HS := Lib.hid hs
  have HL := Lib.hid hl
  have c4 : (w.alloc (.cells #[.slice none 0 0] 155)).cell? ⟨p, 4, none⟩ = some (.map (some m2)) := ((alloc_below w _).cell (p := ⟨p, 4, none⟩) hd.own.lt).trans (hd.own.cell 4 (by omega))
  have HMV := Lib.hid (hd.vals.block ((alloc_below w (.cells #[.slice none 0 0] 155)).block _ hd.vals.lt))
  have HI0 := Lib.hid (show ItRel w.heap.size w (w.alloc (.cells #[.slice none 0 0] 155)) [] (.slice none 0 0) from ⟨alloc_below _ _, Nat.le_refl _, Holds.new w 1 (fun _ => .slice none 0 0) _, Row.nil _ _ _⟩)
  clear hd hr hs hl
  go_enter Tryz.func68, Tryz.ntmps68
  go_wp2_with (first | (at_range; refine wpList_mapRange kS rfl (.tmp 13) rfl m2 d.vals rfl HMV.out ?_; intro w2 hrg2 hg2 hs2))
  go_frame
  have HI2 := Lib.hid (HI0.out.later (grownBy.below hg2.out (Nat.le_refl _) (fun k hk => by cases hk)))
  have HR2 := Lib.hid (show Rng kS w2 m2 (w.heap.size + 1) d.vals [] d.vals.length from by have := hrg2.out; rwa [World.size_alloc] at this)
  clear c4 hg2 hs2 hrg2 HMV HI0
  rw [show (w.alloc (.cells #[.slice none 0 0] 155)).heap.size = w.heap.size + 1 by simp]
  obtain ⟨lb, hlb⟩ : ∃ lb, w.heap.size = lb := ⟨_, rfl⟩
  obtain ⟨r, hr⟩ : ∃ r, lb + 1 = r := ⟨_, rfl⟩
  rw [hlb, hr] at HR2
  rw [hlb] at HI2
  rw [hlb, hr]
  have HLB := Lib.hid hlb
  have HRR := Lib.hid hr
  clear hlb hr
  go_loopw [4, 5, 6, 7, 8, 9] (fun _ _ _ _ _ _ wr => ∃ S cnt v, Rng kS wr m2 r d.vals S cnt ∧ ItRel lb w wr (itemsFor d S) v) (fun _ _ _ _ _ _ wr => wr.rangeLeft m2 r)
  case atStart => exact ⟨[], _, _, HR2.out, HI2.out⟩
  case round =>
    clear HR2 HI2
    obtain ⟨S, cnt, v, hr, hi⟩ := hrel
    have HRG := Lib.hid hr
    have HI := Lib.hid hi
    clear hr hi
    go_wp2_with (first | (at_next; refine wpList_mapNext kS rfl (.tmp 14) rfl m2 r d.vals S cnt rfl HRG.out ?_ ?_))
    · intro hperm
      obtain ⟨K, hK⟩ : ∃ K, itemsFor d S = K := ⟨_, rfl⟩
      have HKP := Lib.hid (show K.Perm (itemsRaw d) by rw [← hK]; exact itemsFor_perm HRG.out.keys hperm)
      have hi := HI.out
      rw [hK] at hi
      have HKI := Lib.hid hi
      have HLS := Lib.hid (show K.length ≤ 1000000 by rw [← hK, itemsFor_len]; have := HRG.out.room; have := HL.out; omega)
      clear hi hK hperm HI
      by_cases h0 : K.length = 0
      · obtain rfl : K = [] := List.eq_nil_of_length_eq_zero h0
        obtain ⟨av, cv, rfl⟩ := HKI.out.row.any
        have q0 : wr.cell? ⟨lb, 0, none⟩ = some (.slice av 0 cv) := HKI.out.own.cell 0 (by omega)
        go_wp2_with fail
        refine (sort2_none av cv lb _).mono ?_
        rintro e w5 ⟨rfl, hg5⟩
        have hb5 : Below wr.heap.size wr w5 := grownBy.below hg5 (Nat.le_refl _) (fun k hk => by cases hk)
        have HI5 := Lib.hid (HKI.out.later hb5)
        have q5 : w5.cell? ⟨lb, 0, none⟩ = some (.slice av 0 cv) := HI5.out.own.cell 0 (by omega)
        clear hg5 hb5 q0
        go_wp2
        go_ret
        exact ⟨av, cv, [], rfl, Itms.nil _ _, HKP.out, List.Pairwise.nil, HI5.out.below⟩
      · obtain ⟨g', cg, rfl, hgb, _, _, _⟩ := HKI.out.row.shape (by omega)
        have q0 : wr.cell? ⟨lb, 0, none⟩ = some (.slice (some ⟨g', 0, none⟩) K.length cg) := HKI.out.own.cell 0 (by omega)
        have key := sort2_row (lb + 2) g' cg lb K _ HKI.out.row (by omega) HLS.out q0 (by omega)
        go_wp2_with fail
        refine key.mono ?_
        clear key
        rintro e w5 ⟨rfl, L, hperm, hrise, hrow5, hg5⟩
        have hown5 : Holds w5 lb 1 (fun _ => .slice (some ⟨g', 0, none⟩) K.length cg) 155 := by
          have h := HKI.out.own
          have hl := h.lt
          unfold Holds at h ⊢
          rw [hg5.block lb hl (fun e => by cases e; omega)]; exact h
        have q5 := hown5.cell 0 (by omega)
        have HB5 := Lib.hid (HKI.out.below.grown hg5 HKI.out.below.size (fun c hc => by cases hc; have := HKI.out.lt; omega))
        have HPM := Lib.hid (hperm.trans HKP.out)
        have HRS := Lib.hid hrise
        have HLL := Lib.hid hperm.length_eq
        have HRW := Lib.hid hrow5
        clear hown5 hperm hrise hrow5 hg5 q0
        go_wp2
        go_ret
        obtain ⟨_, A', c', h2, h3⟩ := HRW.out.itms
        injection h2 with e1 e2 e3
        subst e1
        exact ⟨_, cg, L, by rw [HLL.out]; rfl, h3, HPM.out, HRS.out, HB5.out⟩
    · intro s x w3 cnt' hlk hns hgood HR3 HC3 HG3 HS3 hen
      have hen' : (Instr.entry (.pointer (some ⟨r, 0, none⟩))).run Tryz.prog w3 = .ok (.tuple #[.string s, .string x]) w3 := hen
      have HSS := Lib.hid (show s.size ≤ 1000000 from HRG.out.short _ (look_mem hlk))
      have HLK := Lib.hid hlk
      have HI3 := Lib.hid (HI.out.other HG3.out HRR.out.symm)
      have c0 : w3.cell? ⟨p, 0, none⟩ = some (.pointer (some ⟨rb, 0, none⟩)) := (HI3.out.below.cell (p := ⟨p, 0, none⟩) HD.out.own.lt).trans (HD.out.own.cell 0 (by omega))
      obtain ⟨ix, no, hof⟩ : ∃ ix no, ofAns s = (ix, no) := ⟨_, _, rfl⟩
      have HOF := Lib.hid hof
      clear hen hgood hns hlk hof HS3
      go_wp2_with fail
      refine (refOf_is rb s ix no _ (HR.out.below HI3.out.below HR.out.lt) HSS.out HOF.out).mono ?_
      rintro e w4 ⟨rfl, hb4⟩
      have HI4 := Lib.hid (HI3.out.later hb4)
      have HR4 := Lib.hid (HR3.out.block (hb4.block _ HR3.out.map.lt) (hb4.block _ HR3.out.lt))
      clear c0 hb4
      obtain ⟨cm, nc, hcm⟩ : ∃ cm nc, commitAns (openOf d s) x = (cm, nc) := ⟨_, _, rfl⟩
      have HCM := Lib.hid hcm
      clear hcm
      have z0 : ∀ z : Later w4.heap.size w4, z.at'.cell? ⟨p, 0, none⟩ = some (.pointer (some ⟨rb, 0, none⟩)) := fun z => ((HI4.out.below.trans (z.below.mono HI4.out.below.size)).cell (p := ⟨p, 0, none⟩) HD.out.own.lt).trans (HD.out.own.cell 0 (by omega))
      have HOP := Lib.hid (show ∀ z : Later w4.heap.size w4, Calls Tryz.prog 110 #[.pointer (some ⟨p, 0, none⟩), .string s] z.at' fun e w' => e = .returned (.string (openOf d s)) ∧ Below z.at'.heap.size z.at' w' from fun z =>
        refOpening_is F p rb d s _ (HDD.out.below (HI4.out.below.trans (z.below.mono HI4.out.below.size))) (HR.out.below (HI4.out.below.trans (z.below.mono HI4.out.below.size)) HR.out.lt) HS.out HSS.out)
      have HCO := Lib.hid (show ∀ z : Later w4.heap.size w4, Calls Tryz.prog 109 #[.pointer (some ⟨rb, 0, none⟩), .string (openOf d s), .string x] z.at' fun e w' => e = .returned (.tuple #[.string cm, .int .i64 nc]) ∧ Below z.at'.heap.size z.at' w' from fun z =>
        refCommit_is rb (openOf d s) x cm nc _ (HR.out.below (HI4.out.below.trans (z.below.mono HI4.out.below.size)) HR.out.lt) HCM.out)
      have HIT := Lib.hid (show itemOf d (s, (look d.vals s).getD ⟨#[]⟩) = (ix, cm) by
        unfold itemOf
        rw [HLK.out]
        show ((ofAns s).1, (commitAns (openOf d s) x).1) = (ix, cm)
        rw [HOF.out, HCM.out])
      generalize openOf d s = op at HCM HOP HCO
      go_wp2
      refine wp_region_later (by kernel_rfl) (by kernel_rfl) ?_
      repeat (go_big_quiet_step ((first
        | (go_at_call 110; refine later_of (HOP.out _))
        | (go_at_call 109; refine later_of (HCO.out _)))))
      refine wpQuiet_nil ?_
      rintro w5 ⟨⟨w5, hb5⟩, rfl⟩
      have HI5 := Lib.hid (HI4.out.later hb5)
      have HR5 := Lib.hid (HR4.out.block (hb5.block _ HR4.out.map.lt) (hb5.block _ HR4.out.lt))
      clear z0 HOP HCO hb5
      obtain ⟨pv, cv, rfl⟩ := HI5.out.row.any
      have q0 : w5.cell? ⟨lb, 0, none⟩ = some (.slice pv (itemsFor d S).length cv) := HI5.out.own.cell 0 (by omega)
      have hol : lb < w5.heap.size := HI5.out.own.lt
      have HLS := Lib.hid (show (itemsFor d S).length ≤ 1000000 by rw [itemsFor_len]; have := HRG.out.room; have := HL.out; omega)
      go_wp2_with (first | (at_builtin; refine wpList_append_item rfl (.tmp 41) (.tmp 45) 155 rfl 59 Tryz.underlying155 _ 32 infoItem rfl (by decide) (lb + 2) (.slice pv (itemsFor d S).length cv) (itemsFor d S) rfl (HI5.out.row.alloc _) (by have := HR5.out.lt; have := HRR.out; simp; omega) (by have := HLS.out; omega) (ix, cm) w5.heap.size rfl 59 (heap_alloc_new _ _) ?_; intro v' w6 hrow6 hgrow6 hmove6; obtain ⟨p', cap', rfl⟩ := hrow6.out.any; have s0 := HI5.out.after hgrow6.out; have t0 := s0.cell 0 (by omega); have t1 := s0.free 0; clear s0))
      have HI6 := Lib.hid (HI5.out.put hrow6.out hgrow6.out)
      have HR6 := Lib.hid (show Rng kS (w6.setCell ⟨lb, 0, none⟩ (.slice p' (itemsFor d S ++ [(ix, cm)]).length cap')) m2 r d.vals (S ++ [s]) cnt' from by
        have h2 : m2 < lb := by have := HD.out.vals.lt; have := HLB.out; omega
        have h3 : lb < r := by have := HRR.out; omega
        have hb : ∀ k, k < w5.heap.size → k ≠ lb → k < lb + 2 → (w6.setCell ⟨lb, 0, none⟩ (.slice p' (itemsFor d S ++ [(ix, cm)]).length cap')).heap[k]? = w5.heap[k]? := fun k hk hne h2 =>
          (Below.heap_setCell _ _ _ _ hne).trans ((hgrow6.out.block k (by simp; omega) (fun e => by have := (HI5.out.row.lt k e.symm).1; omega)).trans (Below.heap_alloc _ _ _ hk))
        exact HR5.out.block (hb _ HR5.out.map.lt (by omega) (by omega)) (hb _ HR5.out.lt (by omega) (by have := HRR.out; omega)))
      have hi6 := HI6.out
      have hr6 := HR6.out
      rw [show (itemsFor d S ++ [(ix, cm)]).length = (itemsFor d S).length + 1 by simp] at hi6 hr6
      have HI7 := Lib.hid hi6
      have HR7 := Lib.hid hr6
      clear hi6 hr6
      go_roundw
      case rel =>
        exact ⟨S ++ [s], cnt', _, HR7.out, (show itemsFor d (S ++ [s]) = itemsFor d S ++ [(ix, cm)] by rw [itemsFor_snoc, HIT.out]) ▸ HI7.out⟩
      case measure => rw [HR7.out.left_eq, HRG.out.left_eq]; exact HC3.out
end Go.Proofs.YtgjmbokfenpefaaGreatDoor
/- One more epoch, written into a directory's memory. -/
namespace Go.Proofs.YtgjmbokfenpefaaGreatDoor
open Go.RowKit Go.Maps

theorem seal_stored {w1 w3 : World} {sb c c' : Nat} {kk : Int} {A B : Option Addr} {S P : List ByteArray} {f : Nat → Value} (hz : Holds w3 sb 3 f 55) (h1 : w1.heap.size ≤ sb) (hb : Below w1.heap.size w1 w3) (hs : Strs w3 A S) (hp : Strs w3 B P)
    (hx : ∀ a, A = some a → 0 < S.length → sb < a.block) (hy : ∀ a, B = some a → 0 < P.length → sb < a.block) :
    Below w1.heap.size w1 (((w3.setCell ⟨sb, 0, none⟩ (.int .i64 kk)).setCell ⟨sb, 1, none⟩ (.slice A S.length c)).setCell ⟨sb, 2, none⟩ (.slice B P.length c')) ∧
    Holds (((w3.setCell ⟨sb, 0, none⟩ (.int .i64 kk)).setCell ⟨sb, 1, none⟩ (.slice A S.length c)).setCell ⟨sb, 2, none⟩ (.slice B P.length c')) sb 3 (slF kk (.slice A S.length c) (.slice B P.length c')) 55 ∧
    Strs (((w3.setCell ⟨sb, 0, none⟩ (.int .i64 kk)).setCell ⟨sb, 1, none⟩ (.slice A S.length c)).setCell ⟨sb, 2, none⟩ (.slice B P.length c')) A S ∧
    Strs (((w3.setCell ⟨sb, 0, none⟩ (.int .i64 kk)).setCell ⟨sb, 1, none⟩ (.slice A S.length c)).setCell ⟨sb, 2, none⟩ (.slice B P.length c')) B P := by
  refine ⟨((hb.setCell (p := ⟨sb, 0, none⟩) h1 _).setCell (p := ⟨sb, 1, none⟩) h1 _).setCell (p := ⟨sb, 2, none⟩) h1 _, ?_, ((hs.keep ⟨sb, 0, none⟩ _ hx).keep ⟨sb, 1, none⟩ _ hx).keep ⟨sb, 2, none⟩ _ hx, ((hp.keep ⟨sb, 0, none⟩ _ hy).keep ⟨sb, 1, none⟩ _ hy).keep ⟨sb, 2, none⟩ _ hy⟩
  refine (((hz.set 0 _).set 1 _).set 2 _).congr fun i hi => ?_
  unfold upd slF
  rcases (show i = 0 ∨ i = 1 ∨ i = 2 by omega) with rfl | rfl | rfl <;> rfl
/-- Published: what the directory then is, and where the epoch's texts lie. -/
theorem published {F G : Nat → Prop} {w wc w7 : World} {X : Obj} {N p rb bb g m1 m2 m3 : Nat} {d : Dst} {v v' : Value} {M : List SgM} (h : RDirM G wc p rb d bb g m1 m2 m3 v M) (hO : Off F w wc) (hG : Grew w F G) (m : SgM) (hz : Holds wc w.heap.size 6 (sgF noHd 0 (.slice none 0 0) (.slice none 0 0)) 57)
    (hs : Strs wc m.A m.s.sig) (hp : Strs wc m.B m.s.path) (hk : m.s.sig.length ≤ m.ca) (ha : ∀ a, m.A = some a → 0 < m.s.sig.length → N ≤ a.block) (hb : ∀ a, m.B = some a → 0 < m.s.path.length → N ≤ a.block)
    (hN : ∀ k, G k → k < N) (hNw : w.heap.size < N) (hGz : ¬ G w.heap.size)
    (hrow : Row w7 (p + 1) 6 v' (M.length + 1) (sgCells M ++ m.cells)) (hg : (wc.alloc X).grownBy w7 v.ownBlock) (hm : Moved (wc.alloc X) v v') (hNu : N ≤ wc.heap.size) (hFp : F p) (hFv : ∀ k, v.ownBlock = some k → F k) :
    ∃ F', Off F w (put6 (w7.setCell ⟨p, 6, none⟩ v') w.heap.size m.s.head m.s.key (.slice m.A m.s.sig.length m.ca) (.slice m.B m.s.path.length m.cb)) ∧ Grew w F F' ∧
      RDir F' (put6 (w7.setCell ⟨p, 6, none⟩ v') w.heap.size m.s.head m.s.key (.slice m.A m.s.sig.length m.ca) (.slice m.B m.s.path.length m.cb)) p rb { d with eps := d.eps ++ [m.s] } ∧
      SgIn F' (put6 (w7.setCell ⟨p, 6, none⟩ v') w.heap.size m.s.head m.s.key (.slice m.A m.s.sig.length m.ca) (.slice m.B m.s.path.length m.cb)) m ∧
      Holds (put6 (w7.setCell ⟨p, 6, none⟩ v') w.heap.size m.s.head m.s.key (.slice m.A m.s.sig.length m.ca) (.slice m.B m.s.path.length m.cb)) w.heap.size 6 (sgF m.s.head m.s.key (.slice m.A m.s.sig.length m.ca) (.slice m.B m.s.path.length m.cb)) 57 := by
  have hP := h.pushed hN m hs hp hk ha hb hrow hg hm hNu
  have hsz : wc.heap.size < w7.heap.size := by have := hg.size; simp at this; omega
  have hpw : p ≠ w.heap.size := fun e => hGz (e ▸ h.fp)
  have hvw : v.ownBlock ≠ some w.heap.size := fun e => hGz (h.fv _ e)
  have hvw' : v'.ownBlock ≠ some w.heap.size := fun e => by
    rcases hm with e2 | e2
    · exact hvw (e2 ▸ e)
    · have := e2 _ e; simp at this; omega
  have hz7 : Holds (w7.setCell ⟨p, 6, none⟩ v') w.heap.size 6 (sgF noHd 0 (.slice none 0 0) (.slice none 0 0)) 57 := by
    unfold Holds at hz ⊢
    rw [Below.heap_setCell _ _ _ _ (Ne.symm hpw), hg.block _ (by simp; omega) (fun e => hvw e.symm), (alloc_below wc X).block _ (by omega)]
    exact hz
  have hO7 : Off F w (w7.setCell ⟨p, 6, none⟩ v') := ((hO.alloc X).trans (Off.of_grown hg (F := F) (fun k hk => hFv k hk)) (fun _ _ h => h)).setCell (.inr hFp) _
  have hbl := fun k hk => put6_block (w7.setCell ⟨p, 6, none⟩ v') w.heap.size m.s.head m.s.key (.slice m.A m.s.sig.length m.ca) (.slice m.B m.s.path.length m.cb) k hk
  have hz8 := put6_size (w7.setCell ⟨p, 6, none⟩ v') w.heap.size m.s.head m.s.key (.slice m.A m.s.sig.length m.ca) (.slice m.B m.s.path.length m.cb)
  have hS : Same (fun k => k ≠ w.heap.size) (w7.setCell ⟨p, 6, none⟩ v') (put6 (w7.setCell ⟨p, 6, none⟩ v') w.heap.size m.s.head m.s.key (.slice m.A m.s.sig.length m.ca) (.slice m.B m.s.path.length m.cb)) := ⟨by rw [hz8]; exact Nat.le_refl _, fun k hk => hbl k hk⟩
  have hFin := hP.same (hS.mono fun k hk => by rcases hk.1 with e | e; exact fun e2 => hGz (e2 ▸ e); omega)
  refine ⟨_, ?_, ?_, ⟨bb, g, m1, m2, m3, v', M ++ [m], hFin⟩, ?_, put6_holds hz7 _ _ _ _⟩
  · unfold put6
    exact (((((hO7.setCell (.inl (Nat.le_refl _)) _).setCell (.inl (Nat.le_refl _)) _).setCell (.inl (Nat.le_refl _)) _).setCell (.inl (Nat.le_refl _)) _).setCell (.inl (Nat.le_refl _)) _).setCell (.inl (Nat.le_refl _)) _
  · intro k hk
    rcases hk.1 with e | e
    · exact hG k e
    · right; omega
  · exact (hFin.sgs m (List.mem_append_right _ (List.mem_singleton.2 rfl))).mono fun k hk => hk.1
end Go.Proofs.YtgjmbokfenpefaaGreatDoor
