/- Parts of the proof, one behind the other: ForkT, Long, RHead, RepL, Rep, RNext, Root, KTab. -/
import Derived.WalkKit
import Derived.Lib.Hide
import Derived.WalkLawsBesides
import Derived.Deep.QuietTactic
import Derived.Deep.WholeRow
import Derived.ArgAppend
import Derived.Laws.AppendOwnNone
import Derived.Laws.CopyRow
import Derived.Deep.RegionLaw
import Derived.Laws.BytesString
import Derived.Laws.IdiomStrings
import Derived.Test.YtgjmbokfenpefaaGreatDoorProg
import Derived.Laws.BitsAllLaws
import Derived.Outline
import Derived.BigQuiet
import Derived.Laws.CopyOwn
import Derived.RegionTactic
import Derived.IntWalk
import Derived.Sort.Walk0
import Derived.Tactics
import Derived.Orders
import Derived.Deep.RegionHeld3
import Derived.Deep.DeepCutAuto
import Derived.Sort.LotA
import Derived.Lib.SortBridge
import Derived.Shelf.SlSortFuncK.WholeK
import Derived.Ground.GgsProg
import Derived.Shelf.GgSortFunc.Tiny
import Derived.StillTail
import Derived.Deep.Quiet
import Derived.Laws.ResultCell
import Derived.Shelf.Strings.Repeat
import Derived.KernelRfl
import Derived.Test.YtgjmbokfenpefaaGreatDoorM1
import Derived.Test.YtgjmbokfenpefaaGreatDoorM2
import Derived.Test.YtgjmbokfenpefaaGreatDoorM3
import Derived.Test.YtgjmbokfenpefaaGreatDoorM4
import Derived.Test.YtgjmbokfenpefaaGreatDoorM5
import Derived.Test.YtgjmbokfenpefaaGreatDoorM6
import Derived.Test.YtgjmbokfenpefaaGreatDoorM7
import Derived.Test.YtgjmbokfenpefaaGreatDoorM33
import Derived.Test.YtgjmbokfenpefaaGreatDoorM34
import Derived.Test.YtgjmbokfenpefaaGreatDoorM35
import Derived.Test.YtgjmbokfenpefaaGreatDoorM36
import Derived.Test.YtgjmbokfenpefaaGreatDoorM37
import Derived.Test.YtgjmbokfenpefaaGreatDoorM38
/- The document's forks: the library's sort. -/
namespace Go.Proofs.YtgjmbokfenpefaaGreatDoor
open Go.RowKit Go.Sort Go.Shelf

noncomputable def fvT : TypeInfo := (Tryz.prog.info? 70).get (by kernel_rfl)
noncomputable def fvE : TypeInfo := (Tryz.prog.info? 73).get (by kernel_rfl)
theorem fvK (n : Nat) (h2 : 2 ≤ n) : Lib.swapperK n fvE 25 = 9 := by
  have a : fvE.hasPointers = true := by kernel_rfl
  have b : fvE.bytes = 40 := by kernel_rfl
  have c : (n == 0) = false := by rw [beq_eq_false_iff_ne]; omega
  have d : (n == 1) = false := by rw [beq_eq_false_iff_ne]; omega
  simp [Lib.swapperK, a, b, c, d]
set_option maxHeartbeats 2000000 in
theorem less3_any (blk off c Bs size : Nat) (W : World) (G : Nat → Fk) (hs : W.cell? ⟨Bs, 0, none⟩ = some (.slice (some ⟨blk, off, none⟩) size c))
    (h0 : ∀ t, t < size → W.cell? ⟨blk, off + t * 3, none⟩ = some (.string (G t).a)) (h1 : ∀ t, t < size → W.cell? ⟨blk, off + t * 3 + 1, none⟩ = some (.string (G t).b)) (i j : Nat) (hi : i < size) (hj : j < size) (_hsz : size < 4611686018427387904) :
    Calls Tryz.prog 49 #[.int .i64 i, .int .i64 j, .pointer (some ⟨Bs, 0, none⟩)] W fun e w' => e = .returned (.bool (ltFB (G i) (G j))) ∧ ∃ q, w' = W.drewN q := by
  have ci := h0 i hi
  have cj := h0 j hj
  have di := h1 i hi
  have dj := h1 j hj
  have HE := Lib.hid (show ltFB (G i) (G j) = (Op.bytesLess (G i).a.toList (G j).a.toList || (((G i).a.toList == (G j).a.toList) && Op.bytesLess (G i).b.toList (G j).b.toList)) from by
    unfold ltFB ltStr
    rw [bytesLess_eq, bytesLess_eq, ByteArray.toList_eq, ByteArray.toList_eq, ByteArray.toList_eq, ByteArray.toList_eq])
  clear h0 h1
  generalize (G i).a = a1 at ci HE
  generalize (G j).a = a2 at cj HE
  generalize (G i).b = b1 at di HE
  generalize (G j).b = b2 at dj HE
  rw [HE.out]
  clear HE
  cases k1 : Op.bytesLess a1.toList a2.toList with
  | true =>
    go_enter Tryz.func49, Tryz.ntmps49
    go_wp2
    go_quiet (fail)
    go_wp2
    go_ret
    exact ⟨rfl, nq, rfl⟩
  | false =>
    cases k2 : (a1.toList == a2.toList) with
    | false =>
      go_enter Tryz.func49, Tryz.ntmps49
      go_wp2
      go_quiet (fail)
      go_wp2
      go_ret
      exact ⟨rfl, nq, rfl⟩
    | true =>
      go_enter Tryz.func49, Tryz.ntmps49
      go_wp2
      go_quiet (fail)
      go_wp2
      go_ret
      exact ⟨rfl, nq, rfl⟩
set_option maxRecDepth 100000 in
theorem sort3_any (blk off c Bs : Nat) (d : Array Fk) (h2 : 2 ≤ d.size) (hsz : d.size < 4611686018427387904) (w : World) (hH : HoldsK encF 3 w blk off d) (hblk : blk < w.heap.size)
    (hBs : w.cell? ⟨Bs, 0, none⟩ = some (.slice (some ⟨blk, off, none⟩) d.size c)) (hB1 : Bs < w.heap.size) (hB2 : Bs ≠ blk) :
    Calls Tryz.prog 48 #[.iface 70 (.slice (some ⟨blk, off, none⟩) d.size c), .func (.func 49) #[] #[.pointer (some ⟨Bs, 0, none⟩)]] w fun e w' =>
      e = .returned (.tuple #[]) ∧ ∃ d' n os, PermIn 0 d.size d d' ∧ SortedIn ltFB 0 d.size d' ∧ w' = grow (putRowK encF 3 (Sort.ahead w n) blk off d') os := by
  have hless : LessReadsK Tryz.prog 49 #[.pointer (some ⟨Bs, 0, none⟩)] encF 3 ltFB blk off d.size w := by
    intro m os dk hs i j hi hj
    have e : sortWorldK encF 3 w blk off m dk os = putRowK encF 3 (grow (Sort.ahead w m) os) blk off dk := by
      unfold sortWorldK; rw [putRowK_grow _ _ (Sort.ahead w m) _ blk off _ hblk]
    have hHg : HoldsK encF 3 (grow (Sort.ahead w m) os) blk off d := holdsK_grow _ _ _ _ blk off d hblk (holdsK_ahead _ _ _ _ _ _ _ hH)
    have key := less3_any blk off c Bs d.size (sortWorldK encF 3 w blk off m dk os) (fun t => dk[t]!) (by rw [e, cell?_putRowK_other _ _ _ blk off dk _ (by exact hB2), cell?_grow _ _ _ (by exact hB1)]; exact hBs)
      (fun t ht => by rw [e]; exact ((holdsK_putRowK _ _ _ blk off d dk hHg hs).cell (i := t) (c := 0) (by omega) (by omega)).1)
      (fun t ht => by rw [e]; exact ((holdsK_putRowK _ _ _ blk off d dk hHg hs).cell (i := t) (c := 1) (by omega) (by omega)).1) i j hi hj (by omega)
    refine key.mono fun ev w' ⟨he, hw⟩ => ⟨?_, hw⟩
    rw [he]
  have hf := fvK d.size h2
  exact Any.sort_Slice_cells_sorted Tryz.laysGg6 70 73 fvT fvE (by kernel_rfl) (by kernel_rfl) (by kernel_rfl) (by kernel_rfl) 25 (fun _ => by kernel_rfl) encF 3 (fun _ => rfl) (by kernel_rfl) (fun _ => by kernel_rfl)
    (fun x v hv => by simp [encF] at hv; rcases hv with rfl | rfl | rfl <;> rfl) ltFB swo_ltFB 49 _
    (enters_of Tryz.func49 (by kernel_rfl) rfl) blk off c d h2 hsz 130 (by rw [hf]; kernel_rfl) false
    (fun args W => run_callFunc_extern Tryz.func130 (by kernel_rfl) (by kernel_rfl) (by kernel_rfl) (e := Extern.ReflectliteSwapper.swap false) (by kernel_rfl) args W) w hless hH hblk
set_option maxRecDepth 100000 in
theorem sort3_row (base g cap Bs : Nat) (L : List Fk) (w : World) (hrow : Row w base 3 (.slice (some ⟨g, 0, none⟩) L.length cap) L.length (cellsK encF L)) (h1 : 1 ≤ L.length) (hsz : L.length ≤ 1000000)
    (hBs : w.cell? ⟨Bs, 0, none⟩ = some (.slice (some ⟨g, 0, none⟩) L.length cap)) (hne : Bs ≠ g) :
    Calls Tryz.prog 48 #[.iface 70 (.slice (some ⟨g, 0, none⟩) L.length cap), .func (.func 49) #[] #[.pointer (some ⟨Bs, 0, none⟩)]] w fun e w' =>
      e = .returned (.tuple #[]) ∧ ∃ M : List Fk, M.Perm L ∧ SortedIn ltFB 0 M.length M.toArray ∧ Row w' base 3 (.slice (some ⟨g, 0, none⟩) L.length cap) L.length (cellsK encF M) ∧ w.grownBy w' (some g) := by
  have hg : g < w.heap.size := (hrow.lt g rfl).2
  have hB1 : Bs < w.heap.size := by
    have := block_lt_of_cell hBs
    exact this
  by_cases h2 : 2 ≤ L.length
  · have key := sort3_any g 0 cap Bs L.toArray (by simpa using h2) (by simp; omega) w (row_holdsK' encF_len hrow (by omega)) hg (by simpa using hBs) hB1 hne
    rw [List.size_toArray] at key
    refine key.mono ?_
    rintro e w' ⟨rfl, d', n, os, hp, hso, rfl⟩
    have hlen : d'.toList.length = L.length := by have := hp.1; simpa using this
    have hperm : d'.toList.Perm L := by
      have := perm_of_in' (d := L.toArray) (d' := d') (by simpa using hp)
      simpa using this
    obtain ⟨hr, hgr⟩ := row_sorted' encF_len (q := n) (os := os) (M := d'.toList) hrow (by omega) hlen
    refine ⟨rfl, d'.toList, hperm, ?_, ?_, ?_⟩
    · rw [hlen]; exact hso
    · rw [hlen] at hr
      exact hr
    · exact hgr
  · have hl1 : L.length = 1 := by omega
    have hk : Lib.swapperK L.length fvE 25 = 2 := by rw [hl1]; rfl
    have key : Calls Tryz.prog 48 #[.iface 70 (.slice (some ⟨g, 0, none⟩) L.length cap), .func (.func 49) #[] #[.pointer (some ⟨Bs, 0, none⟩)]] w fun e w' => e = .returned (.tuple #[]) ∧ ∃ os, w' = Go.Sort.grow w os := Any.sort_Slice_tiny Tryz.laysGg6 70 73 fvT fvE (by kernel_rfl) (by kernel_rfl) (by kernel_rfl) (by kernel_rfl) 25 (fun _ => by kernel_rfl) (some ⟨g, 0, none⟩) L.length cap (by omega) 123 (by rw [hk]; kernel_rfl) (.func 49) #[] #[.pointer (some ⟨Bs, 0, none⟩)] w
    refine key.mono ?_
    rintro e w' ⟨rfl, os, rfl⟩
    refine ⟨rfl, L, List.Perm.refl _, (fun i j _ hij hj => by omega), hrow.kept (fun k hk => grow_block w os k (hrow.lt k hk).2) (by unfold Go.Sort.grow; simp), grow_grownBy w os _⟩

theorem sort3_none (A : Option Addr) (cap Bs : Nat) (w : World) :
    Calls Tryz.prog 48 #[.iface 70 (.slice A 0 cap), .func (.func 49) #[] #[.pointer (some ⟨Bs, 0, none⟩)]] w fun e w' => e = .returned (.tuple #[]) ∧ w.grownBy w' none := by
  have hk : Lib.swapperK 0 fvE 25 = 1 := rfl
  have key : Calls Tryz.prog 48 #[.iface 70 (.slice A 0 cap), .func (.func 49) #[] #[.pointer (some ⟨Bs, 0, none⟩)]] w fun e w' => e = .returned (.tuple #[]) ∧ ∃ os, w' = Go.Sort.grow w os := Any.sort_Slice_tiny Tryz.laysGg6 70 73 fvT fvE (by kernel_rfl) (by kernel_rfl) (by kernel_rfl) (by kernel_rfl) 25 (fun _ => by kernel_rfl) A 0 cap (by omega) 122 (by rw [hk]; kernel_rfl) (.func 49) #[] #[.pointer (some ⟨Bs, 0, none⟩)] w
  refine key.mono ?_
  rintro e w' ⟨rfl, os, rfl⟩
  exact ⟨rfl, grow_grownBy w os _⟩
end Go.Proofs.YtgjmbokfenpefaaGreatDoor
/- long. -/
namespace Go.Proofs.YtgjmbokfenpefaaGreatDoor
open Go.RowKit

set_option maxRecDepth 100000 in
theorem long_any (s : ByteArray) (w : World) : Calls Tryz.prog 14 #[.string s] w fun e w' => e = .returned (.bool (decide (60 < s.size))) ∧ w' = w := by
  go_enter Tryz.func14, Tryz.ntmps14
  go_wp2
  go_ret
  refine ⟨?_, rfl⟩
  show Ending.returned (Value.bool _) = _
  congr 2
  simp; omega
end Go.Proofs.YtgjmbokfenpefaaGreatDoor
/- The document's RightHead, HeadMark. -/
namespace Go.Proofs.YtgjmbokfenpefaaGreatDoor
open Go.RowKit

set_option maxRecDepth 100000 in
theorem refRightHead_any (h : Hd) (w : World) :
    Calls Tryz.prog 113 #[.agg #[.int .i64 h.epoch, .string h.root, .string h.prev]] w fun e w' => e = .returned (.bool (rightHead h)) ∧ Below w.heap.size w w' := by
  have HBW := Lib.hid (alloc_below w (.cells #[.int .i64 h.epoch, .string h.root, .string h.prev] 52))
  obtain ⟨T, hT⟩ : ∃ T, rightHead h = T := ⟨_, rfl⟩
  rw [hT]
  have HT := Lib.hid hT
  clear hT
  by_cases h1 : 0 < h.epoch
  · by_cases h2 : h.root.size = 16
    · have H2 := Lib.hid h2
      have hF : T = decide (h.prev.size = 16) := by rw [← HT.out]; unfold rightHead; rw [decide_eq_true h1, decide_eq_true h2]; rfl
      subst hF
      clear h2
      go_enter Tryz.func113, Tryz.ntmps113
      go_wp2_with fail
      refine (isMark_t _ _ H2.out).mono ?_
      rintro e w1 ⟨rfl, rfl⟩
      go_wp2_with fail
      refine (isMark_any _ _).mono ?_
      rintro e w1 ⟨rfl, rfl⟩
      go_wp2
      go_ret
      exact ⟨rfl, HBW.out⟩
    · have H2 := Lib.hid h2
      have hF : T = false := by rw [← HT.out]; unfold rightHead; rw [decide_eq_false h2]; simp
      subst hF
      clear h2
      go_enter Tryz.func113, Tryz.ntmps113
      go_wp2_with fail
      refine (isMark_f _ _ H2.out).mono ?_
      rintro e w1 ⟨rfl, rfl⟩
      go_wp2
      go_ret
      exact ⟨rfl, HBW.out⟩
  · have hF : T = false := by rw [← HT.out]; unfold rightHead; rw [decide_eq_false h1]; simp
    subst hF
    have e1 : decide (0 < h.epoch) = false := decide_eq_false h1
    go_enter Tryz.func113, Tryz.ntmps113
    go_wp2
    go_ret
    exact ⟨rfl, HBW.out⟩
set_option maxRecDepth 100000 in
theorem refHeadMark_is (b : Nat) (h : Hd) (s : ByteArray) (n : Int) (w : World) (hr : Holds w b 72 refCells 97) (hh : headMarkAns h = (s, n)) :
    Calls Tryz.prog 70 #[.pointer (some ⟨b, 0, none⟩), .agg #[.int .i64 h.epoch, .string h.root, .string h.prev]] w fun e w' => e = .returned (.tuple #[.string s, .int .i64 n]) ∧ Below w.heap.size w w' := by
  have HB0 := Lib.hid (alloc_below w (.cells #[.int .i64 h.epoch, .string h.root, .string h.prev] 52))
  have HH0 := Lib.hid (show Holds (w.alloc (.cells #[.int .i64 h.epoch, .string h.root, .string h.prev] 52)) w.heap.size 3 (hdF h) 52 from Holds.new w 3 (hdF h) 52)
  have HR := Lib.hid (hr.below HB0.out hr.lt)
  clear hr
  unfold headMarkAns at hh
  by_cases hk : rightHead h = true
  · rw [if_pos hk] at hh
    obtain ⟨rfl, rfl⟩ := Prod.mk.inj hh
    have HK := Lib.hid hk
    clear hh hk
    go_enter Tryz.func70, Tryz.ntmps70
    go_wp2_with fail
    refine (refRightHead_any h _).mono ?_
    rintro e w1 ⟨rfl, hb1⟩
    rw [HK.out]
    have HB1 := Lib.hid (HB0.out.trans (hb1.mono HB0.out.size))
    have HH1 := Lib.hid (HH0.out.below hb1 HH0.out.lt)
    have HR1 := Lib.hid (HR.out.below hb1 HR.out.lt)
    clear hb1
    have HN1 := Lib.hid HH1.out.lt
    have HC1 := Lib.hid (show w1.cell? ⟨w.heap.size, 0, none⟩ = some (.int .i64 h.epoch) ∧ w1.cell? ⟨w.heap.size, 1, none⟩ = some (.string h.root) ∧ w1.cell? ⟨w.heap.size, 2, none⟩ = some (.string h.prev) from ⟨HH1.out.cell 0 (by omega), HH1.out.cell 1 (by omega), HH1.out.cell 2 (by omega)⟩)
    go_wp2
    have HS0 := Lib.hid (show w1.cell? ⟨w.heap.size, 0, none⟩ = some (.int .i64 h.epoch) ∧ w1.cell? ⟨w.heap.size, 1, none⟩ = some (.string h.root) ∧ w1.cell? ⟨w.heap.size, 2, none⟩ = some (.string h.prev) ∧ Below w1.heap.size w1 w1.drew from ⟨HC1.out.1, HC1.out.2.1, HC1.out.2.2, (Below.refl _ _).drew⟩)
    have HKEEP := Lib.hid (show ∀ u v : World, (u.cell? ⟨w.heap.size, 0, none⟩ = some (.int .i64 h.epoch) ∧ u.cell? ⟨w.heap.size, 1, none⟩ = some (.string h.root) ∧ u.cell? ⟨w.heap.size, 2, none⟩ = some (.string h.prev) ∧ Below w1.heap.size w1 u) → Below u.heap.size u v → (v.cell? ⟨w.heap.size, 0, none⟩ = some (.int .i64 h.epoch) ∧ v.cell? ⟨w.heap.size, 1, none⟩ = some (.string h.root) ∧ v.cell? ⟨w.heap.size, 2, none⟩ = some (.string h.prev) ∧ Below w1.heap.size w1 v) from
      fun u v ⟨h0, h1, h2, hb⟩ hv => ⟨(hv.cell (Nat.lt_of_lt_of_le HN1.out hb.size)).trans h0, (hv.cell (Nat.lt_of_lt_of_le HN1.out hb.size)).trans h1, (hv.cell (Nat.lt_of_lt_of_le HN1.out hb.size)).trans h2, hb.trans (hv.mono hb.size)⟩)
    have HHOLD := Lib.hid (show ∀ u : World, (u.cell? ⟨w.heap.size, 0, none⟩ = some (.int .i64 h.epoch) ∧ u.cell? ⟨w.heap.size, 1, none⟩ = some (.string h.root) ∧ u.cell? ⟨w.heap.size, 2, none⟩ = some (.string h.prev) ∧ Below w1.heap.size w1 u) → Holds u b 72 refCells 97 from fun u hu => HR1.out.below hu.2.2.2 HR1.out.lt)
    have HTOT := Lib.hid (show total [txt (num8 h.epoch), h.root, h.prev] ≤ 1073741800 by obtain ⟨_, h2, h3⟩ := rightHead_facts HK.out; simp [total, num_size]; omega)
    go_region_held3 (fun w' => w'.cell? ⟨w.heap.size, 0, none⟩ = some (.int .i64 h.epoch) ∧ w'.cell? ⟨w.heap.size, 1, none⟩ = some (.string h.root) ∧ w'.cell? ⟨w.heap.size, 2, none⟩ = some (.string h.prev) ∧ Below w1.heap.size w1 w')
      (first | exact HS0.out | (refine HKEEP.out _ _ ?_ (by assumption); first | exact HS0.out | assumption | exact ⟨by assumption, by assumption, by assumption, by assumption⟩) | (refine HKEEP.out _ _ ?_ (alloc_below _ _); first | exact HS0.out | assumption | exact ⟨by assumption, by assumption, by assumption, by assumption⟩))
      (first | (go_at_call 63; refine (refNum_any h.epoch _).mono ?_; rintro e w2 ⟨rfl, hb2⟩) | (go_at_call 34; refine (refMark_any b 104 [txt (num8 h.epoch), h.root, h.prev] (some ⟨_, 0, none⟩) 3 _ (HHOLD.out _ (by assumption)) HTOT.out (by simp) (strs_new _ [txt (num8 h.epoch), h.root, h.prev] 9)).mono ?_; rintro e w2 ⟨rfl, hb2⟩))
    rename_i hheld
    have HB2 := Lib.hid (HB1.out.trans (hheld.2.2.2.mono HB1.out.size))
    clear hheld
    go_wp2
    refine bodyPost_ret (results_tmp2 rfl _ _ _) rfl ?_
    exact ⟨rfl, HB2.out⟩
  · rw [if_neg hk] at hh
    obtain ⟨rfl, rfl⟩ := Prod.mk.inj hh
    have HK := Lib.hid (show rightHead h = false by simpa using hk)
    clear hh hk
    go_enter Tryz.func70, Tryz.ntmps70
    go_wp2_with fail
    refine (refRightHead_any h _).mono ?_
    rintro e w1 ⟨rfl, hb1⟩
    rw [HK.out]
    have HB1 := Lib.hid (HB0.out.trans (hb1.mono HB0.out.size))
    clear hb1
    go_wp2
    refine bodyPost_ret (results_tmp2 rfl _ _ _) rfl ?_
    exact ⟨rfl, HB1.out⟩
end Go.Proofs.YtgjmbokfenpefaaGreatDoor
/- strings.Repeat, laid by name, no walk; one byte, sixteen times. -/
namespace Go.Proofs
open Go.Shelf
set_option maxRecDepth 100000
def Tryz.lays105_ren : Go.Shelf.Ren := ⟨fun | 105 => 112 | 212 => 169 | 99 => 170 | 165 => 171 | 166 => 172 | 170 => 173 | 169 => 174 | 263 => 220 | 264 => 221 | 206 => 222 | 240 => 223 | 241 => 224 | 276 => 248 | 277 => 249 | n => n, fun | 9 => 9 | 3 => 3 | 4 => 4 | 20 => 20 | 0 => 0 | 46 => 198 | 109 => 292 | 5 => 5 | 72 => 297 | 76 => 299 | 51 => 93 | 146 => 340 | 53 => 101 | 148 => 342 | 70 => 295 | 37 => 118 | 75 => 44 | 127 => 344 | 164 => 190 | 80 => 41 | n => n, fun | n => n⟩
theorem Tryz.lays105 : Go.Proofs.Lays.n105 Tryz.prog Tryz.lays105_ren := {
  mixed := by kernel_rfl
  f99 := Tryz.func170.trans (congrArg some (by kernel_rfl))
  f105 := Tryz.func112.trans (congrArg some (by kernel_rfl))
  f165 := Tryz.func171.trans (congrArg some (by kernel_rfl))
  f166 := Tryz.func172.trans (congrArg some (by kernel_rfl))
  f169 := Tryz.func174.trans (congrArg some (by kernel_rfl))
  f170 := Tryz.func173.trans (congrArg some (by kernel_rfl))
  f206 := Tryz.func222.trans (congrArg some (by kernel_rfl))
  f212 := Tryz.func169.trans (congrArg some (by kernel_rfl))
  f240 := Tryz.func223.trans (congrArg some (by kernel_rfl))
  f241 := Tryz.func224.trans (congrArg some (by kernel_rfl))
  f263 := Tryz.func220.trans (congrArg some (by kernel_rfl))
  f264 := Tryz.func221.trans (congrArg some (by kernel_rfl))
  f276 := Tryz.func248.trans (congrArg some (by kernel_rfl))
  f277 := Tryz.func249.trans (congrArg some (by kernel_rfl))
  t0 := Tryz.underlying0
  a0 := Tryz.isAgg0
  z0 := Tryz.sizeOf0
  v0 := Tryz.zeroValue0
  t3 := Tryz.underlying3
  a3 := Tryz.isAgg3
  z3 := Tryz.sizeOf3
  v3 := Tryz.zeroValue3
  t4 := Tryz.underlying4
  a4 := Tryz.isAgg4
  z4 := Tryz.sizeOf4
  v4 := Tryz.zeroValue4
  t5 := Tryz.underlying5
  a5 := Tryz.isAgg5
  z5 := Tryz.sizeOf5
  v5 := Tryz.zeroValue5
  t9 := Tryz.underlying9
  a9 := Tryz.isAgg9
  z9 := Tryz.sizeOf9
  v9 := Tryz.zeroValue9
  t20 := Tryz.underlying20
  a20 := Tryz.isAgg20
  z20 := Tryz.sizeOf20
  v20 := Tryz.zeroValue20
  t37 := Tryz.underlying118
  a37 := Tryz.isAgg118
  z37 := Tryz.sizeOf118
  v37 := Tryz.zeroValue118
  t46 := Tryz.underlying198
  a46 := Tryz.isAgg198
  z46 := Tryz.sizeOf198
  v46 := Tryz.zeroValue198
  t51 := Tryz.underlying93
  a51 := Tryz.isAgg93
  z51 := Tryz.sizeOf93
  v51 := Tryz.zeroValue93
  t53 := Tryz.underlying101
  a53 := Tryz.isAgg101
  z53 := Tryz.sizeOf101
  v53 := Tryz.zeroValue101
  t70 := Tryz.underlying295
  a70 := Tryz.isAgg295
  z70 := Tryz.sizeOf295
  v70 := Tryz.zeroValue295
  t72 := Tryz.underlying297
  a72 := Tryz.isAgg297
  z72 := Tryz.sizeOf297
  v72 := Tryz.zeroValue297
  t75 := Tryz.underlying44
  a75 := Tryz.isAgg44
  z75 := Tryz.sizeOf44
  v75 := Tryz.zeroValue44
  t76 := Tryz.underlying299
  a76 := Tryz.isAgg299
  z76 := Tryz.sizeOf299
  v76 := Tryz.zeroValue299
  t109 := Tryz.underlying292
  a109 := Tryz.isAgg292
  z109 := Tryz.sizeOf292
  v109 := Tryz.zeroValue292
  t127 := Tryz.underlying344
  a127 := Tryz.isAgg344
  z127 := Tryz.sizeOf344
  v127 := Tryz.zeroValue344
  t146 := Tryz.underlying340
  a146 := Tryz.isAgg340
  z146 := Tryz.sizeOf340
  v146 := Tryz.zeroValue340
  t148 := Tryz.underlying342
  a148 := Tryz.isAgg342
  z148 := Tryz.sizeOf342
  v148 := Tryz.zeroValue342
  t164 := Tryz.underlying190
  a164 := Tryz.isAgg190
  z164 := Tryz.sizeOf190
  v164 := Tryz.zeroValue190 }
theorem Tryz.Builder_Extra_105 : Builder.Extra Tryz.prog Tryz.lays105_ren := {
  sizeBuilder := by kernel_rfl
  liesBuilder := by kernel_rfl
  t5 := Tryz.underlying5
  a5 := Tryz.isAgg5
  z5 := Tryz.sizeOf5
  v5 := Tryz.zeroValue5
  infoByte := by kernel_rfl
  cellsByte := by kernel_rfl
  sizeByte := by kernel_rfl
  neB5 := by decide }
end Go.Proofs
namespace Go.Proofs.YtgjmbokfenpefaaGreatDoor
open Go.RowKit Go.Lib
end Go.Proofs.YtgjmbokfenpefaaGreatDoor
/- strings.Repeat of one byte of 0, sixteen times. -/
namespace Go.Proofs.YtgjmbokfenpefaaGreatDoor
open Go.RowKit Go.Lib
theorem repeat_nul (w : World) : Calls Tryz.prog 112 #[.string ⟨#[0]⟩, .int .i64 16] w fun e w' => e = .returned (.string none16) ∧ Below w.heap.size w w' :=
  (Any.strings_Repeat_main Tryz.lays105 Tryz.Builder_Extra_105 ⟨#[0]⟩ 16 w (by decide) (by decide) (by decide) (by decide)).mono fun _ _ h => ⟨h.1, h.2⟩
end Go.Proofs.YtgjmbokfenpefaaGreatDoor
/- The document's Next. -/
namespace Go.Proofs.YtgjmbokfenpefaaGreatDoor
open Go.RowKit

theorem nextUpto_start (L : List Hd) (root : ByteArray) : nextUpto L root 0 = firstHd root := by
  unfold nextUpto; rw [if_neg (by omega)]
theorem nextUpto_step {L : List Hd} {root : ByteArray} {k : Nat} (h : k + 1 < L.length) : nextUpto L root (k + 1) = nextUpto L root k := by
  unfold nextUpto; rw [if_neg (by omega), if_neg (by omega)]
set_option maxHeartbeats 1000000 in
set_option maxRecDepth 100000 in
theorem refNext_is (b : Nat) (L : List Hd) (A : Option Addr) (cap : Nat) (root : ByteArray) (y : Hd) (n : Int) (w : World) (hl : L.length ≤ 1000000) (hr : Holds w b 72 refCells 97) (hm : Hds w A L) (h : nextAns L root = (y, n)) :
    Calls Tryz.prog 69 #[.pointer (some ⟨b, 0, none⟩), .slice A L.length cap, .string root] w fun e w' => e = .returned (.tuple #[.agg #[.int .i64 y.epoch, .string y.root, .string y.prev], .int .i64 n]) ∧ Below w.heap.size w w' := by
  have HR := Lib.hid hr
  have HM := Lib.hid hm
  have HY := Lib.hid h
  have HB0 := Lib.hid (alloc_below w (.cells #[.int .i64 0, .string ⟨#[]⟩, .string ⟨#[]⟩] 52))
  have HS0 := Lib.hid (show Holds (w.alloc (.cells #[.int .i64 0, .string ⟨#[]⟩, .string ⟨#[]⟩] 52)) w.heap.size 3 (hdF noHd) 52 from Holds.new w 3 (hdF noHd) 52)
  clear hr hm h
  go_enter Tryz.func69, Tryz.ntmps69
  go_wp2_with fail
  refine (repeat_nul _).mono ?_
  rintro e w1 ⟨rfl, hb1⟩
  have HB1 := Lib.hid (HB0.out.trans (hb1.mono HB0.out.size))
  have HS1 := Lib.hid (HS0.out.below hb1 HS0.out.lt)
  clear hb1
  have HF1 := Lib.hid (show Holds (w1.alloc (.cells #[.int .i64 1, .string root, .string none16] 52)) w1.heap.size 3 (hdF (firstHd root)) 52 from Holds.new w1 3 (hdF (firstHd root)) 52)
  have HB2 := Lib.hid (HB1.out.trans ((alloc_below w1 (.cells #[.int .i64 1, .string root, .string none16] 52)).mono HB1.out.size))
  have HS2 := Lib.hid (HS1.out.below (alloc_below w1 (.cells #[.int .i64 1, .string root, .string none16] 52)) HS1.out.lt)
  have HHB := Lib.hid (show w.heap.size < w1.heap.size from HS1.out.lt)
  go_wp2
  generalize w1.alloc (.cells #[.int .i64 1, .string root, .string none16] 52) = w2 at HF1 HB2 HS2
  generalize w1.heap.size = hb at HF1 HHB
  go_loopw [18] (fun i wr => ∃ k : Nat, k ≤ L.length ∧ i = .int .i64 (k : Int) ∧ Hid ((k = L.length → 0 < k → rightHead (hdAt L (k - 1)) = true) ∧ Below w.heap.size w wr ∧ Holds wr w.heap.size 3 (hdF noHd) 52 ∧ Holds wr hb 3 (hdF (nextUpto L root k)) 52)) (fun i _ => L.length - (intOf i).toNat)
  case atStart => exact ⟨0, by omega, rfl, Lib.hid ⟨fun _ h => by omega, HB2.out, HS2.out, by rw [nextUpto_start]; exact HF1.out⟩⟩
  case round =>
    obtain ⟨k, hk, rfl, HU⟩ := hrel
    by_cases hlt : k < L.length
    · obtain ⟨a, rfl, hal, c0, c1, c2⟩ := (HM.out.below HU.out.2.1).at_ hlt
      have d1 : wr.cell? ⟨(a.add (k * 3)).block, (a.add (k * 3)).off + 1, none⟩ = some (.string (hdAt L k).root) := c1
      have d2 : wr.cell? ⟨(a.add (k * 3)).block, (a.add (k * 3)).off + 2, none⟩ = some (.string (hdAt L k).prev) := c2
      obtain ⟨X, hX⟩ : ∃ X, hdAt L k = X := ⟨_, rfl⟩
      rw [hX] at c0 d1 d2
      have HX := Lib.hid hX
      clear hX c1 c2
      by_cases hlast : k + 1 < L.length
      · have e1 : decide ((k : Int) < (L.length : Int) - 1) = true := by simp; omega
        have HU' := Lib.hid (show (k + 1 = L.length → 0 < k + 1 → rightHead (hdAt L (k + 1 - 1)) = true) ∧ Below w.heap.size w (wr.alloc (.cells #[.int .i64 X.epoch, .string X.root, .string X.prev] 52)) ∧ Holds (wr.alloc (.cells #[.int .i64 X.epoch, .string X.root, .string X.prev] 52)) w.heap.size 3 (hdF noHd) 52 ∧ Holds (wr.alloc (.cells #[.int .i64 X.epoch, .string X.root, .string X.prev] 52)) hb 3 (hdF (nextUpto L root (k + 1))) 52 from
          ⟨fun h => by omega, HU.out.2.1.alloc HU.out.2.1.size _, HU.out.2.2.1.alloc _, by rw [nextUpto_step hlast]; exact HU.out.2.2.2.alloc _⟩)
        go_wp2
        go_roundw
        case rel => exact ⟨k + 1, by omega, by go_num, HU'⟩
        case measure => simp [intOf]; omega
      · have e1 : decide ((k : Int) < (L.length : Int) - 1) = false := by simp; omega
        have HLAST := Lib.hid (show k + 1 = L.length by omega)
        have HW1 := Lib.hid (show Below w.heap.size w (wr.alloc (.cells #[.int .i64 X.epoch, .string X.root, .string X.prev] 52)) from HU.out.2.1.alloc HU.out.2.1.size _)
        have HRS1 := Lib.hid (HU.out.2.2.1.alloc (.cells #[.int .i64 X.epoch, .string X.root, .string X.prev] 52))
        have HHB1 := Lib.hid (HU.out.2.2.2.alloc (.cells #[.int .i64 X.epoch, .string X.root, .string X.prev] 52))
        have HXB1 := Lib.hid (show Holds (wr.alloc (.cells #[.int .i64 X.epoch, .string X.root, .string X.prev] 52)) wr.heap.size 3 (hdF X) 52 from Holds.new wr 3 (hdF X) 52)
        have HNE := Lib.hid (show hb < wr.heap.size from HU.out.2.2.2.lt)
        have hkb : k ≤ 1000000 := by omega
        clear hlast hk
        go_wp2_with fail
        clear c0 d1 d2 e1 hlt
        generalize wr.alloc (.cells #[.int .i64 X.epoch, .string X.root, .string X.prev] 52) = w3 at HW1 HRS1 HHB1 HXB1
        generalize wr.heap.size = xb at HXB1 HNE
        obtain ⟨s, m, hsm⟩ : ∃ s m, headMarkAns X = (s, m) := ⟨_, _, rfl⟩
        have HSM := Lib.hid hsm
        refine (refHeadMark_is b X s m _ (HR.out.below HW1.out HR.out.lt) hsm).mono ?_
        rintro e w4 ⟨rfl, hb4⟩
        have HW4 := Lib.hid (HW1.out.trans (hb4.mono HW1.out.size))
        have HRS4 := Lib.hid (HRS1.out.below hb4 HRS1.out.lt)
        have HHB4 := Lib.hid (HHB1.out.below hb4 HHB1.out.lt)
        have HXB4 := Lib.hid (HXB1.out.below hb4 HXB1.out.lt)
        clear hb4
        unfold headMarkAns at hsm
        by_cases hrx : rightHead X = true
        · rw [if_pos hrx] at hsm
          obtain ⟨hs, hm0⟩ := Prod.mk.inj hsm
          subst hm0
          have HS := Lib.hid hs
          have HRX := Lib.hid hrx
          clear hs hsm hrx
          have x0 : w4.cell? ⟨xb, 0, none⟩ = some (.int .i64 X.epoch) := HXB4.out.cell 0 (by omega)
          have q0 : w4.cell? ⟨hb, 0, none⟩ = some (.int .i64 (nextUpto L root k).epoch) := HHB4.out.cell 0 (by omega)
          have q2 : w4.cell? ⟨hb, 2, none⟩ = some (.string (nextUpto L root k).prev) := HHB4.out.cell 2 (by omega)
          have f0 : w4.frozen? ⟨hb, 0, none⟩ = false := HHB4.out.free 0
          have f2 : w4.frozen? ⟨hb, 2, none⟩ = false := HHB4.out.free 2
          go_wp2
          go_roundw
          case rel =>
            have hlast := HLAST.out
            refine ⟨k + 1, by omega, by go_num, Lib.hid ⟨fun _ _ => by rw [Nat.add_sub_cancel, HX.out]; exact HRX.out, ?_, ?_, ?_⟩⟩
            · exact (HW4.out.setCell (by have := HHB.out; show w.heap.size ≤ hb; omega) _).setCell (by have := HHB.out; show w.heap.size ≤ hb; omega) _
            · exact (HRS4.out.other (by have := HHB.out; show w.heap.size ≠ hb; omega) _).other (by have := HHB.out; show w.heap.size ≠ hb; omega) _
            · refine ((HHB4.out.set 0 _).set 2 _).congr fun i hi => ?_
              rw [nextUpto_last hlast, HX.out]
              have hroot : (nextUpto L root k).root = root := by unfold nextUpto; split <;> rfl
              have hs := HS.out
              rcases (show i = 0 ∨ i = 1 ∨ i = 2 by omega) with rfl | rfl | rfl
              · simp [upd, hdF, afterHd]
              · simp [upd, hdF, afterHd, hroot]
              · simp [upd, hdF, afterHd, hs]
          case measure => have hlast := HLAST.out; simp [intOf]; omega
        · have hrf : rightHead X = false := by simpa using hrx
          rw [if_neg hrx] at hsm
          obtain ⟨hs, hm0⟩ := Prod.mk.inj hsm
          subst hm0 hs
          have HBAD := Lib.hid (show (noHd, (1 : Int)) = (y, n) by rw [← HY.out]; exact (nextAns_bad HLAST.out (by rw [HX.out]; exact hrf)).symm)
          clear hsm hrx hrf
          obtain ⟨rfl, rfl⟩ := Prod.mk.inj HBAD.out
          have p0 : w4.cell? ⟨w.heap.size, 0, none⟩ = some (.int .i64 0) := HRS4.out.cell 0 (by omega)
          have p1 : w4.cell? ⟨w.heap.size, 1, none⟩ = some (.string ⟨#[]⟩) := HRS4.out.cell 1 (by omega)
          have p2 : w4.cell? ⟨w.heap.size, 2, none⟩ = some (.string ⟨#[]⟩) := HRS4.out.cell 2 (by omega)
          have f0 : w4.frozen? ⟨w.heap.size, 0, none⟩ = false := HRS4.out.free 0
          have f1 : w4.frozen? ⟨w.heap.size, 1, none⟩ = false := HRS4.out.free 1
          have f2 : w4.frozen? ⟨w.heap.size, 2, none⟩ = false := HRS4.out.free 2
          have HFIN := Lib.hid (show Holds (((w4.setCell ⟨w.heap.size, 0, none⟩ (.int .i64 noHd.epoch)).setCell ⟨w.heap.size, 1, none⟩ (.string noHd.root)).setCell ⟨w.heap.size, 2, none⟩ (.string noHd.prev)) w.heap.size 3 (hdF noHd) 52 from
            (((HRS4.out.set 0 _).set 1 _).set 2 _).congr fun i hi => by
              rcases (show i = 0 ∨ i = 1 ∨ i = 2 by omega) with rfl | rfl | rfl <;> simp [upd, hdF])
          have HFB := Lib.hid (show Below w.heap.size w (((w4.setCell ⟨w.heap.size, 0, none⟩ (.int .i64 noHd.epoch)).setCell ⟨w.heap.size, 1, none⟩ (.string noHd.root)).setCell ⟨w.heap.size, 2, none⟩ (.string noHd.prev)) from
            (((HW4.out.setCell (Nat.le_refl _) _).setCell (Nat.le_refl _) _).setCell (Nat.le_refl _) _))
          go_wp2
          refine bodyPost_ret (results_row2 rfl _ _ w.heap.size 52 (arr 3 (hdF noHd)) (0, 0) _ rfl HFIN.out Tryz.underlying52 rfl (by rw [arr_size]; exact infoHead)) rfl ?_
          exact ⟨rfl, HFB.out⟩
    · have HKL := Lib.hid (show k = L.length by omega)
      have hans : nextAns L root = if rightHead (nextUpto L root k) = true then (nextUpto L root k, 0) else (noHd, 1) := by
        rw [HKL.out]
        exact nextAns_upto fun h => by have := HU.out.1 HKL.out (by rw [HKL.out]; exact h); rwa [HKL.out] at this
      rw [HY.out] at hans
      generalize nextUpto L root k = Z at hans HU
      have c0 : wr.cell? ⟨hb, 0, none⟩ = some (.int .i64 Z.epoch) := HU.out.2.2.2.cell 0 (by omega)
      have c1 : wr.cell? ⟨hb, 1, none⟩ = some (.string Z.root) := HU.out.2.2.2.cell 1 (by omega)
      have c2 : wr.cell? ⟨hb, 2, none⟩ = some (.string Z.prev) := HU.out.2.2.2.cell 2 (by omega)
      have HANS := Lib.hid hans
      clear hans
      go_wp2_with fail
      clear c0 c1 c2
      refine (refRightHead_any Z _).mono ?_
      rintro e w4 ⟨rfl, hb4⟩
      have HW4 := Lib.hid (HU.out.2.1.trans (hb4.mono HU.out.2.1.size))
      have HRS4 := Lib.hid (HU.out.2.2.1.below hb4 HU.out.2.2.1.lt)
      have HHB4 := Lib.hid (HU.out.2.2.2.below hb4 HU.out.2.2.2.lt)
      clear hb4
      by_cases hz : rightHead Z = true
      · have hans := HANS.out
        rw [if_pos hz] at hans
        obtain ⟨rfl, rfl⟩ := Prod.mk.inj hans
        rw [hz]
        clear hans hz
        have c0 : w4.cell? ⟨hb, 0, none⟩ = some (.int .i64 y.epoch) := HHB4.out.cell 0 (by omega)
        have c1 : w4.cell? ⟨hb, 1, none⟩ = some (.string y.root) := HHB4.out.cell 1 (by omega)
        have c2 : w4.cell? ⟨hb, 2, none⟩ = some (.string y.prev) := HHB4.out.cell 2 (by omega)
        have p0 : w4.cell? ⟨w.heap.size, 0, none⟩ = some (.int .i64 0) := HRS4.out.cell 0 (by omega)
        have p1 : w4.cell? ⟨w.heap.size, 1, none⟩ = some (.string ⟨#[]⟩) := HRS4.out.cell 1 (by omega)
        have p2 : w4.cell? ⟨w.heap.size, 2, none⟩ = some (.string ⟨#[]⟩) := HRS4.out.cell 2 (by omega)
        have f0 : w4.frozen? ⟨w.heap.size, 0, none⟩ = false := HRS4.out.free 0
        have f1 : w4.frozen? ⟨w.heap.size, 1, none⟩ = false := HRS4.out.free 1
        have f2 : w4.frozen? ⟨w.heap.size, 2, none⟩ = false := HRS4.out.free 2
        have HFIN := Lib.hid (show Holds (((w4.setCell ⟨w.heap.size, 0, none⟩ (.int .i64 y.epoch)).setCell ⟨w.heap.size, 1, none⟩ (.string y.root)).setCell ⟨w.heap.size, 2, none⟩ (.string y.prev)) w.heap.size 3 (hdF y) 52 from
          (((HRS4.out.set 0 _).set 1 _).set 2 _).congr fun i hi => by
            rcases (show i = 0 ∨ i = 1 ∨ i = 2 by omega) with rfl | rfl | rfl <;> simp [upd, hdF])
        have HFB := Lib.hid (show Below w.heap.size w (((w4.setCell ⟨w.heap.size, 0, none⟩ (.int .i64 y.epoch)).setCell ⟨w.heap.size, 1, none⟩ (.string y.root)).setCell ⟨w.heap.size, 2, none⟩ (.string y.prev)) from
          (((HW4.out.setCell (Nat.le_refl _) _).setCell (Nat.le_refl _) _).setCell (Nat.le_refl _) _))
        go_wp2
        refine bodyPost_ret (results_row2 rfl _ _ w.heap.size 52 (arr 3 (hdF y)) (0, 0) _ rfl HFIN.out Tryz.underlying52 rfl (by rw [arr_size]; exact infoHead)) rfl ?_
        exact ⟨rfl, HFB.out⟩
      · have hans := HANS.out
        rw [if_neg hz] at hans
        obtain ⟨rfl, rfl⟩ := Prod.mk.inj hans
        have hz' : rightHead Z = false := by simpa using hz
        rw [hz']
        clear hans hz hz'
        have p0 : w4.cell? ⟨w.heap.size, 0, none⟩ = some (.int .i64 0) := HRS4.out.cell 0 (by omega)
        have p1 : w4.cell? ⟨w.heap.size, 1, none⟩ = some (.string ⟨#[]⟩) := HRS4.out.cell 1 (by omega)
        have p2 : w4.cell? ⟨w.heap.size, 2, none⟩ = some (.string ⟨#[]⟩) := HRS4.out.cell 2 (by omega)
        have f0 : w4.frozen? ⟨w.heap.size, 0, none⟩ = false := HRS4.out.free 0
        have f1 : w4.frozen? ⟨w.heap.size, 1, none⟩ = false := HRS4.out.free 1
        have f2 : w4.frozen? ⟨w.heap.size, 2, none⟩ = false := HRS4.out.free 2
        have HFIN := Lib.hid (show Holds (((w4.setCell ⟨w.heap.size, 0, none⟩ (.int .i64 noHd.epoch)).setCell ⟨w.heap.size, 1, none⟩ (.string noHd.root)).setCell ⟨w.heap.size, 2, none⟩ (.string noHd.prev)) w.heap.size 3 (hdF noHd) 52 from
          (((HRS4.out.set 0 _).set 1 _).set 2 _).congr fun i hi => by
            rcases (show i = 0 ∨ i = 1 ∨ i = 2 by omega) with rfl | rfl | rfl <;> simp [upd, hdF])
        have HFB := Lib.hid (show Below w.heap.size w (((w4.setCell ⟨w.heap.size, 0, none⟩ (.int .i64 noHd.epoch)).setCell ⟨w.heap.size, 1, none⟩ (.string noHd.root)).setCell ⟨w.heap.size, 2, none⟩ (.string noHd.prev)) from
          (((HW4.out.setCell (Nat.le_refl _) _).setCell (Nat.le_refl _) _).setCell (Nat.le_refl _) _))
        go_wp2
        refine bodyPost_ret (results_row2 rfl _ _ w.heap.size 52 (arr 3 (hdF noHd)) (0, 0) _ rfl HFIN.out Tryz.underlying52 rfl (by rw [arr_size]; exact infoHead)) rfl ?_
        exact ⟨rfl, HFB.out⟩
end Go.Proofs.YtgjmbokfenpefaaGreatDoor
/- The document's numbers of rounds: root. -/
namespace Go.Proofs.YtgjmbokfenpefaaGreatDoor
open Go.RowKit

theorem searchL_done (k p f low high : Nat) (h : ¬ low + 1 < high) : searchL k p f low high = low := by
  cases f with
  | zero => rfl
  | succ f => show (if low + 1 < high then _ else low) = low; rw [if_neg h]
theorem searchL_step (k p f low high x : Nat) (h : low + 1 < high) (hx : (low + high) / 2 = x) : searchL k p (f + 1) low high = if aboveL x k p then searchL k p f low x else searchL k p f x high := by
  show (if low + 1 < high then _ else low) = _; rw [if_pos h, hx]

set_option maxRecDepth 100000 in
theorem root_any (p k : Nat) (w : World) (hk : k ≤ 3) :
    Calls Tryz.prog 31 #[.int .u64 (p : Int), .int .i64 (k : Int)] w fun e w' => e = .returned (.int .u32 ((rootL p k : Nat) : Int)) ∧ Below w.heap.size w w' := by
  go_enter Tryz.func31, Tryz.ntmps31
  go_wp2
  go_loopw [5, 6, 7] (fun lo hi x wr => ∃ low high f : Nat, lo = .int .u64 (low : Int) ∧ hi = .int .u64 (high : Int) ∧ high ≤ 1099511627776 ∧ low ≤ 1099511627776 ∧ low ≤ high ∧ high - low ≤ 2 ^ f ∧ searchL k p f low high = searchL k p 40 0 1099511627776 ∧ Below w.heap.size w wr)
    (fun lo hi _ _ => (intOf hi).toNat - (intOf lo).toNat)
  case atStart =>
    exact ⟨0, 1099511627776, 40, rfl, rfl, by omega, by omega, by omega, by decide, rfl, Below.refl _ _⟩
  case round =>
    obtain ⟨low, high, f, rfl, rfl, hh, hl, hlh, hf, hs, hb⟩ := hrel
    have HS := Lib.hid hs
    have HB := Lib.hid hb
    have HF := Lib.hid hf
    clear hs hb hf
    by_cases hlt : low + 1 < high
    · obtain ⟨x, hx⟩ : ∃ x, (low + high) / 2 = x := ⟨_, rfl⟩
      have hxi : ((low : Int) + (high : Int)) / 2 = (x : Int) := by omega
      have hx1 : low < x := by omega
      have hx2 : x < high := by omega
      have hx3 : x ≤ 1099511627776 := by omega
      have HX := Lib.hid hx
      obtain ⟨f', rfl⟩ : ∃ f', f = f' + 1 := by
        cases f with
        | zero => have := HF.out; simp at this; omega
        | succ f => exact ⟨f, rfl⟩
      have hp : high - low ≤ 2 * 2 ^ f' := by have := HF.out; rw [Nat.pow_succ] at this; omega
      have hs := HS.out
      rw [searchL_step k p f' low high x hlt hx] at hs
      have h1 : x - low ≤ 2 ^ f' := by omega
      have h2 : high - x ≤ 2 ^ f' := by omega
      have H1 := Lib.hid h1
      have H2 := Lib.hid h2
      have HS2 := Lib.hid hs
      clear hs hp hx h1 h2
      cases hab : aboveL x k p with
      | true =>
        go_wp2_with (go_at_call 61; refine (above_any x k p _ hx3 hk).mono ?_; rintro e w1 ⟨rfl, hb1⟩; have HB1 := Lib.hid hb1; clear hb1; rw [hab])
        go_wp2
        go_roundw
        case rel =>
          refine ⟨low, x, f', rfl, rfl, by omega, by omega, by omega, H1.out, ?_, HB.out.trans (HB1.out.mono HB.out.size)⟩
          have h := HS2.out; rw [hab, if_pos rfl] at h; exact h
        case measure => simp [intOf]; omega
      | false =>
        go_wp2_with (go_at_call 61; refine (above_any x k p _ hx3 hk).mono ?_; rintro e w1 ⟨rfl, hb1⟩; have HB1 := Lib.hid hb1; clear hb1; rw [hab])
        go_wp2
        go_roundw
        case rel =>
          refine ⟨x, high, f', rfl, rfl, by omega, by omega, by omega, H2.out, ?_, HB.out.trans (HB1.out.mono HB.out.size)⟩
          have h := HS2.out; rw [hab, if_neg (by decide)] at h; exact h
        case measure => simp [intOf]; omega
    · go_wp2
      go_ret
      refine ⟨?_, HB.out⟩
      have h := HS.out
      rw [searchL_done k p f low high hlt] at h
      unfold rootL; rw [← h]; rfl
end Go.Proofs.YtgjmbokfenpefaaGreatDoor
/- The numbers of rounds, reckoned from roots of primes, are the tables'. -/
namespace Go.Proofs.YtgjmbokfenpefaaGreatDoor
open Go.RowKit

theorem h_all : (List.range 8).all (fun i => rootL ((pl 310).getD i 0) 2 == (iv i).toNat) = true := by decide +kernel
theorem h_root (i : Nat) (h : i < 8) : rootL ((pl 310).getD i 0) 2 = (iv i).toNat := by
  have := List.all_eq_true.1 h_all i (List.mem_range.2 h); simpa using this

theorem k_val (i : Nat) (h : i < 64) : ((rootL ((pl 310).getD i 0) 3 : Nat) : Int) = W32 (kOf i) := by
  have h1 := k_root i h
  have h2 : rootL ((pl 310).getD i 0) 3 < 4294967296 := Nat.mod_lt _ (by decide)
  rw [h1] at h2 ⊢
  unfold W32 kOf
  rw [BitVec.toNat_ofNat, Nat.mod_eq_of_lt (by omega)]
theorem h_val (i : Nat) (h : i < 8) : ((rootL ((pl 310).getD i 0) 2 : Nat) : Int) = W32 (iv i) := by
  have h1 := h_root i h
  rw [h1]; rfl

end Go.Proofs.YtgjmbokfenpefaaGreatDoor
