/- Parts of the proof, one behind the other: Later, Leafs, Node. -/
import Derived.Test.YtpoibacokdjplaaGreatDoorM8
import Derived.WalkKit
import Derived.Deep.QuietTactic
import Derived.Test.YtpoibacokdjplaaGreatDoorM4
import Derived.Test.YtpoibacokdjplaaGreatDoorM9
import Derived.Deep.RegionHeld3
import Derived.Deep.DeepCutAuto
import Derived.Test.YtpoibacokdjplaaGreatDoorM6
/- Worlds later than one: for regions that hold calls that make memory. No program is imported. -/
namespace Go.Proofs.YtpoibacokdjplaaGreatDoor
open Go.RowKit

/-- What is later than a world, and the same below N. -/
structure Later (N : Nat) (w : World) where
  at' : World
  below : Below N w at'
theorem later_of {P : Program} {f : FuncId} {args : Array Value} {w : World} {v : Value} {z : Later w.heap.size w} (h : Calls P f args z.at' fun e w' => e = .returned v ∧ Below z.at'.heap.size z.at' w') :
    Calls P f args z.at' fun e w'' => e = .returned v ∧ ∃ z' : Later w.heap.size w, w'' = z'.at' :=
  h.mono fun _ w' ⟨he, hb⟩ => ⟨he, ⟨w', z.below.trans (hb.mono z.below.size)⟩, rfl⟩
instance (N : Nat) (w : World) : Nonempty (Later N w) := ⟨⟨w, Below.refl _ _⟩⟩

end Go.Proofs.YtpoibacokdjplaaGreatDoor
/- The document's Empty, Leaf, Join. -/
namespace Go.Proofs.YtpoibacokdjplaaGreatDoor
open Go.RowKit

theorem markOf_len (kind : UInt8) (parts : List ByteArray) : (markOf kind parts).size = 16 := by
  unfold markOf
  rw [txt_size, List.length_take]
  unfold sumOf
  rw [sumText_length]
  rfl
theorem num_size (d : Int) : (txt (num8 d)).size = 8 := by rw [txt_size, num8_length]
set_option maxRecDepth 100000 in
theorem refEmpty_any (b : Nat) (d : Int) (w : World) (hr : Holds w b 72 refCells 60) :
    Calls Tryz.prog 10 #[.pointer (some ⟨b, 0, none⟩), .int .i64 d] w fun e w' => e = .returned (.string (emptyM d)) ∧ Below w.heap.size w w' := by
  have HR := Lib.hid hr
  clear hr
  go_enter Tryz.func10, Tryz.ntmps10
  go_wp2_with fail
  refine (refNum_any d _).mono ?_
  rintro e w1 ⟨rfl, hb1⟩
  have HB1 := Lib.hid hb1
  clear hb1
  go_wp2_with fail
  refine (refMark_any b 101 [txt (num8 d)] (some ⟨w1.heap.size, 0, none⟩) 1 _ ((HR.out.below HB1.out HR.out.lt).alloc _) (by simp [total, num_size]) (by simp) (strs_new w1 [txt (num8 d)] 9)).mono ?_
  rintro e w2 ⟨rfl, hb2⟩
  have HB2 := Lib.hid (HB1.out.trans ((alloc_below w1 (.cells #[.string (txt (num8 d))] 9)).mono HB1.out.size |>.trans (hb2.mono (Nat.le_trans HB1.out.size (by simp)))))
  clear hb2
  go_wp2
  go_ret
  exact ⟨rfl, HB2.out⟩
set_option maxRecDepth 100000 in
theorem refJoin_any (b : Nat) (x y : ByteArray) (w : World) (hr : Holds w b 72 refCells 60) (hx : x.size ≤ 1000000) (hy : y.size ≤ 1000000) :
    Calls Tryz.prog 14 #[.pointer (some ⟨b, 0, none⟩), .string x, .string y] w fun e w' => e = .returned (.string (joinM x y)) ∧ Below w.heap.size w w' := by
  have HR := Lib.hid hr
  clear hr
  go_enter Tryz.func14, Tryz.ntmps14
  go_wp2_with fail
  refine (refMark_any b 110 [x, y] (some ⟨w.heap.size, 0, none⟩) 2 _ (HR.out.alloc _) (by simp [total]; omega) (by simp) (strs_new w [x, y] 9)).mono ?_
  rintro e w2 ⟨rfl, hb2⟩
  have HB2 := Lib.hid ((alloc_below w (.cells #[.string x, .string y] 9)).trans (hb2.mono (by simp)))
  clear hb2
  go_wp2
  go_ret
  exact ⟨rfl, HB2.out⟩
set_option maxRecDepth 100000 in
theorem refLeaf_any (b : Nat) (x : It) (d : Int) (w : World) (hr : Holds w b 72 refCells 60) (hx : x.1.size ≤ 1000000) (hy : x.2.size ≤ 1000000) :
    Calls Tryz.prog 12 #[.pointer (some ⟨b, 0, none⟩), .agg #[.string x.1, .string x.2], .int .i64 d] w fun e w' => e = .returned (.string (leafM x d)) ∧ Below w.heap.size w w' := by
  have HR := Lib.hid hr
  have HX := Lib.hid hx
  have HY := Lib.hid hy
  clear hr hx hy
  go_enter Tryz.func12, Tryz.ntmps12
  go_wp2
  have hb1 : Below w.heap.size w (w.alloc (.cells #[.string x.1, .string x.2] 24)) := alloc_below _ _
  have hN1 : w.heap.size < (w.alloc (.cells #[.string x.1, .string x.2] 24)).heap.size := by simp
  have e0 : (w.alloc (.cells #[.string x.1, .string x.2] 24)).cell? ⟨w.heap.size, 0, none⟩ = some (.string x.1) := cell_of_row _ w.heap.size 0 _ 24 (0, 0) (heap_alloc_new _ _)
  have e1 : (w.alloc (.cells #[.string x.1, .string x.2] 24)).cell? ⟨w.heap.size, 1, none⟩ = some (.string x.2) := cell_of_row _ w.heap.size 1 _ 24 (0, 0) (heap_alloc_new _ _)
  have HB1 := Lib.hid hb1
  have E0 := Lib.hid e0
  have E1 := Lib.hid e1
  clear hb1 e0 e1
  generalize hw1 : w.alloc (.cells #[.string x.1, .string x.2] 24) = w1 at HB1 E0 E1 hN1
  clear hw1
  have hs0 : w1.cell? ⟨w.heap.size, 0, none⟩ = some (.string x.1) ∧ w1.cell? ⟨w.heap.size, 1, none⟩ = some (.string x.2) ∧ Below w1.heap.size w1 w1.drew := ⟨E0.out, E1.out, (Below.refl _ _).drew⟩
  have KEEP : ∀ u v : World, (u.cell? ⟨w.heap.size, 0, none⟩ = some (.string x.1) ∧ u.cell? ⟨w.heap.size, 1, none⟩ = some (.string x.2) ∧ Below w1.heap.size w1 u) → Below u.heap.size u v → (v.cell? ⟨w.heap.size, 0, none⟩ = some (.string x.1) ∧ v.cell? ⟨w.heap.size, 1, none⟩ = some (.string x.2) ∧ Below w1.heap.size w1 v) :=
    fun u v ⟨h0, h1, hb⟩ hv => ⟨(hv.cell (by have := hb.size; show w.heap.size < _; omega)).trans h0, (hv.cell (by have := hb.size; show w.heap.size < _; omega)).trans h1, hb.trans (hv.mono hb.size)⟩
  have HKEEP := Lib.hid KEEP
  have HS0 := Lib.hid hs0
  have HHOLD := Lib.hid (show ∀ u : World, (u.cell? ⟨w.heap.size, 0, none⟩ = some (.string x.1) ∧ u.cell? ⟨w.heap.size, 1, none⟩ = some (.string x.2) ∧ Below w1.heap.size w1 u) → Holds u b 72 refCells 60 from fun u hu => (HR.out.below HB1.out HR.out.lt).below hu.2.2 (Nat.lt_of_lt_of_le HR.out.lt HB1.out.size))
  have HTOT := Lib.hid (show total [txt (num8 d), x.1, x.2] ≤ 1073741800 by have := HX.out; have := HY.out; simp [total, num_size]; omega)
  clear KEEP hs0
  go_region_held3 (fun w' => w'.cell? ⟨w.heap.size, 0, none⟩ = some (.string x.1) ∧ w'.cell? ⟨w.heap.size, 1, none⟩ = some (.string x.2) ∧ Below w1.heap.size w1 w') (first | exact HS0.out | (refine HKEEP.out _ _ ?_ (by assumption); first | exact HS0.out | assumption | exact ⟨by assumption, by assumption, by assumption⟩) | (refine HKEEP.out _ _ ?_ (alloc_below _ _); first | exact HS0.out | assumption | exact ⟨by assumption, by assumption, by assumption⟩))
    (first | (go_at_call 33; refine (refNum_any d _).mono ?_; rintro e w2 ⟨rfl, hb2⟩) | (go_at_call 32; refine (refMark_any b 108 [txt (num8 d), x.1, x.2] (some ⟨_, 0, none⟩) 3 _ (HHOLD.out _ (by assumption)) HTOT.out (by simp) (strs_new _ [txt (num8 d), x.1, x.2] 9)).mono ?_; rintro e w2 ⟨rfl, hb2⟩))
  rename_i _ _ w2 _ hheld
  have HB2 := Lib.hid (HB1.out.trans (hheld.2.2.mono HB1.out.size))
  clear hheld
  go_wp2
  go_ret
  exact ⟨rfl, HB2.out⟩
end Go.Proofs.YtpoibacokdjplaaGreatDoor
/- The document's NODE and Root. -/
namespace Go.Proofs.YtpoibacokdjplaaGreatDoor
open Go.RowKit

theorem nodeOf_nil (f : Nat) (L : List It) (d : Nat) (h : L.length = 0) : nodeOf f L d = emptyM d := by
  obtain rfl := List.eq_nil_of_length_eq_zero h
  cases f <;> simp [nodeOf]
theorem nodeOf_one (f : Nat) (L : List It) (d : Nat) (h : L.length = 1) : nodeOf f L d = leafM (itAt L 0) d := by
  match L, h with
  | [x], _ => cases f <;> simp [nodeOf, itAt]
theorem nodeOf_two (f : Nat) (L : List It) (d : Nat) (h : 2 ≤ L.length) : nodeOf (f + 1) L d = joinM (nodeOf f (half L d 0) (d + 1)) (nodeOf f (half L d 1) (d + 1)) := by
  rw [nodeOf, if_neg (by omega), if_neg (by omega)]
theorem nodeOf_size : ∀ (f : Nat) (L : List It) (d : Nat), (nodeOf f L d).size = 16 := by
  intro f L d
  rcases (show L.length = 0 ∨ L.length = 1 ∨ 2 ≤ L.length by omega) with h | h | h
  · rw [nodeOf_nil f L d h]; unfold emptyM; exact markOf_len _ _
  · rw [nodeOf_one f L d h]; unfold leafM; exact markOf_len _ _
  · cases f with
    | zero =>
      match L, h with
      | x :: _, _ => exact markOf_len _ _
    | succ f => rw [nodeOf_two f L d h]; exact markOf_len _ _
set_option maxRecDepth 100000 in
theorem refNode_few (b f d : Nat) (L : List It) (A : Option Addr) (cap : Nat) (w : World) (h2 : L.length < 2) (hap : Apart L d) (hcm : ∀ x ∈ L, x.2.size ≤ 1000000) (hr : Holds w b 72 refCells 60) (hm : Itms w A L) :
    Calls Tryz.prog 34 #[.pointer (some ⟨b, 0, none⟩), .slice A L.length cap, .int .i64 (d : Int)] w fun e w' => e = .returned (.string (nodeOf f L d)) ∧ Below w.heap.size w w' := by
  have HR := Lib.hid hr
  have HM := Lib.hid hm
  have HAP := Lib.hid hap
  have HCM := Lib.hid hcm
  clear hr hm hap hcm
  rcases (show L.length = 0 ∨ L.length = 1 by omega) with h | h
  · have HT := Lib.hid (nodeOf_nil f L d h)
    have h0 : ((L.length : Int) == 0) = true := by rw [beq_iff_eq]; omega
    clear h h2
    go_enter Tryz.func34, Tryz.ntmps34
    go_wp2_with fail
    refine (refEmpty_any b d _ HR.out).mono ?_
    rintro e w1 ⟨rfl, hb1⟩
    have HB1 := Lib.hid hb1
    clear hb1 h0
    go_wp2
    go_ret
    exact ⟨by rw [HT.out]; rfl, HB1.out⟩
  · have HT := Lib.hid (nodeOf_one f L d h)
    have h0 : ((L.length : Int) == 0) = false := by rw [beq_eq_false_iff_ne]; omega
    have h1 : ((L.length : Int) == 1) = true := by rw [beq_iff_eq]; omega
    have hlt : (0 : Int) < (L.length : Int) := by omega
    obtain ⟨a, rfl, hal, c0, c1⟩ := HM.out.at_ (show 0 < L.length by omega)
    have hx : itAt L 0 ∈ L := by rw [itAt_of (show 0 < L.length by omega)]; exact List.getElem_mem _
    have hx1 := HAP.out.1 _ hx
    have hx2 := HCM.out _ hx
    rw [Nat.zero_mul, add_zero'] at c0 c1
    have d2 : w.cell? ⟨a.block, a.off + 1, none⟩ = some (.string (itAt L 0).2) := c1
    generalize itAt L 0 = x at c0 d2 hx1 hx2 HT
    have HX1 := Lib.hid hx1
    have HX2 := Lib.hid hx2
    clear c1 hx1 hx2 hx h h2
    go_enter Tryz.func34, Tryz.ntmps34
    go_wp2_with fail
    refine (refLeaf_any b x d _ HR.out (by have := HX1.out; omega) HX2.out).mono ?_
    rintro e w1 ⟨rfl, hb1⟩
    have HB1 := Lib.hid hb1
    clear hb1 h0 h1
    go_wp2
    go_ret
    exact ⟨by rw [HT.out]; rfl, HB1.out⟩
set_option maxRecDepth 100000 in
theorem refNode_any (b : Nat) : ∀ (f d : Nat) (L : List It) (A : Option Addr) (cap : Nat) (w : World), d + f = 128 → Apart L d → L.length ≤ 1000000 → (∀ x ∈ L, x.2.size ≤ 1000000) → Holds w b 72 refCells 60 → Itms w A L →
    Calls Tryz.prog 34 #[.pointer (some ⟨b, 0, none⟩), .slice A L.length cap, .int .i64 (d : Int)] w fun e w' => e = .returned (.string (nodeOf f L d)) ∧ Below w.heap.size w w' := by
  intro f
  induction f with
  | zero =>
    intro d L A cap w hdf hap hl hcm hr hm
    refine refNode_few b 0 d L A cap w ?_ hap hcm hr hm
    rcases Nat.lt_or_ge L.length 2 with h | h
    · exact h
    · have := hap.lt h; omega
  | succ f ih =>
    intro d L A cap w hdf hap hl hcm hr hm
    rcases Nat.lt_or_ge L.length 2 with h | h
    · exact refNode_few b (f + 1) d L A cap w h hap hcm hr hm
    · have IH := Lib.hid ih
      have HR := Lib.hid hr
      have HM := Lib.hid hm
      have HAP := Lib.hid hap
      have HCM := Lib.hid hcm
      have HDF := Lib.hid hdf
      clear ih hr hm hap hcm hdf
      have hd : d < 128 := HAP.out.lt h
      have HT := Lib.hid (nodeOf_two f L d h)
      have ED := Lib.hid (show ((d : Int) + 1) = ((d + 1 : Nat) : Int) by omega)
      have h0 : ((L.length : Int) == 0) = false := by rw [beq_eq_false_iff_ne]; omega
      have h1 : ((L.length : Int) == 1) = false := by rw [beq_eq_false_iff_ne]; omega
      go_enter Tryz.func34, Tryz.ntmps34
      go_wp2_with fail
      refine (refHalves_any L A cap d _ HM.out hl HAP.out.1 hd).mono ?_
      rintro e w1 ⟨v0, v1, rfl, hb1, hr0, hr1⟩
      have HB1 := Lib.hid hb1
      obtain ⟨-, A0, c0, rfl, hi0⟩ := hr0.itms
      obtain ⟨-, A1, c1, rfl, hi1⟩ := hr1.itms
      have HI0 := Lib.hid hi0
      have HI1 := Lib.hid hi1
      clear hb1 hr0 hr1 hi0 hi1 h0 h1
      go_wp2_with fail
      rw [ED.out]
      refine (IH.out (d + 1) (half L d 0) A0 c0 _ (by have := HDF.out; omega) (HAP.out.half 0) (Nat.le_trans (half_le _ _ _) hl) (fun x hx => HCM.out x (List.mem_filter.1 hx).1) (HR.out.below HB1.out HR.out.lt) HI0.out).mono ?_
      rintro e w2 ⟨rfl, hb2⟩
      have HI1' := Lib.hid (HI1.out.below hb2)
      have HB2 := Lib.hid (HB1.out.trans (hb2.mono HB1.out.size))
      have hs1 := nodeOf_size f (half L d 0) (d + 1)
      generalize nodeOf f (half L d 0) (d + 1) = n0 at hs1 HT
      have HS1 := Lib.hid hs1
      clear hb2 hs1
      go_wp2_with fail
      rw [ED.out]
      refine (IH.out (d + 1) (half L d 1) A1 c1 _ (by have := HDF.out; omega) (HAP.out.half 1) (Nat.le_trans (half_le _ _ _) hl) (fun x hx => HCM.out x (List.mem_filter.1 hx).1) (HR.out.below HB2.out HR.out.lt) HI1'.out).mono ?_
      rintro e w3 ⟨rfl, hb3⟩
      have HB3 := Lib.hid (HB2.out.trans (hb3.mono HB2.out.size))
      have hs2 := nodeOf_size f (half L d 1) (d + 1)
      generalize nodeOf f (half L d 1) (d + 1) = n1 at hs2 HT
      have HS2 := Lib.hid hs2
      clear hb3 hs2
      go_wp2_with fail
      refine (refJoin_any b n0 n1 _ (HR.out.below HB3.out HR.out.lt) (by have := HS1.out; omega) (by have := HS2.out; omega)).mono ?_
      rintro e w4 ⟨rfl, hb4⟩
      have HB4 := Lib.hid (HB3.out.trans (hb4.mono HB3.out.size))
      clear hb4
      go_wp2
      go_ret
      exact ⟨by rw [HT.out]; rfl, HB4.out⟩

/-- The root of what is right. -/
def rootOf (L : List It) : ByteArray := nodeOf 128 L 0
def rootAns (L : List It) : ByteArray × Int := if rightItems L = true then (rootOf L, 0) else (⟨#[]⟩, 1)
theorem right_cm {L : List It} (h : rightItems L = true) : ∀ x ∈ L, x.2.size ≤ 1000000 := fun x hx => by have := (right_sizes h x hx).2; omega
set_option maxRecDepth 100000 in
theorem refRoot_is (b : Nat) (L : List It) (A : Option Addr) (cap : Nat) (x : ByteArray) (n : Int) (w : World) (hl : L.length ≤ 1000000) (hr : Holds w b 72 refCells 60) (hm : Itms w A L) (h : rootAns L = (x, n)) :
    Calls Tryz.prog 15 #[.pointer (some ⟨b, 0, none⟩), .slice A L.length cap] w fun e w' => e = .returned (.tuple #[.string x, .int .i64 n]) ∧ Below w.heap.size w w' := by
  have HR := Lib.hid hr
  have HM := Lib.hid hm
  clear hr hm
  unfold rootAns at h
  by_cases hk : rightItems L = true
  · rw [if_pos hk] at h
    cases h
    have HAP := Lib.hid (right_apart hk)
    have HCM := Lib.hid (right_cm hk)
    have HK := Lib.hid hk
    clear hk
    go_enter Tryz.func15, Tryz.ntmps15
    go_wp2_with fail
    refine (refRight_any L A cap _ HM.out hl).mono ?_
    rintro e w1 ⟨rfl, hb1⟩
    rw [HK.out]
    have HB1 := Lib.hid hb1
    have HM1 := Lib.hid (HM.out.below hb1)
    clear hb1
    go_wp2_with fail
    refine (refNode_any b 128 0 L A cap _ rfl HAP.out hl HCM.out (HR.out.below HB1.out HR.out.lt) HM1.out).mono ?_
    rintro e w2 ⟨rfl, hb2⟩
    have HB2 := Lib.hid (HB1.out.trans (hb2.mono HB1.out.size))
    clear hb2
    go_wp2
    refine bodyPost_ret (results_tmp2 rfl _ _ _) rfl ?_
    exact ⟨rfl, HB2.out⟩
  · rw [if_neg hk] at h
    cases h
    have HK := Lib.hid (show rightItems L = false by simpa using hk)
    clear hk
    go_enter Tryz.func15, Tryz.ntmps15
    go_wp2_with fail
    refine (refRight_any L A cap _ HM.out hl).mono ?_
    rintro e w1 ⟨rfl, hb1⟩
    rw [HK.out]
    have HB1 := Lib.hid hb1
    clear hb1
    go_wp2
    refine bodyPost_ret (results_tmp2 rfl _ _ _) rfl ?_
    exact ⟨rfl, HB1.out⟩
end Go.Proofs.YtpoibacokdjplaaGreatDoor
