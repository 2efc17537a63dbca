/- Parts of the proof, one behind the other: RMark, Leafs, Along, Times, Above, Primes. -/
import Derived.WalkKit
import Derived.Lib.Hide
import Derived.WalkLawsBesides
import Derived.Deep.QuietTactic
import Derived.Deep.WholeRow
import Derived.ArgAppend
import Derived.Laws.AppendOwnNone
import Derived.Laws.CopyRow
import Derived.Deep.RegionLaw
import Derived.Laws.BytesString
import Derived.Laws.IdiomStrings
import Derived.Laws.BitsAllLaws
import Derived.Test.YtgjmbokfenpefaaGreatDoorProg
import Derived.Outline
import Derived.BigQuiet
import Derived.Laws.CopyOwn
import Derived.RegionTactic
import Derived.StillTail
import Derived.Deep.Quiet
import Derived.Deep.RegionHeld3
import Derived.Deep.DeepCutAuto
import Derived.Test.YtgjmbokfenpefaaGreatDoorM1
import Derived.Test.YtgjmbokfenpefaaGreatDoorM2
import Derived.Test.YtgjmbokfenpefaaGreatDoorM3
import Derived.Test.YtgjmbokfenpefaaGreatDoorM4
import Derived.Test.YtgjmbokfenpefaaGreatDoorM5
import Derived.Test.YtgjmbokfenpefaaGreatDoorM33
import Derived.Test.YtgjmbokfenpefaaGreatDoorM34
/- The document's Mark. -/
namespace Go.Proofs.YtgjmbokfenpefaaGreatDoor
open Go.RowKit

set_option maxRecDepth 100000 in
theorem refMark_any (b : Nat) (kind : UInt8) (parts : List ByteArray) (pa : Option Addr) (cap : Nat) (w : World) (hr : Holds w b 72 refCells 97) (hs : total parts ≤ 1073741800) (hn : parts.length ≤ 1000000)
    (hc : ∀ (i : Nat) p, parts[i]? = some p → ∃ a, pa = some a ∧ a.block < w.heap.size ∧ w.cell? (a.add i) = some (.string p)) :
    Calls Tryz.prog 34 #[.pointer (some ⟨b, 0, none⟩), .int .u8 (kind.toNat : Int), .slice pa parts.length cap] w fun e w' => e = .returned (.string (markOf kind parts)) ∧ Below w.heap.size w w' := by
  have HR := Lib.hid hr
  have HC := Lib.hid hc
  clear hr hc
  have hcv := conv1 w kind _ rfl
  go_enter Tryz.func34, Tryz.ntmps34
  go_wp2
  clear hcv
  have hbw : Below w.heap.size w (w.alloc (.cells #[.int .u8 (kind.toNat : Int)] 5)) := (Below.refl _ _).alloc (Nat.le_refl _) _
  have HBW := Lib.hid hbw
  clear hbw
  go_loopw [7, 15] (fun s i wr => ∃ (k : Nat) (x : ByteArray), k ≤ parts.length ∧ i = .int .i64 (k : Int) ∧ s = .string x ∧ x = txt (markText kind (parts.take k)) ∧ Below w.heap.size w wr) (fun _ i _ => parts.length - (intOf i).toNat)
  case atStart => exact ⟨0, _, by omega, rfl, rfl, rfl, HBW.out⟩
  case round =>
    obtain ⟨k, x, hkl, rfl, rfl, hx, hb⟩ := hrel
    have HB := Lib.hid hb
    have HX := Lib.hid hx
    clear hb hx
    by_cases hlt : k < parts.length
    · obtain ⟨p, hp⟩ : ∃ p, parts[k]? = some p := ⟨_, List.getElem?_eq_getElem hlt⟩
      obtain ⟨ad, rfl, hal, hcell⟩ := HC.out k p hp
      have hcr : wr.cell? (ad.add k) = some (.string p) := by
        rw [HB.out.cell (by rw [show (ad.add k).block = ad.block from by unfold Addr.add; split <;> rfl]; exact hal)]; exact hcell
      have hpl : p.size ≤ 1073741800 := Nat.le_trans (total_le parts p (List.mem_of_getElem? hp)) hs
      have HP := Lib.hid hp
      clear hcell hp
      have hxz : x.size + 8 + p.size ≤ 1073741809 := by
        rw [HX.out, txt_size, markText_length]
        have e1 : total (parts.take (k + 1)) = total (parts.take k) + (p.size + 8) := by
          rw [List.take_add_one, HP.out]; simp [total]
        have e2 := total_take parts (k + 1)
        omega
      go_wp2_with fail
      refine (refNum_any _ _).mono ?_
      rintro e w3 ⟨rfl, hb3⟩
      have HB3 := Lib.hid hb3
      clear hb3
      have hyz : (txt (num8 p.size)).size = 8 := by rw [txt_size, num8_length]
      generalize hy : txt (num8 p.size) = y at hyz
      have HY := Lib.hid hy
      clear hy
      go_wp2
      go_roundw
      case rel =>
        refine ⟨k + 1, x ++ y ++ p, by omega, by go_num, rfl, ?_, HB.out.trans (HB3.out.mono HB.out.size)⟩
        have e : parts.take (k + 1) = parts.take k ++ [p] := by rw [List.take_add_one, HP.out]; rfl
        rw [e, markText_snoc, HX.out, ← HY.out, txt_append, ← txt_of p, txt_append, List.append_assoc, txt_list]
      case measure => simp [intOf]; omega
    · obtain rfl : k = parts.length := by omega
      have hxz : x.size ≤ 1073741809 := by
        rw [HX.out, txt_size, markText_length]
        have e2 := total_take parts parts.length
        omega
      go_wp2_with fail
      refine (refSum_any b x _ (HR.out.below HB.out HR.out.lt) (by omega)).mono ?_
      rintro e w3 ⟨rfl, hb3⟩
      have HB3 := Lib.hid hb3
      clear hb3
      have hyz : (txt (sumOf x.data.toList)).size = 32 := by rw [txt_size]; unfold sumOf; rw [sumText_length]
      generalize hy : txt (sumOf x.data.toList) = y at hyz
      have h16 : 16 ≤ y.size := by omega
      have HY := Lib.hid hy
      clear hy hyz
      go_wp2
      go_ret
      refine ⟨?_, HB.out.trans (HB3.out.mono HB.out.size)⟩
      have ey : y = txt (sumOf (markText kind parts)) := by
        rw [← HY.out, HX.out, txt_list, List.take_length]
      have ex : y.extract 0 16 = markOf kind parts := by
        unfold markOf
        rw [← txt_of (y.extract 0 16), ByteArray.data_extract, Array.toList_extract, ey, txt_list]
        simp [List.extract_eq_take_drop]
      rw [← ex]
      rfl
end Go.Proofs.YtgjmbokfenpefaaGreatDoor
/- The document's Empty, Leaf, Join. -/
namespace Go.Proofs.YtgjmbokfenpefaaGreatDoor
open Go.RowKit

set_option maxRecDepth 100000 in
theorem refEmpty_any (b : Nat) (d : Int) (w : World) (hr : Holds w b 72 refCells 97) :
    Calls Tryz.prog 165 #[.pointer (some ⟨b, 0, none⟩), .int .i64 d] w fun e w' => e = .returned (.string (emptyM d)) ∧ Below w.heap.size w w' := by
  have HR := Lib.hid hr
  clear hr
  go_enter Tryz.func165, Tryz.ntmps165
  go_wp2_with fail
  refine (refNum_any d _).mono ?_
  rintro e w1 ⟨rfl, hb1⟩
  have HB1 := Lib.hid hb1
  clear hb1
  go_wp2_with fail
  refine (refMark_any b 101 [txt (num8 d)] (some ⟨w1.heap.size, 0, none⟩) 1 _ ((HR.out.below HB1.out HR.out.lt).alloc _) (by simp [total, num_size]) (by simp) (strs_new w1 [txt (num8 d)] 9)).mono ?_
  rintro e w2 ⟨rfl, hb2⟩
  have HB2 := Lib.hid (HB1.out.trans ((alloc_below w1 (.cells #[.string (txt (num8 d))] 9)).mono HB1.out.size |>.trans (hb2.mono (Nat.le_trans HB1.out.size (by simp)))))
  clear hb2
  go_wp2
  go_ret
  exact ⟨rfl, HB2.out⟩
set_option maxRecDepth 100000 in
theorem refJoin_any (b : Nat) (x y : ByteArray) (w : World) (hr : Holds w b 72 refCells 97) (hx : x.size ≤ 1000000) (hy : y.size ≤ 1000000) :
    Calls Tryz.prog 168 #[.pointer (some ⟨b, 0, none⟩), .string x, .string y] w fun e w' => e = .returned (.string (joinM x y)) ∧ Below w.heap.size w w' := by
  have HR := Lib.hid hr
  clear hr
  go_enter Tryz.func168, Tryz.ntmps168
  go_wp2_with fail
  refine (refMark_any b 110 [x, y] (some ⟨w.heap.size, 0, none⟩) 2 _ (HR.out.alloc _) (by simp [total]; omega) (by simp) (strs_new w [x, y] 9)).mono ?_
  rintro e w2 ⟨rfl, hb2⟩
  have HB2 := Lib.hid ((alloc_below w (.cells #[.string x, .string y] 9)).trans (hb2.mono (by simp)))
  clear hb2
  go_wp2
  go_ret
  exact ⟨rfl, HB2.out⟩
set_option maxRecDepth 100000 in
theorem refLeaf_any (b : Nat) (x : It) (d : Int) (w : World) (hr : Holds w b 72 refCells 97) (hx : x.1.size ≤ 1000000) (hy : x.2.size ≤ 1000000) :
    Calls Tryz.prog 166 #[.pointer (some ⟨b, 0, none⟩), .agg #[.string x.1, .string x.2], .int .i64 d] w fun e w' => e = .returned (.string (leafM x d)) ∧ Below w.heap.size w w' := by
  have HR := Lib.hid hr
  have HX := Lib.hid hx
  have HY := Lib.hid hy
  clear hr hx hy
  go_enter Tryz.func166, Tryz.ntmps166
  go_wp2
  have hb1 : Below w.heap.size w (w.alloc (.cells #[.string x.1, .string x.2] 59)) := alloc_below _ _
  have hN1 : w.heap.size < (w.alloc (.cells #[.string x.1, .string x.2] 59)).heap.size := by simp
  have e0 : (w.alloc (.cells #[.string x.1, .string x.2] 59)).cell? ⟨w.heap.size, 0, none⟩ = some (.string x.1) := cell_of_row _ w.heap.size 0 _ 59 (0, 0) (heap_alloc_new _ _)
  have e1 : (w.alloc (.cells #[.string x.1, .string x.2] 59)).cell? ⟨w.heap.size, 1, none⟩ = some (.string x.2) := cell_of_row _ w.heap.size 1 _ 59 (0, 0) (heap_alloc_new _ _)
  have HB1 := Lib.hid hb1
  have E0 := Lib.hid e0
  have E1 := Lib.hid e1
  clear hb1 e0 e1
  generalize hw1 : w.alloc (.cells #[.string x.1, .string x.2] 59) = w1 at HB1 E0 E1 hN1
  clear hw1
  have hs0 : w1.cell? ⟨w.heap.size, 0, none⟩ = some (.string x.1) ∧ w1.cell? ⟨w.heap.size, 1, none⟩ = some (.string x.2) ∧ Below w1.heap.size w1 w1.drew := ⟨E0.out, E1.out, (Below.refl _ _).drew⟩
  have KEEP : ∀ u v : World, (u.cell? ⟨w.heap.size, 0, none⟩ = some (.string x.1) ∧ u.cell? ⟨w.heap.size, 1, none⟩ = some (.string x.2) ∧ Below w1.heap.size w1 u) → Below u.heap.size u v → (v.cell? ⟨w.heap.size, 0, none⟩ = some (.string x.1) ∧ v.cell? ⟨w.heap.size, 1, none⟩ = some (.string x.2) ∧ Below w1.heap.size w1 v) :=
    fun u v ⟨h0, h1, hb⟩ hv => ⟨(hv.cell (by have := hb.size; show w.heap.size < _; omega)).trans h0, (hv.cell (by have := hb.size; show w.heap.size < _; omega)).trans h1, hb.trans (hv.mono hb.size)⟩
  have HKEEP := Lib.hid KEEP
  have HS0 := Lib.hid hs0
  have HHOLD := Lib.hid (show ∀ u : World, (u.cell? ⟨w.heap.size, 0, none⟩ = some (.string x.1) ∧ u.cell? ⟨w.heap.size, 1, none⟩ = some (.string x.2) ∧ Below w1.heap.size w1 u) → Holds u b 72 refCells 97 from fun u hu => (HR.out.below HB1.out HR.out.lt).below hu.2.2 (Nat.lt_of_lt_of_le HR.out.lt HB1.out.size))
  have HTOT := Lib.hid (show total [txt (num8 d), x.1, x.2] ≤ 1073741800 by have := HX.out; have := HY.out; simp [total, num_size]; omega)
  clear KEEP hs0
  go_region_held3 (fun w' => w'.cell? ⟨w.heap.size, 0, none⟩ = some (.string x.1) ∧ w'.cell? ⟨w.heap.size, 1, none⟩ = some (.string x.2) ∧ Below w1.heap.size w1 w') (first | exact HS0.out | (refine HKEEP.out _ _ ?_ (by assumption); first | exact HS0.out | assumption | exact ⟨by assumption, by assumption, by assumption⟩) | (refine HKEEP.out _ _ ?_ (alloc_below _ _); first | exact HS0.out | assumption | exact ⟨by assumption, by assumption, by assumption⟩))
    (first | (go_at_call 63; refine (refNum_any d _).mono ?_; rintro e w2 ⟨rfl, hb2⟩) | (go_at_call 34; refine (refMark_any b 108 [txt (num8 d), x.1, x.2] (some ⟨_, 0, none⟩) 3 _ (HHOLD.out _ (by assumption)) HTOT.out (by simp) (strs_new _ [txt (num8 d), x.1, x.2] 9)).mono ?_; rintro e w2 ⟨rfl, hb2⟩))
  rename_i _ _ w2 _ hheld
  have HB2 := Lib.hid (HB1.out.trans (hheld.2.2.mono HB1.out.size))
  clear hheld
  go_wp2
  go_ret
  exact ⟨rfl, HB2.out⟩
end Go.Proofs.YtgjmbokfenpefaaGreatDoor
/- The document's along: so many steps of a chain. -/
namespace Go.Proofs.YtgjmbokfenpefaaGreatDoor
open Go.RowKit

set_option maxRecDepth 100000 in
theorem refAlong_any (b : Nat) (s : ByteArray) (c : Int) (k tt : Nat) (w : World) (hr : Holds w b 72 refCells 97) (hs : s.size = 16) (hk : k ≤ tt) (ht : tt ≤ 15) :
    Calls Tryz.prog 104 #[.pointer (some ⟨b, 0, none⟩), .string s, .int .i64 c, .int .i64 (k : Int), .int .i64 (tt : Int)] w fun e w' => e = .returned (.string (alongFrom c (tt - k) k s)) ∧ Below w.heap.size w w' := by
  have HR := Lib.hid hr
  obtain ⟨T, hT⟩ : ∃ T, alongFrom c (tt - k) k s = T := ⟨_, rfl⟩
  rw [hT]
  have HT := Lib.hid hT
  have HS := Lib.hid hs
  clear hr hT hs
  go_enter Tryz.func104, Tryz.ntmps104
  go_wp2
  go_loopw [1, 11] (fun sv i wr => ∃ (j : Nat) (u : ByteArray), j ≤ tt ∧ i = .int .i64 (j : Int) ∧ sv = .string u ∧ Hid (u.size = 16 ∧ alongFrom c (tt - j) j u = T ∧ Below w.heap.size w wr)) (fun _ i _ => tt - (intOf i).toNat)
  case atStart => exact ⟨k, s, hk, rfl, rfl, Lib.hid ⟨HS.out, HT.out, Below.refl _ _⟩⟩
  case round =>
    obtain ⟨j, u, hj, rfl, rfl, HU⟩ := hrel
    by_cases hlt : j < tt
    · go_wp2_with fail
      refine (refNum_any c _).mono ?_
      rintro e w1 ⟨rfl, hb1⟩
      have HB1 := Lib.hid (HU.out.2.2.trans (hb1.mono HU.out.2.2.size))
      clear hb1
      go_wp2_with fail
      refine (refNum_any (j : Int) _).mono ?_
      rintro e w2 ⟨rfl, hb2⟩
      have HB2 := Lib.hid (HB1.out.trans (hb2.mono HB1.out.size))
      clear hb2
      go_wp2_with fail
      refine (refMark_any b 119 [u, txt (num8 c), txt (num8 (j : Int))] (some ⟨w2.heap.size, 0, none⟩) 3 _ ((HR.out.below HB2.out HR.out.lt).alloc _) (by have := HU.out.1; simp [total, num_size]; omega) (by simp) (strs_new w2 [u, txt (num8 c), txt (num8 (j : Int))] 9)).mono ?_
      rintro e w3 ⟨rfl, hb3⟩
      have HB3 := Lib.hid ((HB2.out.trans ((alloc_below w2 (.cells #[.string u, .string (txt (num8 c)), .string (txt (num8 (j : Int)))] 9)).mono HB2.out.size)).trans (hb3.mono (Nat.le_trans HB2.out.size (by simp))))
      have HNX := Lib.hid (show alongFrom c (tt - (j + 1)) (j + 1) (markOf 119 [u, txt (num8 c), txt (num8 (j : Int))]) = T by
        have := HU.out.2.1
        rwa [show tt - j = (tt - (j + 1)) + 1 by omega, alongFrom] at this)
      clear hb3
      go_wp2
      go_roundw
      case rel => exact ⟨j + 1, _, by omega, by go_num, rfl, Lib.hid ⟨markOf_len _ _, HNX.out, HB3.out⟩⟩
      case measure => simp [intOf]; omega
    · obtain rfl : j = tt := by omega
      go_wp2
      go_ret
      have := HU.out.2.1
      rw [Nat.sub_self, alongFrom] at this
      have HB := HU.out.2.2
      subst this
      exact ⟨rfl, HB⟩
end Go.Proofs.YtgjmbokfenpefaaGreatDoor
/- The document's numbers of rounds: times, above, root. -/
namespace Go.Proofs.YtgjmbokfenpefaaGreatDoor
open Go.RowKit

theorem u64s_get (l : List Nat) (i : Nat) (h : i < l.length) : (u64s l)[i]? = some (.int .u64 ((l.getD i 0 : Nat) : Int)) := by simp [u64s, List.getD_eq_getElem?_getD, h]
theorem infoU64 : (Tryz.prog.info? 101).map (fun i => (i.zero, i.size, i.bytes)) = some (some (.int .u64 0), 1, 8) := by kernel_rfl

theorem digs_step (f c : Nat) (h : 0 < c) : digs (f + 1) c = (c % 65536) :: digs f (c / 65536) := by
  show (if c = 0 then [] else _) = _; rw [if_neg (by omega)]
theorem digs_zero (f : Nat) : digs f 0 = [] := by cases f <;> simp [digs]
/-- Digits of 2^16. -/
def Small (l : List Nat) : Prop := ∀ i, l.getD i 0 < 65536
def sliceN : Value → Nat | .slice _ n _ => n | _ => 0

theorem TimesRel.grow {N : Nat} {w wr w' : World} {v v' : Value} {l : List Nat} {c : Nat} (h : TimesRel N w wr v l) (hN : N ≤ w.heap.size)
    (hr : Row w' N 1 v' (l.length + 1) (u64s l ++ [.int .u64 (c : Int)])) (hg : wr.grownBy w' v.ownBlock) : TimesRel N w w' v' (l ++ [c]) :=
  ⟨grown_below h.below h.row hg (Nat.le_refl _) (Nat.le_trans hN h.below.size), by simpa [u64s] using hr⟩

set_option maxRecDepth 100000 in
theorem times_any (vs : List Nat) (p : Option Addr) (cap x : Nat) (w : World) (hx : x ≤ 1099511627776) (hsm : Small vs) (hn : vs.length ≤ 1000)
    (hc : ∀ i, i < vs.length → ∃ g, p = some ⟨g, 0, none⟩ ∧ g < w.heap.size ∧ w.cell? ⟨g, i, none⟩ = some (.int .u64 ((vs.getD i 0 : Nat) : Int))) :
    Calls Tryz.prog 103 #[.slice p vs.length cap, .int .u64 (x : Int)] w fun e w' => ∃ v, e = .returned v ∧ TimesRel w.heap.size w w' v (timesL x vs 0) := by
  have HC := Lib.hid hc
  have HS := Lib.hid hsm
  clear hc hsm
  go_enter Tryz.func103, Tryz.ntmps103
  go_wp2
  go_loopw [5, 6, 7] (fun out c i wr => ∃ (cn k f : Nat) (done : List Nat), c = .int .u64 (cn : Int) ∧ i = .int .i64 (k : Int) ∧ cn < 4398046511104 ∧ k ≤ vs.length + 4 ∧
      (k < vs.length → done ++ timesL x (vs.drop k) cn = timesL x vs 0) ∧ (vs.length ≤ k → f + k = vs.length + 4 ∧ cn < 65536 ^ f ∧ done ++ digs f cn = timesL x vs 0) ∧ done.length = k ∧ TimesRel w.heap.size w wr out done)
    (fun _ _ i _ => vs.length + 4 - (intOf i).toNat)
  case atStart =>
    refine ⟨0, 0, 4 + vs.length, [], rfl, rfl, by omega, by omega, fun _ => rfl, fun h => ?_, rfl, ⟨Below.refl _ _, show Row w w.heap.size 1 (.slice none 0 0) 0 [] from Row.nil _ _ _⟩⟩
    have h0 : vs.length = 0 := by omega
    have e : vs = [] := List.eq_nil_of_length_eq_zero h0
    rw [h0, e]; exact ⟨rfl, by omega, rfl⟩
  case round =>
    obtain ⟨cn, k, f, done, rfl, rfl, hcn, hk, h1, h2, hdl, hr⟩ := hrel
    have H1 := Lib.hid h1
    have H2 := Lib.hid h2
    have HR := Lib.hid hr
    clear h1 h2 hr
    by_cases hlt : k < vs.length
    · obtain ⟨g, rfl, hg, hcell⟩ := HC.out k hlt
      have hc1 : wr.cell? ⟨g, k, none⟩ = some (.int .u64 ((vs.getD k 0 : Nat) : Int)) := by rw [HR.out.below.cell hg]; exact hcell
      have hd := HS.out k
      generalize hdk : vs.getD k 0 = d at hc1 hd
      obtain ⟨m, hm⟩ : ∃ m : Nat, d * x = m := ⟨_, rfl⟩
      have hmb : m ≤ 72056494526300160 := by
        rw [← hm]
        exact Nat.le_trans (Nat.mul_le_mul (show d ≤ 65535 by omega) hx) (by omega)
      have hmul : IntKind.u64.wrap ((d : Int) * (x : Int)) = (m : Int) := by
        rw [← Int.natCast_mul, hm]; simp [IntKind.wrap, IntKind.bits, IntKind.signed]; omega
      have HM := Lib.hid hm
      have HD := Lib.hid hdk
      have HDL := Lib.hid hdl
      clear hm hcell hdk hdl
      go_wp2_with (at_builtin; refine wpList_append_one rfl (.tmp 32) (.tmp 35) 229 rfl 101 Tryz.underlying229 (.int .u64 0) 8 infoU64 rfl (by decide) w.heap.size _ done.length _ rfl HR.out.row HR.out.below.size (by have := HDL.out; omega) _ rfl rfl 101 ?_; intro v3 w3 hr3 hg3)
      go_wp2
      go_roundw
      case rel =>
        have hgr := HR.out.grow (c := (cn + m) % 65536) (Nat.le_refl _) (by have := hr3.out; rwa [show ((cn : Int) + (m : Int)) % 65536 = (((cn + m) % 65536 : Nat) : Int) from by omega] at this) hg3.out
        have hlist := H1.out hlt
        have hdrop : vs.drop k = d :: vs.drop (k + 1) := by
          rw [List.drop_eq_getElem_cons hlt]; congr 1
          have := HD.out; rw [List.getD_eq_getElem?_getD, List.getElem?_eq_getElem hlt] at this; exact this
        rw [hdrop] at hlist
        simp only [timesL, HM.out] at hlist
        refine ⟨(cn + m) / 65536, k + 1, vs.length + 4 - (k + 1), done ++ [(cn + m) % 65536], by rw [show ((cn : Int) + (m : Int)) / 65536 = (((cn + m) / 65536 : Nat) : Int) from by omega], by go_num, by omega, by omega, fun h => ?_, fun h => ?_, by rw [List.length_append, HDL.out]; rfl, hgr⟩
        · rw [List.append_assoc]; exact hlist
        · have e : k + 1 = vs.length := by omega
          rw [List.drop_of_length_le (by omega)] at hlist
          refine ⟨by omega, by rw [show vs.length + 4 - (k + 1) = 4 from by omega]; omega, ?_⟩
          rw [List.append_assoc, show vs.length + 4 - (k + 1) = 4 from by omega]; exact hlist
      case measure => simp [intOf]; omega
    · by_cases hc0 : 0 < cn
      · obtain ⟨h2a, h2b, h2c⟩ := H2.out (by omega)
        obtain ⟨f', rfl⟩ : ∃ f', f = f' + 1 := by
          cases f with
          | zero => simp at h2b; omega
          | succ f => exact ⟨f, rfl⟩
        have hkb : k < vs.length + 4 := by omega
        have H2B := Lib.hid h2b
        have H2C := Lib.hid h2c
        have H2A := Lib.hid h2a
        have HDL := Lib.hid hdl
        clear h2a h2b h2c hdl
        go_wp2_with (at_builtin; refine wpList_append_one rfl (.tmp 32) (.tmp 35) 229 rfl 101 Tryz.underlying229 (.int .u64 0) 8 infoU64 rfl (by decide) w.heap.size _ done.length _ rfl HR.out.row HR.out.below.size (by have := HDL.out; omega) _ rfl rfl 101 ?_; intro v3 w3 hr3 hg3)
        go_wp2
        go_roundw
        case rel =>
          have hgr := HR.out.grow (c := cn % 65536) (Nat.le_refl _) (by have := hr3.out; rwa [show (cn : Int) % 65536 = ((cn % 65536 : Nat) : Int) from by omega] at this) hg3.out
          refine ⟨cn / 65536, k + 1, f', done ++ [cn % 65536], by rw [show (cn : Int) / 65536 = ((cn / 65536 : Nat) : Int) from by omega], by go_num, by omega, by omega, fun h => by omega, fun h => ⟨by have := H2A.out; omega, ?_, ?_⟩, by rw [List.length_append, HDL.out]; rfl, hgr⟩
          · have := H2B.out
            rw [Nat.pow_succ] at this
            exact Nat.div_lt_of_lt_mul (by rw [Nat.mul_comm]; exact this)
          · rw [List.append_assoc]
            have := H2C.out
            rw [digs_step f' cn hc0] at this
            exact this
        case measure => simp [intOf]; omega
      · obtain rfl : cn = 0 := by omega
        obtain ⟨h2a, h2b, h2c⟩ := H2.out (by omega)
        have H2C := Lib.hid h2c
        clear h2a h2b h2c hdl
        go_wp2
        go_ret
        refine ⟨_, rfl, ?_⟩
        have := H2C.out
        rw [digs_zero, List.append_nil] at this
        rw [← this]
        exact HR.out
end Go.Proofs.YtgjmbokfenpefaaGreatDoor
/- The document's numbers of rounds: above. -/
namespace Go.Proofs.YtgjmbokfenpefaaGreatDoor
open Go.RowKit

theorem digs_small : ∀ (f c : Nat), Small (digs f c)
  | 0, _, i => by simp [digs]
  | f + 1, c, i => by
    unfold digs
    by_cases h : c = 0
    · rw [if_pos h]; simp
    · rw [if_neg h]
      cases i with
      | zero => simp; omega
      | succ i => exact digs_small f (c / 65536) i
theorem timesL_small (x : Nat) : ∀ (l : List Nat) (c : Nat), Small (timesL x l c)
  | [], c => digs_small 4 c
  | d :: l, c => fun i => by
    cases i with
    | zero => simp [timesL]; omega
    | succ i => exact timesL_small x l _ i
theorem digs_length : ∀ (f c : Nat), (digs f c).length ≤ f
  | 0, _ => by simp [digs]
  | f + 1, c => by
    unfold digs
    by_cases h : c = 0
    · rw [if_pos h]; simp
    · rw [if_neg h]; have := digs_length f (c / 65536); simp; omega
theorem timesL_length (x : Nat) : ∀ (l : List Nat) (c : Nat), (timesL x l c).length ≤ l.length + 4
  | [], c => by have := digs_length 4 c; simpa [timesL] using this
  | d :: l, c => by have := timesL_length x l ((c + d * x) / 65536); simp [timesL]; omega
theorem powL_small (x j : Nat) : Small (powL x j) := by
  cases j with
  | zero => intro i; cases i <;> simp [powL]
  | succ j => exact timesL_small x _ 0
theorem powL_length (x : Nat) : ∀ j, (powL x j).length ≤ 1 + 4 * j
  | 0 => by simp [powL]
  | j + 1 => by have := timesL_length x (powL x j) 0; have := powL_length x j; simp only [powL]; omega
theorem noughts_snoc (n : Nat) : noughts (n + 1) = noughts n ++ [0] := by unfold noughts; rw [List.replicate_succ']
theorem TwoRows.grow {N : Nat} {w wr w' : World} {vA vB v' : Value} {A B : List Nat} {c : Nat} (h : TwoRows N w wr vA vB A B) (hN : N ≤ w.heap.size)
    (hr : Row w' N 1 v' (A.length + 1) (u64s A ++ [.int .u64 (c : Int)])) (hg : wr.grownBy w' vA.ownBlock) (hm : Moved wr vA v') : TwoRows N w w' v' vB (A ++ [c]) B :=
  ⟨grown_below h.below h.a hg (Nat.le_refl _) (Nat.le_trans hN h.below.size), by simpa [u64s] using hr,
   h.b.kept (fun k hk => hg.block k (h.b.lt k hk).2 (fun e => h.ne k e.symm hk)) hg.size,
   fun d h1 h2 => by
     rcases hm with hm | hm
     · exact h.ne d (hm ▸ h1) h2
     · have := hm d h1; have := (h.b.lt d h2).2; omega⟩
theorem madeNoughts (n : Nat) : (madeCells #[Value.int .u64 0] n).toList = u64s (noughts n) := by
  unfold madeCells u64s noughts
  apply List.ext_getElem
  · simp
  · intro i h1 h2; simp [Nat.mod_one]
theorem cell_row {w : World} {base : Nat} {p : Option Addr} {cap : Nat} {l : List Nat} (h : Row w base 1 (.slice p l.length cap) l.length (u64s l)) (i : Nat) (hi : i < l.length) :
    ∃ g, p = some ⟨g, 0, none⟩ ∧ w.cell? ⟨g, i, none⟩ = some (.int .u64 ((l.getD i 0 : Nat) : Int)) := by
  obtain ⟨g, cap', hv, _, _, _, hcell, _⟩ := h.shape (by omega)
  injection hv with e1 e2 e3
  exact ⟨g, e1, hcell i _ (u64s_get l i hi)⟩

set_option maxHeartbeats 4000000 in
set_option maxRecDepth 100000 in
theorem above_any (x k p : Nat) (w : World) (hx : x ≤ 1099511627776) (hk : k ≤ 3) :
    Calls Tryz.prog 61 #[.int .u64 (x : Int), .int .i64 (k : Int), .int .u64 (p : Int)] w fun e w' => e = .returned (.bool (aboveL x k p)) ∧ Below w.heap.size w w' := by
  go_enter Tryz.func61, Tryz.ntmps61
  go_wp2
  go_loopw [7, 12] (fun v i wr => ∃ (j : Nat) (q : Option Addr) (cap : Nat), j ≤ k ∧ i = .int .i64 (j : Int) ∧ v = .slice q (powL x j).length cap ∧ RowOf w.heap.size w wr q cap (powL x j)) (fun _ i _ => k - (intOf i).toNat)
  case atStart =>
    refine ⟨0, _, _, by omega, rfl, rfl, (Below.refl _ _).alloc (Nat.le_refl _) _, ?_⟩
    refine ⟨rfl, .inr ⟨w.heap.size, 1, rfl, Nat.le_refl _, by simp, Nat.le_refl _, ?_, ?_⟩⟩
    · intro j u hj
      match j, hj with
      | 0, hj =>
        simp [u64s, powL] at hj; subst hj
        rw [cell_of_row _ _ _ _ _ _ (heap_alloc_new w _)]; rfl
    · intro j hj
      obtain rfl : j = 0 := by omega
      rw [cell_of_row _ _ _ _ _ _ (heap_alloc_new w _)]
      exact ⟨rfl, frozen_of_row _ _ _ _ _ (heap_alloc_new w _)⟩
  case round =>
    obtain ⟨j, q, cap, hj, rfl, rfl, hr⟩ := hrel
    have HR := Lib.hid hr
    have hlen := powL_length x j
    clear hr
    by_cases hlt : j < k
    · go_wp2_with fail
      refine (times_any (powL x j) q cap x _ hx (powL_small x j) (by omega) (fun i hi => ?_)).mono ?_
      · obtain ⟨g, cap', hv, hg, hgl, _, hcell, _⟩ := HR.out.row.shape (by omega)
        injection hv with e1 e2 e3
        exact ⟨g, e1, hgl, hcell i _ (u64s_get _ i hi)⟩
      · rintro e w1 ⟨v1, rfl, ht⟩
        obtain ⟨q1, cap1, rfl⟩ := ht.row.any
        have HT := Lib.hid ht
        clear ht
        go_wp2
        go_roundw
        case rel =>
          refine ⟨j + 1, q1, cap1, by omega, by go_num, rfl, ⟨HR.out.below.trans (HT.out.below.mono HR.out.below.size), HT.out.row.mono HR.out.below.size⟩⟩
        case measure => simp [intOf]; omega
    · have hA0 : powL x j = powL x k := by rw [show j = k by omega]
      generalize powL x j = A0 at HR hlen hA0
      generalize hB0 : noughts (2 * k) ++ [p] = B0
      have hB0l : B0.length = 2 * k + 1 := by rw [← hB0]; simp [noughts]
      have HA0 := Lib.hid hA0
      have hB7 : B0.length ≤ 7 := by omega
      clear hB0l
      have HB0 := Lib.hid hB0
      obtain ⟨i0, hi0, hz0, hz1, hz2⟩ := info_parts infoU64
      have HI0 := Lib.hid hi0
      have hlen' : A0.length ≤ 13 := by omega
      clear hi0 hA0 hB0
      go_wp2_with (first | (at_make; refine wpList_make_full _ rfl (.tmp 19) (.tmp 19) 229 rfl w.heap.size 101 i0 (.int .u64 0) 1 Tryz.underlying229 HI0.out hz0 hz1 .i64 .i64 (2 * (k : Int)) (2 * (k : Int)) (2 * k) rfl rfl (by omega) (by omega) (by rw [hz2]; omega) (by unfold maxLen; omega) HR.out.below.size ?_; intro w2 hown2 hg2; have HO2 := Lib.hid hown2; have HG2 := Lib.hid hg2; clear hown2 hg2) | (at_builtin; refine wpList_append_one2 rfl (.tmp 20) (.tmp 22) 229 rfl 101 Tryz.underlying229 (.int .u64 0) 8 infoU64 rfl (by decide) w.heap.size _ (2 * k) _ rfl (Row.of_owns HO2.out) (Nat.le_trans HR.out.below.size HG2.out.size) (by omega) _ rfl rfl 101 ?_; intro v3 w3 hr3 hg3 hm3))
      have hne0 : ∀ c, c < wr.heap.size → (Value.slice (some ⟨wr.heap.size, 0, none⟩) (2 * k) (2 * k)).ownBlock ≠ some c := by
        intro c hc e; simp [Value.ownBlock] at e; omega
      have T0 : TwoRows w.heap.size w w3 (.slice q A0.length cap) v3 A0 B0 := by
        have g3 : w2.grownBy w3 (Value.slice (some ⟨wr.heap.size, 0, none⟩) (2 * k) (2 * k)).ownBlock := hg3.out
        have m3 : Moved w2 (Value.slice (some ⟨wr.heap.size, 0, none⟩) (2 * k) (2 * k)) v3 := hm3.out
        have hrow3 := hr3.out
        rw [Nat.mul_one, show (Value.int .u64 0).cells = #[Value.int .u64 0] from rfl, madeNoughts] at hrow3
        have hb0 := HB0.out
        have g2 := HG2.out
        have hs2 := g2.size
        refine ⟨?_, HR.out.row.kept (fun c hc => ?_) (Nat.le_trans g2.size g3.size), ?_, ?_⟩
        · refine grown_below (grown_below HR.out.below (Row.nil _ _ 1) (by simpa [Value.ownBlock] using g2) (Nat.le_refl _) HR.out.below.size) (Row.of_owns HO2.out) g3 (Nat.le_refl _) (Nat.le_trans HR.out.below.size hs2)
        · have hlt := (HR.out.row.lt c hc).2
          rw [g3.block c (by omega) (fun e => hne0 c hlt e.symm), g2.block c hlt (by simp)]
        · rw [← hb0, show noughts (2 * k) ++ [p] = noughts (2 * k) ++ [p] from rfl]
          simpa [u64s, noughts] using hrow3
        · intro c hc e
          have hlt := (HR.out.row.lt c hc).2
          rcases m3 with m3 | m3
          · exact hne0 c hlt (m3 ▸ e)
          · have := m3 c e; omega
      obtain ⟨q3, cap3, hv3⟩ := T0.b.any
      have HT0 := Lib.hid T0
      clear T0 hm3 hg3 hr3
      subst hv3
      --BEGIN two
      go_loopw [7] (fun v wr => ∃ (A : List Nat) (q : Option Addr) (cap : Nat), v = .slice q A.length cap ∧ A.length ≤ max A0.length B0.length ∧ A = A0 ++ noughts (A.length - A0.length) ∧ TwoRows w.heap.size w wr v (.slice q3 B0.length cap3) A B0) (fun v _ => B0.length - sliceN v)
      case atStart =>
        refine ⟨A0, q, cap, rfl, by omega, by simp [noughts], HT0.out⟩
      case round =>
        obtain ⟨A, q4, cap4, rfl, hAl, hA, hT⟩ := hrel
        have HT := Lib.hid hT
        have HA := Lib.hid hA
        have hAge : A0.length ≤ A.length := by
          have := congrArg List.length hA; simp only [List.length_append] at this; omega
        clear hT hA
        by_cases hlt2 : A.length < B0.length
        · go_wp2_with (at_builtin; refine wpList_append_one2 rfl (.tmp 29) (.tmp 30) 229 rfl 101 Tryz.underlying229 (.int .u64 0) 8 infoU64 rfl (by decide) w.heap.size _ A.length _ rfl HT.out.a HT.out.below.size (by omega) _ rfl rfl 101 ?_; intro v5 w5 hr5 hg5 hm5)
          obtain ⟨q5, cap5, rfl⟩ := hr5.out.any
          go_wp2
          go_roundw
          case rel =>
            refine ⟨A ++ [0], q5, cap5, by simp, by simp; omega, ?_, HT.out.grow (Nat.le_refl _) hr5.out hg5.out hm5.out⟩
            rw [List.length_append, show A.length + [0].length - A0.length = (A.length - A0.length) + 1 by simp; omega, noughts_snoc, ← List.append_assoc, ← HA.out]
          case measure => simp [sliceN]; omega
        · go_wp2
          have hAe : A = padTo B0.length (powL x k) := by
            rw [← HA0.out]; unfold padTo
            by_cases h : B0.length ≤ A0.length
            · have : A.length - A0.length = 0 := by omega
              have h2 := HA.out; rw [this] at h2
              rw [h2, show B0.length - A0.length = 0 by omega]
            · have : A.length - A0.length = B0.length - A0.length := by omega
              have h2 := HA.out; rw [this] at h2; exact h2
          have HAE := Lib.hid hAe
          clear hAe
          --BEGIN three
          go_loopw [8] (fun v wr => ∃ (B : List Nat) (q : Option Addr) (cap : Nat), v = .slice q B.length cap ∧ B.length ≤ max A.length B0.length ∧ B = B0 ++ noughts (B.length - B0.length) ∧ TwoRows w.heap.size w wr (.slice q4 A.length cap4) v A B) (fun v _ => A.length - sliceN v)
          case atStart =>
            refine ⟨B0, q3, cap3, rfl, by omega, by simp [noughts], HT.out⟩
          case round =>
            obtain ⟨B, q6, cap6, rfl, hBl, hB, hT⟩ := hrel
            have HT3 := Lib.hid hT
            have HB := Lib.hid hB
            have hBge : B0.length ≤ B.length := by
              have := congrArg List.length hB; simp only [List.length_append] at this; omega
            clear hT hB
            by_cases hlt3 : B.length < A.length
            · go_wp2_with (at_builtin; refine wpList_append_one2 rfl (.tmp 37) (.tmp 38) 229 rfl 101 Tryz.underlying229 (.int .u64 0) 8 infoU64 rfl (by decide) w.heap.size _ B.length _ rfl HT3.out.b HT3.out.below.size (by omega) _ rfl rfl 101 ?_; intro v7 w7 hr7 hg7 hm7)
              obtain ⟨q7, cap7, rfl⟩ := hr7.out.any
              go_wp2
              go_roundw
              case rel =>
                refine ⟨B ++ [0], q7, cap7, by simp, by simp; omega, ?_, (HT3.out.symm.grow (Nat.le_refl _) hr7.out hg7.out hm7.out).symm⟩
                rw [List.length_append, show B.length + [0].length - B0.length = (B.length - B0.length) + 1 by simp; omega, noughts_snoc, ← List.append_assoc, ← HB.out]
              case measure => simp [sliceN]; omega
            · have hBe : B = padTo A.length B0 := by
                unfold padTo
                by_cases h : A.length ≤ B0.length
                · have : B.length - B0.length = 0 := by omega
                  have h2 := HB.out; rw [this] at h2
                  rw [h2, show A.length - B0.length = 0 by omega]
                · have : B.length - B0.length = A.length - B0.length := by omega
                  have h2 := HB.out; rw [this] at h2; exact h2
              have hans : aboveL x k p = cmpAt A B A.length := by
                unfold aboveL; rw [HB0.out]; show cmpAt (padTo B0.length (powL x k)) _ _ = _
                rw [← HAE.out, ← hBe]
              have HANS := Lib.hid hans
              clear hBe hans
              go_wp2
              --BEGIN four
              have hBA : A.length ≤ B.length := by omega
              go_loopw [9] (fun i wr => ∃ (n : Nat) (z : Int), i = .int .i64 z ∧ z + 1 = n ∧ n ≤ A.length ∧ cmpAt A B A.length = cmpAt A B n ∧ TwoRows w.heap.size w wr (.slice q4 A.length cap4) (.slice q6 B.length cap6) A B) (fun i _ => (intOf i + 1).toNat)
              case atStart =>
                refine ⟨A.length, _, rfl, by omega, Nat.le_refl _, rfl, HT3.out⟩
              case round =>
                obtain ⟨n, z, rfl, hz, hn, hc, hT⟩ := hrel
                have HC4 := Lib.hid hc
                have HT4 := Lib.hid hT
                clear hc hT
                cases n with
                | zero =>
                  obtain rfl : z = -1 := by omega
                  go_wp2
                  go_ret
                  refine ⟨?_, HT4.out.below⟩
                  rw [HANS.out, HC4.out]; rfl
                | succ m =>
                  obtain rfl : z = (m : Int) := by omega
                  obtain ⟨g1, rfl, c1⟩ := cell_row HT4.out.a m (by omega)
                  obtain ⟨g2, rfl, c2⟩ := cell_row HT4.out.b m (by omega)
                  generalize ha : A.getD m 0 = a at c1
                  generalize hb : B.getD m 0 = b at c2
                  have hstep : cmpAt A B (m + 1) = if a = b then cmpAt A B m else decide (b < a) := by rw [← ha, ← hb]; rfl
                  have HS := Lib.hid hstep
                  clear ha hb hstep
                  by_cases hab : a = b
                  · subst hab
                    go_wp2
                    go_quiet (fail)
                    go_wp2
                    go_roundw
                    case rel =>
                      refine ⟨m, (m : Int) - 1, rfl, by omega, by omega, ?_, ?_⟩
                      · have h1 := HC4.out; have h2 := HS.out; rw [h1, h2]; simp
                      · exact ⟨below_drewN HT4.out.below _, HT4.out.a.drewN _, HT4.out.b.drewN _, HT4.out.ne⟩
                    case measure => simp [intOf]
                  · go_wp2
                    go_quiet (fail)
                    go_wp2
                    refine wp_region_head_tail (fun w' => ∃ n, w' = wr.drewN n) 9 (by kernel_rfl) (by kernel_rfl) ⟨nq + 1, rfl⟩ ?_
                    simp only [List.take_succ_cons, List.take_zero, List.drop_succ_cons, List.drop_zero]
                    repeat (first | go_big_quiet_step (fail) | quiet_step (fail))
                    refine wpQuiet_nil ?_
                    rintro w4 ⟨n4, rfl⟩
                    go_wp2
                    go_ret
                    refine ⟨?_, below_drewN HT4.out.below _⟩
                    have h1 := HC4.out
                    have h2 := HS.out
                    rw [HANS.out, h1, h2, if_neg hab]
                    rfl
              --END four
          --END three
      --END two
end Go.Proofs.YtgjmbokfenpefaaGreatDoor
/- The document's numbers of rounds: primes. -/
namespace Go.Proofs.YtgjmbokfenpefaaGreatDoor
open Go.RowKit

theorem i64s_get (l : List Nat) (i : Nat) (h : i < l.length) : (i64s l)[i]? = some (.int .i64 ((l.getD i 0 : Nat) : Int)) := by simp [i64s, List.getD_eq_getElem?_getD, h]
theorem infoI64 : (Tryz.prog.info? 3).map (fun i => (i.zero, i.size, i.bytes)) = some (some (.int .i64 0), 1, 8) := by kernel_rfl
theorem pl_le (m : Nat) : (pl m).length ≤ (pl (m + 1)).length := by
  show _ ≤ (if _ then _ else _ : List Nat).length
  split <;> simp
theorem pl_mono {m n : Nat} (h : m ≤ n) : (pl m).length ≤ (pl n).length := by
  induction n with
  | zero => obtain rfl : m = 0 := by omega
            exact Nat.le_refl _
  | succ n ih =>
    by_cases hm : m = n + 1
    · subst hm; exact Nat.le_refl _
    · exact Nat.le_trans (ih (by omega)) (pl_le n)
theorem pl_length (m : Nat) : (pl m).length ≤ m := by
  induction m with
  | zero => exact Nat.le_refl _
  | succ m ih =>
    show (if _ then _ else _ : List Nat).length ≤ _
    split
    · simp; omega
    · omega
theorem pl_309 : (pl 309).length = 63 := by decide +kernel
theorem pl_310 : (pl 310).length = 64 := by decide +kernel
theorem pl_pos : ∀ (m i : Nat), i < (pl m).length → 2 ≤ (pl m).getD i 0 ∧ (pl m).getD i 0 ≤ m + 1
  | 0, i, h => by simp [pl] at h
  | m + 1, i, h => by
    have ih := pl_pos m i
    unfold pl at h ⊢
    split at h <;> rename_i hc
    · rw [if_pos hc]
      by_cases hi : i < (pl m).length
      · have := ih hi
        rw [List.getD_eq_getElem?_getD, List.getElem?_append_left hi, ← List.getD_eq_getElem?_getD]; omega
      · have : i = (pl m).length := by simp at h; omega
        subst this
        simp [List.getD_eq_getElem?_getD]
    · rw [if_neg hc]
      have := ih h; omega

/-- None of the first i divides. -/
def noneOf (l : List Nat) (K i : Nat) : Bool := (l.take i).all (fun p => K % p != 0)
theorem noneOf_next (l : List Nat) (K i : Nat) (h : i < l.length) : noneOf l K (i + 1) = (noneOf l K i && (K % l.getD i 0 != 0)) := by
  unfold noneOf
  rw [List.take_add_one, List.all_append, List.getElem?_eq_getElem h, List.getD_eq_getElem?_getD, List.getElem?_eq_getElem h]
  simp
theorem noneOf_all (l : List Nat) (K : Nat) : noneOf l K l.length = l.all (fun p => K % p != 0) := by unfold noneOf; rw [List.take_length]
theorem cell_row64 {w : World} {base : Nat} {p : Option Addr} {cap : Nat} {l : List Nat} (h : Row w base 1 (.slice p l.length cap) l.length (i64s l)) (i : Nat) (hi : i < l.length) :
    ∃ g, p = some ⟨g, 0, none⟩ ∧ w.cell? ⟨g, i, none⟩ = some (.int .i64 ((l.getD i 0 : Nat) : Int)) := by
  obtain ⟨g, cap', hv, _, _, _, hcell, _⟩ := h.shape (by omega)
  injection hv with e1 e2 e3
  exact ⟨g, e1, hcell i _ (i64s_get l i hi)⟩

set_option maxRecDepth 100000 in
theorem primes_any (w : World) :
    Calls Tryz.prog 30 #[.int .i64 64] w fun e w' => ∃ v, e = .returned v ∧ Below w.heap.size w w' ∧ Row w' w.heap.size 1 v 64 (i64s (pl 310)) := by
  go_enter Tryz.func30, Tryz.ntmps30
  go_wp2
  go_loopw [3, 4] (fun v k wr => ∃ (m : Nat) (l : List Nat) (q : Option Addr) (cap : Nat), m ≤ 310 ∧ l = pl m ∧ k = .int .i64 ((m + 2 : Nat) : Int) ∧ v = .slice q l.length cap ∧ Below w.heap.size w wr ∧ Row wr w.heap.size 1 v l.length (i64s l)) (fun _ k _ => 400 - (intOf k).toNat)
  case atStart =>
    exact ⟨0, [], none, 0, by omega, rfl, rfl, rfl, Below.refl _ _, Row.nil _ _ _⟩
  case round =>
    obtain ⟨m, l, q, cap, hm, hl, rfl, rfl, hb, hr⟩ := hrel
    have HB := Lib.hid hb
    have HR := Lib.hid hr
    have hll : l.length ≤ 310 := by rw [hl]; exact Nat.le_trans (pl_length m) hm
    have hpos : ∀ i, i < l.length → 2 ≤ l.getD i 0 ∧ l.getD i 0 ≤ 311 := by
      intro i hi; rw [hl] at hi ⊢; have := pl_pos m i hi; omega
    have HP := Lib.hid hpos
    have HL := Lib.hid hl
    clear hb hr hpos hl
    obtain ⟨K, hK⟩ : ∃ K, m + 2 = K := ⟨_, rfl⟩
    rw [hK]
    have hK2 : K ≤ 312 := by omega
    by_cases hlt : l.length < 64
    · have hm309 : m < 310 := by
        have : m ≠ 310 := by
          intro e
          rw [HL.out, e, pl_310] at hlt; omega
        omega
      have HK := Lib.hid hK
      clear hK
      go_wp2
      go_loopw [5, 16] (fun b i wi => ∃ (j : Nat), j ≤ l.length ∧ i = .int .i64 (j : Int) ∧ b = .bool (noneOf l K j) ∧ wi = wr) (fun _ i _ => l.length - (intOf i).toNat)
      case atStart =>
        exact ⟨0, by omega, rfl, rfl, rfl⟩
      case round =>
        obtain ⟨j, hj, rfl, rfl, rfl⟩ := hrel
        by_cases hjl : j < l.length
        · have hn := noneOf_next l K j hjl
          obtain ⟨g, rfl, hc⟩ := cell_row64 HR.out j hjl
          have hp := HP.out j hjl
          generalize hpv : l.getD j 0 = p at hn hc hp
          have HN := Lib.hid hn
          clear hpv hn
          generalize hb : noneOf l K j = b at HN
          cases b with
          | true =>
            go_wp2
            go_roundw
            case rel =>
              refine ⟨j + 1, by omega, by go_num, ?_, trivial⟩
              rw [HN.out, Bool.true_and]
              congr 1
              rw [Bool.eq_iff_iff]; simp; omega
            case measure => simp [intOf]; omega
          | false =>
            go_wp2
            go_roundw
            case rel =>
              refine ⟨j + 1, by omega, by go_num, ?_, trivial⟩
              rw [HN.out, Bool.false_and]
            case measure => simp [intOf]; omega
        · have hjn : j = l.length := by omega
          have hall : noneOf l K j = l.all (fun p => K % p != 0) := by rw [hjn, noneOf_all]
          have hpl : pl (m + 1) = if noneOf l K j then l ++ [K] else l := by
            rw [hall]
            have h1 := HL.out; have h2 := HK.out
            show (if (pl m).all (fun p => (m + 2) % p != 0) then pl m ++ [m + 2] else pl m) = _
            rw [← h1, h2]
          have HPL := Lib.hid hpl
          clear hpl hall
          generalize noneOf l K j = b at HPL
          cases b with
          | true =>
            go_wp2_with (at_builtin; refine wpList_append_one rfl (.tmp 29) (.tmp 31) 98 rfl 3 Tryz.underlying98 (.int .i64 0) 8 infoI64 rfl (by decide) w.heap.size _ l.length _ rfl HR.out HB.out.size (by omega) _ rfl rfl 3 ?_; intro v3 w3 hr3 hg3)
            obtain ⟨q3, cap3, rfl⟩ := hr3.out.any
            go_wp2
            go_roundw
            case rel =>
              refine ⟨m + 1, l ++ [K], q3, cap3, by omega, ?_, ?_, by simp, grown_below HB.out HR.out hg3.out (Nat.le_refl _) HB.out.size, ?_⟩
              · have h := HPL.out; rw [if_pos rfl] at h; exact h.symm
              · have h := HK.out; rw [← h]; congr 1
              · have h := hr3.out; simpa [i64s] using h
            case measure => simp [intOf]; omega
          | false =>
            go_wp2
            go_roundw
            case rel =>
              refine ⟨m + 1, l, q, cap, by omega, ?_, ?_, rfl, HB.out, HR.out⟩
              · have h := HPL.out; rw [if_neg (by decide)] at h; exact h.symm
              · have h := HK.out; rw [← h]; congr 1
            case measure => simp [intOf]; omega
    · have hm310 : m = 310 := by
        have h1 := HL.out
        by_cases h : m ≤ 309
        · have := pl_mono h; rw [pl_309, ← h1] at this; omega
        · omega
      have hl64 : l.length = 64 := by
        have h1 := HL.out; rw [h1, hm310, pl_310]
      have HL64 := Lib.hid hl64
      have HM := Lib.hid hm310
      clear hm310 hl64
      go_wp2
      go_ret
      refine ⟨_, rfl, HB.out, ?_⟩
      have h := HR.out
      have h1 := HL.out
      have h2 := HM.out
      rw [HL64.out] at h ⊢
      rw [h1, h2] at h
      exact h
end Go.Proofs.YtgjmbokfenpefaaGreatDoor
