/- Parts of the proof, one behind the other: Later, Leafs, Heads, Along, Times. -/
import Derived.Test.YtcfpmofmjnhonaaGreatDoorM6
import Derived.WalkKit
import Derived.Deep.QuietTactic
import Derived.Test.YtcfpmofmjnhonaaGreatDoorM5
import Derived.Test.YtcfpmofmjnhonaaGreatDoorM7
import Derived.Deep.RegionHeld3
import Derived.Deep.DeepCutAuto
import Derived.Laws.ResultCell
import Derived.Test.YtcfpmofmjnhonaaGreatDoorM2
import Derived.Test.YtcfpmofmjnhonaaGreatDoorProg
/- Worlds later than one: for regions that hold calls that make memory. No program is imported. -/
namespace Go.Proofs.YtcfpmofmjnhonaaGreatDoor
open Go.RowKit

/-- What is later than a world, and the same below N. -/
structure Later (N : Nat) (w : World) where
  at' : World
  below : Below N w at'
theorem later_of {P : Program} {f : FuncId} {args : Array Value} {w : World} {v : Value} {z : Later w.heap.size w} (h : Calls P f args z.at' fun e w' => e = .returned v ∧ Below z.at'.heap.size z.at' w') :
    Calls P f args z.at' fun e w'' => e = .returned v ∧ ∃ z' : Later w.heap.size w, w'' = z'.at' :=
  h.mono fun _ w' ⟨he, hb⟩ => ⟨he, ⟨w', z.below.trans (hb.mono z.below.size)⟩, rfl⟩
instance (N : Nat) (w : World) : Nonempty (Later N w) := ⟨⟨w, Below.refl _ _⟩⟩

end Go.Proofs.YtcfpmofmjnhonaaGreatDoor
/- The document's Empty, Leaf, Join. -/
namespace Go.Proofs.YtcfpmofmjnhonaaGreatDoor
open Go.RowKit

theorem markOf_len (kind : UInt8) (parts : List ByteArray) : (markOf kind parts).size = 16 := by
  unfold markOf
  rw [txt_size, List.length_take]
  unfold sumOf
  rw [sumText_length]
  rfl
theorem num_size (d : Int) : (txt (num8 d)).size = 8 := by rw [txt_size, num8_length]
set_option maxRecDepth 100000 in
theorem refEmpty_any (b : Nat) (d : Int) (w : World) (hr : Holds w b 72 refCells 121) :
    Calls Tryz.prog 155 #[.pointer (some ⟨b, 0, none⟩), .int .i64 d] w fun e w' => e = .returned (.string (emptyM d)) ∧ Below w.heap.size w w' := by
  have HR := Lib.hid hr
  clear hr
  go_enter Tryz.func155, Tryz.ntmps155
  go_wp2_with fail
  refine (refNum_any d _).mono ?_
  rintro e w1 ⟨rfl, hb1⟩
  have HB1 := Lib.hid hb1
  clear hb1
  go_wp2_with fail
  refine (refMark_any b 101 [txt (num8 d)] (some ⟨w1.heap.size, 0, none⟩) 1 _ ((HR.out.below HB1.out HR.out.lt).alloc _) (by simp [total, num_size]) (by simp) (strs_new w1 [txt (num8 d)] 9)).mono ?_
  rintro e w2 ⟨rfl, hb2⟩
  have HB2 := Lib.hid (HB1.out.trans ((alloc_below w1 (.cells #[.string (txt (num8 d))] 9)).mono HB1.out.size |>.trans (hb2.mono (Nat.le_trans HB1.out.size (by simp)))))
  clear hb2
  go_wp2
  go_ret
  exact ⟨rfl, HB2.out⟩
set_option maxRecDepth 100000 in
theorem refJoin_any (b : Nat) (x y : ByteArray) (w : World) (hr : Holds w b 72 refCells 121) (hx : x.size ≤ 1000000) (hy : y.size ≤ 1000000) :
    Calls Tryz.prog 157 #[.pointer (some ⟨b, 0, none⟩), .string x, .string y] w fun e w' => e = .returned (.string (joinM x y)) ∧ Below w.heap.size w w' := by
  have HR := Lib.hid hr
  clear hr
  go_enter Tryz.func157, Tryz.ntmps157
  go_wp2_with fail
  refine (refMark_any b 110 [x, y] (some ⟨w.heap.size, 0, none⟩) 2 _ (HR.out.alloc _) (by simp [total]; omega) (by simp) (strs_new w [x, y] 9)).mono ?_
  rintro e w2 ⟨rfl, hb2⟩
  have HB2 := Lib.hid ((alloc_below w (.cells #[.string x, .string y] 9)).trans (hb2.mono (by simp)))
  clear hb2
  go_wp2
  go_ret
  exact ⟨rfl, HB2.out⟩
set_option maxRecDepth 100000 in
theorem refLeaf_any (b : Nat) (x : It) (d : Int) (w : World) (hr : Holds w b 72 refCells 121) (hx : x.1.size ≤ 1000000) (hy : x.2.size ≤ 1000000) :
    Calls Tryz.prog 156 #[.pointer (some ⟨b, 0, none⟩), .agg #[.string x.1, .string x.2], .int .i64 d] w fun e w' => e = .returned (.string (leafM x d)) ∧ Below w.heap.size w w' := by
  have HR := Lib.hid hr
  have HX := Lib.hid hx
  have HY := Lib.hid hy
  clear hr hx hy
  go_enter Tryz.func156, Tryz.ntmps156
  go_wp2
  have hb1 : Below w.heap.size w (w.alloc (.cells #[.string x.1, .string x.2] 61)) := alloc_below _ _
  have hN1 : w.heap.size < (w.alloc (.cells #[.string x.1, .string x.2] 61)).heap.size := by simp
  have e0 : (w.alloc (.cells #[.string x.1, .string x.2] 61)).cell? ⟨w.heap.size, 0, none⟩ = some (.string x.1) := cell_of_row _ w.heap.size 0 _ 61 (0, 0) (heap_alloc_new _ _)
  have e1 : (w.alloc (.cells #[.string x.1, .string x.2] 61)).cell? ⟨w.heap.size, 1, none⟩ = some (.string x.2) := cell_of_row _ w.heap.size 1 _ 61 (0, 0) (heap_alloc_new _ _)
  have HB1 := Lib.hid hb1
  have E0 := Lib.hid e0
  have E1 := Lib.hid e1
  clear hb1 e0 e1
  generalize hw1 : w.alloc (.cells #[.string x.1, .string x.2] 61) = w1 at HB1 E0 E1 hN1
  clear hw1
  have hs0 : w1.cell? ⟨w.heap.size, 0, none⟩ = some (.string x.1) ∧ w1.cell? ⟨w.heap.size, 1, none⟩ = some (.string x.2) ∧ Below w1.heap.size w1 w1.drew := ⟨E0.out, E1.out, (Below.refl _ _).drew⟩
  have KEEP : ∀ u v : World, (u.cell? ⟨w.heap.size, 0, none⟩ = some (.string x.1) ∧ u.cell? ⟨w.heap.size, 1, none⟩ = some (.string x.2) ∧ Below w1.heap.size w1 u) → Below u.heap.size u v → (v.cell? ⟨w.heap.size, 0, none⟩ = some (.string x.1) ∧ v.cell? ⟨w.heap.size, 1, none⟩ = some (.string x.2) ∧ Below w1.heap.size w1 v) :=
    fun u v ⟨h0, h1, hb⟩ hv => ⟨(hv.cell (by have := hb.size; show w.heap.size < _; omega)).trans h0, (hv.cell (by have := hb.size; show w.heap.size < _; omega)).trans h1, hb.trans (hv.mono hb.size)⟩
  have HKEEP := Lib.hid KEEP
  have HS0 := Lib.hid hs0
  have HHOLD := Lib.hid (show ∀ u : World, (u.cell? ⟨w.heap.size, 0, none⟩ = some (.string x.1) ∧ u.cell? ⟨w.heap.size, 1, none⟩ = some (.string x.2) ∧ Below w1.heap.size w1 u) → Holds u b 72 refCells 121 from fun u hu => (HR.out.below HB1.out HR.out.lt).below hu.2.2 (Nat.lt_of_lt_of_le HR.out.lt HB1.out.size))
  have HTOT := Lib.hid (show total [txt (num8 d), x.1, x.2] ≤ 1073741800 by have := HX.out; have := HY.out; simp [total, num_size]; omega)
  clear KEEP hs0
  go_region_held3 (fun w' => w'.cell? ⟨w.heap.size, 0, none⟩ = some (.string x.1) ∧ w'.cell? ⟨w.heap.size, 1, none⟩ = some (.string x.2) ∧ Below w1.heap.size w1 w') (first | exact HS0.out | (refine HKEEP.out _ _ ?_ (by assumption); first | exact HS0.out | assumption | exact ⟨by assumption, by assumption, by assumption⟩) | (refine HKEEP.out _ _ ?_ (alloc_below _ _); first | exact HS0.out | assumption | exact ⟨by assumption, by assumption, by assumption⟩))
    (first | (go_at_call 98; refine (refNum_any d _).mono ?_; rintro e w2 ⟨rfl, hb2⟩) | (go_at_call 53; refine (refMark_any b 108 [txt (num8 d), x.1, x.2] (some ⟨_, 0, none⟩) 3 _ (HHOLD.out _ (by assumption)) HTOT.out (by simp) (strs_new _ [txt (num8 d), x.1, x.2] 9)).mono ?_; rintro e w2 ⟨rfl, hb2⟩))
  rename_i _ _ w2 _ hheld
  have HB2 := Lib.hid (HB1.out.trans (hheld.2.2.mono HB1.out.size))
  clear hheld
  go_wp2
  go_ret
  exact ⟨rfl, HB2.out⟩
end Go.Proofs.YtcfpmofmjnhonaaGreatDoor
/- Heads: plain facts, and lists of heads in memory. -/
namespace Go.Proofs.YtcfpmofmjnhonaaGreatDoor
open Go.RowKit

structure Hd where
  epoch : Int
  root : ByteArray
  prev : ByteArray
def noHd : Hd := ⟨0, ⟨#[]⟩, ⟨#[]⟩⟩
def Hd.val (h : Hd) : Value := .agg #[.int .i64 h.epoch, .string h.root, .string h.prev]
def rightHead (h : Hd) : Bool := decide (0 < h.epoch) && decide (h.root.size = 16) && decide (h.prev.size = 16)
def headMark (h : Hd) : ByteArray := markOf 104 [txt (num8 h.epoch), h.root, h.prev]
def headMarkAns (h : Hd) : ByteArray × Int := if rightHead h = true then (headMark h, 0) else (⟨#[]⟩, 1)
def none16 : ByteArray := txt (List.replicate 16 0)
def firstHd (root : ByteArray) : Hd := ⟨1, root, none16⟩
def afterHd (h : Hd) (root : ByteArray) : Hd := ⟨wrap64 (h.epoch + 1), root, headMark h⟩
def nextHd (l : List Hd) (root : ByteArray) : Option Hd :=
  match l.getLast? with
  | none => some (firstHd root)
  | some h => if rightHead h = true then some (afterHd h root) else none
def nextAns (l : List Hd) (root : ByteArray) : Hd × Int :=
  match nextHd l root with
  | none => (noHd, 1)
  | some h => if rightHead h = true then (h, 0) else (noHd, 1)
instance : DecidableEq Hd := fun a b =>
  if h : a.epoch = b.epoch ∧ a.root = b.root ∧ a.prev = b.prev then isTrue (by cases a; cases b; simp_all) else isFalse (fun e => h (by rw [e]; exact ⟨rfl, rfl, rfl⟩))
def hdAt (L : List Hd) (i : Nat) : Hd := L.getD i noHd
theorem hdAt_get {L : List Hd} {i : Nat} {x : Hd} (h : L[i]? = some x) : hdAt L i = x := by unfold hdAt; rw [List.getD_eq_getElem?_getD, h]; rfl
theorem hdAt_of {L : List Hd} {i : Nat} (hi : i < L.length) : hdAt L i = L[i] := hdAt_get (List.getElem?_eq_getElem hi)
/-- Is head i just the next one of those ahead of it? -/
def linkOk (L : List Hd) (i : Nat) : Bool := decide ((nextAns (L.take i) (hdAt L i).root).2 = 0) && decide ((nextAns (L.take i) (hdAt L i).root).1 = hdAt L i)
def wholeFrom (L : List Hd) : Nat → Nat → Nat × Bool
  | 0, _ => (0, true)
  | f + 1, i => if linkOk L i = true then wholeFrom L f (i + 1) else (i, false)
def wholeAns (L : List Hd) : Nat × Bool := wholeFrom L L.length 0
def partsFrom (a b : List Hd) : Nat → Nat → Nat
  | 0, _ => a.length
  | f + 1, i => if i < b.length ∧ hdAt b i = hdAt a i then partsFrom a b f (i + 1) else i
def partsAns (a b : List Hd) : Nat := partsFrom a b a.length 0

/-- The heads L lie at A. -/
def Hds (w : World) (A : Option Addr) (L : List Hd) : Prop := ∀ (i : Nat) x, L[i]? = some x → ∃ a, A = some a ∧ a.block < w.heap.size ∧ w.cell? (a.add (i * 3)) = some (.int .i64 x.epoch) ∧ w.cell? ((a.add (i * 3)).add 1) = some (.string x.root) ∧ w.cell? ((a.add (i * 3)).add 2) = some (.string x.prev)
theorem Hds.nil (w : World) (A : Option Addr) : Hds w A [] := fun i p h => by simp at h
theorem Hds.below {w w' : World} {A : Option Addr} {L : List Hd} (h : Hds w A L) (hb : Below w.heap.size w w') : Hds w' A L := fun i p hp => by
  obtain ⟨a, ha, hl, hc, hd, he⟩ := h i p hp
  exact ⟨a, ha, Nat.lt_of_lt_of_le hl hb.size, (hb.cell (by rw [block_add]; exact hl)).trans hc, (hb.cell (by rw [block_add, block_add]; exact hl)).trans hd, (hb.cell (by rw [block_add, block_add]; exact hl)).trans he⟩
theorem Hds.drew {w : World} {A : Option Addr} {L : List Hd} (h : Hds w A L) : Hds w.drew A L := fun i p hp => h i p hp
theorem Hds.take {w : World} {A : Option Addr} {L : List Hd} (h : Hds w A L) (n : Nat) : Hds w A (L.take n) := fun i x hi => by
  refine h i x ?_
  rw [List.getElem?_take] at hi
  split at hi
  · exact hi
  · cases hi
theorem Hds.at_ {w : World} {A : Option Addr} {L : List Hd} (h : Hds w A L) {i : Nat} (hi : i < L.length) : ∃ a, A = some a ∧ a.block < w.heap.size ∧ w.cell? (a.add (i * 3)) = some (.int .i64 (hdAt L i).epoch) ∧ w.cell? ((a.add (i * 3)).add 1) = some (.string (hdAt L i).root) ∧ w.cell? ((a.add (i * 3)).add 2) = some (.string (hdAt L i).prev) :=
  h i _ (by rw [List.getElem?_eq_getElem hi, hdAt_of hi])
theorem results_row2 {P : Program} {fn : Func} {p u : Tmp} {ty : TypeId} (h : fn.results = #[.cell p ty, .tmp u]) (tmps : Array Value) (w : World) (g : Nat) (t : TypeId) (cs : Array Value) (fr : Nat × Nat) (d : TypeDesc)
    (hp : tmps.getD p undef = .pointer (some ⟨g, 0, none⟩)) (hg : w.heap[g]? = some (.cells cs t fr))
    (hu : P.underlying ty = some d) (hd : (match d with | .struct _ | .array _ _ => true | _ => false) = true) (hi : (P.info? ty).map (·.size) = some cs.size) :
    (results fn tmps).run P w = .ok (.tuple #[.agg cs, tmps.getD u undef]) w := by
  rw [results_cell_tmp h, hp]
  simp [asAddr, run_loadVar_row w g t ty cs fr d hg hu hd hi, Result.andThen]
def hdF (h : Hd) : Nat → Value := fun i => if i = 0 then .int .i64 h.epoch else if i = 1 then .string h.root else .string h.prev
end Go.Proofs.YtcfpmofmjnhonaaGreatDoor
/- The document's along: so many steps of a chain. -/
namespace Go.Proofs.YtcfpmofmjnhonaaGreatDoor
open Go.RowKit

def alongFrom (c : Int) : Nat → Nat → ByteArray → ByteArray
  | 0, _, s => s
  | n + 1, k, s => alongFrom c n (k + 1) (markOf 119 [s, txt (num8 c), txt (num8 (k : Int))])
theorem along_size (c : Int) : ∀ (n k : Nat) (s : ByteArray), s.size = 16 → (alongFrom c n k s).size = 16
  | 0, _, _, h => h
  | n + 1, k, _, _ => along_size c n (k + 1) _ (markOf_len _ _)
set_option maxRecDepth 100000 in
theorem refAlong_any (b : Nat) (s : ByteArray) (c : Int) (k tt : Nat) (w : World) (hr : Holds w b 72 refCells 121) (hs : s.size = 16) (hk : k ≤ tt) (ht : tt ≤ 15) :
    Calls Tryz.prog 146 #[.pointer (some ⟨b, 0, none⟩), .string s, .int .i64 c, .int .i64 (k : Int), .int .i64 (tt : Int)] w fun e w' => e = .returned (.string (alongFrom c (tt - k) k s)) ∧ Below w.heap.size w w' := by
  have HR := Lib.hid hr
  obtain ⟨T, hT⟩ : ∃ T, alongFrom c (tt - k) k s = T := ⟨_, rfl⟩
  rw [hT]
  have HT := Lib.hid hT
  have HS := Lib.hid hs
  clear hr hT hs
  go_enter Tryz.func146, Tryz.ntmps146
  go_wp2
  go_loopw [1, 11] (fun sv i wr => ∃ (j : Nat) (u : ByteArray), j ≤ tt ∧ i = .int .i64 (j : Int) ∧ sv = .string u ∧ Hid (u.size = 16 ∧ alongFrom c (tt - j) j u = T ∧ Below w.heap.size w wr)) (fun _ i _ => tt - (intOf i).toNat)
  case atStart => exact ⟨k, s, hk, rfl, rfl, Lib.hid ⟨HS.out, HT.out, Below.refl _ _⟩⟩
  case round =>
    obtain ⟨j, u, hj, rfl, rfl, HU⟩ := hrel
    by_cases hlt : j < tt
    · go_wp2_with fail
      refine (refNum_any c _).mono ?_
      rintro e w1 ⟨rfl, hb1⟩
      have HB1 := Lib.hid (HU.out.2.2.trans (hb1.mono HU.out.2.2.size))
      clear hb1
      go_wp2_with fail
      refine (refNum_any (j : Int) _).mono ?_
      rintro e w2 ⟨rfl, hb2⟩
      have HB2 := Lib.hid (HB1.out.trans (hb2.mono HB1.out.size))
      clear hb2
      go_wp2_with fail
      refine (refMark_any b 119 [u, txt (num8 c), txt (num8 (j : Int))] (some ⟨w2.heap.size, 0, none⟩) 3 _ ((HR.out.below HB2.out HR.out.lt).alloc _) (by have := HU.out.1; simp [total, num_size]; omega) (by simp) (strs_new w2 [u, txt (num8 c), txt (num8 (j : Int))] 9)).mono ?_
      rintro e w3 ⟨rfl, hb3⟩
      have HB3 := Lib.hid ((HB2.out.trans ((alloc_below w2 (.cells #[.string u, .string (txt (num8 c)), .string (txt (num8 (j : Int)))] 9)).mono HB2.out.size)).trans (hb3.mono (Nat.le_trans HB2.out.size (by simp))))
      have HNX := Lib.hid (show alongFrom c (tt - (j + 1)) (j + 1) (markOf 119 [u, txt (num8 c), txt (num8 (j : Int))]) = T by
        have := HU.out.2.1
        rwa [show tt - j = (tt - (j + 1)) + 1 by omega, alongFrom] at this)
      clear hb3
      go_wp2
      go_roundw
      case rel => exact ⟨j + 1, _, by omega, by go_num, rfl, Lib.hid ⟨markOf_len _ _, HNX.out, HB3.out⟩⟩
      case measure => simp [intOf]; omega
    · obtain rfl : j = tt := by omega
      go_wp2
      go_ret
      have := HU.out.2.1
      rw [Nat.sub_self, alongFrom] at this
      have HB := HU.out.2.2
      subst this
      exact ⟨rfl, HB⟩
end Go.Proofs.YtcfpmofmjnhonaaGreatDoor
/- The document's numbers of rounds: times, above, root. -/
namespace Go.Proofs.YtcfpmofmjnhonaaGreatDoor
open Go.RowKit

def u64s (l : List Nat) : List Value := l.map fun (n : Nat) => Value.int .u64 (n : Int)
theorem u64s_length (l : List Nat) : (u64s l).length = l.length := by simp [u64s]
theorem u64s_append (l m : List Nat) : u64s (l ++ m) = u64s l ++ u64s m := by simp [u64s]
theorem u64s_get (l : List Nat) (i : Nat) (h : i < l.length) : (u64s l)[i]? = some (.int .u64 ((l.getD i 0 : Nat) : Int)) := by simp [u64s, List.getD_eq_getElem?_getD, h]
theorem infoU64 : (Tryz.prog.info? 124).map (fun i => (i.zero, i.size, i.bytes)) = some (some (.int .u64 0), 1, 8) := by kernel_rfl

/-- What is left of a number, digit by digit of 2^16. -/
def digs : Nat → Nat → List Nat
  | 0, _ => []
  | f + 1, c => if c = 0 then [] else (c % 65536) :: digs f (c / 65536)
def timesL (x : Nat) : List Nat → Nat → List Nat
  | [], c => digs 4 c
  | d :: l, c => ((c + d * x) % 65536) :: timesL x l ((c + d * x) / 65536)
theorem digs_step (f c : Nat) (h : 0 < c) : digs (f + 1) c = (c % 65536) :: digs f (c / 65536) := by
  show (if c = 0 then [] else _) = _; rw [if_neg (by omega)]
theorem digs_zero (f : Nat) : digs f 0 = [] := by cases f <;> simp [digs]
/-- Digits of 2^16. -/
def Small (l : List Nat) : Prop := ∀ i, l.getD i 0 < 65536
def sliceN : Value → Nat | .slice _ n _ => n | _ => 0

structure TimesRel (N : Nat) (w wr : World) (v : Value) (done : List Nat) : Prop where
  below : Below N w wr
  row : Row wr N 1 v done.length (u64s done)
theorem TimesRel.grow {N : Nat} {w wr w' : World} {v v' : Value} {l : List Nat} {c : Nat} (h : TimesRel N w wr v l) (hN : N ≤ w.heap.size)
    (hr : Row w' N 1 v' (l.length + 1) (u64s l ++ [.int .u64 (c : Int)])) (hg : wr.grownBy w' v.ownBlock) : TimesRel N w w' v' (l ++ [c]) :=
  ⟨grown_below h.below h.row hg (Nat.le_refl _) (Nat.le_trans hN h.below.size), by simpa [u64s] using hr⟩

set_option maxRecDepth 100000 in
theorem times_any (vs : List Nat) (p : Option Addr) (cap x : Nat) (w : World) (hx : x ≤ 1099511627776) (hsm : Small vs) (hn : vs.length ≤ 1000)
    (hc : ∀ i, i < vs.length → ∃ g, p = some ⟨g, 0, none⟩ ∧ g < w.heap.size ∧ w.cell? ⟨g, i, none⟩ = some (.int .u64 ((vs.getD i 0 : Nat) : Int))) :
    Calls Tryz.prog 145 #[.slice p vs.length cap, .int .u64 (x : Int)] w fun e w' => ∃ v, e = .returned v ∧ TimesRel w.heap.size w w' v (timesL x vs 0) := by
  have HC := Lib.hid hc
  have HS := Lib.hid hsm
  clear hc hsm
  go_enter Tryz.func145, Tryz.ntmps145
  go_wp2
  go_loopw [5, 6, 7] (fun out c i wr => ∃ (cn k f : Nat) (done : List Nat), c = .int .u64 (cn : Int) ∧ i = .int .i64 (k : Int) ∧ cn < 4398046511104 ∧ k ≤ vs.length + 4 ∧
      (k < vs.length → done ++ timesL x (vs.drop k) cn = timesL x vs 0) ∧ (vs.length ≤ k → f + k = vs.length + 4 ∧ cn < 65536 ^ f ∧ done ++ digs f cn = timesL x vs 0) ∧ done.length = k ∧ TimesRel w.heap.size w wr out done)
    (fun _ _ i _ => vs.length + 4 - (intOf i).toNat)
  case atStart =>
    refine ⟨0, 0, 4 + vs.length, [], rfl, rfl, by omega, by omega, fun _ => rfl, fun h => ?_, rfl, ⟨Below.refl _ _, show Row w w.heap.size 1 (.slice none 0 0) 0 [] from Row.nil _ _ _⟩⟩
    have h0 : vs.length = 0 := by omega
    have e : vs = [] := List.eq_nil_of_length_eq_zero h0
    rw [h0, e]; exact ⟨rfl, by omega, rfl⟩
  case round =>
    obtain ⟨cn, k, f, done, rfl, rfl, hcn, hk, h1, h2, hdl, hr⟩ := hrel
    have H1 := Lib.hid h1
    have H2 := Lib.hid h2
    have HR := Lib.hid hr
    clear h1 h2 hr
    by_cases hlt : k < vs.length
    · obtain ⟨g, rfl, hg, hcell⟩ := HC.out k hlt
      have hc1 : wr.cell? ⟨g, k, none⟩ = some (.int .u64 ((vs.getD k 0 : Nat) : Int)) := by rw [HR.out.below.cell hg]; exact hcell
      have hd := HS.out k
      generalize hdk : vs.getD k 0 = d at hc1 hd
      obtain ⟨m, hm⟩ : ∃ m : Nat, d * x = m := ⟨_, rfl⟩
      have hmb : m ≤ 72056494526300160 := by
        rw [← hm]
        exact Nat.le_trans (Nat.mul_le_mul (show d ≤ 65535 by omega) hx) (by omega)
      have hmul : IntKind.u64.wrap ((d : Int) * (x : Int)) = (m : Int) := by
        rw [← Int.natCast_mul, hm]; simp [IntKind.wrap, IntKind.bits, IntKind.signed]; omega
      have HM := Lib.hid hm
      have HD := Lib.hid hdk
      have HDL := Lib.hid hdl
      clear hm hcell hdk hdl
      go_wp2_with (at_builtin; refine wpList_append_one rfl (.tmp 32) (.tmp 35) 251 rfl 124 Tryz.underlying251 (.int .u64 0) 8 infoU64 rfl (by decide) w.heap.size _ done.length _ rfl HR.out.row HR.out.below.size (by have := HDL.out; omega) _ rfl rfl 124 ?_; intro v3 w3 hr3 hg3)
      go_wp2
      go_roundw
      case rel =>
        have hgr := HR.out.grow (c := (cn + m) % 65536) (Nat.le_refl _) (by have := hr3.out; rwa [show ((cn : Int) + (m : Int)) % 65536 = (((cn + m) % 65536 : Nat) : Int) from by omega] at this) hg3.out
        have hlist := H1.out hlt
        have hdrop : vs.drop k = d :: vs.drop (k + 1) := by
          rw [List.drop_eq_getElem_cons hlt]; congr 1
          have := HD.out; rw [List.getD_eq_getElem?_getD, List.getElem?_eq_getElem hlt] at this; exact this
        rw [hdrop] at hlist
        simp only [timesL, HM.out] at hlist
        refine ⟨(cn + m) / 65536, k + 1, vs.length + 4 - (k + 1), done ++ [(cn + m) % 65536], by rw [show ((cn : Int) + (m : Int)) / 65536 = (((cn + m) / 65536 : Nat) : Int) from by omega], by go_num, by omega, by omega, fun h => ?_, fun h => ?_, by rw [List.length_append, HDL.out]; rfl, hgr⟩
        · rw [List.append_assoc]; exact hlist
        · have e : k + 1 = vs.length := by omega
          rw [List.drop_of_length_le (by omega)] at hlist
          refine ⟨by omega, by rw [show vs.length + 4 - (k + 1) = 4 from by omega]; omega, ?_⟩
          rw [List.append_assoc, show vs.length + 4 - (k + 1) = 4 from by omega]; exact hlist
      case measure => simp [intOf]; omega
    · by_cases hc0 : 0 < cn
      · obtain ⟨h2a, h2b, h2c⟩ := H2.out (by omega)
        obtain ⟨f', rfl⟩ : ∃ f', f = f' + 1 := by
          cases f with
          | zero => simp at h2b; omega
          | succ f => exact ⟨f, rfl⟩
        have hkb : k < vs.length + 4 := by omega
        have H2B := Lib.hid h2b
        have H2C := Lib.hid h2c
        have H2A := Lib.hid h2a
        have HDL := Lib.hid hdl
        clear h2a h2b h2c hdl
        go_wp2_with (at_builtin; refine wpList_append_one rfl (.tmp 32) (.tmp 35) 251 rfl 124 Tryz.underlying251 (.int .u64 0) 8 infoU64 rfl (by decide) w.heap.size _ done.length _ rfl HR.out.row HR.out.below.size (by have := HDL.out; omega) _ rfl rfl 124 ?_; intro v3 w3 hr3 hg3)
        go_wp2
        go_roundw
        case rel =>
          have hgr := HR.out.grow (c := cn % 65536) (Nat.le_refl _) (by have := hr3.out; rwa [show (cn : Int) % 65536 = ((cn % 65536 : Nat) : Int) from by omega] at this) hg3.out
          refine ⟨cn / 65536, k + 1, f', done ++ [cn % 65536], by rw [show (cn : Int) / 65536 = ((cn / 65536 : Nat) : Int) from by omega], by go_num, by omega, by omega, fun h => by omega, fun h => ⟨by have := H2A.out; omega, ?_, ?_⟩, by rw [List.length_append, HDL.out]; rfl, hgr⟩
          · have := H2B.out
            rw [Nat.pow_succ] at this
            exact Nat.div_lt_of_lt_mul (by rw [Nat.mul_comm]; exact this)
          · rw [List.append_assoc]
            have := H2C.out
            rw [digs_step f' cn hc0] at this
            exact this
        case measure => simp [intOf]; omega
      · obtain rfl : cn = 0 := by omega
        obtain ⟨h2a, h2b, h2c⟩ := H2.out (by omega)
        have H2C := Lib.hid h2c
        clear h2a h2b h2c hdl
        go_wp2
        go_ret
        refine ⟨_, rfl, ?_⟩
        have := H2C.out
        rw [digs_zero, List.append_nil] at this
        rw [← this]
        exact HR.out
end Go.Proofs.YtcfpmofmjnhonaaGreatDoor
