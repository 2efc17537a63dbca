/- Parts of the proof, one behind the other: Open, OpenH, Laid, PastLaw, OrderP, Pick. -/
import Derived.Test.YtcfpmofmjnhonaaGreatDoorM5
import Derived.Deep.Slices
import Derived.Deep.Fields
import Derived.ChangeSame
import Derived.Lib.SmallJoins
import Derived.SliceStrings
import Derived.OpenShut
import Derived.Test.YtcfpmofmjnhonaaGreatDoorRows
import Derived.Test.YtcfpmofmjnhonaaGreatDoorM10
import Derived.Test.YtcfpmofmjnhonaaGreatDoorM3
import Derived.Test.YtcfpmofmjnhonaaGreatDoorM6
import Derived.WalkKit
import Derived.ProofKit
import Derived.Deep.DeepHandedRow
import Derived.Lib.LaidTab
import Derived.LaidHandle
import Derived.Test.YtcfpmofmjnhonaaGreatDoorM24
import Derived.Test.YtcfpmofmjnhonaaGreatDoorM31
import Derived.Test.YtcfpmofmjnhonaaGreatDoorM32
import Derived.Test.YtcfpmofmjnhonaaGreatDoorM29
import Derived.Test.YtcfpmofmjnhonaaGreatDoorM28
import Derived.Test.YtcfpmofmjnhonaaGreatDoorM23
import Derived.Test.YtcfpmofmjnhonaaGreatDoorM11
import Derived.Test.YtcfpmofmjnhonaaGreatDoorM17
/- Arguments opened: lists of items, of texts; an item. -/
namespace Go.Proofs.YtcfpmofmjnhonaaGreatDoor
open Go.ChangeShapes Go.WideShapes Go.Deep Go.RowKit

section
variable {H : Type} {enc : TypeId × Value → H} {P : Program} {w : World} {base : Nat} {spare : Nat → Bool} {held : Bool}
theorem open_slice_fields {t e : TypeId} {fs : Array Field} {fuel : Nat} {cs : List Value} {x : DataW H × List MemPlace} (ht : P.underlying t = some (.slice e)) (he : P.underlying e = some (.struct fs))
    (hone : oneCellFields P fs = true) (hC : P.cellsOf e = fs.size) (h : DataW.trod enc P w base spare held fuel t cs = some x) :
    (cs = [.slice none 0 0] ∧ x = (.nil, [])) ∨
    ∃ (a : Addr) (len cap m : Nat), cs = [.slice (some a) len cap] ∧ len ≤ cap ∧ m = (if spare a.block then cap else len) ∧
      ∀ i, i < m → ∃ (ys : List (DataW H × List MemPlace)) (n : Nat), ys.length = fs.size ∧
        ∀ (j : Nat) (f : Field), fs[j]? = some f → ∃ (v : Value) (y : DataW H × List MemPlace), w.cell? (a.add (i * fs.size + j)) = some v ∧ ys[j]? = some y ∧ DataW.trod enc P w base spare held n f.type [v] = some y := by
  rcases open_slice ht h with h0 | ⟨a, len, cap, m, n, D, Pl, hcs, hb, hl, hm, hmm, hx, hi⟩
  · exact .inl h0
  · refine .inr ⟨a, len, cap, m, hcs, hl, hmm, fun i him => ?_⟩
    obtain ⟨cs', hc, ht'⟩ := hi i him
    rw [hC] at hc
    obtain ⟨ys, n', hn', hy, hlen, hyl, hf⟩ := DataW.trod_struct he ht'
    obtain ⟨_, hcl, hat⟩ := World.cells?_some hc
    refine ⟨ys, n', hyl, fun j f hj => ?_⟩
    obtain ⟨ho, hk⟩ := hone_of hone j f hj
    have hjl : j < fs.size := (Array.getElem?_eq_some_iff.1 hj).1
    have hcell := hat j hjl
    have hv : cs'[j]? = some (cs'[j]'(by omega)) := List.getElem?_eq_getElem (by omega)
    have h1 := hf j f hj
    rw [ho, hk] at h1
    have hone' : (cs'.drop j).take 1 = [cs'[j]'(by omega)] := by
      rw [List.drop_eq_getElem_cons (by omega)]
      rfl
    rw [hone'] at h1
    have hys : ys[j]? = some (ys[j]'(by omega)) := List.getElem?_eq_getElem (by omega)
    refine ⟨_, _, ?_, hys, h1.trans hys⟩
    rw [← Go.Deep.add_add, hcell, hv]
end
end Go.Proofs.YtcfpmofmjnhonaaGreatDoor
/- Arguments opened: lists of heads. -/
namespace Go.Proofs.YtcfpmofmjnhonaaGreatDoor
open Go.ChangeShapes Go.WideShapes Go.Deep Go.RowKit

section
variable {H : Type} {enc : TypeId × Value → H} {P : Program} {w : World} {base : Nat} {spare : Nat → Bool} {held : Bool}
/-- A list of structs of a number and two texts, as heads. -/
theorem open_heads {t e : TypeId} {f0 f1 f2 : Field} {a0 : Option Addr} {len cap : Nat} {d : DataW H} {p : List MemPlace} (ht : P.underlying t = some (.slice e)) (he : P.underlying e = some (.struct #[f0, f1, f2]))
    (hone : oneCellFields P #[f0, f1, f2] = true) (hC : P.cellsOf e = 3) (h0 : P.underlying f0.type = some (.int .i64)) (h1 : P.underlying f1.type = some .string) (h2 : P.underlying f2.type = some .string) (h : DataW.Trod enc P w base spare held t (.slice a0 len cap) d p) :
    ∃ L : List Hd, L.length = len ∧ len ≤ cap ∧ Hds w a0 L := by
  obtain ⟨fuel, hf⟩ := h
  rcases open_slice_fields ht he hone hC hf with ⟨hcs, _⟩ | ⟨a, len', cap', m, hcs, hl, hm, hi⟩
  · simp [Value.cells] at hcs
    obtain ⟨rfl, rfl, rfl⟩ := hcs
    exact ⟨[], rfl, Nat.le_refl 0, Hds.nil _ _⟩
  · simp [Value.cells] at hcs
    obtain ⟨rfl, rfl, rfl⟩ := hcs
    have hlm : len ≤ m := by rw [hm]; split <;> omega
    have key : ∀ i, i < len → ∃ x : Hd, w.cell? (a.add (i * 3)) = some (.int .i64 x.epoch) ∧ w.cell? ((a.add (i * 3)).add 1) = some (.string x.root) ∧ w.cell? ((a.add (i * 3)).add 2) = some (.string x.prev) := by
      intro i hil
      obtain ⟨ys, n, _, hj⟩ := hi i (by omega)
      obtain ⟨v, y, hc, _, hy⟩ := hj 0 f0 rfl
      obtain ⟨v', y', hc', _, hy'⟩ := hj 1 f1 rfl
      obtain ⟨v'', y'', hc'', _, hy''⟩ := hj 2 f2 rfl
      obtain ⟨z, e0, _, _⟩ := DataW.trod_int h0 hy
      obtain ⟨s', e1, _, _⟩ := DataW.trod_string h1 hy'
      obtain ⟨s'', e2, _, _⟩ := DataW.trod_string h2 hy''
      obtain rfl := List.singleton_inj.1 e0
      obtain rfl := List.singleton_inj.1 e1
      obtain rfl := List.singleton_inj.1 e2
      exact ⟨⟨z, s', s''⟩, hc, by rw [add_add']; exact hc', by rw [add_add']; exact hc''⟩
    refine ⟨(List.range len).map fun i => if hi : i < len then (key i hi).choose else noHd, by simp, hl, ?_⟩
    intro i x hx
    have hil : i < len := by have := (List.getElem?_eq_some_iff.1 hx).1; simpa using this
    have hk := (key i hil).choose_spec
    rw [List.getElem?_map, List.getElem?_range hil, Option.map_some, dif_pos hil] at hx
    rw [Option.some.inj hx] at hk
    exact ⟨a, rfl, by have := block_lt_of_cell hk.1; rwa [block_add] at this, hk.1, hk.2.1, hk.2.2⟩
end
end Go.Proofs.YtcfpmofmjnhonaaGreatDoor
/- What a row's listed variables give a walk: the round numbers, the handle of errors.errorType, any table on the list; a world for the witness. -/
namespace Go.Proofs.YtcfpmofmjnhonaaGreatDoor
open Go.ChangeShapes Go.WideShapes Go.ChangeAt Go.RowKit

theorem sumOwn : ownKnob Tryz.prog.godebug = none := by kernel_rfl
theorem sumLaidOut : laidOutB Tryz.prog = true := by kernel_rfl
theorem gK : Tryz.prog.globalNamed "rollkeeper/sum.roundNumbers" = some 1 := by kernel_rfl
theorem gKType : (Tryz.prog.globals[1]?).map (·.type) = some 119 := by kernel_rfl
theorem cellsA32 : Tryz.prog.cellsOf 119 = 64 := by kernel_rfl
theorem cellsU32 : Tryz.prog.cellsOf 117 = 1 := by kernel_rfl
/-- A table that stands somewhere on the row's list. -/
theorem tab_of_vars {P : Program} {W : World} {name : String} {k : IntKind} {zs : List Int} {rest : List (String × DataW Unit)} {ps : List MemPlace} {g : Nat} {t e : TypeId} {n : Nat}
    (hg : P.globalNamed name = some g) (hty : (P.globals[g]?).map (·.type) = some t) (ht : P.underlying t = some (.array n e)) (he : P.underlying e = some (.int k)) (hce : P.cellsOf e = 1) (hct : P.cellsOf t = n)
    (h : DataW.LaidVars P W ((name, Lib.tabData k zs) :: rest) ps) : Lib.TabIs P W name k zs := by
  obtain ⟨g', t', cs, fuel, p, q, hg', ht', hvar, hd, _, _⟩ := h
  obtain rfl := Option.some.inj (hg.symm.trans hg')
  obtain rfl := Option.some.inj (hty.symm.trans ht')
  unfold Lib.TabIs
  rw [hvar, ← Lib.cells_of_tab ht he hce hct hd]
/-- The round numbers as a row lists them. -/
def kData : DataW Unit := Lib.tabData .u32 (kTab.map fun n : Nat => (n : Int))
theorem hasK_of_vars {W : World} {rest : List (String × DataW Unit)} {ps : List MemPlace} (h : DataW.LaidVars Tryz.prog W (("rollkeeper/sum.roundNumbers", kData) :: rest) ps) : HasK W := by
  have t0 := tab_of_vars gK gKType Tryz.underlying119 Tryz.underlying117 cellsU32 cellsA32 h
  intro i hi
  rw [t0.cell gK i (by rw [List.length_map]; exact hi)]
  have hlt : kTab.getD i 0 < 4294967296 := by rw [← k_root i hi]; exact Nat.mod_lt _ (by decide)
  have e1 : (kTab.map fun n : Nat => (n : Int)).getD i 0 = ((kTab.getD i 0 : Nat) : Int) := by
    rw [List.getD_eq_getElem?_getD, List.getD_eq_getElem?_getD, List.getElem?_map]
    cases kTab[i]? <;> rfl
  rw [e1]
  unfold W32 kOf
  rw [BitVec.toNat_ofNat, Nat.mod_eq_of_lt (by omega)]

theorem gErrType : Tryz.prog.globalNamed "errors.errorType" = some 0 := by kernel_rfl
theorem rtErr : (Tryz.prog.cutTypes.find? (·.1 == "internal/reflectlite.rtype")).map (·.2) = some 290 := by kernel_rfl
theorem oneRowErr : ((List.range Tryz.prog.types.size).filter fun t => Tryz.prog.rowNamed t [101, 114, 114, 111, 114]) = [33] := by kernel_rfl
def errData : DataW Unit := .iface "internal/reflectlite.rtype" (.agg [.ptr (.lit (.string [101, 114, 114, 111, 114]))])
theorem handle_of_laid {W : World} {l : List (String × DataW Unit)} (h : handlesMet Tryz.prog l W) (hm : ("errors.errorType", errData) ∈ l) :
    W.cell? ⟨0, 0, none⟩ = some (.iface 290 (.agg #[hand 33])) := by
  obtain ⟨name, u, ty, e1, e2, e3, e4, e5⟩ := h _ hm
  have en : name = [101, 114, 114, 111, 114] := (Option.some.inj e1).symm
  subst en
  obtain rfl := Option.some.inj (rtErr.symm.trans e2)
  have hm : ty ∈ (List.range Tryz.prog.types.size).filter fun t => Tryz.prog.rowNamed t [101, 114, 114, 111, 114] := List.mem_filter.2 ⟨List.mem_range.2 e3, e4⟩
  rw [oneRowErr] at hm
  obtain rfl := List.mem_singleton.1 hm
  have hh : typeHandle Tryz.prog 33 = hand 33 := by kernel_rfl
  rw [hh] at e5
  simpa using World.var?_cell gErrType e5 0

/-- A world for the witness: variables laid, one after the other. -/
def laidCells : DataW Unit → Array Value
  | .agg l => (l.map fun
    | .lit (.int k z) => Value.int k z
    | _ => .bool false).toArray
  | _ => #[]
noncomputable def laidBy (g : Nat) (cs : Array Value) (w : World) : World :=
  { w with heap := w.heap.modify g fun
      | .cells _ t frozen => .cells cs t frozen
      | o => o }
noncomputable def laidAt (g : Nat) (d : DataW Unit) (w : World) : World := laidBy g (laidCells d) w
noncomputable def laidErr (w : World) : World := laidBy 0 #[.iface 290 (.agg #[hand 33])] w
noncomputable def laidK (w : World) : World := laidAt 1 kData w
end Go.Proofs.YtcfpmofmjnhonaaGreatDoor
/- DirPast, the walk, over whatever contracts the program's directory keeps. -/
namespace Go.Proofs.YtcfpmofmjnhonaaGreatDoor
open Go.RowKit

set_option maxRecDepth 100000 in
theorem eqTexts_same (L : List ByteArray) (A B : Option Addr) (ca cb : Nat) (w : World) (hl : L.length ≤ 1000000) (ha : Strs w A L) (hb : Strs w B L) :
    Calls Tryz.prog 39 #[.slice A L.length ca, .slice B L.length cb] w fun e w' => e = .returned (.bool true) ∧ ∃ q, w' = w.drewN q := by
  have HA := Lib.hid ha
  have HB := Lib.hid hb
  clear ha hb
  go_enter Tryz.func39, Tryz.ntmps39
  go_wp2
  go_loopw [13] (fun i wr => ∃ k q : Nat, k ≤ L.length ∧ i = .int .i64 (k : Int) ∧ wr = w.drewN q) (fun i _ => L.length - (intOf i).toNat)
  case atStart => exact ⟨0, 0, by omega, rfl, rfl⟩
  case round =>
    obtain ⟨k, q, hk, rfl, rfl⟩ := hrel
    by_cases hlt : k < L.length
    · obtain ⟨p, hp⟩ : ∃ p, L[k]? = some p := ⟨_, List.getElem?_eq_getElem hlt⟩
      obtain ⟨a, rfl, _, c0⟩ := HA.out k p hp
      obtain ⟨b, rfl, _, f0⟩ := HB.out k p hp
      have hj0 : (0 : Int) ≤ (k : Int) := by omega
      have hj1 : (k : Int) < (L.length : Int) := by omega
      clear hp
      go_wp2
      refine wp_region_quiet_lit (by kernel_rfl) (by kernel_rfl) ?_
      repeat (first | go_big_quiet_step (fail) | quiet_step (fail))
      refine wpQuiet_nil ?_
      rintro w' ⟨nq, rfl⟩
      clear c0 f0
      go_wp2
      go_roundw
      case rel => exact ⟨k + 1, q + nq, by omega, by go_num, rfl⟩
      case measure => simp [intOf]; omega
    · go_wp2
      go_ret
      exact ⟨rfl, q, rfl⟩
theorem eqHead (h : Hd) (w : World) : (binOp .eql 49 (.agg #[.int .i64 h.epoch, .string h.root, .string h.prev]) (.agg #[.int .i64 h.epoch, .string h.root, .string h.prev])).run Tryz.prog w = .ok (.bool true) w := by
  rw [run_eql_heads]; simp
set_option maxRecDepth 100000 in
theorem past1_same (s : Sgn) (A B A' B' : Option Addr) (ca cb ca' cb' : Nat) (w : World) (hls : s.sig.length ≤ 1000000) (hlp : s.path.length ≤ 1000000) (hs : Strs w A s.sig) (hp : Strs w B s.path) (hs' : Strs w A' s.sig) (hp' : Strs w B' s.path) :
    Calls Tryz.prog 38 #[.agg #[.int .i64 s.head.epoch, .string s.head.root, .string s.head.prev, .int .i64 s.key, .slice A s.sig.length ca, .slice B s.path.length cb], .agg #[.int .i64 s.head.epoch, .string s.head.root, .string s.head.prev, .int .i64 s.key, .slice A' s.sig.length ca', .slice B' s.path.length cb']] w fun e w' => e = .returned (.bool true) ∧ Below w.heap.size w w' := by
  have hb : Below w.heap.size w ((w.alloc (.cells #[.int .i64 s.head.epoch, .string s.head.root, .string s.head.prev, .int .i64 s.key, .slice A s.sig.length ca, .slice B s.path.length cb] 54)).alloc (.cells #[.int .i64 s.head.epoch, .string s.head.root, .string s.head.prev, .int .i64 s.key, .slice A' s.sig.length ca', .slice B' s.path.length cb'] 54)) := (alloc_below w _).alloc (by simp) _
  have HB := Lib.hid hb
  have HS := Lib.hid (hs.below hb)
  have HP := Lib.hid (hp.below hb)
  have HS' := Lib.hid (hs'.below hb)
  have HP' := Lib.hid (hp'.below hb)
  have HM := Lib.hid (show Holds ((w.alloc (.cells #[.int .i64 s.head.epoch, .string s.head.root, .string s.head.prev, .int .i64 s.key, .slice A s.sig.length ca, .slice B s.path.length cb] 54)).alloc (.cells #[.int .i64 s.head.epoch, .string s.head.root, .string s.head.prev, .int .i64 s.key, .slice A' s.sig.length ca', .slice B' s.path.length cb'] 54)) w.heap.size 6 (sgF s.head s.key (.slice A s.sig.length ca) (.slice B s.path.length cb)) 54 from (Holds.new w 6 (sgF s.head s.key (.slice A s.sig.length ca) (.slice B s.path.length cb)) 54).alloc _)
  have HN := Lib.hid (show Holds ((w.alloc (.cells #[.int .i64 s.head.epoch, .string s.head.root, .string s.head.prev, .int .i64 s.key, .slice A s.sig.length ca, .slice B s.path.length cb] 54)).alloc (.cells #[.int .i64 s.head.epoch, .string s.head.root, .string s.head.prev, .int .i64 s.key, .slice A' s.sig.length ca', .slice B' s.path.length cb'] 54)) (w.heap.size + 1) 6 (sgF s.head s.key (.slice A' s.sig.length ca') (.slice B' s.path.length cb')) 54 from by
    have h1 := Holds.new (w.alloc (.cells #[.int .i64 s.head.epoch, .string s.head.root, .string s.head.prev, .int .i64 s.key, .slice A s.sig.length ca, .slice B s.path.length cb] 54)) 6 (sgF s.head s.key (.slice A' s.sig.length ca') (.slice B' s.path.length cb')) 54
    rw [World.size_alloc] at h1
    exact h1)
  have hd := eqHead s.head
  clear hs hp hs' hp' hb
  go_enter Tryz.func38, Tryz.ntmps38
  go_upto_region 1 with (fail)
  generalize (w.alloc (.cells #[.int .i64 s.head.epoch, .string s.head.root, .string s.head.prev, .int .i64 s.key, .slice A s.sig.length ca, .slice B s.path.length cb] 54)).alloc (.cells #[.int .i64 s.head.epoch, .string s.head.root, .string s.head.prev, .int .i64 s.key, .slice A' s.sig.length ca', .slice B' s.path.length cb'] 54) = w0 at HB HS HP HS' HP' HM HN ⊢
  obtain ⟨p0, p1, p2, p3, p4, p5⟩ := sg_cells HM.out
  obtain ⟨q0, q1, q2, q3, q4, q5⟩ := sg_cells HN.out
  go_wp2_with fail
  clear p0 p1 p2 p3 p4 p5 q0 q1 q2 q3 q4 q5
  refine (eqTexts_same s.sig A A' ca ca' _ hls HS.out HS'.out).mono ?_
  rintro e w1 ⟨rfl, q, rfl⟩
  obtain ⟨p0, p1, p2, p3, p4, p5⟩ := sg_cells (HM.out.below (below_drewN (Below.refl _ _) q) HM.out.lt)
  obtain ⟨q0, q1, q2, q3, q4, q5⟩ := sg_cells (HN.out.below (below_drewN (Below.refl _ _) q) HN.out.lt)
  have HB1 := Lib.hid (below_drewN HB.out q)
  have HP1 := Lib.hid (HP.out.below (below_drewN (Below.refl _ _) q))
  have HP1' := Lib.hid (HP'.out.below (below_drewN (Below.refl _ _) q))
  generalize w0.drewN q = w1 at p0 p1 p2 p3 p4 p5 q0 q1 q2 q3 q4 q5 HB1 HP1 HP1'
  go_wp2_with fail
  clear p0 p1 p2 p3 p4 p5 q0 q1 q2 q3 q4 q5
  refine (eqTexts_same s.path B B' cb cb' _ hlp HP1.out HP1'.out).mono ?_
  rintro e w2 ⟨rfl, q2, rfl⟩
  have HB2 := Lib.hid (below_drewN HB1.out q2)
  go_wp2
  go_ret
  exact ⟨rfl, HB2.out⟩
theorem Sgs.six {w : World} {A : Option Addr} {M : List SgM} (h : Sgs w A M) {i : Nat} {m : SgM} (hm : M[i]? = some m) : ∃ a, A = some a ∧ a.block < w.heap.size ∧ w.cell? (a.add (i * 6)) = some (.int .i64 m.s.head.epoch) ∧ w.cell? ⟨(a.add (i * 6)).block, (a.add (i * 6)).off + 1, none⟩ = some (.string m.s.head.root) ∧ w.cell? ⟨(a.add (i * 6)).block, (a.add (i * 6)).off + 2, none⟩ = some (.string m.s.head.prev) ∧
    w.cell? ⟨(a.add (i * 6)).block, (a.add (i * 6)).off + 3, none⟩ = some (.int .i64 m.s.key) ∧ w.cell? ⟨(a.add (i * 6)).block, (a.add (i * 6)).off + 4, none⟩ = some (.slice m.A m.s.sig.length m.ca) ∧ w.cell? ⟨(a.add (i * 6)).block, (a.add (i * 6)).off + 5, none⟩ = some (.slice m.B m.s.path.length m.cb) ∧ Strs w m.A m.s.sig ∧ Strs w m.B m.s.path := by
  obtain ⟨a, ha, hl, c0, c1, c2, c3, c4, c5, hs, hp, _⟩ := h i m hm
  exact ⟨a, ha, hl, c0, c1, c2, c3, c4, c5, hs, hp⟩
set_option maxHeartbeats 1000000 in
set_option maxRecDepth 100000 in
theorem eqSigned_same (M N : List SgM) (A B : Option Addr) (ca cb : Nat) (w : World) (n : Nat) (hn : M.length = n) (hl : n ≤ 1000) (hN : ∀ (i : Nat) (m : SgM), M[i]? = some m → ∃ m' : SgM, N[i]? = some m' ∧ m'.s = m.s) (hd : ∀ m ∈ M, m.s.sig.length ≤ 1000000 ∧ m.s.path.length ≤ 1000000) (ha : Sgs w A M) (hb : Sgs w B N) :
    Calls Tryz.prog 40 #[.slice A n ca, .slice B n cb, .func (.func 38) #[] #[]] w fun e w' => e = .returned (.bool true) ∧ Below w.heap.size w w' := by
  have HA := Lib.hid ha
  have HB := Lib.hid hb
  have HN := Lib.hid hN
  have HNL := Lib.hid hn
  have HD := Lib.hid hd
  clear ha hb hN hn hd
  go_enter Tryz.func40, Tryz.ntmps40
  go_wp2
  go_loopw [17] (fun i wr => ∃ k : Nat, k ≤ n ∧ i = .int .i64 (k : Int) ∧ Hid (Below w.heap.size w wr)) (fun i _ => n - (intOf i).toNat)
  case atStart => exact ⟨0, by omega, rfl, Lib.hid (Below.refl _ _)⟩
  case round =>
    obtain ⟨k, hk, rfl, HU⟩ := hrel
    by_cases hlt : k < n
    · obtain ⟨m, hm⟩ : ∃ m, M[k]? = some m := ⟨_, List.getElem?_eq_getElem (by rw [HNL.out]; exact hlt)⟩
      obtain ⟨m', hm', hms⟩ := HN.out k m hm
      obtain ⟨a, rfl, hal, a0, a1, a2, a3, a4, a5, has, hap⟩ := (HA.out.below HU.out).six hm
      obtain ⟨b, rfl, hbl, b0, b1, b2, b3, b4, b5, hbs, hbp⟩ := (HB.out.below HU.out).six hm'
      rw [hms] at b0 b1 b2 b3 b4 b5 hbs hbp
      have HDM := Lib.hid (HD.out m (List.mem_of_getElem? hm))
      clear hm hm' hms
      have HAL := Lib.hid hal
      have HBL := Lib.hid hbl
      have HAS := Lib.hid has
      have HAP := Lib.hid hap
      have HBS := Lib.hid hbs
      have HBP := Lib.hid hbp
      have hj0 : (0 : Int) ≤ (k : Int) := by omega
      have hj1 : (k : Int) < (n : Int) := by omega
      have HY := Lib.hid (show Holds (wr.alloc (.cells #[.int .i64 m.s.head.epoch, .string m.s.head.root, .string m.s.head.prev, .int .i64 m.s.key, .slice m.A m.s.sig.length m.ca, .slice m.B m.s.path.length m.cb] 54)) wr.heap.size 6 (sgF m.s.head m.s.key (.slice m.A m.s.sig.length m.ca) (.slice m.B m.s.path.length m.cb)) 54 from Holds.new wr 6 (sgF m.s.head m.s.key (.slice m.A m.s.sig.length m.ca) (.slice m.B m.s.path.length m.cb)) 54)
      have hb1 := alloc_below wr (.cells #[.int .i64 m.s.head.epoch, .string m.s.head.root, .string m.s.head.prev, .int .i64 m.s.key, .slice m.A m.s.sig.length m.ca, .slice m.B m.s.path.length m.cb] 54)
      have B0 := (hb1.cell (by rw [block_add]; exact hbl)).trans b0
      have B1 := (hb1.cell (p := ⟨(b.add (k * 6)).block, (b.add (k * 6)).off + 1, none⟩) (by show (b.add (k * 6)).block < _; rw [block_add]; exact hbl)).trans b1
      have B2 := (hb1.cell (p := ⟨(b.add (k * 6)).block, (b.add (k * 6)).off + 2, none⟩) (by show (b.add (k * 6)).block < _; rw [block_add]; exact hbl)).trans b2
      have B3 := (hb1.cell (p := ⟨(b.add (k * 6)).block, (b.add (k * 6)).off + 3, none⟩) (by show (b.add (k * 6)).block < _; rw [block_add]; exact hbl)).trans b3
      have B4 := (hb1.cell (p := ⟨(b.add (k * 6)).block, (b.add (k * 6)).off + 4, none⟩) (by show (b.add (k * 6)).block < _; rw [block_add]; exact hbl)).trans b4
      have B5 := (hb1.cell (p := ⟨(b.add (k * 6)).block, (b.add (k * 6)).off + 5, none⟩) (by show (b.add (k * 6)).block < _; rw [block_add]; exact hbl)).trans b5
      clear b0 b1 b2 b3 b4 b5 has hap hbs hbp hal hbl
      go_upto_region 6 with (fail)
      generalize wr.alloc (.cells #[.int .i64 m.s.head.epoch, .string m.s.head.root, .string m.s.head.prev, .int .i64 m.s.key, .slice m.A m.s.sig.length m.ca, .slice m.B m.s.path.length m.cb] 54) = w1 at HY hb1 B0 B1 B2 B3 B4 B5 ⊢
      have HB1 := Lib.hid hb1
      have HZ := Lib.hid (show Holds (w1.alloc (.cells #[.int .i64 m.s.head.epoch, .string m.s.head.root, .string m.s.head.prev, .int .i64 m.s.key, .slice m'.A m.s.sig.length m'.ca, .slice m'.B m.s.path.length m'.cb] 54)) w1.heap.size 6 (sgF m.s.head m.s.key (.slice m'.A m.s.sig.length m'.ca) (.slice m'.B m.s.path.length m'.cb)) 54 from Holds.new w1 6 (sgF m.s.head m.s.key (.slice m'.A m.s.sig.length m'.ca) (.slice m'.B m.s.path.length m'.cb)) 54)
      have HY2 := Lib.hid (HY.out.alloc (.cells #[.int .i64 m.s.head.epoch, .string m.s.head.root, .string m.s.head.prev, .int .i64 m.s.key, .slice m'.A m.s.sig.length m'.ca, .slice m'.B m.s.path.length m'.cb] 54))
      have HB2 := Lib.hid (hb1.trans ((alloc_below w1 (.cells #[.int .i64 m.s.head.epoch, .string m.s.head.root, .string m.s.head.prev, .int .i64 m.s.key, .slice m'.A m.s.sig.length m'.ca, .slice m'.B m.s.path.length m'.cb] 54)).mono hb1.size))
      clear hb1 a0 a1 a2 a3 a4 a5 HY
      go_upto_region 7 with (fail)
      clear B0 B1 B2 B3 B4 B5
      generalize w1.alloc (.cells #[.int .i64 m.s.head.epoch, .string m.s.head.root, .string m.s.head.prev, .int .i64 m.s.key, .slice m'.A m.s.sig.length m'.ca, .slice m'.B m.s.path.length m'.cb] 54) = w2 at HZ HY2 HB2 ⊢
      obtain ⟨p0, p1, p2, p3, p4, p5⟩ := sg_cells HY2.out
      obtain ⟨q0, q1, q2, q3, q4, q5⟩ := sg_cells HZ.out
      go_wp2_with fail
      clear p0 p1 p2 p3 p4 p5 q0 q1 q2 q3 q4 q5
      refine (past1_same m.s m.A m.B m'.A m'.B m.ca m.cb m'.ca m'.cb w2 HDM.out.1 HDM.out.2 (HAS.out.below HB2.out) (HAP.out.below HB2.out) (HBS.out.below HB2.out) (HBP.out.below HB2.out)).mono ?_
      rintro e w3 ⟨rfl, hb3⟩
      have HB3 := Lib.hid (HU.out.trans ((HB2.out.trans (hb3.mono HB2.out.size)).mono HU.out.size))
      clear hb3
      go_wp2
      go_roundw
      case rel => exact ⟨k + 1, by omega, by go_num, HB3⟩
      case measure => simp [intOf]; omega
    · go_wp2
      go_ret
      exact ⟨rfl, HU.out⟩
theorem stepK_eps (pa : Pub) (d : Dst) (x : Hd) : (∃ t, (stepK pa d x).eps = d.eps ++ t) ∧ (stepK pa d x).secret = d.secret := by
  unfold stepK
  rcases pa.cases d with ⟨_, e⟩ | e <;> rw [e]
  all_goals
    unfold putAns
    repeat' split
  all_goals first | exact ⟨⟨_, rfl⟩, rfl⟩ | exact ⟨⟨[], (List.append_nil _).symm⟩, rfl⟩
theorem playK_eps (pa : Pub) (d : Dst) (L : List Hd) : (∃ t, (playK pa d L).eps = d.eps ++ t) ∧ (playK pa d L).secret = d.secret := by
  unfold playK
  induction L generalizing d with
  | nil => exact ⟨⟨[], by simp⟩, rfl⟩
  | cons x L ih =>
    obtain ⟨⟨t, ht⟩, hs⟩ := ih (stepK pa d x)
    obtain ⟨⟨u, hu⟩, hv⟩ := stepK_eps pa d x
    exact ⟨⟨u ++ t, by rw [List.foldl_cons, ht, hu, List.append_assoc]⟩, hs.trans hv⟩
theorem playK_append (pa : Pub) (d : Dst) (L M : List Hd) : playK pa d (L ++ M) = playK pa (playK pa d L) M := by unfold playK; rw [List.foldl_append]
theorem stepK_dim (pa : Pub) {d : Dst} (h : EpsDim d) (x : Hd) : EpsDim (stepK pa d x) := by
  unfold stepK
  split
  · unfold putAns
    repeat' split
    all_goals exact h
  · split
    · exact pa.f_dim h
    · exact h
theorem playK_dim (pa : Pub) {d : Dst} (h : EpsDim d) (L : List Hd) : EpsDim (playK pa d L) := by
  unfold playK
  induction L generalizing d with
  | nil => exact h
  | cons x L ih => exact ih (stepK_dim pa h x)
theorem sgs_to (A : Option Addr) (n cap r : Nat) (hr : r ≤ cap) (w : World) : (Instr.sliceAt 41 (.slice A n cap) none (some (.int .i64 (r : Int))) none).run Tryz.prog w = .ok (.slice A r cap) w := by
  have ht := Tryz.underlying41
  have e2 : Tryz.prog.elem 41 = 54 := by simp [Program.elem, ht]
  have hz : ∀ w, (Go.sizeOf 54).run Tryz.prog w = .ok 6 w := Tryz.sizeOf54
  rw [run_sliceAt_slice w _ _ _ _ _ (by rw [e2]; exact ht), run_slice_h w _ A n cap (by rw [e2]; exact ht) .i64 r (by omega) (by omega), e2, hz]
  cases A <;> simp [Result.andThen, sliced, Addr.add]
set_option maxHeartbeats 2000000 in
set_option maxRecDepth 100000 in
theorem dirPast_any (DF : DirFace) (FC : ClientFace) (L M : List Hd) (A B : Option Addr) (ca cb : Nat) (w : World) (hk : HasK w) (ha : Hds w A L) (hb : Hds w B M) :
    Calls Tryz.prog 5 #[.slice A L.length ca, .slice B M.length cb] w fun e w' => e = .returned (.bool true) ∧ Below w.heap.size w w' := by
  have HK := Lib.hid hk
  have HA := Lib.hid ha
  have HB := Lib.hid hb
  clear hk ha hb
  go_enter Tryz.func5, Tryz.ntmps5
  go_wp2_with fail
  refine (few_any L A ca _ HA.out).mono ?_
  rintro e w1 ⟨hb1, b, rfl, hf⟩
  have HB1 := Lib.hid hb1
  clear hb1
  cases b
  case false =>
    go_wp2
    go_ret
    exact ⟨rfl, HB1.out⟩
  have HL := Lib.hid (hf rfl)
  clear hf
  go_wp2_with fail
  refine (few_any M B cb _ (HB.out.below HB1.out)).mono ?_
  rintro e w2 ⟨hb2, b, rfl, hf⟩
  have HB2 := Lib.hid (HB1.out.trans (hb2.mono HB1.out.size))
  clear hb2
  cases b
  case false =>
    go_wp2
    go_ret
    exact ⟨rfl, HB2.out⟩
  have HM := Lib.hid (hf rfl)
  clear hf
  go_wp2_with fail
  refine (told_any DF FC _ (HK.out.below HB2.out HK.out.lt)).mono ?_
  rintro e w3 ⟨rfl, hb3⟩
  have HB3 := Lib.hid (HB2.out.trans (hb3.mono HB2.out.size))
  clear hb3
  go_wp2_with fail
  refine (play_any DF L A ca _ (HK.out.below HB3.out HK.out.lt) (HA.out.below HB3.out) (by have := HL.out.1; omega) (fun x hx => by have := HL.out.2 x hx; omega)).mono ?_
  rintro e w4 ⟨p, F, v, rfl, hb4, hd4, hf4, -⟩
  have HB4 := Lib.hid (HB3.out.trans (hb4.mono HB3.out.size))
  have HD4 := Lib.hid hd4
  clear hb4 hd4 hf4
  have hll := HL.out.1
  have hml := HM.out.1
  obtain ⟨i0, hi0, hz0, hz1, hz2⟩ := info_parts infoActK
  go_wp2_with fail
  refine (cloneActs_any L A ca _ (by omega) (HA.out.below HB4.out)).mono ?_
  rintro e w5 ⟨v5, rfl, hb5, hr5⟩
  have HB5 := Lib.hid (HB4.out.trans (hb5.mono HB4.out.size))
  have HD5 := Lib.hid (DF.same HD4.out (same_of_below hb5 (DF.lt HD4.out)))
  have HR5 := Lib.hid hr5
  have HS5 := Lib.hid hb5.size
  have HFL := Lib.hid (show ∀ k, F k → k < w4.heap.size from DF.lt HD4.out)
  clear hb5 hr5 HD4
  go_wp2_with (at_builtin; refine wpList_append_hds rfl (.tmp 29) (.tmp 30) 73 rfl 92 Tryz.underlying73 i0 _ hi0 hz0 hz1 hz2 rfl w4.heap.size L.length L _ rfl HR5.out HS5.out (by omega) M M.length rfl B cb rfl (HB.out.below HB5.out) (by omega) ?_; intro v6 w6 hr6 hg6)
  have hb6 : Below w4.heap.size w5 w6 := (Below.refl w4.heap.size w5).grown hg6.out HS5.out (fun k e => (HR5.out.lt k e).1)
  have HB6 := Lib.hid (show Below w.heap.size w w6 from HB5.out.trans (hb6.mono HB4.out.size))
  have HD6 := Lib.hid (DF.same HD5.out ⟨hb6.size, fun k hk => hb6.block k (HFL.out k hk)⟩)
  have hr : Row w6 w4.heap.size 3 v6 (L ++ M).length (hdCells (L ++ M)) := by rw [List.length_append]; exact hr6.out
  obtain ⟨-, A6, c6, rfl, hm6⟩ := hr.hds
  have HM6 := Lib.hid hm6
  have HLM := Lib.hid (show (L ++ M).length ≤ 40 ∧ ∀ x ∈ L ++ M, x.root.size ≤ 60 ∧ x.prev.size ≤ 60 from ⟨by rw [List.length_append]; omega, fun x hx => by
    rcases List.mem_append.1 hx with h | h
    · have := HL.out.2 x h; omega
    · have := HM.out.2 x h; omega⟩)
  clear hb6 hr6 hg6 hr hm6 HD5 HR5
  go_wp2_with fail
  refine (play_any DF (L ++ M) A6 c6 _ (HK.out.below HB6.out HK.out.lt) HM6.out HLM.out.1 HLM.out.2).mono ?_
  rintro e w7 ⟨p2, F2, v2, rfl, hb7, hd7, hf7, -⟩
  have HB7 := Lib.hid (HB6.out.trans (hb7.mono HB6.out.size))
  have HD7 := Lib.hid (DF.same HD6.out (same_of_below hb7 (DF.lt HD6.out)))
  have HE7 := Lib.hid hd7
  have HOK := Lib.hid (show DOk (playK DF.pa (newDst sec16) L) ∧ DOk (playK DF.pa (newDst sec16) (L ++ M)) from ⟨playK_ok (newDst_ok sec16_size) L, playK_ok (newDst_ok sec16_size) _⟩)
  have HDI := Lib.hid (show EpsDim (playK DF.pa (newDst sec16) L) from playK_dim DF.pa (fun s hs => by cases hs) L)
  have HPX := Lib.hid (show (∃ t, (playK DF.pa (newDst sec16) (L ++ M)).eps = (playK DF.pa (newDst sec16) L).eps ++ t) ∧ (playK DF.pa (newDst sec16) L).secret = sec16 ∧ (playK DF.pa (newDst sec16) (L ++ M)).secret = sec16 from
    ⟨by rw [playK_append]; exact (playK_eps _ _ M).1, (playK_eps _ _ L).2, (playK_eps _ _ _).2⟩)
  clear hb7 hd7 hf7 HD6
  generalize playK DF.pa (newDst sec16) L = d1 at HD7 HOK HDI HPX
  generalize playK DF.pa (newDst sec16) (L ++ M) = d2 at HE7 HOK HPX
  go_wp2_with fail
  refine (DF.epochs F p d1 _ HD7.out HOK.out.1 (HK.out.below HB7.out HK.out.lt)).mono ?_
  rintro e w8 ⟨AE, ce, ME, rfl, hme, hmc, hb8, hsg8, -, -⟩
  have HB8 := Lib.hid (HB7.out.trans (hb8.mono HB7.out.size))
  have HD8 := Lib.hid (DF.same HD7.out (same_of_below hb8 (DF.lt HD7.out)))
  have HE8 := Lib.hid (DF.same HE7.out (same_of_below hb8 (DF.lt HE7.out)))
  have HSG8 := Lib.hid hsg8
  have HME := Lib.hid hme
  clear hme hmc hb8 hsg8 HD7 HE7
  go_wp2_with fail
  refine (DF.epochs F2 p2 d2 _ HE8.out HOK.out.2 (HK.out.below HB8.out HK.out.lt)).mono ?_
  rintro e w9 ⟨AF, cf, MF, rfl, hmf, hmc, hb9, hsg9, -, -⟩
  have HB9 := Lib.hid (HB8.out.trans (hb9.mono HB8.out.size))
  have HD9 := Lib.hid (DF.same HD8.out (same_of_below hb9 (DF.lt HD8.out)))
  have HE9 := Lib.hid (DF.same HE8.out (same_of_below hb9 (DF.lt HE8.out)))
  have HSG9 := Lib.hid hsg9
  have HSH9 := Lib.hid (HSG8.out.below hb9)
  have HMF := Lib.hid hmf
  have hle : ME.length ≤ MF.length := by
    obtain ⟨⟨t, ht⟩, _⟩ := HPX.out
    have h1 := congrArg List.length HME.out
    have h2 := congrArg List.length hmf
    have h3 := congrArg List.length ht
    rw [List.length_map] at h1 h2
    rw [List.length_append] at h3
    omega
  have hm8 : ME.length ≤ 8 := by
    have h1 := congrArg List.length HME.out
    have := HOK.out.1.few
    rw [List.length_map] at h1
    omega
  have HPRE := Lib.hid (show ∀ (i : Nat) (m : SgM), ME[i]? = some m → ∃ m' : SgM, MF[i]? = some m' ∧ m'.s = m.s from fun i m hm => by
    obtain ⟨⟨t, ht⟩, _⟩ := HPX.out
    have hi : i < ME.length := (List.getElem?_eq_some_iff.1 hm).1
    obtain ⟨m', hm'⟩ : ∃ m', MF[i]? = some m' := ⟨_, List.getElem?_eq_getElem (by omega)⟩
    refine ⟨m', hm', ?_⟩
    have h1 : (ME.map SgM.s)[i]? = some m.s := by rw [List.getElem?_map, hm]; rfl
    have h2 : (MF.map SgM.s)[i]? = some m'.s := by rw [List.getElem?_map, hm']; rfl
    rw [HME.out] at h1
    rw [hmf, ht, List.getElem?_append_left (by have := congrArg List.length HME.out; rw [List.length_map] at this; omega), h1] at h2
    exact (Option.some.inj h2).symm)
  have hsl := fun u : World => sgs_to AF MF.length cf ME.length (by omega) u
  clear hmf hb9 hsg9 HD8 HE8 HSG8
  go_wp2_with fail
  clear hsl
  refine (eqSigned_same ME MF AE AF ce cf w9 ME.length rfl (by omega) HPRE.out (fun m hm => by
    have := HDI.out m.s (by rw [← HME.out]; exact List.mem_map_of_mem hm)
    have h1 := this.sig
    have h2 := this.path
    omega) HSH9.out HSG9.out).mono ?_
  rintro e w10 ⟨rfl, hb10⟩
  have HB10 := Lib.hid (HB9.out.trans (hb10.mono HB9.out.size))
  have HD10 := Lib.hid (DF.same HD9.out (same_of_below hb10 (DF.lt HD9.out)))
  have HE10 := Lib.hid (DF.same HE9.out (same_of_below hb10 (DF.lt HE9.out)))
  clear hb10 HD9 HE9
  go_wp2_with fail
  refine (DF.pub F p d1 _ HD10.out HOK.out.1 (HK.out.below HB10.out HK.out.lt)).mono ?_
  rintro e w11 ⟨rfl, hb11⟩
  rw [HPX.out.2.1]
  have HB11 := Lib.hid (HB10.out.trans (hb11.mono HB10.out.size))
  have HE11 := Lib.hid (DF.same HE10.out (same_of_below hb11 (DF.lt HE10.out)))
  clear hb11 HD10 HE10
  go_wp2_with fail
  refine (DF.pub F2 p2 d2 _ HE11.out HOK.out.2 (HK.out.below HB11.out HK.out.lt)).mono ?_
  rintro e w12 ⟨rfl, hb12⟩
  rw [HPX.out.2.2]
  have HB12 := Lib.hid (HB11.out.trans (hb12.mono HB11.out.size))
  clear hb12
  go_wp2
  go_ret
  exact ⟨rfl, HB12.out⟩
end Go.Proofs.YtcfpmofmjnhonaaGreatDoor
/- Step by step: plain facts for ClientOrder. -/
namespace Go.Proofs.YtcfpmofmjnhonaaGreatDoor
open Go.RowKit

/-- One seal is of one public mark. -/
theorem sealOk_one {p q m : ByteArray} {key : Int} {S P : List ByteArray} (h : sealOk p m key S P = true) (h2 : sealOk q m key S P = true) : p = q := by
  unfold sealOk at h h2
  simp only [Bool.and_eq_true, decide_eq_true_eq] at h h2
  exact h.2.symm.trans h2.2
theorem see_other {c : Cl} {p : ByteArray} {s : Sgn} (h : sealOk p (headMark s.head) s.key s.sig s.path = true) (hne : p ≠ c.pub) : seeAns c s = (c, 15) := by
  unfold seeAns
  rw [if_neg]
  rintro ⟨_, _, h2⟩
  exact hne (sealOk_one h h2)
/-- A new directory's first epoch. -/
theorem first_pub (pa : Pub) {secret : ByteArray} (h16 : secret.size = 16) : ∃ d' sg, pa.f (newDst secret) = (d', sg, 0) ∧ DOk d' ∧ d'.secret = secret ∧ SgnDim sg ∧ sealOk (boxPub (dirSeed secret)) (headMark sg.head) sg.key sg.sig sg.path = true := by
  have hok := newDst_ok h16
  have h8 : (newDst secret).eps.length < 8 := by show 0 < 8; omega
  refine ⟨_, _, if_pos h8, pa.next_ok hok h8, rfl, pa.sgn_dim _, ?_⟩
  exact (ep_fits (pa.next_ok hok h8) (pa.next_linked (newDst_chained secret) h8).1 (i := 0) (s := pa.sgn (newDst secret)) rfl).2.2
/-- Numbers that lie at A. -/
def Nums (w : World) (A : Option Addr) (L : List Int) : Prop := ∀ (i : Nat) x, L[i]? = some x → ∃ a, A = some a ∧ a.block < w.heap.size ∧ w.cell? (a.add i) = some (.int .i64 x)
theorem Nums.below {w w' : World} {A : Option Addr} {L : List Int} {B : Nat} (h : Nums w A L) (hb : Below B w w') (hB : ∀ a, A = some a → 0 < L.length → a.block < B) : Nums w' A L := fun i p hp => by
  obtain ⟨a, ha, hl, c⟩ := h i p hp
  exact ⟨a, ha, Nat.lt_of_lt_of_le hl hb.size, (hb.cell (by rw [block_add]; exact hB a ha (by have := (List.getElem?_eq_some_iff.1 hp).1; omega))).trans c⟩
theorem Nums.lt {w : World} {A : Option Addr} {L : List Int} (h : Nums w A L) : ∀ a, A = some a → 0 < L.length → a.block < w.heap.size := fun a ha hl => by
  obtain ⟨a', e, hlt, _⟩ := h 0 _ (List.getElem?_eq_getElem hl)
  rw [ha] at e
  obtain rfl := Option.some.inj e
  exact hlt
end Go.Proofs.YtcfpmofmjnhonaaGreatDoor
/- The keeps' pick. -/
namespace Go.Proofs.YtcfpmofmjnhonaaGreatDoor
open Go.RowKit

theorem pick_any (a : Int) (n : Nat) (w : World) (h1 : 1 ≤ n) (h2 : n ≤ 1000000) :
    Calls Tryz.prog 48 #[.int .i64 a, .int .i64 n] w fun e w' => w' = w ∧ ∃ r : Nat, r < n ∧ e = .returned (.int .i64 (r : Int)) := by
  obtain ⟨r, hr, hrn⟩ : ∃ r : Nat, (IntKind.u64.wrap a).tmod n = (r : Int) ∧ r < n := by
    have hu : 0 ≤ IntKind.u64.wrap a := by
      show 0 ≤ a % 18446744073709551616
      omega
    have h3 := Int.tmod_nonneg (n : Int) hu
    have h4 := Int.tmod_lt_of_pos (IntKind.u64.wrap a) (show (0 : Int) < n by omega)
    exact ⟨((IntKind.u64.wrap a).tmod n).toNat, by omega, by omega⟩
  have HR := Lib.hid hr
  clear hr
  go_enter Tryz.func48, Tryz.ntmps48
  go_wp2
  go_ret
  rw [HR.out]
  exact ⟨rfl, r, hrn, by rw [show wrap64 (r : Int) = r by unfold wrap64; omega]; rfl⟩
end Go.Proofs.YtcfpmofmjnhonaaGreatDoor
