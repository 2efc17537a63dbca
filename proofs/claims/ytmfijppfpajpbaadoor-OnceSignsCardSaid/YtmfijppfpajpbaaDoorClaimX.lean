/- OnceSigns: for any seed, key, mark and list of texts, by what the key is known, what it tells of the mark, and by what one is known that told the list are the document's, and it never panics: the statement and its tied card. -/
import Derived.Test.YtmfijppfpajpbaaDoorM4
import Derived.Deep.Slices
import Derived.Deep.Fields
import Derived.ChangeSame
import Derived.Lib.SmallJoins
import Derived.SliceStrings
import Derived.OpenShut
import Derived.Test.YtmfijppfpajpbaaDoorRows
import Derived.Test.YtmfijppfpajpbaaDoorM10
import Derived.Test.YtmfijppfpajpbaaDoorM2
import Derived.Test.YtmfijppfpajpbaaDoorM8
import Derived.WalkKit
import Derived.ProofKit
import Derived.Deep.DeepHandedRow
import Derived.Lib.LaidTab
import Derived.LaidHandle
import Derived.Test.YtmfijppfpajpbaaDoorCards
import Derived.Test.YtmfijppfpajpbaaDoorTie
import Derived.Test.YtmfijppfpajpbaaDoorM11
/- Arguments opened: lists of items, of texts; an item. -/
namespace Go.Proofs.YtmfijppfpajpbaaDoor
open Go.ChangeShapes Go.WideShapes Go.Deep Go.RowKit

section
variable {H : Type} {enc : TypeId × Value → H} {P : Program} {w : World} {base : Nat} {spare : Nat → Bool} {held : Bool}
theorem open_slice_fields {t e : TypeId} {fs : Array Field} {fuel : Nat} {cs : List Value} {x : DataW H × List MemPlace} (ht : P.underlying t = some (.slice e)) (he : P.underlying e = some (.struct fs))
    (hone : oneCellFields P fs = true) (hC : P.cellsOf e = fs.size) (h : DataW.trod enc P w base spare held fuel t cs = some x) :
    (cs = [.slice none 0 0] ∧ x = (.nil, [])) ∨
    ∃ (a : Addr) (len cap m : Nat), cs = [.slice (some a) len cap] ∧ len ≤ cap ∧ m = (if spare a.block then cap else len) ∧
      ∀ i, i < m → ∃ (ys : List (DataW H × List MemPlace)) (n : Nat), ys.length = fs.size ∧
        ∀ (j : Nat) (f : Field), fs[j]? = some f → ∃ (v : Value) (y : DataW H × List MemPlace), w.cell? (a.add (i * fs.size + j)) = some v ∧ ys[j]? = some y ∧ DataW.trod enc P w base spare held n f.type [v] = some y := by
  rcases open_slice ht h with h0 | ⟨a, len, cap, m, n, D, Pl, hcs, hb, hl, hm, hmm, hx, hi⟩
  · exact .inl h0
  · refine .inr ⟨a, len, cap, m, hcs, hl, hmm, fun i him => ?_⟩
    obtain ⟨cs', hc, ht'⟩ := hi i him
    rw [hC] at hc
    obtain ⟨ys, n', hn', hy, hlen, hyl, hf⟩ := DataW.trod_struct he ht'
    obtain ⟨_, hcl, hat⟩ := World.cells?_some hc
    refine ⟨ys, n', hyl, fun j f hj => ?_⟩
    obtain ⟨ho, hk⟩ := hone_of hone j f hj
    have hjl : j < fs.size := (Array.getElem?_eq_some_iff.1 hj).1
    have hcell := hat j hjl
    have hv : cs'[j]? = some (cs'[j]'(by omega)) := List.getElem?_eq_getElem (by omega)
    have h1 := hf j f hj
    rw [ho, hk] at h1
    have hone' : (cs'.drop j).take 1 = [cs'[j]'(by omega)] := by
      rw [List.drop_eq_getElem_cons (by omega)]
      rfl
    rw [hone'] at h1
    have hys : ys[j]? = some (ys[j]'(by omega)) := List.getElem?_eq_getElem (by omega)
    refine ⟨_, _, ?_, hys, h1.trans hys⟩
    rw [← Go.Deep.add_add, hcell, hv]
/-- A list of structs of two texts, as items. -/
theorem open_items {t e : TypeId} {f0 f1 : Field} {a0 : Option Addr} {len cap : Nat} {d : DataW H} {p : List MemPlace} (ht : P.underlying t = some (.slice e)) (he : P.underlying e = some (.struct #[f0, f1]))
    (hone : oneCellFields P #[f0, f1] = true) (hC : P.cellsOf e = 2) (h0 : P.underlying f0.type = some .string) (h1 : P.underlying f1.type = some .string) (h : DataW.Trod enc P w base spare held t (.slice a0 len cap) d p) :
    ∃ L : List It, L.length = len ∧ len ≤ cap ∧ Itms w a0 L := by
  obtain ⟨fuel, hf⟩ := h
  rcases open_slice_fields ht he hone hC hf with ⟨hcs, _⟩ | ⟨a, len', cap', m, hcs, hl, hm, hi⟩
  · simp [Value.cells] at hcs
    obtain ⟨rfl, rfl, rfl⟩ := hcs
    exact ⟨[], rfl, Nat.le_refl 0, Itms.nil _ _⟩
  · simp [Value.cells] at hcs
    obtain ⟨rfl, rfl, rfl⟩ := hcs
    have hlm : len ≤ m := by rw [hm]; split <;> omega
    have key : ∀ i, i < len → ∃ x : It, w.cell? (a.add (i * 2)) = some (.string x.1) ∧ w.cell? ((a.add (i * 2)).add 1) = some (.string x.2) := by
      intro i hil
      obtain ⟨ys, n, _, hj⟩ := hi i (by omega)
      obtain ⟨v, y, hc, _, hy⟩ := hj 0 f0 rfl
      obtain ⟨v', y', hc', _, hy'⟩ := hj 1 f1 rfl
      obtain ⟨s, e0, _, _⟩ := DataW.trod_string h0 hy
      obtain ⟨s', e1, _, _⟩ := DataW.trod_string h1 hy'
      obtain rfl := List.singleton_inj.1 e0
      obtain rfl := List.singleton_inj.1 e1
      exact ⟨(s, s'), hc, by rw [add_add']; exact hc'⟩
    refine ⟨(List.range len).map fun i => if hi : i < len then (key i hi).choose else (⟨#[]⟩, ⟨#[]⟩), by simp, hl, ?_⟩
    intro i x hx
    have hil : i < len := by have := (List.getElem?_eq_some_iff.1 hx).1; simpa using this
    have hk := (key i hil).choose_spec
    rw [List.getElem?_map, List.getElem?_range hil, Option.map_some, dif_pos hil] at hx
    rw [Option.some.inj hx] at hk
    exact ⟨a, rfl, by have := block_lt_of_cell hk.1; rwa [block_add] at this, hk.1, hk.2⟩
theorem open_texts {t e : TypeId} {a0 : Option Addr} {len cap : Nat} {d : DataW H} {p : List MemPlace} (ht : P.underlying t = some (.slice e)) (he : P.underlying e = some .string) (hc : P.cellsOf e = 1)
    (h : DataW.Trod enc P w base spare held t (.slice a0 len cap) d p) : ∃ L : List ByteArray, L.length = len ∧ Strs w a0 L := by
  obtain ⟨fuel, hf⟩ := h
  rcases open_strings ht he hc hf with ⟨hcs, hx⟩ | ⟨a, len', cap', ss, hcs, _, hl, hm, hz, hx, hcell, hws⟩
  · simp [Value.cells] at hcs
    obtain ⟨rfl, rfl, rfl⟩ := hcs
    exact ⟨[], rfl, Strs.nil _ _⟩
  · simp [Value.cells] at hcs
    obtain ⟨rfl, rfl, rfl⟩ := hcs
    have hle : len ≤ ss.length := by rw [hz]; split <;> omega
    refine ⟨ss.take len, by rw [List.length_take]; omega, fun i p hp => ?_⟩
    have hi : i < len := by have := (List.getElem?_eq_some_iff.1 hp).1; rw [List.length_take] at this; omega
    have hcl := hcell i (by omega)
    have hp' : ss.getD i ByteArray.empty = p := by
      rw [List.getElem?_take_of_lt hi] at hp
      rw [List.getD_eq_getElem?_getD, hp]; rfl
    rw [hp'] at hcl
    exact ⟨a, rfl, by have := block_lt_of_cell hcl; rwa [block_add] at this, hcl⟩
/-- A struct of two texts. -/
theorem open_item {r : Reach} {b0 : Nat} {t : TypeId} {f0 f1 : Field} {v : Value} {d : DataW H} {p : List MemPlace} (hs : P.underlying t = some (.struct #[f0, f1])) (hone : oneCellFields P #[f0, f1] = true) (hC : P.cellsOf t = 2) (h0 : P.underlying f0.type = some .string) (h1 : P.underlying f1.type = some .string)
    (hv : Value.okWide P w r b0 t v) (h : DataW.Trod enc P w base spare held t v d p) : ∃ x : It, v = .agg #[.string x.1, .string x.2] := by
  obtain ⟨v0, v1, y0, y1, n, rfl, _, _, hy0, hy1⟩ := Go.Joins.open_agg2 hs hone hC hv h
  obtain ⟨s, e0, _, _⟩ := DataW.trod_string h0 hy0
  obtain ⟨s', e1, _, _⟩ := DataW.trod_string h1 hy1
  simp at e0 e1
  subst e0 e1
  exact ⟨(s, s'), rfl⟩
theorem open_texts_cell {t e : TypeId} {fuel : Nat} {v : Value} {x : DataW H × List MemPlace} (ht : P.underlying t = some (.slice e)) (he : P.underlying e = some .string) (hc : P.cellsOf e = 1)
    (h : DataW.trod enc P w base spare held fuel t [v] = some x) : ∃ A cap, ∃ L : List ByteArray, v = .slice A L.length cap ∧ Strs w A L := by
  rcases open_strings ht he hc h with ⟨hcs, _⟩ | ⟨a, len, cap, ss, hcs, hb, hl, hm, hz, hx, hcell, hws⟩
  · obtain rfl := List.singleton_inj.1 hcs
    exact ⟨none, 0, [], rfl, Strs.nil _ _⟩
  · obtain rfl := List.singleton_inj.1 hcs
    have h' : DataW.Trod enc P w base spare held t (.slice (some a) len cap) x.1 x.2 := ⟨fuel, by simpa [Value.cells] using h⟩
    obtain ⟨L, rfl, hL⟩ := open_texts ht he hc h'
    exact ⟨some a, cap, L, rfl, hL⟩
/-- A proof: a list of texts and an item. -/
theorem open_proof {r : Reach} {b0 : Nat} {t ts te ti : TypeId} {f0 f1 g0 g1 : Field} {v : Value} {d : DataW H} {p : List MemPlace} (hs : P.underlying t = some (.struct #[f0, f1])) (hC : P.cellsOf t = 3)
    (o0 : f0.offset = 0) (o1 : f1.offset = 1) (e0 : f0.type = ts) (e1 : f1.type = ti) (hts : P.underlying ts = some (.slice te)) (hte : P.underlying te = some .string) (hce : P.cellsOf te = 1) (hcs : P.cellsOf ts = 1)
    (hti : P.underlying ti = some (.struct #[g0, g1])) (hone : oneCellFields P #[g0, g1] = true) (hci : P.cellsOf ti = 2) (k0 : P.underlying g0.type = some .string) (k1 : P.underlying g1.type = some .string)
    (hv : Value.okWide P w r b0 t v) (h : DataW.Trod enc P w base spare held t v d p) : ∃ A cap, ∃ L : List ByteArray, ∃ x : It, v = .agg #[.slice A L.length cap, .string x.1, .string x.2] ∧ Strs w A L := by
  obtain ⟨cs, rfl, hsz⟩ := okWide_struct hs hv
  obtain ⟨l⟩ := cs
  match l, hsz.trans hC with
  | [c0, c1, c2], _ =>
    obtain ⟨fuel, hf⟩ := h
    obtain ⟨y0, y1, n, hx, _, h0, h1⟩ := trod_struct2 hs hf
    subst e0 e1
    rw [o0, hcs] at h0
    rw [o1, hci] at h1
    obtain ⟨A, cap, L, rfl, hL⟩ := open_texts_cell hts hte hce (by simpa [Value.cells] using h0)
    obtain ⟨z0, z1, m, hz, _, i0, i1⟩ := trod_struct2 hti h1
    obtain ⟨p0, q0⟩ := hone_of hone 0 g0 rfl
    obtain ⟨p1, q1⟩ := hone_of hone 1 g1 rfl
    rw [p0, q0] at i0
    rw [p1, q1] at i1
    obtain ⟨s, es, _, _⟩ := DataW.trod_string k0 (show DataW.trod enc P w base spare held m g0.type [c1] = some z0 by simpa [Value.cells] using i0)
    obtain ⟨s', es', _, _⟩ := DataW.trod_string k1 (show DataW.trod enc P w base spare held m g1.type [c2] = some z1 by simpa [Value.cells] using i1)
    obtain rfl := List.singleton_inj.1 es
    obtain rfl := List.singleton_inj.1 es'
    exact ⟨A, cap, L, (s, s'), rfl, hL⟩
end
end Go.Proofs.YtmfijppfpajpbaaDoor
/- What a row's listed variables give a walk: the round numbers, the handle of errors.errorType, any table on the list; a world for the witness. -/
namespace Go.Proofs.YtmfijppfpajpbaaDoor
open Go.ChangeShapes Go.WideShapes Go.ChangeAt Go.RowKit

theorem sumOwn : ownKnob Tryd.prog.godebug = none := by kernel_rfl
theorem sumLaidOut : laidOutB Tryd.prog = true := by kernel_rfl
theorem gK : Tryd.prog.globalNamed "rollkeeper/sum.roundNumbers" = some 0 := by kernel_rfl
theorem gKType : (Tryd.prog.globals[0]?).map (·.type) = some 46 := by kernel_rfl
theorem cellsA32 : Tryd.prog.cellsOf 46 = 64 := by kernel_rfl
theorem cellsU32 : Tryd.prog.cellsOf 44 = 1 := by kernel_rfl
theorem cellsStr : Tryd.prog.cellsOf 9 = 1 := by kernel_rfl

/-- A table that stands somewhere on the row's list. -/
theorem tab_of_vars {P : Program} {W : World} {name : String} {k : IntKind} {zs : List Int} {rest : List (String × DataW Unit)} {ps : List MemPlace} {g : Nat} {t e : TypeId} {n : Nat}
    (hg : P.globalNamed name = some g) (hty : (P.globals[g]?).map (·.type) = some t) (ht : P.underlying t = some (.array n e)) (he : P.underlying e = some (.int k)) (hce : P.cellsOf e = 1) (hct : P.cellsOf t = n)
    (h : DataW.LaidVars P W ((name, Lib.tabData k zs) :: rest) ps) : Lib.TabIs P W name k zs := by
  obtain ⟨g', t', cs, fuel, p, q, hg', ht', hvar, hd, _, _⟩ := h
  obtain rfl := Option.some.inj (hg.symm.trans hg')
  obtain rfl := Option.some.inj (hty.symm.trans ht')
  unfold Lib.TabIs
  rw [hvar, ← Lib.cells_of_tab ht he hce hct hd]
theorem vars_tail {P : Program} {W : World} {x : String × DataW Unit} {rest : List (String × DataW Unit)} {ps : List MemPlace} (h : DataW.LaidVars P W (x :: rest) ps) : ∃ q, DataW.LaidVars P W rest q := by
  obtain ⟨n, d⟩ := x
  obtain ⟨_, _, _, _, _, q, _, _, _, _, h, _⟩ := h
  exact ⟨q, h⟩
/-- The round numbers as a row lists them. -/
def kData : DataW Unit := Lib.tabData .u32 (kTab.map fun n : Nat => (n : Int))
theorem hasK_of_vars {W : World} {rest : List (String × DataW Unit)} {ps : List MemPlace} (h : DataW.LaidVars Tryd.prog W (("rollkeeper/sum.roundNumbers", kData) :: rest) ps) : HasK W := by
  have t0 := tab_of_vars gK gKType Tryd.underlying46 Tryd.underlying44 cellsU32 cellsA32 h
  intro i hi
  rw [t0.cell gK i (by rw [List.length_map]; exact hi)]
  have hlt : kTab.getD i 0 < 4294967296 := by rw [← k_root i hi]; exact Nat.mod_lt _ (by decide)
  have e1 : (kTab.map fun n : Nat => (n : Int)).getD i 0 = ((kTab.getD i 0 : Nat) : Int) := by
    rw [List.getD_eq_getElem?_getD, List.getD_eq_getElem?_getD, List.getElem?_map]
    cases kTab[i]? <;> rfl
  rw [e1]
  unfold W32 kOf
  rw [BitVec.toNat_ofNat, Nat.mod_eq_of_lt (by omega)]

theorem gErrType : Tryd.prog.globalNamed "errors.errorType" = some 1 := by kernel_rfl
theorem rtErr : (Tryd.prog.cutTypes.find? (·.1 == "internal/reflectlite.rtype")).map (·.2) = some 109 := by kernel_rfl
theorem oneRowErr : ((List.range Tryd.prog.types.size).filter fun t => Tryd.prog.rowNamed t [101, 114, 114, 111, 114]) = [31] := by kernel_rfl
def errData : DataW Unit := .iface "internal/reflectlite.rtype" (.agg [.ptr (.lit (.string [101, 114, 114, 111, 114]))])
theorem handle_of_laid {W : World} {l : List (String × DataW Unit)} (h : handlesMet Tryd.prog l W) (hm : ("errors.errorType", errData) ∈ l) :
    W.cell? ⟨1, 0, none⟩ = some (.iface 109 (.agg #[hand 31])) := by
  obtain ⟨name, u, ty, e1, e2, e3, e4, e5⟩ := h _ hm
  have en : name = [101, 114, 114, 111, 114] := (Option.some.inj e1).symm
  subst en
  obtain rfl := Option.some.inj (rtErr.symm.trans e2)
  have hm : ty ∈ (List.range Tryd.prog.types.size).filter fun t => Tryd.prog.rowNamed t [101, 114, 114, 111, 114] := List.mem_filter.2 ⟨List.mem_range.2 e3, e4⟩
  rw [oneRowErr] at hm
  obtain rfl := List.mem_singleton.1 hm
  have hh : typeHandle Tryd.prog 31 = hand 31 := by kernel_rfl
  rw [hh] at e5
  simpa using World.var?_cell gErrType e5 0

/-- A world for the witness: variables laid, one after the other. -/
def laidCells : DataW Unit → Array Value
  | .agg l => (l.map fun
    | .lit (.int k z) => Value.int k z
    | _ => .bool false).toArray
  | _ => #[]
noncomputable def laidBy (g : Nat) (cs : Array Value) (w : World) : World :=
  { w with heap := w.heap.modify g fun
      | .cells _ t frozen => .cells cs t frozen
      | o => o }
noncomputable def laidAt (g : Nat) (d : DataW Unit) (w : World) : World := laidBy g (laidCells d) w
noncomputable def laidErr (w : World) : World := laidBy 1 #[.iface 109 (.agg #[hand 31])] w
noncomputable def laidK (w : World) : World := laidAt 0 kData w
end Go.Proofs.YtmfijppfpajpbaaDoor
/- OnceSigns: for any seed, key, mark and list of texts, by what the key is known, what it tells of the mark, and by what one is known that told the list are the document's, and it never panics: the statement and its tied card. -/
namespace Go.Proofs.YtmfijppfpajpbaaDoor
open Go.ChangeShapes Go.WideShapes Go.ChangeAt Go.RowKit
open Go.ChangeMaps (open_string shut_string)

theorem once_tables {W : World} (h : laidMetH Tryd.prog Rows.onceSignsRow.laid W) : HasK W ∧ W.cell? ⟨1, 0, none⟩ = some (.iface 109 (.agg #[hand 31])) := by
  have h1 : laidMet Tryd.prog [("rollkeeper/sum.roundNumbers", kData)] W ∧ handlesMet Tryd.prog [("errors.errorType", errData)] W := h
  obtain ⟨⟨ps, hv, _⟩, hh⟩ := h1
  exact ⟨hasK_of_vars hv, handle_of_laid hh (List.mem_singleton.2 rfl)⟩

set_option maxRecDepth 100000 in
theorem once_contract (H : Type) (enc : TypeId × Value → H) (W : World) (base : Nat) (args : Array Value) (ds gs : List (DataW H)) (before : List MemPlace)
    (hval : ∀ (j : Nat) t v, Tryd.f3.params[j]? = some t → args[j]? = some v → Value.okWide Tryd.prog W .any base t v)
    (hW : DataW.Whole enc Tryd.prog Tryd.f3.params.toList Rows.onceSignsSpec.vars false W args.toList ds gs before) (hLd : laidMetH Tryd.prog Rows.onceSignsRow.laid W) :
    Calls Tryd.prog 3 args W fun e W' => ∃ v, e = .returned v ∧ Rows.onceSignsSpec.post enc Tryd.prog Tryd.f3 false true false false W args v W' := by
  obtain ⟨hK, hG⟩ := once_tables hLd
  have hW' := hW
  obtain ⟨p, q, hA0, hV, rfl, hfz, hnd⟩ := hW
  have hA : DataW.TrodAll enc Tryd.prog W 0 (fun _ => true) true Tryd.f3.params.toList args.toList ds p := hA0
  rw [Tryd.params3] at hA hval
  obtain ⟨v0, vs0, d0, ds0, p0, q0, hargs0, rfl, rfl, h0, r0⟩ := trodAll_cons hA
  obtain ⟨v1, vs1, d1, ds1, p1, q1, hargs1, rfl, rfl, h1, r1⟩ := trodAll_cons r0
  obtain ⟨v2, vs2, d2, ds2, p2, q2, hargs2, rfl, rfl, h2, r2⟩ := trodAll_cons r1
  obtain ⟨v3, vs3, d3, ds3, p3, q3, hargs3, rfl, rfl, h3, r3⟩ := trodAll_cons r2
  obtain ⟨rfl, rfl, rfl⟩ := trodAll_nil r3
  subst hargs3 hargs2 hargs1
  obtain rfl : args = #[v0, v1, v2, v3] := by cases args; simp_all
  obtain ⟨rfl, rfl⟩ := trodVars_none hV
  have h3k := h3
  obtain ⟨s0, rfl, rfl, rfl, hs0⟩ := open_string Tryd.underlying9 (hval 0 9 v0 rfl rfl) h0
  obtain ⟨n, rfl, rfl, rfl, hn⟩ := open_int Tryd.underlying3 (hval 1 3 v1 rfl rfl) h1
  obtain ⟨s2, rfl, rfl, rfl, hs2⟩ := open_string Tryd.underlying9 (hval 2 9 v2 rfl rfl) h2
  obtain ⟨a3, len3, cap3, rfl⟩ := okWide_slice Tryd.underlying22 (hval 3 22 v3 rfl rfl)
  obtain ⟨L, rfl, hL⟩ := open_texts Tryd.underlying22 Tryd.underlying9 (by kernel_rfl) h3
  have hlt3 : ∀ x ∈ p3, x.block < W.heap.size := fun x hx => by
    have := hW'.lt x (by simp [hx]); simpa using this
  refine (onceSigns_any onceFace s0 n s2 L a3 cap3 W hK hL hG).mono fun e W' ⟨he, hb⟩ => ⟨_, he, ?_⟩
  refine ⟨_, _, _, [], ([] ++ ([] ++ ([] ++ (p3 ++ [])))), [], hW', ?_, ?_, rfl, hb.frame _, fun h => by cases h⟩
  · exact trodAll_mk1 (shut_bool Tryd.underlying4 _)
  · exact trodAll_cons_mk (shut_string Tryd.underlying9 hs0) (trodAll_cons_mk (shut_int Tryd.underlying3 hn) (trodAll_cons_mk (shut_string Tryd.underlying9 hs2)
      (trodAll_cons_mk (Below.trod sumLaidOut (by kernel_rfl) (of_decide_eq_true (by kernel_rfl)) h3k hb hlt3) trodAll_mk0)))

/-- A WORLD FOR THE WITNESS. -/
noncomputable def laidWorld (os : Os) : World := laidErr (laidK (World.holding Tryd.prog os ⟨#[], #[], []⟩))
noncomputable abbrev witArgs : Array Value := #[.string ⟨#[]⟩, .int .i64 0, .string ⟨#[]⟩, .slice none 0 0]
theorem laid_met (os : Os) : laidMetH Tryd.prog Rows.onceSignsRow.laid ((laidWorld os).forCall (fun _ _ => 0) ⟨#[], witArgs, []⟩).memory :=
  laidMetH_of_parts (laidMet_of_run' 8 (by kernel_rfl) (by kernel_rfl)) (by kernel_rfl)
theorem reads (os : Os) {H : Type} (enc : TypeId × Value → H) : ∃ places, DataW.whole enc Tryd.prog ((laidWorld os).forCall (fun _ _ => 0) ⟨#[], witArgs, []⟩).memory Tryd.f3.params.toList Rows.onceSignsSpec.vars false witArgs.toList 8 = some ([.lit (.string []), .lit (.int .i64 0), .lit (.string []), .nil], [], places) :=
  ⟨[], by kernel_rfl⟩

set_option maxRecDepth 100000 in
theorem lifted (os : Os) (started : os.Started) (H : Type) (enc : TypeId × Value → H) (F : Stop.Interp) :
    ReturnsInHanded {} Tryd.checked os 3 .any ((OpenSpec.ofChange Rows.onceSignsSpec).preRow enc Tryd.prog Tryd.f3 Rows.onceSignsRow.domain false Rows.onceSignsRow.laid) (((OpenSpec.ofChange Rows.onceSignsSpec).at F).post enc Tryd.prog Tryd.f3 false true false false) := by
  obtain ⟨places, hx⟩ := reads os enc
  refine returnsInHanded_of_row (C := Tryd.checked) (s := OpenSpec.ofChange Rows.onceSignsSpec) sumOwn started (by kernel_rfl) Tryd.func3
    (witness_row_at (enc := enc) (C := Tryd.checked) false (laidWorld os) witArgs rfl (by kernel_rfl) (by kernel_rfl) (by kernel_rfl)
      (OpenSpec.preRow_of_cond 8 hx (by kernel_rfl) (fun k hk => by cases hk) (by kernel_rfl) (laid_met os))) ?_
  intro W base args ds gs before hval hW _ _ _ hL _ _
  exact once_contract H enc W base args ds gs before hval hW hL

theorem said : Rows.OnceSignsSaid :=
  OpenClaim.holds_of_cond 3 Tryd.f3 rfl rfl rfl rfl rfl rfl rfl ⟨rfl, rfl, rfl, rfl, rfl⟩ rfl rfl rfl rfl rfl (by kernel_rfl) Tryd.func3 (by kernel_rfl)
    (of_decide_eq_true (by kernel_rfl)) (by unfold Func.isWrapper; first | (rw [if_pos (by decide +kernel)]; kernel_rfl) | (rw [if_neg (by decide +kernel)]; exact ⟨rfl, rfl⟩))
    (fun os started H enc _ F => by rw [OpenClaim.pre_eq_preRow]; exact lifted os started H enc F)

/-- No parameter wants a stand-in; the program's own looks are off. -/
theorem plain (f : FuncId) (fn : Func) (hf : Tryd.pinned.checked.prog.funcNamed "rollkeeper/rollkeeperlaw.OnceSigns" = some f) (hfn : Tryd.pinned.checked.prog.funcs[f]? = some fn) :
    true = Tryd.pinned.checked.prog.looks [] ∧ ∀ (j : Nat) t, fn.params[j]? = some t → Tryd.pinned.checked.prog.wantsStandIn t = false := by
  obtain rfl : f = 3 := Option.some.inj ((show Tryd.prog.funcNamed "rollkeeper/rollkeeperlaw.OnceSigns" = some 3 by kernel_rfl).symm.trans hf) |>.symm
  obtain rfl : fn = Tryd.f3 := (Option.some.inj (Tryd.func3.symm.trans hfn)).symm
  refine ⟨by kernel_rfl, fun j t ht => ?_⟩
  rw [Tryd.params3] at ht
  have hm : t ∈ [9, 3, 9, 22] := by simpa using Array.mem_of_getElem? ht
  have hall : ([9, 3, 9, 22].all fun u => !Tryd.prog.wantsStandIn u) = true := by kernel_rfl
  exact (show Tryd.prog.wantsStandIn t = false by simpa using List.all_eq_true.1 hall t hm)

/-- THE CARD. -/
theorem onceSigns_card : Rows.OnceSignsCardSaid :=
  Claim7.holds_tied_plain_at .later [] _ _ _ _ said (fun _ h => by cases h) (by kernel_rfl) (fun _ h => by cases h) onceSigns_row_tie rfl ⟨rfl, rfl⟩ (by kernel_rfl) rfl plain (by kernel_rfl)
#print axioms onceSigns_card
end Go.Proofs.YtmfijppfpajpbaaDoor
