/- Parts of the proof, one behind the other: AuditF, Open, OpenH, Laid. -/
import Derived.WalkKit
import Derived.Lib.Hide
import Derived.WalkLawsBesides
import Derived.Deep.QuietTactic
import Derived.Deep.WholeRow
import Derived.ArgAppend
import Derived.Laws.AppendOwnNone
import Derived.Laws.CopyRow
import Derived.Deep.RegionLaw
import Derived.Laws.BytesString
import Derived.Laws.IdiomStrings
import Derived.Test.YtgjmbokfenpefaaGreatDoorProg
import Derived.StringKeys
import Derived.Maps.Own
import Derived.Maps.Views
import Derived.Maps.OwnSet
import Derived.Maps.OwnOps
import Derived.Maps.RangeWalk
import Derived.Sort.KeysCollected
import Derived.Laws.BitsAllLaws
import Derived.Outline
import Derived.BigQuiet
import Derived.Laws.CopyOwn
import Derived.RegionTactic
import Derived.StillTail
import Derived.Deep.Quiet
import Derived.Deep.RegionHeld3
import Derived.Deep.DeepCutAuto
import Derived.Laws.ResultCell
import Derived.IntWalk
import Derived.Sort.Walk0
import Derived.Tactics
import Derived.Orders
import Derived.LaidEql
import Derived.Stop.Asserts
import Derived.RowKitTokens
import Derived.OrdersHeld
import Derived.Sort.LotA
import Derived.Lib.SortBridge
import Derived.Deep.AppendSrc
import Derived.Shelf.SlSortFuncK.WholeK
import Derived.Ground.GgsProg
import Derived.Shelf.GgSortFunc.Tiny
import Derived.Shelf.Strings.Repeat
import Derived.KernelRfl
import Derived.Laws.StructEq
import Derived.WideKeyEntry
import Derived.Deep.CutRange
import Derived.Deep.Slices
import Derived.Deep.Fields
import Derived.ChangeSame
import Derived.Lib.SmallJoins
import Derived.SliceStrings
import Derived.OpenShut
import Derived.Test.YtgjmbokfenpefaaGreatDoorRows
import Derived.ProofKit
import Derived.Deep.DeepHandedRow
import Derived.Lib.LaidTab
import Derived.LaidHandle
import Derived.Test.YtgjmbokfenpefaaGreatDoorM1
import Derived.Test.YtgjmbokfenpefaaGreatDoorM2
import Derived.Test.YtgjmbokfenpefaaGreatDoorM3
import Derived.Test.YtgjmbokfenpefaaGreatDoorM4
import Derived.Test.YtgjmbokfenpefaaGreatDoorM5
import Derived.Test.YtgjmbokfenpefaaGreatDoorM6
import Derived.Test.YtgjmbokfenpefaaGreatDoorM7
import Derived.Test.YtgjmbokfenpefaaGreatDoorM8
import Derived.Test.YtgjmbokfenpefaaGreatDoorM9
import Derived.Test.YtgjmbokfenpefaaGreatDoorM12
import Derived.Test.YtgjmbokfenpefaaGreatDoorM13
/- What the program's auditor answers (a Face), and what AuditFinds keeps from deed to deed. -/
namespace Go.Proofs.YtgjmbokfenpefaaGreatDoor
open Go.RowKit

/-- Forks lie at A. -/
def Fks (w : World) (A : Option Addr) (L : List Fk) : Prop := ∀ (i : Nat) f, L[i]? = some f → ∃ a, A = some a ∧ a.block < w.heap.size ∧ w.cell? (a.add (i * 3)) = some (.string f.a) ∧ w.cell? ((a.add (i * 3)).add 1) = some (.string f.b) ∧ w.cell? ((a.add (i * 3)).add 2) = some (.int .i64 f.epoch)
theorem Fks.nil (w : World) (A : Option Addr) : Fks w A [] := fun i f h => by simp at h
theorem Fks.below {w w' : World} {A : Option Addr} {L : List Fk} (h : Fks w A L) (hb : Below w.heap.size w w') : Fks w' A L := fun i f hf => by
  obtain ⟨a, ha, hl, c0, c1, c2⟩ := h i f hf
  exact ⟨a, ha, Nat.lt_of_lt_of_le hl hb.size, (hb.cell (by rw [block_add]; exact hl)).trans c0, (hb.cell (by rw [block_add, block_add]; exact hl)).trans c1, (hb.cell (by rw [block_add, block_add]; exact hl)).trans c2⟩
theorem Row.fks {w : World} {base : Nat} {A : Option Addr} {cap : Nat} {L : List Fk} (h : Row w base 3 (.slice A L.length cap) L.length (cellsK encF L)) : Fks w A L := fun i f hi => by
  have hil : i < L.length := (List.getElem?_eq_some_iff.1 hi).1
  obtain ⟨g, cap', hv, _, hg, _, hc, _⟩ := h.shape (by omega)
  injection hv with hv _ _
  refine ⟨⟨g, 0, none⟩, hv, hg, ?_, ?_, ?_⟩
  · rw [add_none, Nat.zero_add]; exact hc _ _ (cellsK_get encF_len L i f 0 hi (by omega))
  · rw [add_add', add_none, Nat.zero_add]; exact hc _ _ (cellsK_get encF_len L i f 1 hi (by omega))
  · rw [add_add', add_none, Nat.zero_add]; exact hc _ _ (cellsK_get encF_len L i f 2 hi (by omega))

/-- What the program's auditor answers. -/
structure AuditFace where
  Is : (Nat → Prop) → World → Nat → Au → Prop
  lt : ∀ {F : Nat → Prop} {w : World} {p : Nat} {a : Au}, Is F w p a → ∀ k, F k → k < w.heap.size
  same : ∀ {F : Nat → Prop} {w w' : World} {p : Nat} {a : Au}, Is F w p a → Same F w w' → Is F w' p a
  new : ∀ (pub : ByteArray) (w : World), pub.size = 16 → HasK w → Calls Tryz.prog 12 #[.string pub] w fun e w' => ∃ (p : Nat) (F : Nat → Prop), e = .returned (.tuple #[.pointer (some ⟨p, 0, none⟩), .nilIface]) ∧ Below w.heap.size w w' ∧ Is F w' p ⟨pub, []⟩ ∧ ∀ k, F k → w.heap.size ≤ k
  tell : ∀ (F : Nat → Prop) (p : Nat) (a a' : Au) (N : Nat) (name : ByteArray) (h : Hd) (key : Int) (S P : List ByteArray) (A B : Option Addr) (ca cb : Nat) (n : Int) (w : World), Is F w p a → HasK w → AuOk a N → N ≤ 500 → name.size ≤ 1000000 → S.length ≤ 1000 → P.length ≤ 1000 →
    h.epoch < 9223372036854775808 → Strs w A S → Strs w B P →
    (∀ a, A = some a → 0 < S.length → ¬ F a.block) → (∀ a, B = some a → 0 < P.length → ¬ F a.block) → tellAns a name ⟨h, key, S, P⟩ = (a', n) →
    Calls Tryz.prog 16 #[.pointer (some ⟨p, 0, none⟩), .string name, .agg #[.int .i64 h.epoch, .string h.root, .string h.prev, .int .i64 key, .slice A S.length ca, .slice B P.length cb]] w fun e w' => e = .returned (errOf n) ∧ ∃ F' : Nat → Prop, Off F w w' ∧ Grew w F F' ∧ Is F' w' p a'
  last : ∀ (F : Nat → Prop) (p : Nat) (a : Au) (N : Nat) (w : World), Is F w p a → HasK w → AuOk a N → N ≤ 500 → Calls Tryz.prog 18 #[.pointer (some ⟨p, 0, none⟩)] w fun e w' => ∃ n : Int, e = .returned (.int .i64 n) ∧ LastIs a n ∧ Below w.heap.size w w'
  forks : ∀ (F : Nat → Prop) (p : Nat) (a : Au) (N : Nat) (w : World), Is F w p a → HasK w → AuOk a N → N ≤ 500 → Calls Tryz.prog 20 #[.pointer (some ⟨p, 0, none⟩)] w fun e w' => ∃ (A : Option Addr) (cap : Nat) (L : List Fk), e = .returned (.slice A L.length cap) ∧ ForksIs a L ∧ L.length ≤ 1000000 ∧ Fks w' A L ∧ Below w.heap.size w w'

/-- Two directories, the document's auditor and the program's, each apart from the others. -/
structure Qs (FA : AuditFace) (w1 wr : World) (pa pb pw pc rb : Nat) (Fa Fb Fw Fc : Nat → Prop) (da db : Dst) (c c2 : Au) : Prop where
  below : Below w1.heap.size w1 wr
  da : RDir Fa wr pa rb da
  db : RDir Fb wr pb rb db
  rc : RAu Fw wr pw rb c
  pc : FA.Is Fc wr pc c2
  bw : ∀ k, Fw k → w1.heap.size ≤ k
  bc : ∀ k, Fc k → w1.heap.size ≤ k
  aw : ∀ k, Fa k → ¬ Fw k
  ac : ∀ k, Fa k → ¬ Fc k
  dw : ∀ k, Fb k → ¬ Fw k
  dc : ∀ k, Fb k → ¬ Fc k
  cw : ∀ k, Fc k → ¬ Fw k
section
variable {FA : AuditFace} {w1 wr w2 : World} {pa pb pw pc rb : Nat} {Fa Fb Fw Fw' Fc Fc' : Nat → Prop} {da db : Dst} {c c' c2 c2' : Au}
theorem Qs.calm (h : Qs FA w1 wr pa pb pw pc rb Fa Fb Fw Fc da db c c2) (hb : Below wr.heap.size wr w2) : Qs FA w1 w2 pa pb pw pc rb Fa Fb Fw Fc da db c c2 where
  below := h.below.trans (hb.mono h.below.size)
  da := h.da.below hb
  db := h.db.below hb
  rc := h.rc.below hb
  pc := FA.same h.pc (same_of_below hb (FA.lt h.pc))
  bw := h.bw
  bc := h.bc
  aw := h.aw
  ac := h.ac
  dw := h.dw
  dc := h.dc
  cw := h.cw
theorem Qs.prog (h : Qs FA w1 wr pa pb pw pc rb Fa Fb Fw Fc da db c c2) (ho : Off Fc wr w2) (hg : Grew wr Fc Fc') (hp : FA.Is Fc' w2 pc c2') : Qs FA w1 w2 pa pb pw pc rb Fa Fb Fw Fc' da db c c2' where
  below := h.below.trans (ho.below h.bc h.below.size)
  da := h.da.same (ho.same h.da.lt h.ac)
  db := h.db.same (ho.same h.db.lt h.dc)
  rc := h.rc.same (ho.same h.rc.lt fun k hw hc => h.cw k hc hw)
  pc := hp
  bw := h.bw
  bc := hg.base h.bc h.below.size
  aw := h.aw
  ac := hg.apart h.da.lt h.ac
  dw := h.dw
  dc := hg.apart h.db.lt h.dc
  cw := fun k hk hw => by
    rcases hg k hk with e | e
    · exact h.cw k e hw
    · have := h.rc.lt k hw; omega
end
end Go.Proofs.YtgjmbokfenpefaaGreatDoor
/- Arguments opened: lists of items, of texts; an item. -/
namespace Go.Proofs.YtgjmbokfenpefaaGreatDoor
open Go.ChangeShapes Go.WideShapes Go.Deep Go.RowKit

section
variable {H : Type} {enc : TypeId × Value → H} {P : Program} {w : World} {base : Nat} {spare : Nat → Bool} {held : Bool}
theorem open_slice_fields {t e : TypeId} {fs : Array Field} {fuel : Nat} {cs : List Value} {x : DataW H × List MemPlace} (ht : P.underlying t = some (.slice e)) (he : P.underlying e = some (.struct fs))
    (hone : oneCellFields P fs = true) (hC : P.cellsOf e = fs.size) (h : DataW.trod enc P w base spare held fuel t cs = some x) :
    (cs = [.slice none 0 0] ∧ x = (.nil, [])) ∨
    ∃ (a : Addr) (len cap m : Nat), cs = [.slice (some a) len cap] ∧ len ≤ cap ∧ m = (if spare a.block then cap else len) ∧
      ∀ i, i < m → ∃ (ys : List (DataW H × List MemPlace)) (n : Nat), ys.length = fs.size ∧
        ∀ (j : Nat) (f : Field), fs[j]? = some f → ∃ (v : Value) (y : DataW H × List MemPlace), w.cell? (a.add (i * fs.size + j)) = some v ∧ ys[j]? = some y ∧ DataW.trod enc P w base spare held n f.type [v] = some y := by
  rcases open_slice ht h with h0 | ⟨a, len, cap, m, n, D, Pl, hcs, hb, hl, hm, hmm, hx, hi⟩
  · exact .inl h0
  · refine .inr ⟨a, len, cap, m, hcs, hl, hmm, fun i him => ?_⟩
    obtain ⟨cs', hc, ht'⟩ := hi i him
    rw [hC] at hc
    obtain ⟨ys, n', hn', hy, hlen, hyl, hf⟩ := DataW.trod_struct he ht'
    obtain ⟨_, hcl, hat⟩ := World.cells?_some hc
    refine ⟨ys, n', hyl, fun j f hj => ?_⟩
    obtain ⟨ho, hk⟩ := hone_of hone j f hj
    have hjl : j < fs.size := (Array.getElem?_eq_some_iff.1 hj).1
    have hcell := hat j hjl
    have hv : cs'[j]? = some (cs'[j]'(by omega)) := List.getElem?_eq_getElem (by omega)
    have h1 := hf j f hj
    rw [ho, hk] at h1
    have hone' : (cs'.drop j).take 1 = [cs'[j]'(by omega)] := by
      rw [List.drop_eq_getElem_cons (by omega)]
      rfl
    rw [hone'] at h1
    have hys : ys[j]? = some (ys[j]'(by omega)) := List.getElem?_eq_getElem (by omega)
    refine ⟨_, _, ?_, hys, h1.trans hys⟩
    rw [← Go.Deep.add_add, hcell, hv]
end
end Go.Proofs.YtgjmbokfenpefaaGreatDoor
/- Arguments opened: lists of heads. -/
namespace Go.Proofs.YtgjmbokfenpefaaGreatDoor
open Go.ChangeShapes Go.WideShapes Go.Deep Go.RowKit

section
variable {H : Type} {enc : TypeId × Value → H} {P : Program} {w : World} {base : Nat} {spare : Nat → Bool} {held : Bool}
/-- A list of structs of a number and two texts, as heads. -/
theorem open_heads {t e : TypeId} {f0 f1 f2 : Field} {a0 : Option Addr} {len cap : Nat} {d : DataW H} {p : List MemPlace} (ht : P.underlying t = some (.slice e)) (he : P.underlying e = some (.struct #[f0, f1, f2]))
    (hone : oneCellFields P #[f0, f1, f2] = true) (hC : P.cellsOf e = 3) (h0 : P.underlying f0.type = some (.int .i64)) (h1 : P.underlying f1.type = some .string) (h2 : P.underlying f2.type = some .string) (h : DataW.Trod enc P w base spare held t (.slice a0 len cap) d p) :
    ∃ L : List Hd, L.length = len ∧ len ≤ cap ∧ Hds w a0 L := by
  obtain ⟨fuel, hf⟩ := h
  rcases open_slice_fields ht he hone hC hf with ⟨hcs, _⟩ | ⟨a, len', cap', m, hcs, hl, hm, hi⟩
  · simp [Value.cells] at hcs
    obtain ⟨rfl, rfl, rfl⟩ := hcs
    exact ⟨[], rfl, Nat.le_refl 0, Hds.nil _ _⟩
  · simp [Value.cells] at hcs
    obtain ⟨rfl, rfl, rfl⟩ := hcs
    have hlm : len ≤ m := by rw [hm]; split <;> omega
    have key : ∀ i, i < len → ∃ x : Hd, w.cell? (a.add (i * 3)) = some (.int .i64 x.epoch) ∧ w.cell? ((a.add (i * 3)).add 1) = some (.string x.root) ∧ w.cell? ((a.add (i * 3)).add 2) = some (.string x.prev) := by
      intro i hil
      obtain ⟨ys, n, _, hj⟩ := hi i (by omega)
      obtain ⟨v, y, hc, _, hy⟩ := hj 0 f0 rfl
      obtain ⟨v', y', hc', _, hy'⟩ := hj 1 f1 rfl
      obtain ⟨v'', y'', hc'', _, hy''⟩ := hj 2 f2 rfl
      obtain ⟨z, e0, _, _⟩ := DataW.trod_int h0 hy
      obtain ⟨s', e1, _, _⟩ := DataW.trod_string h1 hy'
      obtain ⟨s'', e2, _, _⟩ := DataW.trod_string h2 hy''
      obtain rfl := List.singleton_inj.1 e0
      obtain rfl := List.singleton_inj.1 e1
      obtain rfl := List.singleton_inj.1 e2
      exact ⟨⟨z, s', s''⟩, hc, by rw [add_add']; exact hc', by rw [add_add']; exact hc''⟩
    refine ⟨(List.range len).map fun i => if hi : i < len then (key i hi).choose else noHd, by simp, hl, ?_⟩
    intro i x hx
    have hil : i < len := by have := (List.getElem?_eq_some_iff.1 hx).1; simpa using this
    have hk := (key i hil).choose_spec
    rw [List.getElem?_map, List.getElem?_range hil, Option.map_some, dif_pos hil] at hx
    rw [Option.some.inj hx] at hk
    exact ⟨a, rfl, by have := block_lt_of_cell hk.1; rwa [block_add] at this, hk.1, hk.2.1, hk.2.2⟩
end
end Go.Proofs.YtgjmbokfenpefaaGreatDoor
/- What a row's listed variables give a walk: the round numbers, the handle of errors.errorType, any table on the list; a world for the witness. -/
namespace Go.Proofs.YtgjmbokfenpefaaGreatDoor
open Go.ChangeShapes Go.WideShapes Go.ChangeAt Go.RowKit

theorem sumOwn : ownKnob Tryz.prog.godebug = none := by kernel_rfl
theorem sumLaidOut : laidOutB Tryz.prog = true := by kernel_rfl
theorem gK : Tryz.prog.globalNamed "rollkeeper/sum.roundNumbers" = some 1 := by kernel_rfl
theorem gKType : (Tryz.prog.globals[1]?).map (·.type) = some 95 := by kernel_rfl
theorem cellsA32 : Tryz.prog.cellsOf 95 = 64 := by kernel_rfl
theorem cellsU32 : Tryz.prog.cellsOf 93 = 1 := by kernel_rfl
/-- A table that stands somewhere on the row's list. -/
theorem tab_of_vars {P : Program} {W : World} {name : String} {k : IntKind} {zs : List Int} {rest : List (String × DataW Unit)} {ps : List MemPlace} {g : Nat} {t e : TypeId} {n : Nat}
    (hg : P.globalNamed name = some g) (hty : (P.globals[g]?).map (·.type) = some t) (ht : P.underlying t = some (.array n e)) (he : P.underlying e = some (.int k)) (hce : P.cellsOf e = 1) (hct : P.cellsOf t = n)
    (h : DataW.LaidVars P W ((name, Lib.tabData k zs) :: rest) ps) : Lib.TabIs P W name k zs := by
  obtain ⟨g', t', cs, fuel, p, q, hg', ht', hvar, hd, _, _⟩ := h
  obtain rfl := Option.some.inj (hg.symm.trans hg')
  obtain rfl := Option.some.inj (hty.symm.trans ht')
  unfold Lib.TabIs
  rw [hvar, ← Lib.cells_of_tab ht he hce hct hd]
/-- The round numbers as a row lists them. -/
def kData : DataW Unit := Lib.tabData .u32 (kTab.map fun n : Nat => (n : Int))
theorem hasK_of_vars {W : World} {rest : List (String × DataW Unit)} {ps : List MemPlace} (h : DataW.LaidVars Tryz.prog W (("rollkeeper/sum.roundNumbers", kData) :: rest) ps) : HasK W := by
  have t0 := tab_of_vars gK gKType Tryz.underlying95 Tryz.underlying93 cellsU32 cellsA32 h
  intro i hi
  rw [t0.cell gK i (by rw [List.length_map]; exact hi)]
  have hlt : kTab.getD i 0 < 4294967296 := by rw [← k_root i hi]; exact Nat.mod_lt _ (by decide)
  have e1 : (kTab.map fun n : Nat => (n : Int)).getD i 0 = ((kTab.getD i 0 : Nat) : Int) := by
    rw [List.getD_eq_getElem?_getD, List.getD_eq_getElem?_getD, List.getElem?_map]
    cases kTab[i]? <;> rfl
  rw [e1]
  unfold W32 kOf
  rw [BitVec.toNat_ofNat, Nat.mod_eq_of_lt (by omega)]

/-- A world for the witness: variables laid, one after the other. -/
def laidCells : DataW Unit → Array Value
  | .agg l => (l.map fun
    | .lit (.int k z) => Value.int k z
    | _ => .bool false).toArray
  | _ => #[]
noncomputable def laidBy (g : Nat) (cs : Array Value) (w : World) : World :=
  { w with heap := w.heap.modify g fun
      | .cells _ t frozen => .cells cs t frozen
      | o => o }
noncomputable def laidAt (g : Nat) (d : DataW Unit) (w : World) : World := laidBy g (laidCells d) w
noncomputable def laidK (w : World) : World := laidAt 1 kData w
end Go.Proofs.YtgjmbokfenpefaaGreatDoor
