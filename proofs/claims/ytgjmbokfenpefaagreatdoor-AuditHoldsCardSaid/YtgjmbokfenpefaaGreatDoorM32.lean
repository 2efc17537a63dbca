/- Parts of the proof, one behind the other: FreshLaw, PastLaw, HoldLaw. -/
import Derived.WalkKit
import Derived.Lib.Hide
import Derived.WalkLawsBesides
import Derived.Deep.QuietTactic
import Derived.Deep.WholeRow
import Derived.ArgAppend
import Derived.Laws.AppendOwnNone
import Derived.Laws.CopyRow
import Derived.Deep.RegionLaw
import Derived.Laws.BytesString
import Derived.Laws.IdiomStrings
import Derived.Test.YtgjmbokfenpefaaGreatDoorProg
import Derived.StringKeys
import Derived.Maps.Own
import Derived.Maps.Views
import Derived.Maps.OwnSet
import Derived.Maps.OwnOps
import Derived.Maps.RangeWalk
import Derived.Sort.KeysCollected
import Derived.Laws.BitsAllLaws
import Derived.Outline
import Derived.BigQuiet
import Derived.Laws.CopyOwn
import Derived.RegionTactic
import Derived.StillTail
import Derived.Deep.Quiet
import Derived.Deep.RegionHeld3
import Derived.Deep.DeepCutAuto
import Derived.Laws.ResultCell
import Derived.IntWalk
import Derived.Sort.Walk0
import Derived.Tactics
import Derived.Orders
import Derived.LaidEql
import Derived.Stop.Asserts
import Derived.RowKitTokens
import Derived.OrdersHeld
import Derived.Sort.LotA
import Derived.Lib.SortBridge
import Derived.Deep.AppendSrc
import Derived.Shelf.SlSortFuncK.WholeK
import Derived.Ground.GgsProg
import Derived.Shelf.GgSortFunc.Tiny
import Derived.Shelf.Strings.Repeat
import Derived.KernelRfl
import Derived.Laws.StructEq
import Derived.WideKeyEntry
import Derived.Deep.CutRange
import Derived.Test.YtgjmbokfenpefaaGreatDoorM1
import Derived.Test.YtgjmbokfenpefaaGreatDoorM2
import Derived.Test.YtgjmbokfenpefaaGreatDoorM3
import Derived.Test.YtgjmbokfenpefaaGreatDoorM4
import Derived.Test.YtgjmbokfenpefaaGreatDoorM5
import Derived.Test.YtgjmbokfenpefaaGreatDoorM6
import Derived.Test.YtgjmbokfenpefaaGreatDoorM7
import Derived.Test.YtgjmbokfenpefaaGreatDoorM8
import Derived.Test.YtgjmbokfenpefaaGreatDoorM9
import Derived.Test.YtgjmbokfenpefaaGreatDoorM11
import Derived.Test.YtgjmbokfenpefaaGreatDoorM12
import Derived.Test.YtgjmbokfenpefaaGreatDoorM13
import Derived.Test.YtgjmbokfenpefaaGreatDoorM14
import Derived.Test.YtgjmbokfenpefaaGreatDoorM17
import Derived.Test.YtgjmbokfenpefaaGreatDoorM18
import Derived.Test.YtgjmbokfenpefaaGreatDoorM19
import Derived.Test.YtgjmbokfenpefaaGreatDoorM21
import Derived.Test.YtgjmbokfenpefaaGreatDoorM24
import Derived.Test.YtgjmbokfenpefaaGreatDoorM26
import Derived.Test.YtgjmbokfenpefaaGreatDoorM27
import Derived.Test.YtgjmbokfenpefaaGreatDoorM31
/- DirFresh, the walk, over whatever contracts the program's directory and client keep. -/
namespace Go.Proofs.YtgjmbokfenpefaaGreatDoor
open Go.RowKit Go.Maps

theorem Sgs.aside {F : Nat → Prop} {w w' : World} {A : Option Addr} {M : List SgM} (h : Sgs w A M) (ho : Off F w w') (ha : ∀ a, A = some a → 0 < M.length → ¬ F a.block)
    (ht : ∀ m ∈ M, (∀ a, m.A = some a → 0 < m.s.sig.length → ¬ F a.block) ∧ (∀ a, m.B = some a → 0 < m.s.path.length → ¬ F a.block)) : Sgs w' A M := fun i m hm => by
  obtain ⟨a, he, hl, c0, c1, c2, c3, c4, c5, hs, hp, hc⟩ := h i m hm
  have hn := ha a he (by have := (List.getElem?_eq_some_iff.1 hm).1; omega)
  obtain ⟨h1, h2⟩ := ht m (List.mem_of_getElem? hm)
  have cell : ∀ q : Addr, q.block = a.block → w'.cell? q = w.cell? q := fun q e => off_cell ho (by rw [e]; exact hl) (by rw [e]; exact hn)
  exact ⟨a, he, Nat.lt_of_lt_of_le hl ho.size, (cell _ (by rw [block_add])).trans c0, (cell _ (by rw [block_add, block_add])).trans c1, (cell _ (by rw [block_add, block_add])).trans c2, (cell _ (by rw [block_add, block_add])).trans c3, (cell _ (by rw [block_add, block_add])).trans c4, (cell _ (by rw [block_add, block_add])).trans c5, hs.aside ho h1, hp.aside ho h2, hc⟩
theorem Sgs.six' {w : World} {A : Option Addr} {M : List SgM} (h : Sgs w A M) {i : Nat} {m : SgM} (hm : M[i]? = some m) : ∃ a, A = some a ∧ a.block < w.heap.size ∧ w.cell? (a.add (i * 6)) = some (.int .i64 m.s.head.epoch) ∧ w.cell? ⟨(a.add (i * 6)).block, (a.add (i * 6)).off + 1, none⟩ = some (.string m.s.head.root) ∧ w.cell? ⟨(a.add (i * 6)).block, (a.add (i * 6)).off + 2, none⟩ = some (.string m.s.head.prev) ∧
    w.cell? ⟨(a.add (i * 6)).block, (a.add (i * 6)).off + 3, none⟩ = some (.int .i64 m.s.key) ∧ w.cell? ⟨(a.add (i * 6)).block, (a.add (i * 6)).off + 4, none⟩ = some (.slice m.A m.s.sig.length m.ca) ∧ w.cell? ⟨(a.add (i * 6)).block, (a.add (i * 6)).off + 5, none⟩ = some (.slice m.B m.s.path.length m.cb) ∧ Strs w m.A m.s.sig ∧ Strs w m.B m.s.path := by
  obtain ⟨a, ha, hl, c0, c1, c2, c3, c4, c5, hs, hp, _⟩ := h i m hm
  exact ⟨a, ha, hl, c0, c1, c2, c3, c4, c5, hs, hp⟩
/-- Where DirFresh stands. -/
structure FrAt (DF : DirFace) (FC : ClientFace) (w wr : World) (p pc : Nat) (F G : Nat → Prop) (d : Dst) (c : Cl) (AE : Option Addr) (ME : List SgM) (v : Value) (P : List Nat) (lm : Nat) (NN : List (ByteArray × ByteArray)) : Prop where
  below : Below w.heap.size w wr
  di : DF.Is F wr p d
  ci : FC.Is G wr pc c
  fg : ∀ k, F k → ¬ G k
  gb : ∀ k, G k → w.heap.size ≤ k
  sg : Sgs wr AE ME
  ae : ∀ a, AE = some a → 0 < ME.length → ¬ G a.block
  tx : ∀ m ∈ ME, (∀ a, m.A = some a → 0 < m.s.sig.length → ¬ G a.block) ∧ (∀ a, m.B = some a → 0 < m.s.path.length → ¬ G a.block)
  row : Row wr w.heap.size 1 v P.length (P.map fun b => Value.map (some b))
  ro : ∀ k, v.ownBlock = some k → ¬ G k
  map : MapIs kS wr lm NN
  mo : ¬ G lm
theorem FrAt.calm {DF : DirFace} {FC : ClientFace} {w wr w' : World} {p pc : Nat} {F G : Nat → Prop} {d : Dst} {c : Cl} {AE : Option Addr} {ME : List SgM} {v : Value} {P : List Nat} {lm : Nat} {NN : List (ByteArray × ByteArray)} (h : FrAt DF FC w wr p pc F G d c AE ME v P lm NN) (hb : Below wr.heap.size wr w') : FrAt DF FC w w' p pc F G d c AE ME v P lm NN :=
  ⟨h.below.trans (hb.mono h.below.size), DF.same h.di (same_of_below hb (DF.lt h.di)), FC.same h.ci (same_of_below hb (FC.lt h.ci)), h.fg, h.gb, h.sg.below hb, h.ae, h.tx, h.row.belowAll hb, h.ro, h.map.block (hb.block lm h.map.lt), h.mo⟩
theorem FrAt.prog {DF : DirFace} {FC : ClientFace} {w wr w' : World} {p pc : Nat} {F G G' : Nat → Prop} {d : Dst} {c c' : Cl} {AE : Option Addr} {ME : List SgM} {v : Value} {P : List Nat} {lm : Nat} {NN : List (ByteArray × ByteArray)} (h : FrAt DF FC w wr p pc F G d c AE ME v P lm NN) (ho : Off G wr w') (hg : Grew wr G G') (hi : FC.Is G' w' pc c') : FrAt DF FC w w' p pc F G' d c' AE ME v P lm NN where
  below := h.below.trans (ho.below h.gb h.below.size)
  di := DF.same h.di (ho.same (DF.lt h.di) h.fg)
  ci := hi
  fg := hg.apart (DF.lt h.di) h.fg
  gb := hg.base h.gb h.below.size
  sg := h.sg.aside ho h.ae h.tx
  ae a e l hf := by
    rcases hg _ hf with g | g
    · exact h.ae a e l g
    · obtain ⟨a', e', hl, _⟩ := h.sg 0 _ (List.getElem?_eq_getElem l)
      rw [e] at e'
      obtain rfl := Option.some.inj e'
      omega
  tx m hm := by
    obtain ⟨i, hi⟩ := List.getElem?_of_mem hm
    obtain ⟨_, _, _, _, _, _, _, _, _, hs, hp, _⟩ := h.sg i m hi
    obtain ⟨h1, h2⟩ := h.tx m hm
    refine ⟨fun a e l hf => ?_, fun a e l hf => ?_⟩
    · rcases hg _ hf with g | g
      · exact h1 a e l g
      · have := hs.lt a e l; omega
    · rcases hg _ hf with g | g
      · exact h2 a e l g
      · have := hp.lt a e l; omega
  row := h.row.kept (fun k hk => ho.block k (h.row.lt k hk).2 (h.ro k hk)) ho.size
  ro k hk hf := by
    rcases hg _ hf with g | g
    · exact h.ro k hk g
    · have := (h.row.lt k hk).2; omega
  map := h.map.block (ho.block lm h.map.lt h.mo)
  mo hf := by
    rcases hg _ hf with g | g
    · exact h.mo g
    · have := h.map.lt; omega

/-- Worlds in which a name and an answer lie. -/
structure AskZ (na : Addr) (nm : ByteArray) (b : Nat) (m : SgM) (C : Option Addr) (n cc : Nat) (x : It) (o v : ByteArray) where
  at' : World
  hn : at'.cell? na = some (.string nm)
  hb : Holds at' b 11 (anF m C n cc x o v) 63
end Go.Proofs.YtgjmbokfenpefaaGreatDoor
/- DirPast, the walk, over whatever contracts the program's directory keeps. -/
namespace Go.Proofs.YtgjmbokfenpefaaGreatDoor
open Go.RowKit

theorem stepK_eps (pa : Pub) (d : Dst) (x : Hd) : (∃ t, (stepK pa d x).eps = d.eps ++ t) ∧ (stepK pa d x).secret = d.secret := by
  unfold stepK
  rcases pa.cases d with ⟨_, e⟩ | e <;> rw [e]
  all_goals
    unfold putAns
    repeat' split
  all_goals first | exact ⟨⟨_, rfl⟩, rfl⟩ | exact ⟨⟨[], (List.append_nil _).symm⟩, rfl⟩
theorem playK_eps (pa : Pub) (d : Dst) (L : List Hd) : (∃ t, (playK pa d L).eps = d.eps ++ t) ∧ (playK pa d L).secret = d.secret := by
  unfold playK
  induction L generalizing d with
  | nil => exact ⟨⟨[], by simp⟩, rfl⟩
  | cons x L ih =>
    obtain ⟨⟨t, ht⟩, hs⟩ := ih (stepK pa d x)
    obtain ⟨⟨u, hu⟩, hv⟩ := stepK_eps pa d x
    exact ⟨⟨u ++ t, by rw [List.foldl_cons, ht, hu, List.append_assoc]⟩, hs.trans hv⟩
theorem stepK_dim (pa : Pub) {d : Dst} (h : EpsDim d) (x : Hd) : EpsDim (stepK pa d x) := by
  unfold stepK
  split
  · unfold putAns
    repeat' split
    all_goals exact h
  · split
    · exact pa.f_dim h
    · exact h
theorem playK_dim (pa : Pub) {d : Dst} (h : EpsDim d) (L : List Hd) : EpsDim (playK pa d L) := by
  unfold playK
  induction L generalizing d with
  | nil => exact h
  | cons x L ih => exact ih (stepK_dim pa h x)
end Go.Proofs.YtgjmbokfenpefaaGreatDoor
/- AuditHolds, the walk, over whatever contracts the program's directory and auditor keep, where Publish tells right items only. -/
namespace Go.Proofs.YtgjmbokfenpefaaGreatDoor
open Go.RowKit Go.Maps

/-- Where AuditHolds stands. -/
structure HoAt (FA : AuditFace) (w wr : World) (pc : Nat) (G : Nat → Prop) (c : Au) (AE : Option Addr) (ME : List SgM) (AF : Option Addr) (MF : List SgM) : Prop where
  below : Below w.heap.size w wr
  ci : FA.Is G wr pc c
  gb : ∀ k, G k → w.heap.size ≤ k
  sg : Sgs wr AE ME
  ae : ∀ a, AE = some a → 0 < ME.length → ¬ G a.block
  tx : ∀ m ∈ ME, (∀ a, m.A = some a → 0 < m.s.sig.length → ¬ G a.block) ∧ (∀ a, m.B = some a → 0 < m.s.path.length → ¬ G a.block)
  sf : Sgs wr AF MF
  af : ∀ a, AF = some a → 0 < MF.length → ¬ G a.block
  tf : ∀ m ∈ MF, (∀ a, m.A = some a → 0 < m.s.sig.length → ¬ G a.block) ∧ (∀ a, m.B = some a → 0 < m.s.path.length → ¬ G a.block)
theorem HoAt.calm {FA : AuditFace} {w wr w' : World} {pc : Nat} {G : Nat → Prop} {c : Au} {AE AF : Option Addr} {ME MF : List SgM} (h : HoAt FA w wr pc G c AE ME AF MF) (hb : Below wr.heap.size wr w') : HoAt FA w w' pc G c AE ME AF MF :=
  ⟨h.below.trans (hb.mono h.below.size), FA.same h.ci (same_of_below hb (FA.lt h.ci)), h.gb, h.sg.below hb, h.ae, h.tx, h.sf.below hb, h.af, h.tf⟩
theorem sgs_far {wr : World} {G G' : Nat → Prop} {A : Option Addr} {M : List SgM} (hg : Grew wr G G') (hs : Sgs wr A M) (ha : ∀ a, A = some a → 0 < M.length → ¬ G a.block)
    (ht : ∀ m ∈ M, (∀ a, m.A = some a → 0 < m.s.sig.length → ¬ G a.block) ∧ (∀ a, m.B = some a → 0 < m.s.path.length → ¬ G a.block)) :
    (∀ a, A = some a → 0 < M.length → ¬ G' a.block) ∧ ∀ m ∈ M, (∀ a, m.A = some a → 0 < m.s.sig.length → ¬ G' a.block) ∧ (∀ a, m.B = some a → 0 < m.s.path.length → ¬ G' a.block) := by
  refine ⟨fun a e l hf => ?_, fun m hm => ?_⟩
  · rcases hg _ hf with g | g
    · exact ha a e l g
    · obtain ⟨a', e', hl, _⟩ := hs 0 _ (List.getElem?_eq_getElem l)
      rw [e] at e'
      obtain rfl := Option.some.inj e'
      omega
  · obtain ⟨i, hi⟩ := List.getElem?_of_mem hm
    obtain ⟨_, _, _, _, _, _, _, _, _, h1s, h1p, _⟩ := hs i m hi
    obtain ⟨h1, h2⟩ := ht m hm
    refine ⟨fun a e l hf => ?_, fun a e l hf => ?_⟩
    · rcases hg _ hf with g | g
      · exact h1 a e l g
      · have := h1s.lt a e l; omega
    · rcases hg _ hf with g | g
      · exact h2 a e l g
      · have := h1p.lt a e l; omega
theorem HoAt.prog {FA : AuditFace} {w wr w' : World} {pc : Nat} {G G' : Nat → Prop} {c c' : Au} {AE AF : Option Addr} {ME MF : List SgM} (h : HoAt FA w wr pc G c AE ME AF MF) (ho : Off G wr w') (hg : Grew wr G G') (hi : FA.Is G' w' pc c') : HoAt FA w w' pc G' c' AE ME AF MF where
  below := h.below.trans (ho.below h.gb h.below.size)
  ci := hi
  gb := hg.base h.gb h.below.size
  sg := h.sg.aside ho h.ae h.tx
  ae := (sgs_far hg h.sg h.ae h.tx).1
  tx := (sgs_far hg h.sg h.ae h.tx).2
  sf := h.sf.aside ho h.af h.tf
  af := (sgs_far hg h.sf h.af h.tf).1
  tf := (sgs_far hg h.sf h.af h.tf).2

end Go.Proofs.YtgjmbokfenpefaaGreatDoor
