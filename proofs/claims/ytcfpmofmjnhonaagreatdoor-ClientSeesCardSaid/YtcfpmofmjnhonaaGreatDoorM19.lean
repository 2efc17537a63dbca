/- Parts of the proof, one behind the other: RDir, LaterR, Root, KTab, New, RDirO, Sorted. -/
import Derived.Test.YtcfpmofmjnhonaaGreatDoorM18
import Derived.Test.YtcfpmofmjnhonaaGreatDoorM16
import Derived.Test.YtcfpmofmjnhonaaGreatDoorM14
import Derived.Test.YtcfpmofmjnhonaaGreatDoorM8
import Derived.BigQuiet
import Derived.Test.YtcfpmofmjnhonaaGreatDoorM9
import Derived.Test.YtcfpmofmjnhonaaGreatDoorM7
import Derived.Test.YtcfpmofmjnhonaaGreatDoorM5
import Derived.Shelf.SlSortFuncK.WholeK
/- The document's directory in memory. -/
namespace Go.Proofs.YtcfpmofmjnhonaaGreatDoor
open Go.RowKit

/-- A signed head in memory: where its texts lie. -/
structure SgM where
  s : Sgn
  A : Option Addr
  ca : Nat
  B : Option Addr
  cb : Nat
def SgM.cells (m : SgM) : List Value := [.int .i64 m.s.head.epoch, .string m.s.head.root, .string m.s.head.prev, .int .i64 m.s.key, .slice m.A m.s.sig.length m.ca, .slice m.B m.s.path.length m.cb]
def sgCells (M : List SgM) : List Value := M.flatMap SgM.cells
theorem sgCells_length (M : List SgM) : (sgCells M).length = M.length * 6 := by
  induction M with
  | nil => rfl
  | cons m M ih => unfold sgCells at ih ⊢; rw [List.flatMap_cons, List.length_append, ih]; simp [SgM.cells]; omega
theorem sgCells_snoc (M : List SgM) (m : SgM) : sgCells (M ++ [m]) = sgCells M ++ m.cells := by simp [sgCells]
theorem sgCells_get (M : List SgM) : ∀ (i : Nat) (m : SgM) (j : Nat), M[i]? = some m → j < 6 → (sgCells M)[i * 6 + j]? = m.cells[j]? := by
  induction M with
  | nil => intro i m j h; simp at h
  | cons y M ih =>
    intro i m j h hj
    have e : sgCells (y :: M) = y.cells ++ sgCells M := rfl
    have hl : y.cells.length = 6 := rfl
    cases i with
    | zero =>
      simp at h; subst h
      rw [e, List.getElem?_append_left (by rw [hl]; omega)]; simp
    | succ i =>
      rw [e, List.getElem?_append_right (by rw [hl]; omega), hl, show (i + 1) * 6 + j - 6 = i * 6 + j by omega]
      exact ih i m j (by simpa using h) hj
/-- The texts of a signed head lie in blocks of F. -/
structure SgIn (F : Nat → Prop) (w : World) (m : SgM) : Prop where
  sig : Strs w m.A m.s.sig
  path : Strs w m.B m.s.path
  fs : ∀ a, m.A = some a → 0 < m.s.sig.length → F a.block
  fp : ∀ a, m.B = some a → 0 < m.s.path.length → F a.block
  cp : m.s.sig.length ≤ m.ca
theorem Strs.same {F : Nat → Prop} {w w' : World} {A : Option Addr} {L : List ByteArray} (h : Strs w A L) (hf : ∀ a, A = some a → 0 < L.length → F a.block) (hs : Same F w w') : Strs w' A L := fun i p hp => by
  obtain ⟨a, ha, hl, hc⟩ := h i p hp
  have hF := hf a ha (by have := (List.getElem?_eq_some_iff.1 hp).1; omega)
  exact ⟨a, ha, Nat.lt_of_lt_of_le hl hs.size, (hs.cell (by rw [block_add]; exact hF)).trans hc⟩
theorem SgIn.same {F : Nat → Prop} {w w' : World} {m : SgM} (h : SgIn F w m) (hs : Same F w w') : SgIn F w' m := ⟨h.sig.same h.fs hs, h.path.same h.fp hs, h.fs, h.fp, h.cp⟩
theorem SgIn.mono {F G : Nat → Prop} {w : World} {m : SgM} (h : SgIn F w m) (hG : ∀ k, F k → G k) : SgIn G w m := ⟨h.sig, h.path, fun a e l => hG _ (h.fs a e l), fun a e l => hG _ (h.fp a e l), h.cp⟩

/-- A box in memory, its two blocks known. -/
structure BoxAt (w : World) (bb g : Nat) (seed : ByteArray) : Prop where
  lt : bb < w.heap.size
  ltg : g < w.heap.size
  sd : w.cell? ⟨bb, 0, none⟩ = some (.string seed)
  rows : ∃ rc, w.cell? ⟨bb, 1, none⟩ = some (.slice (some ⟨g, 0, none⟩) 15 rc) ∧ ∀ k, k < 15 → w.cell? ⟨g, k, none⟩ = some (.string ((rowsOf seed).getD k ⟨#[]⟩))
theorem BoxIs.at' {w : World} {bb : Nat} {seed : ByteArray} (h : BoxIs w bb seed) : ∃ g, BoxAt w bb g seed := by
  obtain ⟨g, rc, hg, h1, h2⟩ := h.rows
  exact ⟨g, h.lt, hg, h.sd, rc, h1, h2⟩
theorem BoxAt.is {w : World} {bb g : Nat} {seed : ByteArray} (h : BoxAt w bb g seed) : BoxIs w bb seed := by
  obtain ⟨rc, h1, h2⟩ := h.rows
  exact ⟨h.lt, h.sd, g, rc, h.ltg, h1, h2⟩
theorem BoxAt.same {F : Nat → Prop} {w w' : World} {bb g : Nat} {seed : ByteArray} (h : BoxAt w bb g seed) (hs : Same F w w') (h1 : F bb) (h2 : F g) : BoxAt w' bb g seed := by
  obtain ⟨rc, e1, e2⟩ := h.rows
  exact ⟨Nat.lt_of_lt_of_le h.lt hs.size, Nat.lt_of_lt_of_le h.ltg hs.size, (hs.cell (p := ⟨bb, 0, none⟩) h1).trans h.sd, rc, (hs.cell (p := ⟨bb, 1, none⟩) h1).trans e1, fun k hk => (hs.cell (p := ⟨g, k, none⟩) h2).trans (e2 k hk)⟩

def rdF (rb bb m1 m2 m3 : Nat) (secret : ByteArray) (v : Value) : Nat → Value := fun i =>
  if i = 0 then .pointer (some ⟨rb, 0, none⟩) else if i = 1 then .string secret else if i = 2 then .pointer (some ⟨bb, 0, none⟩) else if i = 3 then .map (some m1) else if i = 4 then .map (some m2) else if i = 5 then .map (some m3) else v
/-- The document's directory at block p, its parts at these blocks, all of F. -/
structure RDirM (F : Nat → Prop) (w : World) (p rb : Nat) (d : Dst) (bb g m1 m2 m3 : Nat) (v : Value) (M : List SgM) : Prop where
  own : Holds w p 7 (rdF rb bb m1 m2 m3 d.secret v) 43
  box : BoxAt w bb g (dirSeed d.secret)
  wait : MapIs kS w m1 d.wait
  vals : MapIs kS w m2 d.vals
  since : MapIs kI w m3 d.since
  row : Row w (p + 1) 6 v M.length (sgCells M)
  eps : M.map (·.s) = d.eps
  sgs : ∀ m ∈ M, SgIn (fun k => F k ∧ v.ownBlock ≠ some k ∧ k ≠ m1 ∧ k ≠ m2 ∧ k ≠ m3 ∧ k ≠ p) w m
  fp : F p
  fb : F bb
  fg : F g
  f1 : F m1
  f2 : F m2
  f3 : F m3
  fv : ∀ k, v.ownBlock = some k → F k
  n12 : m1 ≠ m2
  n13 : m1 ≠ m3
  n23 : m2 ≠ m3
  lb : bb < p
  lg : g < p
  out : ∀ k, (k = bb ∨ k = g ∨ v.ownBlock = some k) → k ≠ m1 ∧ k ≠ m2 ∧ k ≠ m3
  lt : ∀ k, F k → k < w.heap.size
theorem holds_map {K : Type} {k : MKind K} {w : World} {p n b : Nat} {f : Nat → Value} {t : TypeId} {L : List (ByteArray × K)} (h : Holds w p n f t) (m : MapIs k w b L) : p ≠ b := fun e => by
  obtain ⟨⟨D, ⟨es, clock, hb, _⟩, _⟩, _, _⟩ := m
  unfold Holds at h
  rw [e, hb] at h
  cases h
theorem RDirM.same {F : Nat → Prop} {w w' : World} {p rb : Nat} {d : Dst} {bb g m1 m2 m3 : Nat} {v : Value} {M : List SgM} (h : RDirM F w p rb d bb g m1 m2 m3 v M) (hs : Same F w w') : RDirM F w' p rb d bb g m1 m2 m3 v M where
  own := by have := h.own; unfold Holds at this ⊢; rw [hs.block p h.fp]; exact this
  box := h.box.same hs h.fb h.fg
  wait := h.wait.block (hs.block _ h.f1)
  vals := h.vals.block (hs.block _ h.f2)
  since := h.since.block (hs.block _ h.f3)
  row := h.row.kept (fun k hk => hs.block k (h.fv k hk)) hs.size
  eps := h.eps
  sgs m hm := (h.sgs m hm).same (hs.mono fun _ h => h.1)
  fp := h.fp
  fb := h.fb
  fg := h.fg
  f1 := h.f1
  f2 := h.f2
  f3 := h.f3
  fv := h.fv
  n12 := h.n12
  n13 := h.n13
  n23 := h.n23
  lb := h.lb
  lg := h.lg
  out := h.out
  lt k hk := Nat.lt_of_lt_of_le (h.lt k hk) hs.size
/-- A wider F serves as well. -/
theorem RDirM.wide {F G : Nat → Prop} {w : World} {p rb : Nat} {d : Dst} {bb g m1 m2 m3 : Nat} {v : Value} {M : List SgM} (h : RDirM F w p rb d bb g m1 m2 m3 v M) (hG : ∀ k, F k → G k) (lt : ∀ k, G k → k < w.heap.size) : RDirM G w p rb d bb g m1 m2 m3 v M where
  own := h.own
  box := h.box
  wait := h.wait
  vals := h.vals
  since := h.since
  row := h.row
  eps := h.eps
  sgs m hm := (h.sgs m hm).mono fun k hk => ⟨hG k hk.1, hk.2⟩
  fp := hG _ h.fp
  fb := hG _ h.fb
  fg := hG _ h.fg
  f1 := hG _ h.f1
  f2 := hG _ h.f2
  f3 := hG _ h.f3
  fv k hk := hG _ (h.fv k hk)
  n12 := h.n12
  n13 := h.n13
  n23 := h.n23
  lb := h.lb
  lg := h.lg
  out := h.out
  lt := lt
/-- One of the three maps was written. -/
theorem RDirM.put1 {F : Nat → Prop} {w w' : World} {p rb : Nat} {d : Dst} {bb g m1 m2 m3 : Nat} {v : Value} {M : List SgM} {W : List (ByteArray × ByteArray)} (h : RDirM F w p rb d bb g m1 m2 m3 v M) (hg : w.grownBy w' (some m1)) (hm : MapIs kS w' m1 W) :
    RDirM F w' p rb { d with wait := W } bb g m1 m2 m3 v M := by
  have hp1 : p ≠ m1 := holds_map h.own h.wait
  have hs : Same (fun k => F k ∧ k ≠ m1) w w' := ⟨hg.size, fun k hk => hg.block k (h.lt k hk.1) (fun e => hk.2 (by cases e; rfl))⟩
  exact {
    own := by have := h.own; unfold Holds at this ⊢; rw [hs.block p ⟨h.fp, hp1⟩]; exact this
    box := h.box.same hs ⟨h.fb, (h.out _ (.inl rfl)).1⟩ ⟨h.fg, (h.out _ (.inr (.inl rfl))).1⟩
    wait := hm
    vals := h.vals.block (hs.block _ ⟨h.f2, h.n12.symm⟩)
    since := h.since.block (hs.block _ ⟨h.f3, h.n13.symm⟩)
    row := h.row.kept (fun k hk => hs.block k ⟨h.fv k hk, (h.out k (.inr (.inr hk))).1⟩) hs.size
    eps := h.eps
    sgs := fun m hm => (h.sgs m hm).same (hs.mono fun _ h => ⟨h.1, h.2.2.1⟩)
    fp := h.fp, fb := h.fb, fg := h.fg, f1 := h.f1, f2 := h.f2, f3 := h.f3, fv := h.fv, n12 := h.n12, n13 := h.n13, n23 := h.n23, lb := h.lb, lg := h.lg, out := h.out
    lt := fun k hk => Nat.lt_of_lt_of_le (h.lt k hk) hs.size }
theorem RDirM.put2 {F : Nat → Prop} {w w' : World} {p rb : Nat} {d : Dst} {bb g m1 m2 m3 : Nat} {v : Value} {M : List SgM} {W : List (ByteArray × ByteArray)} (h : RDirM F w p rb d bb g m1 m2 m3 v M) (hg : w.grownBy w' (some m2)) (hm : MapIs kS w' m2 W) :
    RDirM F w' p rb { d with vals := W } bb g m1 m2 m3 v M := by
  have hp1 : p ≠ m2 := holds_map h.own h.vals
  have hs : Same (fun k => F k ∧ k ≠ m2) w w' := ⟨hg.size, fun k hk => hg.block k (h.lt k hk.1) (fun e => hk.2 (by cases e; rfl))⟩
  exact {
    own := by have := h.own; unfold Holds at this ⊢; rw [hs.block p ⟨h.fp, hp1⟩]; exact this
    box := h.box.same hs ⟨h.fb, (h.out _ (.inl rfl)).2.1⟩ ⟨h.fg, (h.out _ (.inr (.inl rfl))).2.1⟩
    wait := h.wait.block (hs.block _ ⟨h.f1, h.n12⟩)
    vals := hm
    since := h.since.block (hs.block _ ⟨h.f3, h.n23.symm⟩)
    row := h.row.kept (fun k hk => hs.block k ⟨h.fv k hk, (h.out k (.inr (.inr hk))).2.1⟩) hs.size
    eps := h.eps
    sgs := fun m hm => (h.sgs m hm).same (hs.mono fun _ h => ⟨h.1, h.2.2.2.1⟩)
    fp := h.fp, fb := h.fb, fg := h.fg, f1 := h.f1, f2 := h.f2, f3 := h.f3, fv := h.fv, n12 := h.n12, n13 := h.n13, n23 := h.n23, lb := h.lb, lg := h.lg, out := h.out
    lt := fun k hk => Nat.lt_of_lt_of_le (h.lt k hk) hs.size }
theorem RDirM.put3 {F : Nat → Prop} {w w' : World} {p rb : Nat} {d : Dst} {bb g m1 m2 m3 : Nat} {v : Value} {M : List SgM} {W : List (ByteArray × Int)} (h : RDirM F w p rb d bb g m1 m2 m3 v M) (hg : w.grownBy w' (some m3)) (hm : MapIs kI w' m3 W) :
    RDirM F w' p rb { d with since := W } bb g m1 m2 m3 v M := by
  have hp1 : p ≠ m3 := holds_map h.own h.since
  have hs : Same (fun k => F k ∧ k ≠ m3) w w' := ⟨hg.size, fun k hk => hg.block k (h.lt k hk.1) (fun e => hk.2 (by cases e; rfl))⟩
  exact {
    own := by have := h.own; unfold Holds at this ⊢; rw [hs.block p ⟨h.fp, hp1⟩]; exact this
    box := h.box.same hs ⟨h.fb, (h.out _ (.inl rfl)).2.2⟩ ⟨h.fg, (h.out _ (.inr (.inl rfl))).2.2⟩
    wait := h.wait.block (hs.block _ ⟨h.f1, h.n13⟩)
    vals := h.vals.block (hs.block _ ⟨h.f2, h.n23⟩)
    since := hm
    row := h.row.kept (fun k hk => hs.block k ⟨h.fv k hk, (h.out k (.inr (.inr hk))).2.2⟩) hs.size
    eps := h.eps
    sgs := fun m hm => (h.sgs m hm).same (hs.mono fun _ h => ⟨h.1, h.2.2.2.2.1⟩)
    fp := h.fp, fb := h.fb, fg := h.fg, f1 := h.f1, f2 := h.f2, f3 := h.f3, fv := h.fv, n12 := h.n12, n13 := h.n13, n23 := h.n23, lb := h.lb, lg := h.lg, out := h.out
    lt := fun k hk => Nat.lt_of_lt_of_le (h.lt k hk) hs.size }
def RDir (F : Nat → Prop) (w : World) (p rb : Nat) (d : Dst) : Prop := ∃ bb g m1 m2 m3 v M, RDirM F w p rb d bb g m1 m2 m3 v M
theorem RDir.same {F : Nat → Prop} {w w' : World} {p rb : Nat} {d : Dst} (h : RDir F w p rb d) (hs : Same F w w') : RDir F w' p rb d := by
  obtain ⟨bb, g, m1, m2, m3, v, M, h⟩ := h
  exact ⟨bb, g, m1, m2, m3, v, M, h.same hs⟩
theorem RDir.lt {F : Nat → Prop} {w : World} {p rb : Nat} {d : Dst} (h : RDir F w p rb d) : ∀ k, F k → k < w.heap.size := by
  obtain ⟨bb, g, m1, m2, m3, v, M, h⟩ := h
  exact h.lt
theorem RDir.below {F : Nat → Prop} {w w' : World} {p rb : Nat} {d : Dst} (h : RDir F w p rb d) (hb : Below w.heap.size w w') : RDir F w' p rb d := h.same (same_of_below hb h.lt)
end Go.Proofs.YtcfpmofmjnhonaaGreatDoor
/- Regions that only read and call what makes memory. No program is imported. -/
namespace Go.Proofs.YtcfpmofmjnhonaaGreatDoor
open Go.RowKit

/-- A region that only reads and calls what makes memory: one walk, in the text's order, over the worlds later than its own. -/
theorem wp_region_later {P : Program} {id : Nat} {Q : Exit → Act → World → Prop} {a : Act} {w : World} {l : List Oper} (hm : P.follows .mixedOrders = true) (hB : Region.lexB .any l.toArray = true)
    (h : wpQuiet P l.toArray (fun w' => ∃ z : Later w.heap.size w, w' = z.at') (fun a' => ∀ w', (∃ z : Later w.heap.size w, w' = z.at') → Q .normal a' w') l a) : (Code.region id l.toArray true).wp P Q a w :=
  wp_region_quiet (C := fun w' => ∃ z : Later w.heap.size w, w' = z.at') hm hB ⟨⟨w.drew, (Below.refl _ _).drew⟩, rfl⟩ (by simpa using h)

end Go.Proofs.YtcfpmofmjnhonaaGreatDoor
/- The document's numbers of rounds: root. -/
namespace Go.Proofs.YtcfpmofmjnhonaaGreatDoor
open Go.RowKit

def searchL (k p : Nat) : Nat → Nat → Nat → Nat
  | 0, low, _ => low
  | f + 1, low, high => if low + 1 < high then (if aboveL ((low + high) / 2) k p then searchL k p f low ((low + high) / 2) else searchL k p f ((low + high) / 2) high) else low
def rootL (p k : Nat) : Nat := searchL k p 40 0 1099511627776 % 4294967296
theorem searchL_done (k p f low high : Nat) (h : ¬ low + 1 < high) : searchL k p f low high = low := by
  cases f with
  | zero => rfl
  | succ f => show (if low + 1 < high then _ else low) = low; rw [if_neg h]
theorem searchL_step (k p f low high x : Nat) (h : low + 1 < high) (hx : (low + high) / 2 = x) : searchL k p (f + 1) low high = if aboveL x k p then searchL k p f low x else searchL k p f x high := by
  show (if low + 1 < high then _ else low) = _; rw [if_pos h, hx]

set_option maxRecDepth 100000 in
theorem root_any (p k : Nat) (w : World) (hk : k ≤ 3) :
    Calls Tryz.prog 50 #[.int .u64 (p : Int), .int .i64 (k : Int)] w fun e w' => e = .returned (.int .u32 ((rootL p k : Nat) : Int)) ∧ Below w.heap.size w w' := by
  go_enter Tryz.func50, Tryz.ntmps50
  go_wp2
  go_loopw [5, 6, 7] (fun lo hi x wr => ∃ low high f : Nat, lo = .int .u64 (low : Int) ∧ hi = .int .u64 (high : Int) ∧ high ≤ 1099511627776 ∧ low ≤ 1099511627776 ∧ low ≤ high ∧ high - low ≤ 2 ^ f ∧ searchL k p f low high = searchL k p 40 0 1099511627776 ∧ Below w.heap.size w wr)
    (fun lo hi _ _ => (intOf hi).toNat - (intOf lo).toNat)
  case atStart =>
    exact ⟨0, 1099511627776, 40, rfl, rfl, by omega, by omega, by omega, by decide, rfl, Below.refl _ _⟩
  case round =>
    obtain ⟨low, high, f, rfl, rfl, hh, hl, hlh, hf, hs, hb⟩ := hrel
    have HS := Lib.hid hs
    have HB := Lib.hid hb
    have HF := Lib.hid hf
    clear hs hb hf
    by_cases hlt : low + 1 < high
    · obtain ⟨x, hx⟩ : ∃ x, (low + high) / 2 = x := ⟨_, rfl⟩
      have hxi : ((low : Int) + (high : Int)) / 2 = (x : Int) := by omega
      have hx1 : low < x := by omega
      have hx2 : x < high := by omega
      have hx3 : x ≤ 1099511627776 := by omega
      have HX := Lib.hid hx
      obtain ⟨f', rfl⟩ : ∃ f', f = f' + 1 := by
        cases f with
        | zero => have := HF.out; simp at this; omega
        | succ f => exact ⟨f, rfl⟩
      have hp : high - low ≤ 2 * 2 ^ f' := by have := HF.out; rw [Nat.pow_succ] at this; omega
      have hs := HS.out
      rw [searchL_step k p f' low high x hlt hx] at hs
      have h1 : x - low ≤ 2 ^ f' := by omega
      have h2 : high - x ≤ 2 ^ f' := by omega
      have H1 := Lib.hid h1
      have H2 := Lib.hid h2
      have HS2 := Lib.hid hs
      clear hs hp hx h1 h2
      cases hab : aboveL x k p with
      | true =>
        go_wp2_with (go_at_call 96; refine (above_any x k p _ hx3 hk).mono ?_; rintro e w1 ⟨rfl, hb1⟩; have HB1 := Lib.hid hb1; clear hb1; rw [hab])
        go_wp2
        go_roundw
        case rel =>
          refine ⟨low, x, f', rfl, rfl, by omega, by omega, by omega, H1.out, ?_, HB.out.trans (HB1.out.mono HB.out.size)⟩
          have h := HS2.out; rw [hab, if_pos rfl] at h; exact h
        case measure => simp [intOf]; omega
      | false =>
        go_wp2_with (go_at_call 96; refine (above_any x k p _ hx3 hk).mono ?_; rintro e w1 ⟨rfl, hb1⟩; have HB1 := Lib.hid hb1; clear hb1; rw [hab])
        go_wp2
        go_roundw
        case rel =>
          refine ⟨x, high, f', rfl, rfl, by omega, by omega, by omega, H2.out, ?_, HB.out.trans (HB1.out.mono HB.out.size)⟩
          have h := HS2.out; rw [hab, if_neg (by decide)] at h; exact h
        case measure => simp [intOf]; omega
    · go_wp2
      go_ret
      refine ⟨?_, HB.out⟩
      have h := HS.out
      rw [searchL_done k p f low high hlt] at h
      unfold rootL; rw [← h]; rfl
end Go.Proofs.YtcfpmofmjnhonaaGreatDoor
/- The numbers of rounds, reckoned from roots of primes, are the tables'. -/
namespace Go.Proofs.YtcfpmofmjnhonaaGreatDoor
open Go.RowKit

theorem k_all : (List.range 64).all (fun i => rootL ((pl 310).getD i 0) 3 == kTab.getD i 0) = true := by decide +kernel
theorem h_all : (List.range 8).all (fun i => rootL ((pl 310).getD i 0) 2 == (iv i).toNat) = true := by decide +kernel
theorem k_root (i : Nat) (h : i < 64) : rootL ((pl 310).getD i 0) 3 = kTab.getD i 0 := by
  have := List.all_eq_true.1 k_all i (List.mem_range.2 h); simpa using this
theorem h_root (i : Nat) (h : i < 8) : rootL ((pl 310).getD i 0) 2 = (iv i).toNat := by
  have := List.all_eq_true.1 h_all i (List.mem_range.2 h); simpa using this

theorem k_val (i : Nat) (h : i < 64) : ((rootL ((pl 310).getD i 0) 3 : Nat) : Int) = W32 (kOf i) := by
  have h1 := k_root i h
  have h2 : rootL ((pl 310).getD i 0) 3 < 4294967296 := Nat.mod_lt _ (by decide)
  rw [h1] at h2 ⊢
  unfold W32 kOf
  rw [BitVec.toNat_ofNat, Nat.mod_eq_of_lt (by omega)]
theorem h_val (i : Nat) (h : i < 8) : ((rootL ((pl 310).getD i 0) 2 : Nat) : Int) = W32 (iv i) := by
  have h1 := h_root i h
  rw [h1]; rfl

end Go.Proofs.YtcfpmofmjnhonaaGreatDoor
/- The document's numbers of rounds: New. -/
namespace Go.Proofs.YtcfpmofmjnhonaaGreatDoor
open Go.RowKit

def partR (i j : Nat) : Value := if j < 8 then (if j < i then .int .u32 (W32 (iv j)) else .int .u32 0) else if j - 8 < i then .int .u32 (W32 (kOf (j - 8))) else .int .u32 0
theorem zeroR (w : World) : (zeroValue 121).run Tryz.prog w = .ok (.agg (arr 72 fun _ => .int .u32 0)) w := by kernel_rfl
structure NewRel (N : Nat) (w wr : World) (v : Value) (i : Nat) : Prop where
  below : Below N w wr
  own : Holds wr N 72 (partR i) 121
  row : Row wr (N + 1) 1 v 64 (i64s (pl 310))

set_option maxRecDepth 100000 in
theorem new_any (w : World) :
    Calls Tryz.prog 11 #[] w fun e w' => ∃ b, e = .returned (.pointer (some ⟨b, 0, none⟩)) ∧ w.heap.size ≤ b ∧ Below w.heap.size w w' ∧ Holds w' b 72 refCells 121 := by
  go_enter Tryz.func11, Tryz.ntmps11
  have hzR := zeroR
  go_wp2_with (go_at_call 49; refine (primes_any _).mono ?_; rintro e w1 ⟨v1, rfl, hb1, hr1⟩; obtain ⟨q, cap, rfl⟩ := hr1.any; have HB1 := Lib.hid hb1; have HR1 := Lib.hid hr1; clear hb1 hr1)
  clear hzR
  go_loopw [8] (fun i wr => ∃ n : Nat, n ≤ 64 ∧ i = .int .i64 (n : Int) ∧ NewRel w.heap.size w wr (.slice q 64 cap) n) (fun i _ => 64 - (intOf i).toNat)
  case atStart =>
    refine ⟨0, by omega, rfl, ?_, ?_, ?_⟩
    · exact ((Below.refl _ _).alloc (Nat.le_refl _) _).trans (HB1.out.mono (by simp))
    · refine ((Holds.new w 72 (fun _ => .int .u32 0) 121).below HB1.out (by simp)).congr fun j hj => ?_
      unfold partR; split <;> rw [if_neg (by omega)]
    · have h := HR1.out; simpa using h
  case round =>
    obtain ⟨n, hn, rfl, hr⟩ := hrel
    have HR := Lib.hid hr
    clear hr
    by_cases hlt : n < 64
    · obtain ⟨g, cap', hv, hg1, hg2, _, hcell, _⟩ := HR.out.row.shape (by omega)
      injection hv with e1 e2 e3
      subst e1
      have hc := hcell n _ (i64s_get (pl 310) n (by rw [pl_310]; exact hlt))
      have hp := pl_pos 310 n (by rw [pl_310]; exact hlt)
      have hkv := k_val n hlt
      have hlow := h_val n
      clear hcell e3
      generalize (pl 310).getD n 0 = p at hc hp hkv hlow
      have HK := Lib.hid hkv
      have HL := Lib.hid hlow
      have hN : w.heap.size < wr.heap.size := HR.out.own.lt
      clear hkv hlow
      by_cases h8 : n < 8
      · go_wp2
        refine wp_region_head_tail (fun w' => ∃ z : Later wr.heap.size wr, w' = z.at') 8 (by kernel_rfl) (by kernel_rfl) ⟨⟨wr.drew, (Below.refl _ _).drew⟩, rfl⟩ ?_
        simp only [List.take_succ_cons, List.take_zero, List.drop_succ_cons, List.drop_zero]
        repeat (first | go_big_quiet_step ((go_at_call 50; refine later_of (root_any p 3 _ (by decide)))) | quiet_step ((go_at_call 50; refine later_of (root_any p 3 _ (by decide)))))
        refine wpQuiet_nil ?_
        rintro w4 ⟨⟨w4, hb4⟩, rfl⟩
        have hown4 := HR.out.own.below hb4 hN
        have hcell4 := hown4.cell (8 + n) (by omega)
        have hfree4 := hown4.free (8 + n)
        rw [show partR n (8 + n) = .int .u32 0 by unfold partR; rw [if_neg (by omega), if_neg (by omega)]] at hcell4
        have HOWN4 := Lib.hid hown4
        have HB4 := Lib.hid hb4
        clear hown4 hb4
        go_wp2
        have hN5 : w.heap.size < (w4.setCell ⟨w.heap.size, 8 + n, none⟩ (.int .u32 ((rootL p 3 : Nat) : Int))).heap.size := by have := HB4.out.size; simp [World.setCell]; omega
        have hown5 := HOWN4.out.set (8 + n) (.int .u32 ((rootL p 3 : Nat) : Int))
        have hb5 : Below w.heap.size w (w4.setCell ⟨w.heap.size, 8 + n, none⟩ (.int .u32 ((rootL p 3 : Nat) : Int))) := (HR.out.below.trans (HB4.out.mono (Nat.le_of_lt hN))).setCell (Nat.le_refl _) _
        have hrow5 : Row (w4.setCell ⟨w.heap.size, 8 + n, none⟩ (.int .u32 ((rootL p 3 : Nat) : Int))) (w.heap.size + 1) 1 (.slice (some ⟨g, 0, none⟩) 64 cap) 64 (i64s (pl 310)) := (HR.out.row.belowAll HB4.out).setOther (HR.out.row.fresh (Nat.lt_succ_self _)) _
        have HOWN5 := Lib.hid hown5
        have HB5 := Lib.hid hb5
        have HROW5 := Lib.hid hrow5
        clear hown5 hb5 hrow5 hcell4 hfree4
        generalize hw5 : w4.setCell ⟨w.heap.size, 8 + n, none⟩ (.int .u32 ((rootL p 3 : Nat) : Int)) = w5 at HOWN5 HB5 HROW5 hN5
        clear hw5
        refine wp_region_head_tail (fun w' => ∃ z : Later w5.heap.size w5, w' = z.at') 8 (by kernel_rfl) (by kernel_rfl) ⟨⟨w5.drew, (Below.refl _ _).drew⟩, rfl⟩ ?_
        simp only [List.take_succ_cons, List.take_zero, List.drop_succ_cons, List.drop_zero]
        repeat (first | go_big_quiet_step ((go_at_call 50; refine later_of (root_any p 2 _ (by decide)))) | quiet_step ((go_at_call 50; refine later_of (root_any p 2 _ (by decide)))))
        refine wpQuiet_nil ?_
        rintro w6 ⟨⟨w6, hb6⟩, rfl⟩
        have hown6 := HOWN5.out.below hb6 hN5
        have hcell6 := hown6.cell n (by omega)
        have hfree6 := hown6.free n
        rw [show upd (partR n) (8 + n) (.int .u32 ((rootL p 3 : Nat) : Int)) n = .int .u32 0 by unfold upd partR; rw [if_neg (by omega), if_pos (by omega), if_neg (by omega)]] at hcell6
        have HOWN6 := Lib.hid hown6
        have HB6 := Lib.hid hb6
        clear hown6 hb6
        go_wp2
        go_roundw
        case rel =>
          refine ⟨n + 1, by omega, by go_num, ?_, ?_, ?_⟩
          · exact (HB5.out.trans (HB6.out.mono (Nat.le_of_lt hN5))).setCell (Nat.le_refl _) _
          · refine (HOWN6.out.set n _).congr fun j hj => ?_
            rw [HK.out, HL.out h8]
            unfold upd partR
            by_cases hj8 : j < 8
            · rw [if_pos hj8, if_pos hj8]
              by_cases hjn : j = n
              · subst hjn; rw [if_pos rfl, if_pos (by omega)]
              · rw [if_neg hjn, if_neg (by omega)]
                by_cases hjl : j < n
                · rw [if_pos hjl, if_pos (by omega)]
                · rw [if_neg hjl, if_neg (by omega)]
            · rw [if_neg (by omega), if_neg hj8, if_neg hj8]
              by_cases hjn : j = 8 + n
              · subst hjn; rw [if_pos rfl, if_pos (by omega), show 8 + n - 8 = n by omega]
              · rw [if_neg hjn]
                by_cases hjl : j - 8 < n
                · rw [if_pos hjl, if_pos (by omega)]
                · rw [if_neg hjl, if_neg (by omega)]
          · exact (HROW5.out.belowAll HB6.out).setOther (HROW5.out.fresh (Nat.lt_succ_self _)) _
        case measure => simp [intOf]; omega
      · go_wp2
        refine wp_region_head_tail (fun w' => ∃ z : Later wr.heap.size wr, w' = z.at') 8 (by kernel_rfl) (by kernel_rfl) ⟨⟨wr.drew, (Below.refl _ _).drew⟩, rfl⟩ ?_
        simp only [List.take_succ_cons, List.take_zero, List.drop_succ_cons, List.drop_zero]
        repeat (first | go_big_quiet_step ((go_at_call 50; refine later_of (root_any p 3 _ (by decide)))) | quiet_step ((go_at_call 50; refine later_of (root_any p 3 _ (by decide)))))
        refine wpQuiet_nil ?_
        rintro w4 ⟨⟨w4, hb4⟩, rfl⟩
        have hown4 := HR.out.own.below hb4 hN
        have hcell4 := hown4.cell (8 + n) (by omega)
        have hfree4 := hown4.free (8 + n)
        rw [show partR n (8 + n) = .int .u32 0 by unfold partR; rw [if_neg (by omega), if_neg (by omega)]] at hcell4
        have HOWN4 := Lib.hid hown4
        have HB4 := Lib.hid hb4
        clear hown4 hb4
        go_wp2
        go_roundw
        case rel =>
          refine ⟨n + 1, by omega, by go_num, ?_, ?_, ?_⟩
          · exact (HR.out.below.trans (HB4.out.mono (Nat.le_of_lt hN))).setCell (Nat.le_refl _) _
          · refine (HOWN4.out.set (8 + n) _).congr fun j hj => ?_
            rw [HK.out]
            unfold upd partR
            by_cases hj8 : j < 8
            · rw [if_neg (by omega), if_pos hj8, if_pos hj8, if_pos (by omega), if_pos (by omega)]
            · rw [if_neg hj8, if_neg hj8]
              by_cases hjn : j = 8 + n
              · subst hjn; rw [if_pos rfl, if_pos (by omega), show 8 + n - 8 = n by omega]
              · rw [if_neg hjn]
                by_cases hjl : j - 8 < n
                · rw [if_pos hjl, if_pos (by omega)]
                · rw [if_neg hjl, if_neg (by omega)]
          · exact (HR.out.row.belowAll HB4.out).setOther (HR.out.row.fresh (Nat.lt_succ_self _)) _
        case measure => simp [intOf]; omega
    · have h64 : n = 64 := by omega
      have H64 := Lib.hid h64
      clear h64
      go_wp2
      go_ret
      refine ⟨w.heap.size, rfl, Nat.le_refl _, HR.out.below, HR.out.own.congr fun j hj => ?_⟩
      have := H64.out
      unfold partR refCells
      by_cases hj8 : j < 8
      · rw [if_pos hj8, if_pos hj8, if_pos (by omega)]
      · rw [if_neg hj8, if_neg hj8, if_pos (by omega)]
end Go.Proofs.YtcfpmofmjnhonaaGreatDoor
/- The document's opening. -/
namespace Go.Proofs.YtcfpmofmjnhonaaGreatDoor
open Go.RowKit

set_option maxRecDepth 100000 in
set_option maxHeartbeats 1000000 in
theorem refOpening_is (F : Nat → Prop) (p rb : Nat) (d : Dst) (name : ByteArray) (w : World) (hd : RDir F w p rb d) (hr : Holds w rb 72 refCells 121) (hs : d.secret.size ≤ 1000000) (hn : name.size ≤ 1000000) :
    Calls Tryz.prog 75 #[.pointer (some ⟨p, 0, none⟩), .string name] w fun e w' => e = .returned (.string (openOf d name)) ∧ Below w.heap.size w w' := by
  obtain ⟨bb, g, m1, m2, m3, v, M, hd⟩ := hd
  have HR := Lib.hid hr
  obtain ⟨n, hnn⟩ : ∃ n, (look d.since name).getD 0 = n := ⟨_, rfl⟩
  have HO := Lib.hid (show openOf d name = markOf 111 [d.secret, name, txt (num8 n)] by unfold openOf; rw [hnn])
  have HT := Lib.hid (show total [d.secret, name, txt (num8 n)] ≤ 1073741800 by simp [total, num_size]; omega)
  rw [HO.out]
  have HF := Lib.hid (show ∀ u : World, Below w.heap.size w u → (u.cell? ⟨p, 0, none⟩ = some (.pointer (some ⟨rb, 0, none⟩)) ∧ u.cell? ⟨p, 1, none⟩ = some (.string d.secret) ∧ u.cell? ⟨p, 5, none⟩ = some (.map (some m3)) ∧
      (Instr.lookup 40 (.map (some m3)) (.string name) false).run Tryz.prog u = .ok (.int .i64 n) u ∧ Below w.heap.size w u) from fun u hb =>
    ⟨(hb.cell (p := ⟨p, 0, none⟩) hd.own.lt).trans (hd.own.cell 0 (by omega)), (hb.cell (p := ⟨p, 1, none⟩) hd.own.lt).trans (hd.own.cell 1 (by omega)), (hb.cell (p := ⟨p, 5, none⟩) hd.own.lt).trans (hd.own.cell 5 (by omega)),
      by rw [← hnn]; exact (hd.since.block (hb.block _ hd.since.lt)).look1 hn, hb⟩)
  clear hr hd hnn hs hn
  generalize d.secret = S at HT HO HF ⊢
  go_enter Tryz.func75, Tryz.ntmps75
  go_wp2
  have HS0 := Lib.hid (HF.out w.drew (Below.refl _ _).drew)
  have HKEEP := Lib.hid (show ∀ u v : World, (u.cell? ⟨p, 0, none⟩ = some (.pointer (some ⟨rb, 0, none⟩)) ∧ u.cell? ⟨p, 1, none⟩ = some (.string S) ∧ u.cell? ⟨p, 5, none⟩ = some (.map (some m3)) ∧
      (Instr.lookup 40 (.map (some m3)) (.string name) false).run Tryz.prog u = .ok (.int .i64 n) u ∧ Below w.heap.size w u) → Below u.heap.size u v → (v.cell? ⟨p, 0, none⟩ = some (.pointer (some ⟨rb, 0, none⟩)) ∧ v.cell? ⟨p, 1, none⟩ = some (.string S) ∧ v.cell? ⟨p, 5, none⟩ = some (.map (some m3)) ∧
      (Instr.lookup 40 (.map (some m3)) (.string name) false).run Tryz.prog v = .ok (.int .i64 n) v ∧ Below w.heap.size w v) from fun u v h hb => HF.out v (h.2.2.2.2.trans (hb.mono h.2.2.2.2.size)))
  have HHOLD := Lib.hid (show ∀ u : World, (u.cell? ⟨p, 0, none⟩ = some (.pointer (some ⟨rb, 0, none⟩)) ∧ u.cell? ⟨p, 1, none⟩ = some (.string S) ∧ u.cell? ⟨p, 5, none⟩ = some (.map (some m3)) ∧
      (Instr.lookup 40 (.map (some m3)) (.string name) false).run Tryz.prog u = .ok (.int .i64 n) u ∧ Below w.heap.size w u) → Holds u rb 72 refCells 121 from fun u hu => HR.out.below hu.2.2.2.2 HR.out.lt)
  go_region_held3 (fun w' => w'.cell? ⟨p, 0, none⟩ = some (.pointer (some ⟨rb, 0, none⟩)) ∧ w'.cell? ⟨p, 1, none⟩ = some (.string S) ∧ w'.cell? ⟨p, 5, none⟩ = some (.map (some m3)) ∧ (Instr.lookup 40 (.map (some m3)) (.string name) false).run Tryz.prog w' = .ok (.int .i64 n) w' ∧ Below w.heap.size w w')
    (first | exact HS0.out | (refine HKEEP.out _ _ ?_ (by assumption); first | exact HS0.out | assumption | exact ⟨by assumption, by assumption, by assumption, by assumption, by assumption⟩) | (refine HKEEP.out _ _ ?_ (alloc_below _ _); first | exact HS0.out | assumption | exact ⟨by assumption, by assumption, by assumption, by assumption, by assumption⟩))
    (first | (go_at_call 98; refine (refNum_any n _).mono ?_; rintro e w2 ⟨rfl, hb2⟩) | (go_at_call 53; refine (refMark_any rb 111 [S, name, txt (num8 n)] (some ⟨_, 0, none⟩) 3 _ (HHOLD.out _ (by assumption)) HT.out (by simp) (strs_new _ [S, name, txt (num8 n)] 9)).mono ?_; rintro e w2 ⟨rfl, hb2⟩))
  rename_i _ _ w2 _ hheld
  have HB2 := Lib.hid hheld.2.2.2.2
  clear hheld
  go_wp2
  go_ret
  exact ⟨rfl, HB2.out⟩
end Go.Proofs.YtcfpmofmjnhonaaGreatDoor
/- A row of items that the library's sort has ordered. -/
namespace Go.Proofs.YtcfpmofmjnhonaaGreatDoor
open Go.RowKit Go.Sort

def encI (x : It) : List Value := [.string x.1, .string x.2]
theorem itCells_at (L : List It) (j : Nat) (h : j < L.length * 2) : (itCells L)[j]? = some ((encI L.toArray[j / 2]!)[j % 2]!) := by
  have hi : j / 2 < L.length := by omega
  obtain ⟨e0, e1⟩ := itCells_get L (j / 2) L[j / 2] (List.getElem?_eq_getElem hi)
  have eL : L.toArray[j / 2]! = L[j / 2] := by simp [hi]
  rw [eL]
  rcases Nat.mod_two_eq_zero_or_one j with hm | hm
  · have ej : j / 2 * 2 = j := by omega
    rw [ej] at e0
    rw [e0, hm]; rfl
  · have ej : j / 2 * 2 + 1 = j := by omega
    rw [ej] at e1
    rw [e1, hm]; rfl
theorem row_holdsK {w : World} {base g cap : Nat} {L : List It} (h : Row w base 2 (.slice (some ⟨g, 0, none⟩) L.length cap) L.length (itCells L)) (hn : 0 < L.length) : HoldsK encI 2 w g 0 L.toArray := by
  obtain ⟨g', cap', hv, _, _, hcap, hcell, hfree⟩ := h.shape hn
  injection hv with e1 e2 e3
  injection e1 with e1
  injection e1 with e1
  subst e1
  intro j hj
  rw [size_flatK] at hj
  have hj' : j < L.length * 2 := by simpa using hj
  refine ⟨?_, ?_⟩
  · rw [Nat.zero_add, hcell j _ (itCells_at L j hj'), get_flatK _ _ _ _ hj]; rfl
  · rw [Nat.zero_add]; exact hfree j hj'
theorem grow_block (w : World) (os : Array Obj) (k : Nat) (h : k < w.heap.size) : (grow w os).heap[k]? = w.heap[k]? := by
  unfold grow
  simp [Array.getElem?_append_left h]
/-- What the sort leaves is a row again, where it was; nothing else that was there has turned. -/
theorem row_sorted {w : World} {base g cap q : Nat} {os : Array Obj} {L M : List It} (h : Row w base 2 (.slice (some ⟨g, 0, none⟩) L.length cap) L.length (itCells L)) (hn : 0 < L.length) (hM : M.length = L.length) :
    Row (grow (putRowK encI 2 (Sort.ahead w q) g 0 M.toArray) os) base 2 (.slice (some ⟨g, 0, none⟩) M.length cap) M.length (itCells M) ∧ w.grownBy (grow (putRowK encI 2 (Sort.ahead w q) g 0 M.toArray) os) (some g) := by
  have hH := row_holdsK h hn
  have hHa : HoldsK encI 2 (Sort.ahead w q) g 0 L.toArray := hH
  obtain ⟨hl, hr⟩ := h
  rcases hr with ⟨hr, _⟩ | ⟨g', cap', hv, hgb, hgl, hcap, hcell, hspare⟩
  · cases hr
  · injection hv with e1 e2 e3
    injection e1 with e1
    injection e1 with e1
    subst e1 e3
    have hsz : (putRowK encI 2 (Sort.ahead w q) g 0 M.toArray).heap.size = w.heap.size := by rw [size_putRowK]; rfl
    have hput : ∀ j, (grow (putRowK encI 2 (Sort.ahead w q) g 0 M.toArray) os).cell? ⟨g, j, none⟩ = (putRowK encI 2 (Sort.ahead w q) g 0 M.toArray).cell? ⟨g, j, none⟩ := fun j => cell?_grow _ _ _ (by rw [hsz]; exact hgl)
    have hfr : ∀ j, (grow (putRowK encI 2 (Sort.ahead w q) g 0 M.toArray) os).frozen? ⟨g, j, none⟩ = w.frozen? ⟨g, j, none⟩ := fun j => by
      rw [World.frozen?_of_block (w := putRowK encI 2 (Sort.ahead w q) g 0 M.toArray) (a := ⟨g, j, none⟩) (grow_block _ _ _ (by rw [hsz]; exact hgl))]
      exact frozen?_putRow id (Sort.ahead w q) g 0 _ _
    refine ⟨⟨itCells_length M, .inr ⟨g, cap, rfl, hgb, ?_, by omega, ?_, ?_⟩⟩, rfl, rfl, rfl, ?_, ?_⟩
    · unfold grow; simp only [Array.size_append]; rw [hsz]; omega
    · intro j u hj
      have hjl : j < M.length * 2 := by have := (List.getElem?_eq_some_iff.1 hj).1; rwa [itCells_length] at this
      rw [itCells_at M j hjl] at hj
      rw [hput]
      have := cell?_putRow id (Sort.ahead w q) g 0 (flatK encI 2 L.toArray) (flatK encI 2 M.toArray) hHa (by simp [hM]) j (by simpa using hjl)
      rw [Nat.zero_add] at this
      unfold putRowK
      rw [this, get_flatK _ _ _ _ (by simpa using hjl)]
      exact hj
    · intro j hj
      rw [hput, hfr]
      refine ⟨?_, (hspare j hj).2⟩
      by_cases hjl : j < M.length * 2
      · have := cell?_putRow id (Sort.ahead w q) g 0 (flatK encI 2 L.toArray) (flatK encI 2 M.toArray) hHa (by simp [hM]) j (by simpa using hjl)
        rw [Nat.zero_add] at this
        unfold putRowK
        rw [this]; rfl
      · unfold putRowK
        rw [cell?_putRow_other id _ g 0 _ ⟨g, j, none⟩ (.inr (.inr (by simp; omega)))]
        exact (hspare j hj).1
    · show w.heap.size ≤ (grow _ os).heap.size
      unfold grow; simp only [Array.size_append]; rw [hsz]; omega
    · intro k hk hne
      rw [grow_block _ _ _ (by rw [hsz]; exact hk)]
      show (w.heap.modify g _)[k]? = _
      rw [Array.getElem?_modify, if_neg (fun e => hne (by rw [e]))]
theorem swo_ltIB : SWO ltIB where
  irrefl _ := swo_ltStr.irrefl _
  trans _ _ _ h1 h2 := swo_ltStr.trans _ _ _ h1 h2
  ntrans _ _ _ h1 h2 := swo_ltStr.ntrans _ _ _ h1 h2
/-- What is sorted, and holds no index twice, rises. -/
theorem rises_of_sorted {M : List It} (h : SortedIn ltIB 0 M.length M.toArray) (hd : M.Pairwise (fun x y => x.1 ≠ y.1)) : M.Pairwise ltI := by
  rw [List.pairwise_iff_getElem] at hd ⊢
  intro i j hi hj hij
  have h1 := h i j (Nat.zero_le _) hij hj
  have e1 : M.toArray[j]! = M[j] := by simp [hj]
  have e2 : M.toArray[i]! = M[i] := by simp [hi]
  rw [e1, e2] at h1
  unfold ltIB ltStr at h1
  have h2 : ¬ M[j].1.data.toList < M[i].1.data.toList := by simpa using h1
  exact ltI_total h2 (fun e => hd i j hi hj hij e.symm)
end Go.Proofs.YtcfpmofmjnhonaaGreatDoor
