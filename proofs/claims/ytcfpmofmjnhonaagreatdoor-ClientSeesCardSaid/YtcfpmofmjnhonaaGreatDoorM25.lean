/- Parts of the proof, one behind the other: RDirW, HdRow. -/
import Derived.Test.YtcfpmofmjnhonaaGreatDoorM22
import Derived.Test.YtcfpmofmjnhonaaGreatDoorM23
import Derived.Test.YtcfpmofmjnhonaaGreatDoorM24
import Derived.Test.YtcfpmofmjnhonaaGreatDoorM19
import Derived.Test.YtcfpmofmjnhonaaGreatDoorM10
/- One more epoch, written into a directory's memory. -/
namespace Go.Proofs.YtcfpmofmjnhonaaGreatDoor
open Go.RowKit Go.Maps

/-- An epoch was appended, and the new list stored. -/
theorem RDirM.pushed {F : Nat → Prop} {u w7 : World} {X : Obj} {N p rb bb g m1 m2 m3 : Nat} {d : Dst} {v v' : Value} {M : List SgM} (h : RDirM F u p rb d bb g m1 m2 m3 v M) (hN : ∀ k, F k → k < N) (m : SgM)
    (hs : Strs u m.A m.s.sig) (hp : Strs u m.B m.s.path) (hk : m.s.sig.length ≤ m.ca) (ha : ∀ a, m.A = some a → 0 < m.s.sig.length → N ≤ a.block) (hb : ∀ a, m.B = some a → 0 < m.s.path.length → N ≤ a.block)
    (hrow : Row w7 (p + 1) 6 v' (M.length + 1) (sgCells M ++ m.cells)) (hg : (u.alloc X).grownBy w7 v.ownBlock) (hm : Moved (u.alloc X) v v') (hNu : N ≤ u.heap.size) :
    RDirM (fun k => (F k ∨ N ≤ k) ∧ k < w7.heap.size) (w7.setCell ⟨p, 6, none⟩ v') p rb { d with eps := d.eps ++ [m.s] } bb g m1 m2 m3 v' (M ++ [m]) := by
  have hz : u.heap.size < w7.heap.size := by have := hg.size; simp at this; omega
  have hvp : v.ownBlock ≠ some p := h.row.fresh (Nat.lt_succ_self p)
  have hvp' : v'.ownBlock ≠ some p := hrow.fresh (Nat.lt_succ_self p)
  have hpu := h.own.lt
  have hblk : ∀ k, k < u.heap.size → v.ownBlock ≠ some k → k ≠ p → (w7.setCell ⟨p, 6, none⟩ v').heap[k]? = u.heap[k]? := fun k hk hv hkp =>
    (Below.heap_setCell _ _ _ _ hkp).trans ((hg.block k (by simp; omega) (fun e => hv e.symm)).trans ((alloc_below u X).block k hk))
  have hsz : u.heap.size ≤ (w7.setCell ⟨p, 6, none⟩ v').heap.size := by simp [World.setCell]; omega
  have hS : Same (fun k => k < u.heap.size ∧ v.ownBlock ≠ some k ∧ k ≠ p) u (w7.setCell ⟨p, 6, none⟩ v') := ⟨hsz, fun k hk => hblk k hk.1 hk.2.1 hk.2.2⟩
  have hmp : ∀ k, k = m1 ∨ k = m2 ∨ k = m3 → v.ownBlock ≠ some k ∧ k ≠ p := fun k hk => by
    refine ⟨fun e => ?_, fun e => ?_⟩
    · have := h.out k (.inr (.inr e))
      rcases hk with rfl | rfl | rfl
      · exact this.1 rfl
      · exact this.2.1 rfl
      · exact this.2.2 rfl
    · rcases hk with rfl | rfl | rfl
      · exact holds_map h.own h.wait e.symm
      · exact holds_map h.own h.vals e.symm
      · exact holds_map h.own h.since e.symm
  have hvb : ∀ k, k < p → v.ownBlock ≠ some k := fun k hk e => by have := (h.row.lt k e).1; omega
  have hlt : ∀ k, F k → k < u.heap.size := h.lt
  have hnew : ∀ k, v'.ownBlock = some k → v.ownBlock = some k ∨ u.heap.size ≤ k := fun k hk => by
    rcases hm with e | e
    · exact .inl (e ▸ hk)
    · have := e k hk
      simp at this
      exact .inr (by omega)
  have hG : ∀ k, F k → (F k ∨ N ≤ k) ∧ k < w7.heap.size := fun k hk => ⟨.inl hk, by have := hlt k hk; omega⟩
  exact {
    own := by
      have h0 : Holds w7 p 7 (rdF rb bb m1 m2 m3 d.secret v) 43 := by
        have h1 := h.own
        unfold Holds at h1 ⊢
        rw [hg.block p (by simp; omega) (fun e => hvp e.symm), (alloc_below u X).block p hpu]
        exact h1
      refine (h0.set 6 v').congr fun i hi => ?_
      unfold upd rdF
      rcases (show i = 0 ∨ i = 1 ∨ i = 2 ∨ i = 3 ∨ i = 4 ∨ i = 5 ∨ i = 6 by omega) with rfl | rfl | rfl | rfl | rfl | rfl | rfl <;> rfl
    box := h.box.same hS ⟨hlt _ h.fb, hvb _ h.lb, by have := h.lb; omega⟩ ⟨hlt _ h.fg, hvb _ h.lg, by have := h.lg; omega⟩
    wait := h.wait.block (hS.block _ ⟨hlt _ h.f1, hmp _ (.inl rfl)⟩)
    vals := h.vals.block (hS.block _ ⟨hlt _ h.f2, hmp _ (.inr (.inl rfl))⟩)
    since := h.since.block (hS.block _ ⟨hlt _ h.f3, hmp _ (.inr (.inr rfl))⟩)
    row := by
      rw [List.length_append, sgCells_snoc]
      exact hrow.setOther hvp' _
    eps := by rw [List.map_append, h.eps]; rfl
    sgs := fun x hx => by
      rcases List.mem_append.1 hx with hx | hx
      · have h1 := (h.sgs x hx).same (w' := w7.setCell ⟨p, 6, none⟩ v') ⟨hsz, fun k hk => hblk k (hlt k hk.1) hk.2.1 hk.2.2.2.2.2⟩
        refine h1.mono fun k hk => ⟨hG k hk.1, fun e => ?_, hk.2.2⟩
        rcases hnew k e with e | e
        · exact hk.2.1 e
        · have := hlt k hk.1; omega
      · obtain rfl := List.mem_singleton.1 hx
        have hin : ∀ k, k < u.heap.size → N ≤ k → ((F k ∨ N ≤ k) ∧ k < w7.heap.size) ∧ v'.ownBlock ≠ some k ∧ k ≠ m1 ∧ k ≠ m2 ∧ k ≠ m3 ∧ k ≠ p := fun k hk hNk =>
          ⟨⟨.inr hNk, by omega⟩, (fun e => by
            rcases hnew k e with e | e
            · have := hN k (h.fv k e); omega
            · omega), by have := hN _ h.f1; omega, by have := hN _ h.f2; omega, by have := hN _ h.f3; omega, by have := hN _ h.fp; omega⟩
        have hkeep : ∀ (A : Option Addr) (L : List ByteArray), Strs u A L → (∀ a, A = some a → 0 < L.length → N ≤ a.block) → Strs (w7.setCell ⟨p, 6, none⟩ v') A L ∧ ∀ a, A = some a → 0 < L.length → a.block < u.heap.size := fun A L hL hA => by
          have hlt2 : ∀ a, A = some a → 0 < L.length → a.block < u.heap.size := fun a e hl => by
            obtain ⟨a', e', hlt', _⟩ := hL 0 _ (List.getElem?_eq_getElem hl)
            rw [e] at e'
            obtain rfl := Option.some.inj e'
            exact hlt'
          refine ⟨Strs.same hL (fun a e hl => ?_) hS, hlt2⟩
          have h1 := hA a e hl
          exact ⟨hlt2 a e hl, fun e2 => by have := hN _ (h.fv _ e2); omega, by have := hN _ h.fp; omega⟩
        obtain ⟨k1, k2⟩ := hkeep _ _ hs ha
        obtain ⟨k3, k4⟩ := hkeep _ _ hp hb
        exact ⟨k1, k3, fun a e hl => hin _ (k2 a e hl) (ha a e hl), fun a e hl => hin _ (k4 a e hl) (hb a e hl), hk⟩
    fp := hG _ h.fp
    fb := hG _ h.fb
    fg := hG _ h.fg
    f1 := hG _ h.f1
    f2 := hG _ h.f2
    f3 := hG _ h.f3
    fv := fun k hk => by
      refine ⟨?_, (hrow.lt k hk).2⟩
      rcases hnew k hk with e | e
      · exact .inl (h.fv k e)
      · exact .inr (by omega)
    n12 := h.n12
    n13 := h.n13
    n23 := h.n23
    lb := h.lb
    lg := h.lg
    out := fun k hk => by
      rcases hk with rfl | rfl | hk
      · exact h.out _ (.inl rfl)
      · exact h.out _ (.inr (.inl rfl))
      · rcases hnew k hk with e | e
        · exact h.out _ (.inr (.inr e))
        · have h1 := hlt _ h.f1
          have h2 := hlt _ h.f2
          have h3 := hlt _ h.f3
          omega
    lt := fun k hk => by
      have : (w7.setCell ⟨p, 6, none⟩ v').heap.size = w7.heap.size := by simp [World.setCell]
      rw [this]
      exact hk.2 }
def sgF (h : Hd) (key : Int) (u v : Value) : Nat → Value := fun i => [Value.int .i64 h.epoch, .string h.root, .string h.prev, .int .i64 key, u, v].getD i undef
theorem seal_stored {w1 w3 : World} {sb c c' : Nat} {kk : Int} {A B : Option Addr} {S P : List ByteArray} {f : Nat → Value} (hz : Holds w3 sb 3 f 52) (h1 : w1.heap.size ≤ sb) (hb : Below w1.heap.size w1 w3) (hs : Strs w3 A S) (hp : Strs w3 B P)
    (hx : ∀ a, A = some a → 0 < S.length → sb < a.block) (hy : ∀ a, B = some a → 0 < P.length → sb < a.block) :
    Below w1.heap.size w1 (((w3.setCell ⟨sb, 0, none⟩ (.int .i64 kk)).setCell ⟨sb, 1, none⟩ (.slice A S.length c)).setCell ⟨sb, 2, none⟩ (.slice B P.length c')) ∧
    Holds (((w3.setCell ⟨sb, 0, none⟩ (.int .i64 kk)).setCell ⟨sb, 1, none⟩ (.slice A S.length c)).setCell ⟨sb, 2, none⟩ (.slice B P.length c')) sb 3 (slF kk (.slice A S.length c) (.slice B P.length c')) 52 ∧
    Strs (((w3.setCell ⟨sb, 0, none⟩ (.int .i64 kk)).setCell ⟨sb, 1, none⟩ (.slice A S.length c)).setCell ⟨sb, 2, none⟩ (.slice B P.length c')) A S ∧
    Strs (((w3.setCell ⟨sb, 0, none⟩ (.int .i64 kk)).setCell ⟨sb, 1, none⟩ (.slice A S.length c)).setCell ⟨sb, 2, none⟩ (.slice B P.length c')) B P := by
  refine ⟨((hb.setCell (p := ⟨sb, 0, none⟩) h1 _).setCell (p := ⟨sb, 1, none⟩) h1 _).setCell (p := ⟨sb, 2, none⟩) h1 _, ?_, ((hs.keep ⟨sb, 0, none⟩ _ hx).keep ⟨sb, 1, none⟩ _ hx).keep ⟨sb, 2, none⟩ _ hx, ((hp.keep ⟨sb, 0, none⟩ _ hy).keep ⟨sb, 1, none⟩ _ hy).keep ⟨sb, 2, none⟩ _ hy⟩
  refine (((hz.set 0 _).set 1 _).set 2 _).congr fun i hi => ?_
  unfold upd slF
  rcases (show i = 0 ∨ i = 1 ∨ i = 2 by omega) with rfl | rfl | rfl <;> rfl
theorem grown_keeps {w w' : World} {b n c : Nat} {f : Nat → Value} {t : TypeId} (h : Holds w b n f t) (hg : w.grownBy w' (some c)) (hne : b ≠ c) : Holds w' b n f t := by
  have hl := h.lt
  unfold Holds at h ⊢
  rw [hg.block b hl (by simpa using hne)]; exact h
structure PubZ (p yb sb : Nat) (v : Value) (y : Hd) (kk : Int) (a b : Value) where
  at' : World
  h0 : at'.cell? ⟨p, 6, none⟩ = some v
  h1 : at'.cell? ⟨yb, 0, none⟩ = some (.int .i64 y.epoch)
  h2 : at'.cell? ⟨yb, 1, none⟩ = some (.string y.root)
  h3 : at'.cell? ⟨yb, 2, none⟩ = some (.string y.prev)
  h4 : at'.cell? ⟨sb, 0, none⟩ = some (.int .i64 kk)
  h5 : at'.cell? ⟨sb, 1, none⟩ = some a
  h6 : at'.cell? ⟨sb, 2, none⟩ = some b
theorem infoSg6 : (Tryz.prog.info? 54).map (·.size) = some 6 := by kernel_rfl
def put6 (w : World) (b : Nat) (h : Hd) (key : Int) (u v : Value) : World := (((((w.setCell ⟨b, 0, none⟩ (.int .i64 h.epoch)).setCell ⟨b, 1, none⟩ (.string h.root)).setCell ⟨b, 2, none⟩ (.string h.prev)).setCell ⟨b, 3, none⟩ (.int .i64 key)).setCell ⟨b, 4, none⟩ u).setCell ⟨b, 5, none⟩ v
theorem put6_holds {w : World} {b : Nat} {f : Nat → Value} {t : TypeId} (h0 : Holds w b 6 f t) (h : Hd) (key : Int) (u v : Value) : Holds (put6 w b h key u v) b 6 (sgF h key u v) t := by
  refine ((((((h0.set 0 _).set 1 _).set 2 _).set 3 _).set 4 _).set 5 _).congr fun i hi => ?_
  rcases (show i = 0 ∨ i = 1 ∨ i = 2 ∨ i = 3 ∨ i = 4 ∨ i = 5 by omega) with rfl | rfl | rfl | rfl | rfl | rfl <;> rfl
theorem put6_block (w : World) (b : Nat) (h : Hd) (key : Int) (u v : Value) (k : Nat) (hk : k ≠ b) : (put6 w b h key u v).heap[k]? = w.heap[k]? := by
  unfold put6
  rw [Below.heap_setCell _ _ _ _ hk, Below.heap_setCell _ _ _ _ hk, Below.heap_setCell _ _ _ _ hk, Below.heap_setCell _ _ _ _ hk, Below.heap_setCell _ _ _ _ hk, Below.heap_setCell _ _ _ _ hk]
theorem put6_size (w : World) (b : Nat) (h : Hd) (key : Int) (u v : Value) : (put6 w b h key u v).heap.size = w.heap.size := by unfold put6; simp [World.setCell]
theorem put6_below {B : Nat} {u w : World} (h0 : Below B u w) {b : Nat} (hb : B ≤ b) (h : Hd) (key : Int) (x v : Value) : Below B u (put6 w b h key x v) :=
  (((((h0.setCell hb _).setCell hb _).setCell hb _).setCell hb _).setCell hb _).setCell hb _
/-- Published: what the directory then is, and where the epoch's texts lie. -/
theorem published {F G : Nat → Prop} {w wc w7 : World} {X : Obj} {N p rb bb g m1 m2 m3 : Nat} {d : Dst} {v v' : Value} {M : List SgM} (h : RDirM G wc p rb d bb g m1 m2 m3 v M) (hO : Off F w wc) (hG : Grew w F G) (m : SgM) (hz : Holds wc w.heap.size 6 (sgF noHd 0 (.slice none 0 0) (.slice none 0 0)) 54)
    (hs : Strs wc m.A m.s.sig) (hp : Strs wc m.B m.s.path) (hk : m.s.sig.length ≤ m.ca) (ha : ∀ a, m.A = some a → 0 < m.s.sig.length → N ≤ a.block) (hb : ∀ a, m.B = some a → 0 < m.s.path.length → N ≤ a.block)
    (hN : ∀ k, G k → k < N) (hNw : w.heap.size < N) (hGz : ¬ G w.heap.size)
    (hrow : Row w7 (p + 1) 6 v' (M.length + 1) (sgCells M ++ m.cells)) (hg : (wc.alloc X).grownBy w7 v.ownBlock) (hm : Moved (wc.alloc X) v v') (hNu : N ≤ wc.heap.size) (hFp : F p) (hFv : ∀ k, v.ownBlock = some k → F k) :
    ∃ F', Off F w (put6 (w7.setCell ⟨p, 6, none⟩ v') w.heap.size m.s.head m.s.key (.slice m.A m.s.sig.length m.ca) (.slice m.B m.s.path.length m.cb)) ∧ Grew w F F' ∧
      RDir F' (put6 (w7.setCell ⟨p, 6, none⟩ v') w.heap.size m.s.head m.s.key (.slice m.A m.s.sig.length m.ca) (.slice m.B m.s.path.length m.cb)) p rb { d with eps := d.eps ++ [m.s] } ∧
      SgIn F' (put6 (w7.setCell ⟨p, 6, none⟩ v') w.heap.size m.s.head m.s.key (.slice m.A m.s.sig.length m.ca) (.slice m.B m.s.path.length m.cb)) m ∧
      Holds (put6 (w7.setCell ⟨p, 6, none⟩ v') w.heap.size m.s.head m.s.key (.slice m.A m.s.sig.length m.ca) (.slice m.B m.s.path.length m.cb)) w.heap.size 6 (sgF m.s.head m.s.key (.slice m.A m.s.sig.length m.ca) (.slice m.B m.s.path.length m.cb)) 54 := by
  have hP := h.pushed hN m hs hp hk ha hb hrow hg hm hNu
  have hsz : wc.heap.size < w7.heap.size := by have := hg.size; simp at this; omega
  have hpw : p ≠ w.heap.size := fun e => hGz (e ▸ h.fp)
  have hvw : v.ownBlock ≠ some w.heap.size := fun e => hGz (h.fv _ e)
  have hvw' : v'.ownBlock ≠ some w.heap.size := fun e => by
    rcases hm with e2 | e2
    · exact hvw (e2 ▸ e)
    · have := e2 _ e; simp at this; omega
  have hz7 : Holds (w7.setCell ⟨p, 6, none⟩ v') w.heap.size 6 (sgF noHd 0 (.slice none 0 0) (.slice none 0 0)) 54 := by
    unfold Holds at hz ⊢
    rw [Below.heap_setCell _ _ _ _ (Ne.symm hpw), hg.block _ (by simp; omega) (fun e => hvw e.symm), (alloc_below wc X).block _ (by omega)]
    exact hz
  have hO7 : Off F w (w7.setCell ⟨p, 6, none⟩ v') := ((hO.alloc X).trans (Off.of_grown hg (F := F) (fun k hk => hFv k hk)) (fun _ _ h => h)).setCell (.inr hFp) _
  have hbl := fun k hk => put6_block (w7.setCell ⟨p, 6, none⟩ v') w.heap.size m.s.head m.s.key (.slice m.A m.s.sig.length m.ca) (.slice m.B m.s.path.length m.cb) k hk
  have hz8 := put6_size (w7.setCell ⟨p, 6, none⟩ v') w.heap.size m.s.head m.s.key (.slice m.A m.s.sig.length m.ca) (.slice m.B m.s.path.length m.cb)
  have hS : Same (fun k => k ≠ w.heap.size) (w7.setCell ⟨p, 6, none⟩ v') (put6 (w7.setCell ⟨p, 6, none⟩ v') w.heap.size m.s.head m.s.key (.slice m.A m.s.sig.length m.ca) (.slice m.B m.s.path.length m.cb)) := ⟨by rw [hz8]; exact Nat.le_refl _, fun k hk => hbl k hk⟩
  have hFin := hP.same (hS.mono fun k hk => by rcases hk.1 with e | e; exact fun e2 => hGz (e2 ▸ e); omega)
  refine ⟨_, ?_, ?_, ⟨bb, g, m1, m2, m3, v', M ++ [m], hFin⟩, ?_, put6_holds hz7 _ _ _ _⟩
  · unfold put6
    exact (((((hO7.setCell (.inl (Nat.le_refl _)) _).setCell (.inl (Nat.le_refl _)) _).setCell (.inl (Nat.le_refl _)) _).setCell (.inl (Nat.le_refl _)) _).setCell (.inl (Nat.le_refl _)) _).setCell (.inl (Nat.le_refl _)) _
  · intro k hk
    rcases hk.1 with e | e
    · exact hG k e
    · right; omega
  · exact (hFin.sgs m (List.mem_append_right _ (List.mem_singleton.2 rfl))).mono fun k hk => hk.1
end Go.Proofs.YtcfpmofmjnhonaaGreatDoor
/- Rows of heads, and of signed heads, of the call's own; one more put behind. -/
namespace Go.Proofs.YtcfpmofmjnhonaaGreatDoor
open Go.RowKit

def Hd.cells (h : Hd) : List Value := [.int .i64 h.epoch, .string h.root, .string h.prev]
def hdCells (L : List Hd) : List Value := L.flatMap Hd.cells
theorem hdCells_length (L : List Hd) : (hdCells L).length = L.length * 3 := by
  induction L with
  | nil => rfl
  | cons m M ih => unfold hdCells at ih ⊢; rw [List.flatMap_cons, List.length_append, ih]; simp [Hd.cells]; omega
theorem hdCells_append (L M : List Hd) : hdCells (L ++ M) = hdCells L ++ hdCells M := by simp [hdCells]
theorem hdCells_get (L : List Hd) : ∀ (i : Nat) (h : Hd) (j : Nat), L[i]? = some h → j < 3 → (hdCells L)[i * 3 + j]? = h.cells[j]? := by
  induction L with
  | nil => intro i m j h; simp at h
  | cons y M ih =>
    intro i m j h hj
    have e : hdCells (y :: M) = y.cells ++ hdCells M := rfl
    have hl : y.cells.length = 3 := rfl
    cases i with
    | zero =>
      simp at h; subst h
      rw [e, List.getElem?_append_left (by rw [hl]; omega)]; simp
    | succ i =>
      rw [e, List.getElem?_append_right (by rw [hl]; omega), hl, show (i + 1) * 3 + j - 3 = i * 3 + j by omega]
      exact ih i m j (by simpa using h) hj
theorem Row.hds {w : World} {base : Nat} {v : Value} {L : List Hd} {n : Nat} (h : Row w base 3 v n (hdCells L)) : n = L.length ∧ ∃ A cap, v = .slice A n cap ∧ Hds w A L := by
  have hn : n = L.length := by have := h.1; rw [hdCells_length] at this; omega
  refine ⟨hn, ?_⟩
  obtain ⟨p, cap, rfl⟩ := h.any
  refine ⟨p, cap, rfl, fun i x hi => ?_⟩
  have hil : i < L.length := (List.getElem?_eq_some_iff.1 hi).1
  obtain ⟨g, cap', hv, _, hg, _, hc, _⟩ := h.shape (by omega)
  injection hv with hv _ _
  refine ⟨⟨g, 0, none⟩, hv, hg, ?_, ?_, ?_⟩
  · rw [add_none, Nat.zero_add]; exact hc _ _ (hdCells_get L i x 0 hi (by omega))
  · rw [add_add', add_none, Nat.zero_add]; exact hc _ _ (hdCells_get L i x 1 hi (by omega))
  · rw [add_add', add_none, Nat.zero_add]; exact hc _ _ (hdCells_get L i x 2 hi (by omega))
theorem infoHd : (Tryz.prog.info? 49).map (fun i => (i.zero, i.size, i.bytes)) = some (some (.agg #[.int .i64 0, .string ⟨#[]⟩, .string ⟨#[]⟩]), 3, 40) := by kernel_rfl
theorem infoSg : (Tryz.prog.info? 54).map (fun i => (i.zero, i.size, i.bytes)) = some (some (.agg #[.int .i64 0, .string ⟨#[]⟩, .string ⟨#[]⟩, .int .i64 0, .slice none 0 0, .slice none 0 0]), 6, 96) := by kernel_rfl
/-- append of one struct of so many one-cell fields, just built. -/
theorem wpList_append_cells {P : Program} {w : World} {ops : Array Oper} {rest : List Oper} {o : Oper} {a : Act} {Q : Exit → Act → World → Prop}
    (hg : o.guard = none) (s x : Operand) (t : TypeId) (hop : o.op = Op.call { callee := Callee.builtin Builtin.append, args := #[s, x], argTypes := #[t, t] })
    (e : TypeId) (h1 : P.underlying t = some (.slice e)) (z : Value) (size bytes : Nat) (hi : (P.info? e).map (fun i => (i.zero, i.size, i.bytes)) = some (some z, size, bytes)) (h6 : z.cells.size = size) (h7 : 0 < size) (hby : bytes ≤ 256)
    (base : Nat) (v : Value) (n : Nat) (xs : List Value) (hs : a.eval s = v) (hrow : Row w base size v n xs) (hbase : base ≤ w.heap.size) (hn : n ≤ 1000000)
    (ys : List Value) (hy : ys.length = size) (hone : ∀ u ∈ ys, u.oneCell' = true) (B : Nat) (hx : a.eval x = .slice (some ⟨B, 0, none⟩) 1 1) (e' : TypeId) (hB : w.heap[B]? = some (.cells ys.toArray e' (0, 0)))
    (hK : ∀ v' w', Hid (Row w' base size v' (n + 1) (xs ++ ys)) → Hid (w.grownBy w' v.ownBlock) → Hid (Moved w v v') → wpList P ops Q rest (a.put o.dst v') w') :
    wpList P ops Q (o :: rest) a w := by
  obtain ⟨i0, hi0, hz0, hz1, hz2⟩ := info_parts hi
  refine wpList_append_row2 hg s x t hop e i0 z size bytes h1 hi0 hz0 hz1 hz2 h6 h7 base v n xs hs hrow hbase ⟨B, 0, none⟩ 1 1 ys hx (by rw [hy, Nat.one_mul]) ?_ hone (by unfold maxLen; omega) ?_ hK
  · intro j u hj
    rw [add_none, Nat.zero_add, cell_of_row _ B j _ e' (0, 0) hB]
    simpa using hj
  · have := Nat.mul_le_mul (show n + 1 ≤ 1000001 by omega) hby
    omega
end Go.Proofs.YtcfpmofmjnhonaaGreatDoor
