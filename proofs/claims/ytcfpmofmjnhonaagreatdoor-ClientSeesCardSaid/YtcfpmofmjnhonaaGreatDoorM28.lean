/- Parts of the proof, one behind the other: Spoilt, DDim, HeadEq, RWhole. -/
import Derived.Test.YtcfpmofmjnhonaaGreatDoorM27
import Derived.Test.YtcfpmofmjnhonaaGreatDoorM24
import Derived.Test.YtcfpmofmjnhonaaGreatDoorM18
import Derived.Test.YtcfpmofmjnhonaaGreatDoorM21
import Derived.Laws.StructEq
import Derived.Test.YtcfpmofmjnhonaaGreatDoorM22
/- The law's spoilt: an answer, spoilt in one place. -/
namespace Go.Proofs.YtcfpmofmjnhonaaGreatDoor
open Go.RowKit

def text16 : ByteArray := ⟨#[48, 49, 50, 51, 52, 53, 54, 55, 56, 57, 97, 98, 99, 100, 101, 102]⟩
def spoiltA (a : Answ) (k : Int) : Answ :=
  if k = 1 then { a with value := spoilX a.value }
  else if k = 2 then { a with opening := spoilX a.opening }
  else if k = 3 then { a with sgn := { a.sgn with head := { a.sgn.head with root := spoilX a.sgn.head.root } } }
  else if k = 4 then { a with sgn := { a.sgn with head := { a.sgn.head with epoch := wrap64 (a.sgn.head.epoch + 1) } } }
  else if k = 5 then { a with sgn := { a.sgn with key := wrap64 (7 - a.sgn.key) } }
  else if k = 6 then { a with leaf := (a.leaf.1, spoilX a.leaf.2) }
  else if k = 7 then { a with path := text16 :: a.path }
  else if k = 8 then (if 3 < a.sgn.sig.length then { a with sgn := { a.sgn with sig := spoilX (a.sgn.sig.getD 0 ⟨#[]⟩) :: a.sgn.sig.drop 1 } } else a)
  else a
/-- The texts of one lie where those of the other do, or are new. -/
structure AnNear (w : World) (m m' : AnM) : Prop where
  sig : m'.sg.A = m.sg.A ∧ m'.sg.s.sig.length = m.sg.s.sig.length ∨ ∀ a, m'.sg.A = some a → w.heap.size ≤ a.block
  path : m'.sg.B = m.sg.B ∧ m'.sg.s.path = m.sg.s.path
  way : m'.C = m.C ∧ m'.a.path.length = m.a.path.length ∨ ∀ a, m'.C = some a → w.heap.size ≤ a.block
def anFM (m : AnM) : Nat → Value := anF m.sg m.C m.a.path.length m.cc m.a.leaf m.a.opening m.a.value
/-- Where the answer's box and the result lie, and what is in them. -/
structure SpAt (w wz : World) (m m' : AnM) (a' : Answ) : Prop where
  box : Holds wz w.heap.size 11 (anFM m') 65
  res : Holds wz (w.heap.size + 1) 11 noAnF 65
  below : Below w.heap.size w wz
  is : AnIn wz m' a'
  near : AnNear w m m'
  ga : ∀ a, m'.sg.A = some a → 0 < m'.sg.s.sig.length → a.block ≠ w.heap.size + 1
  gb : ∀ a, m'.sg.B = some a → 0 < m'.sg.s.path.length → a.block ≠ w.heap.size + 1
  gc : ∀ a, m'.C = some a → 0 < m'.a.path.length → a.block ≠ w.heap.size + 1
theorem Holds.one {w : World} {b n : Nat} {f g : Nat → Value} {t : TypeId} (h : Holds w b n f t) (i : Nat) (v : Value) (hg : ∀ j, j < n → upd f i v j = g j) : Holds (w.setCell ⟨b, i, none⟩ v) b n g t := (h.set i v).congr hg
theorem Strs.box {w : World} {A : Option Addr} {L : List ByteArray} (h : Strs w A L) {q : Nat} (hq : ∀ a, A = some a → 0 < L.length → a.block ≠ q) (i : Nat) (v : Value) : Strs (w.setCell ⟨q, i, none⟩ v) A L := fun j p hp => by
  obtain ⟨a, ha, hl, hc⟩ := h j p hp
  have := hq a ha (by have := (List.getElem?_eq_some_iff.1 hp).1; omega)
  exact ⟨a, ha, by simpa [World.setCell] using hl, (World.cell?_of_block (w := w) (a := a.add j) (by rw [block_add]; exact Below.heap_setCell _ _ _ _ (show a.block ≠ q by omega))).trans hc⟩
theorem row_oneS (w : World) (s : ByteArray) (t : TypeId) : Row (w.alloc (.cells #[.string s] t)) w.heap.size 1 (.slice (some ⟨w.heap.size, 0, none⟩) 1 1) 1 (stCells [s]) :=
  ⟨rfl, .inr ⟨w.heap.size, 1, rfl, Nat.le_refl _, by simp, Nat.le_refl 1, fun j u hj => by
    cases j with
    | zero => simp [stCells] at hj; subst hj; exact cell_of_row _ w.heap.size 0 _ t (0, 0) (heap_alloc_new _ _)
    | succ j => simp [stCells] at hj, fun j hj => by
    obtain rfl : j = 0 := by omega
    have h := Holds.new w 1 (fun _ => .string s) t
    exact ⟨by rw [show (w.alloc (.cells #[.string s] t)).cell? ⟨w.heap.size, 0, none⟩ = some (.string s) from h.cell 0 (by omega)]; rfl, h.free 0⟩⟩⟩
theorem Strs.drop1 {w : World} {a : Addr} {L : List ByteArray} (h : Strs w (some a) L) : Strs w (some (a.add 1)) (L.drop 1) := fun i p hp => by
  rw [List.getElem?_drop] at hp
  obtain ⟨a', ha, hl, hc⟩ := h (1 + i) p hp
  obtain rfl := Option.some.inj ha
  exact ⟨a.add 1, rfl, by rw [block_add]; exact hl, by rw [add_add']; exact hc⟩
structure SpZ (q : Nat) (a : Addr) (n ca : Nat) (s : ByteArray) where
  at' : World
  h0 : at'.cell? ⟨q, 4, none⟩ = some (.slice (some a) n ca)
  h1 : at'.cell? (a.add 0) = some (.string s)
  h2 : at'.cell? a = some (.string s)
theorem put11_box {w : World} {A : Option Addr} {L : List ByteArray} (h : Strs w A L) {q : Nat} (hq : ∀ a, A = some a → 0 < L.length → a.block ≠ q) (m : SgM) (C : Option Addr) (n cc : Nat) (x : It) (o v : ByteArray) : Strs (put11 w q m C n cc x o v) A L :=
  (((((((((((h.box hq 0 _).box hq 1 _).box hq 2 _).box hq 3 _).box hq 4 _).box hq 5 _).box hq 6 _).box hq 7 _).box hq 8 _).box hq 9 _).box hq 10 _)
theorem Strs.lt {w : World} {A : Option Addr} {L : List ByteArray} (h : Strs w A L) : ∀ a, A = some a → 0 < L.length → a.block < w.heap.size := fun a ha hl => by
  obtain ⟨a', e, hlt, _⟩ := h 0 _ (List.getElem?_eq_getElem hl)
  rw [ha] at e
  obtain rfl := Option.some.inj e
  exact hlt
set_option maxHeartbeats 4000000 in
set_option maxRecDepth 100000 in
theorem spoilt_a (h : Hd) (key : Int) (S P W : List ByteArray) (x : It) (o vl : ByteArray) (A B C : Option Addr) (ca cb cc : Nat) (k : Int) (hk7 : k ≠ 7) (hk8 : k ≠ 8) (w : World) (hA : Strs w A S) (hB : Strs w B P) (hW : Strs w C W) (_hls : S.length ≤ 1000) (_hlw : W.length ≤ 1000)
    (ho : o.size ≤ 1000000) (hv : vl.size ≤ 1000000) (hx2 : x.2.size ≤ 1000000) (hrt : h.root.size ≤ 1000000) (hca : S.length ≤ ca) (hsg : ∀ p ∈ S, p.size ≤ 1000000) :
    Calls Tryz.prog 43 #[.agg #[.int .i64 h.epoch, .string h.root, .string h.prev, .int .i64 key, .slice A S.length ca, .slice B P.length cb, .slice C W.length cc, .string x.1, .string x.2, .string o, .string vl], .int .i64 k] w fun e w' => ∃ m' : AnM,
      e = .returned (.agg m'.cells) ∧ AnIn w' m' (spoiltA ⟨⟨h, key, S, P⟩, W, x, o, vl⟩ k) ∧ AnNear w ⟨⟨⟨h, key, S, P⟩, A, ca, B, cb⟩, C, cc, ⟨⟨h, key, S, P⟩, W, x, o, vl⟩⟩ m' ∧ Below w.heap.size w w' := by
  have HA := Lib.hid hA
  have HB := Lib.hid hB
  have HW := Lib.hid hW
  have HAL := Lib.hid hA.lt
  have HBL := Lib.hid hB.lt
  have HWL := Lib.hid hW.lt
  have HSG := Lib.hid hsg
  have HB0 := Lib.hid (show Below w.heap.size w ((w.alloc (.cells #[.int .i64 h.epoch, .string h.root, .string h.prev, .int .i64 key, .slice A S.length ca, .slice B P.length cb, .slice C W.length cc, .string x.1, .string x.2, .string o, .string vl] 65)).alloc (.cells #[.int .i64 0, .string ⟨#[]⟩, .string ⟨#[]⟩, .int .i64 0, .slice none 0 0, .slice none 0 0, .slice none 0 0, .string ⟨#[]⟩, .string ⟨#[]⟩, .string ⟨#[]⟩, .string ⟨#[]⟩] 65)) from
    ((Below.refl _ w).alloc (Nat.le_refl _) _).alloc (by simp) _)
  have HX0 := Lib.hid (show Holds ((w.alloc (.cells #[.int .i64 h.epoch, .string h.root, .string h.prev, .int .i64 key, .slice A S.length ca, .slice B P.length cb, .slice C W.length cc, .string x.1, .string x.2, .string o, .string vl] 65)).alloc (.cells #[.int .i64 0, .string ⟨#[]⟩, .string ⟨#[]⟩, .int .i64 0, .slice none 0 0, .slice none 0 0, .slice none 0 0, .string ⟨#[]⟩, .string ⟨#[]⟩, .string ⟨#[]⟩, .string ⟨#[]⟩] 65)) w.heap.size 11 (anF ⟨⟨h, key, S, P⟩, A, ca, B, cb⟩ C W.length cc x o vl) 65 from
    (Holds.new w 11 (anF ⟨⟨h, key, S, P⟩, A, ca, B, cb⟩ C W.length cc x o vl) 65).alloc _)
  have HZ0 := Lib.hid (show Holds ((w.alloc (.cells #[.int .i64 h.epoch, .string h.root, .string h.prev, .int .i64 key, .slice A S.length ca, .slice B P.length cb, .slice C W.length cc, .string x.1, .string x.2, .string o, .string vl] 65)).alloc (.cells #[.int .i64 0, .string ⟨#[]⟩, .string ⟨#[]⟩, .int .i64 0, .slice none 0 0, .slice none 0 0, .slice none 0 0, .string ⟨#[]⟩, .string ⟨#[]⟩, .string ⟨#[]⟩, .string ⟨#[]⟩] 65)) (w.heap.size + 1) 11 noAnF 65 from by
    have h1 := Holds.new (w.alloc (.cells #[.int .i64 h.epoch, .string h.root, .string h.prev, .int .i64 key, .slice A S.length ca, .slice B P.length cb, .slice C W.length cc, .string x.1, .string x.2, .string o, .string vl] 65)) 11 noAnF 65
    rw [World.size_alloc] at h1
    exact h1)
  clear hA hB hW hsg
  go_enter Tryz.func43, Tryz.ntmps43
  go_upto_region 1 with (fail)
  generalize ((w.alloc (.cells #[.int .i64 h.epoch, .string h.root, .string h.prev, .int .i64 key, .slice A S.length ca, .slice B P.length cb, .slice C W.length cc, .string x.1, .string x.2, .string o, .string vl] 65)).alloc (.cells #[.int .i64 0, .string ⟨#[]⟩, .string ⟨#[]⟩, .int .i64 0, .slice none 0 0, .slice none 0 0, .slice none 0 0, .string ⟨#[]⟩, .string ⟨#[]⟩, .string ⟨#[]⟩, .string ⟨#[]⟩] 65)) = w0 at HB0 HX0 HZ0 ⊢
  obtain ⟨c0, c1, c2, c3, c4, c5, c6, c7, c8, c9, c10⟩ := an_cells HX0.out
  rcases (show k = 1 ∨ k = 2 ∨ k = 3 ∨ k = 4 ∨ k = 5 ∨ k = 6 ∨ (k ≠ 1 ∧ k ≠ 2 ∧ k ≠ 3 ∧ k ≠ 4 ∧ k ≠ 5 ∧ k ≠ 6) by omega) with h1 | h2 | h3 | h4 | h5 | h6 | hr
  case' inl =>
    subst h1
    go_wp2_with fail
    refine (spoilX_any vl _ hv).mono ?_
    rintro e w1 ⟨rfl, hb1⟩
    have HB1 := Lib.hid (HB0.out.trans (hb1.mono HB0.out.size))
    have HX1 := Lib.hid (HX0.out.below hb1 HX0.out.lt)
    have HZ1 := Lib.hid (HZ0.out.below hb1 HZ0.out.lt)
    clear hb1 c0 c1 c2 c3 c4 c5 c6 c7 c8 c9 c10
    have t0 : w1.cell? ⟨w.heap.size, 10, none⟩ = some (.string vl) := HX1.out.cell 10 (by omega)
    have t1 : w1.frozen? ⟨w.heap.size, 10, none⟩ = false := HX1.out.free 10
    have HP := Lib.hid (show ∃ m' : AnM, SpAt w (w1.setCell ⟨w.heap.size, 10, none⟩ (.string (spoilX vl))) ⟨⟨⟨h, key, S, P⟩, A, ca, B, cb⟩, C, cc, ⟨⟨h, key, S, P⟩, W, x, o, vl⟩⟩ m' (spoiltA ⟨⟨h, key, S, P⟩, W, x, o, vl⟩ 1) from ⟨⟨⟨⟨h, key, S, P⟩, A, ca, B, cb⟩, C, cc, ⟨⟨h, key, S, P⟩, W, x, o, spoilX vl⟩⟩, ⟨HX1.out.one 10 _ (fun j hj => by rcases (show j = 0 ∨ j = 1 ∨ j = 2 ∨ j = 3 ∨ j = 4 ∨ j = 5 ∨ j = 6 ∨ j = 7 ∨ j = 8 ∨ j = 9 ∨ j = 10 by omega) with rfl | rfl | rfl | rfl | rfl | rfl | rfl | rfl | rfl | rfl | rfl <;> rfl), HZ1.out.other (show w.heap.size + 1 ≠ w.heap.size by omega) _, HB1.out.setCell (Nat.le_refl _) _, ⟨rfl, rfl, Strs.box (HA.out.below HB1.out) (fun a e l => by have := HAL.out a e l; omega) _ _, Strs.box (HB.out.below HB1.out) (fun a e l => by have := HBL.out a e l; omega) _ _, Strs.box (HW.out.below HB1.out) (fun a e l => by have := HWL.out a e l; omega) _ _, hca⟩, ⟨.inl ⟨rfl, rfl⟩, ⟨rfl, rfl⟩, .inl ⟨rfl, rfl⟩⟩, (fun a e l => by have := HAL.out a e l; omega), (fun a e l => by have := HBL.out a e l; omega), (fun a e l => by have := HWL.out a e l; omega)⟩⟩)
    go_upto_region 20 with (fail)
    clear t0 t1 HB1 HX1 HZ1 HB0 HX0 HZ0
    generalize w1.setCell ⟨w.heap.size, 10, none⟩ (.string (spoilX vl)) = wz at HP ⊢
  case' inr.inl =>
    subst h2
    go_wp2_with fail
    refine (spoilX_any o _ ho).mono ?_
    rintro e w1 ⟨rfl, hb1⟩
    have HB1 := Lib.hid (HB0.out.trans (hb1.mono HB0.out.size))
    have HX1 := Lib.hid (HX0.out.below hb1 HX0.out.lt)
    have HZ1 := Lib.hid (HZ0.out.below hb1 HZ0.out.lt)
    clear hb1 c0 c1 c2 c3 c4 c5 c6 c7 c8 c9 c10
    have t0 : w1.cell? ⟨w.heap.size, 9, none⟩ = some (.string o) := HX1.out.cell 9 (by omega)
    have t1 : w1.frozen? ⟨w.heap.size, 9, none⟩ = false := HX1.out.free 9
    have HP := Lib.hid (show ∃ m' : AnM, SpAt w (w1.setCell ⟨w.heap.size, 9, none⟩ (.string (spoilX o))) ⟨⟨⟨h, key, S, P⟩, A, ca, B, cb⟩, C, cc, ⟨⟨h, key, S, P⟩, W, x, o, vl⟩⟩ m' (spoiltA ⟨⟨h, key, S, P⟩, W, x, o, vl⟩ 2) from ⟨⟨⟨⟨h, key, S, P⟩, A, ca, B, cb⟩, C, cc, ⟨⟨h, key, S, P⟩, W, x, spoilX o, vl⟩⟩, ⟨HX1.out.one 9 _ (fun j hj => by rcases (show j = 0 ∨ j = 1 ∨ j = 2 ∨ j = 3 ∨ j = 4 ∨ j = 5 ∨ j = 6 ∨ j = 7 ∨ j = 8 ∨ j = 9 ∨ j = 10 by omega) with rfl | rfl | rfl | rfl | rfl | rfl | rfl | rfl | rfl | rfl | rfl <;> rfl), HZ1.out.other (show w.heap.size + 1 ≠ w.heap.size by omega) _, HB1.out.setCell (Nat.le_refl _) _, ⟨rfl, rfl, Strs.box (HA.out.below HB1.out) (fun a e l => by have := HAL.out a e l; omega) _ _, Strs.box (HB.out.below HB1.out) (fun a e l => by have := HBL.out a e l; omega) _ _, Strs.box (HW.out.below HB1.out) (fun a e l => by have := HWL.out a e l; omega) _ _, hca⟩, ⟨.inl ⟨rfl, rfl⟩, ⟨rfl, rfl⟩, .inl ⟨rfl, rfl⟩⟩, (fun a e l => by have := HAL.out a e l; omega), (fun a e l => by have := HBL.out a e l; omega), (fun a e l => by have := HWL.out a e l; omega)⟩⟩)
    go_upto_region 20 with (fail)
    clear t0 t1 HB1 HX1 HZ1 HB0 HX0 HZ0
    generalize w1.setCell ⟨w.heap.size, 9, none⟩ (.string (spoilX o)) = wz at HP ⊢
  case' inr.inr.inl =>
    subst h3
    go_wp2_with fail
    refine (spoilX_any h.root _ hrt).mono ?_
    rintro e w1 ⟨rfl, hb1⟩
    have HB1 := Lib.hid (HB0.out.trans (hb1.mono HB0.out.size))
    have HX1 := Lib.hid (HX0.out.below hb1 HX0.out.lt)
    have HZ1 := Lib.hid (HZ0.out.below hb1 HZ0.out.lt)
    clear hb1 c0 c1 c2 c3 c4 c5 c6 c7 c8 c9 c10
    have t0 : w1.cell? ⟨w.heap.size, 1, none⟩ = some (.string h.root) := HX1.out.cell 1 (by omega)
    have t1 : w1.frozen? ⟨w.heap.size, 1, none⟩ = false := HX1.out.free 1
    have HP := Lib.hid (show ∃ m' : AnM, SpAt w (w1.setCell ⟨w.heap.size, 1, none⟩ (.string (spoilX h.root))) ⟨⟨⟨h, key, S, P⟩, A, ca, B, cb⟩, C, cc, ⟨⟨h, key, S, P⟩, W, x, o, vl⟩⟩ m' (spoiltA ⟨⟨h, key, S, P⟩, W, x, o, vl⟩ 3) from ⟨⟨⟨⟨⟨h.epoch, spoilX h.root, h.prev⟩, key, S, P⟩, A, ca, B, cb⟩, C, cc, ⟨⟨⟨h.epoch, spoilX h.root, h.prev⟩, key, S, P⟩, W, x, o, vl⟩⟩, ⟨HX1.out.one 1 _ (fun j hj => by rcases (show j = 0 ∨ j = 1 ∨ j = 2 ∨ j = 3 ∨ j = 4 ∨ j = 5 ∨ j = 6 ∨ j = 7 ∨ j = 8 ∨ j = 9 ∨ j = 10 by omega) with rfl | rfl | rfl | rfl | rfl | rfl | rfl | rfl | rfl | rfl | rfl <;> rfl), HZ1.out.other (show w.heap.size + 1 ≠ w.heap.size by omega) _, HB1.out.setCell (Nat.le_refl _) _, ⟨rfl, rfl, Strs.box (HA.out.below HB1.out) (fun a e l => by have := HAL.out a e l; omega) _ _, Strs.box (HB.out.below HB1.out) (fun a e l => by have := HBL.out a e l; omega) _ _, Strs.box (HW.out.below HB1.out) (fun a e l => by have := HWL.out a e l; omega) _ _, hca⟩, ⟨.inl ⟨rfl, rfl⟩, ⟨rfl, rfl⟩, .inl ⟨rfl, rfl⟩⟩, (fun a e l => by have := HAL.out a e l; omega), (fun a e l => by have := HBL.out a e l; omega), (fun a e l => by have := HWL.out a e l; omega)⟩⟩)
    go_upto_region 20 with (fail)
    clear t0 t1 HB1 HX1 HZ1 HB0 HX0 HZ0
    generalize w1.setCell ⟨w.heap.size, 1, none⟩ (.string (spoilX h.root)) = wz at HP ⊢
  case' inr.inr.inr.inl =>
    subst h4
    have HB1 := HB0
    have HX1 := HX0
    have HZ1 := HZ0
    have t1 : w0.frozen? ⟨w.heap.size, 0, none⟩ = false := HX1.out.free 0
    have HP := Lib.hid (show ∃ m' : AnM, SpAt w (w0.setCell ⟨w.heap.size, 0, none⟩ (.int .i64 (wrap64 (h.epoch + 1)))) ⟨⟨⟨h, key, S, P⟩, A, ca, B, cb⟩, C, cc, ⟨⟨h, key, S, P⟩, W, x, o, vl⟩⟩ m' (spoiltA ⟨⟨h, key, S, P⟩, W, x, o, vl⟩ 4) from ⟨⟨⟨⟨⟨wrap64 (h.epoch + 1), h.root, h.prev⟩, key, S, P⟩, A, ca, B, cb⟩, C, cc, ⟨⟨⟨wrap64 (h.epoch + 1), h.root, h.prev⟩, key, S, P⟩, W, x, o, vl⟩⟩, ⟨HX1.out.one 0 _ (fun j hj => by rcases (show j = 0 ∨ j = 1 ∨ j = 2 ∨ j = 3 ∨ j = 4 ∨ j = 5 ∨ j = 6 ∨ j = 7 ∨ j = 8 ∨ j = 9 ∨ j = 10 by omega) with rfl | rfl | rfl | rfl | rfl | rfl | rfl | rfl | rfl | rfl | rfl <;> rfl), HZ1.out.other (show w.heap.size + 1 ≠ w.heap.size by omega) _, HB1.out.setCell (Nat.le_refl _) _, ⟨rfl, rfl, Strs.box (HA.out.below HB1.out) (fun a e l => by have := HAL.out a e l; omega) _ _, Strs.box (HB.out.below HB1.out) (fun a e l => by have := HBL.out a e l; omega) _ _, Strs.box (HW.out.below HB1.out) (fun a e l => by have := HWL.out a e l; omega) _ _, hca⟩, ⟨.inl ⟨rfl, rfl⟩, ⟨rfl, rfl⟩, .inl ⟨rfl, rfl⟩⟩, (fun a e l => by have := HAL.out a e l; omega), (fun a e l => by have := HBL.out a e l; omega), (fun a e l => by have := HWL.out a e l; omega)⟩⟩)
    go_upto_region 20 with (fail)
    clear t1 HB1 HX1 HZ1 HB0 HX0 HZ0 c0 c1 c2 c3 c4 c5 c6 c7 c8 c9 c10
    generalize w0.setCell ⟨w.heap.size, 0, none⟩ (.int .i64 (wrap64 (h.epoch + 1))) = wz at HP ⊢
  case' inr.inr.inr.inr.inl =>
    subst h5
    have HB1 := HB0
    have HX1 := HX0
    have HZ1 := HZ0
    have t1 : w0.frozen? ⟨w.heap.size, 3, none⟩ = false := HX1.out.free 3
    have HP := Lib.hid (show ∃ m' : AnM, SpAt w (w0.setCell ⟨w.heap.size, 3, none⟩ (.int .i64 (wrap64 (7 - key)))) ⟨⟨⟨h, key, S, P⟩, A, ca, B, cb⟩, C, cc, ⟨⟨h, key, S, P⟩, W, x, o, vl⟩⟩ m' (spoiltA ⟨⟨h, key, S, P⟩, W, x, o, vl⟩ 5) from ⟨⟨⟨⟨h, (wrap64 (7 - key)), S, P⟩, A, ca, B, cb⟩, C, cc, ⟨⟨h, (wrap64 (7 - key)), S, P⟩, W, x, o, vl⟩⟩, ⟨HX1.out.one 3 _ (fun j hj => by rcases (show j = 0 ∨ j = 1 ∨ j = 2 ∨ j = 3 ∨ j = 4 ∨ j = 5 ∨ j = 6 ∨ j = 7 ∨ j = 8 ∨ j = 9 ∨ j = 10 by omega) with rfl | rfl | rfl | rfl | rfl | rfl | rfl | rfl | rfl | rfl | rfl <;> rfl), HZ1.out.other (show w.heap.size + 1 ≠ w.heap.size by omega) _, HB1.out.setCell (Nat.le_refl _) _, ⟨rfl, rfl, Strs.box (HA.out.below HB1.out) (fun a e l => by have := HAL.out a e l; omega) _ _, Strs.box (HB.out.below HB1.out) (fun a e l => by have := HBL.out a e l; omega) _ _, Strs.box (HW.out.below HB1.out) (fun a e l => by have := HWL.out a e l; omega) _ _, hca⟩, ⟨.inl ⟨rfl, rfl⟩, ⟨rfl, rfl⟩, .inl ⟨rfl, rfl⟩⟩, (fun a e l => by have := HAL.out a e l; omega), (fun a e l => by have := HBL.out a e l; omega), (fun a e l => by have := HWL.out a e l; omega)⟩⟩)
    go_upto_region 20 with (fail)
    clear t1 HB1 HX1 HZ1 HB0 HX0 HZ0 c0 c1 c2 c3 c4 c5 c6 c7 c8 c9 c10
    generalize w0.setCell ⟨w.heap.size, 3, none⟩ (.int .i64 (wrap64 (7 - key))) = wz at HP ⊢
  case' inr.inr.inr.inr.inr.inl =>
    subst h6
    go_wp2_with fail
    refine (spoilX_any x.2 _ hx2).mono ?_
    rintro e w1 ⟨rfl, hb1⟩
    have HB1 := Lib.hid (HB0.out.trans (hb1.mono HB0.out.size))
    have HX1 := Lib.hid (HX0.out.below hb1 HX0.out.lt)
    have HZ1 := Lib.hid (HZ0.out.below hb1 HZ0.out.lt)
    clear hb1 c0 c1 c2 c3 c4 c5 c6 c7 c8 c9 c10
    have t0 : w1.cell? ⟨w.heap.size, 8, none⟩ = some (.string x.2) := HX1.out.cell 8 (by omega)
    have t1 : w1.frozen? ⟨w.heap.size, 8, none⟩ = false := HX1.out.free 8
    have HP := Lib.hid (show ∃ m' : AnM, SpAt w (w1.setCell ⟨w.heap.size, 8, none⟩ (.string (spoilX x.2))) ⟨⟨⟨h, key, S, P⟩, A, ca, B, cb⟩, C, cc, ⟨⟨h, key, S, P⟩, W, x, o, vl⟩⟩ m' (spoiltA ⟨⟨h, key, S, P⟩, W, x, o, vl⟩ 6) from ⟨⟨⟨⟨h, key, S, P⟩, A, ca, B, cb⟩, C, cc, ⟨⟨h, key, S, P⟩, W, (x.1, spoilX x.2), o, vl⟩⟩, ⟨HX1.out.one 8 _ (fun j hj => by rcases (show j = 0 ∨ j = 1 ∨ j = 2 ∨ j = 3 ∨ j = 4 ∨ j = 5 ∨ j = 6 ∨ j = 7 ∨ j = 8 ∨ j = 9 ∨ j = 10 by omega) with rfl | rfl | rfl | rfl | rfl | rfl | rfl | rfl | rfl | rfl | rfl <;> rfl), HZ1.out.other (show w.heap.size + 1 ≠ w.heap.size by omega) _, HB1.out.setCell (Nat.le_refl _) _, ⟨rfl, rfl, Strs.box (HA.out.below HB1.out) (fun a e l => by have := HAL.out a e l; omega) _ _, Strs.box (HB.out.below HB1.out) (fun a e l => by have := HBL.out a e l; omega) _ _, Strs.box (HW.out.below HB1.out) (fun a e l => by have := HWL.out a e l; omega) _ _, hca⟩, ⟨.inl ⟨rfl, rfl⟩, ⟨rfl, rfl⟩, .inl ⟨rfl, rfl⟩⟩, (fun a e l => by have := HAL.out a e l; omega), (fun a e l => by have := HBL.out a e l; omega), (fun a e l => by have := HWL.out a e l; omega)⟩⟩)
    go_upto_region 20 with (fail)
    clear t0 t1 HB1 HX1 HZ1 HB0 HX0 HZ0
    generalize w1.setCell ⟨w.heap.size, 8, none⟩ (.string (spoilX x.2)) = wz at HP ⊢
  case' inr.inr.inr.inr.inr.inr =>
    obtain ⟨h1, h2, h3, h4, h5, h6⟩ := hr
    have h7 := hk7
    have h8 := hk8
    clear hk7 hk8
    have e1 : (k == 1) = false := by rw [beq_eq_false_iff_ne]; exact h1
    have e2 : (k == 2) = false := by rw [beq_eq_false_iff_ne]; exact h2
    have e3 : (k == 3) = false := by rw [beq_eq_false_iff_ne]; exact h3
    have e4 : (k == 4) = false := by rw [beq_eq_false_iff_ne]; exact h4
    have e5 : (k == 5) = false := by rw [beq_eq_false_iff_ne]; exact h5
    have e6 : (k == 6) = false := by rw [beq_eq_false_iff_ne]; exact h6
    have e7 : (k == 7) = false := by rw [beq_eq_false_iff_ne]; exact h7
    have e8 : (k == 8) = false := by rw [beq_eq_false_iff_ne]; exact h8
    have HP := Lib.hid (show ∃ m' : AnM, SpAt w w0 ⟨⟨⟨h, key, S, P⟩, A, ca, B, cb⟩, C, cc, ⟨⟨h, key, S, P⟩, W, x, o, vl⟩⟩ m' (spoiltA ⟨⟨h, key, S, P⟩, W, x, o, vl⟩ k) from ⟨⟨⟨⟨h, key, S, P⟩, A, ca, B, cb⟩, C, cc, ⟨⟨h, key, S, P⟩, W, x, o, vl⟩⟩, ⟨HX0.out, HZ0.out, HB0.out, ⟨(by unfold spoiltA; rw [if_neg h1, if_neg h2, if_neg h3, if_neg h4, if_neg h5, if_neg h6, if_neg h7, if_neg h8]), (by unfold spoiltA; rw [if_neg h1, if_neg h2, if_neg h3, if_neg h4, if_neg h5, if_neg h6, if_neg h7, if_neg h8]), (by unfold spoiltA; rw [if_neg h1, if_neg h2, if_neg h3, if_neg h4, if_neg h5, if_neg h6, if_neg h7, if_neg h8]; exact HA.out.below HB0.out), (by unfold spoiltA; rw [if_neg h1, if_neg h2, if_neg h3, if_neg h4, if_neg h5, if_neg h6, if_neg h7, if_neg h8]; exact HB.out.below HB0.out), (by unfold spoiltA; rw [if_neg h1, if_neg h2, if_neg h3, if_neg h4, if_neg h5, if_neg h6, if_neg h7, if_neg h8]; exact HW.out.below HB0.out), (by unfold spoiltA; rw [if_neg h1, if_neg h2, if_neg h3, if_neg h4, if_neg h5, if_neg h6, if_neg h7, if_neg h8]; exact hca)⟩, ⟨.inl ⟨rfl, rfl⟩, ⟨rfl, rfl⟩, .inl ⟨rfl, rfl⟩⟩, (fun a e l => by have := HAL.out a e l; omega), (fun a e l => by have := HBL.out a e l; omega), (fun a e l => by have := HWL.out a e l; omega)⟩⟩)
    clear h1 h2 h3 h4 h5 h6 h7 h8
    go_upto_region 20 with (fail)
    clear HB0 HX0 HZ0 c0 c1 c2 c3 c4 c5 c6 c7 c8 c9 c10 e1 e2 e3 e4 e5 e6 e7 e8
    generalize w0 = wz at HP ⊢
  all_goals
    obtain ⟨m', hsp⟩ := HP.out
    have HSP := Lib.hid hsp
    obtain ⟨d0, d1, d2, d3, d4, d5, d6, d7, d8, d9, d10⟩ := an_cells (show Holds wz w.heap.size 11 (anF m'.sg m'.C m'.a.path.length m'.cc m'.a.leaf m'.a.opening m'.a.value) 65 from hsp.box)
    obtain ⟨z0, z1, z2, z3, z4, z5, z6, z7, z8, z9, z10⟩ := an_cells (show Holds wz (w.heap.size + 1) 11 (anF noM none 0 0 noIt ⟨#[]⟩ ⟨#[]⟩) 65 from hsp.res)
    have f0 := hsp.res.free 0
    have f1 := hsp.res.free 1
    have f2 := hsp.res.free 2
    have f3 := hsp.res.free 3
    have f4 := hsp.res.free 4
    have f5 := hsp.res.free 5
    have f6 := hsp.res.free 6
    have f7 := hsp.res.free 7
    have f8 := hsp.res.free 8
    have f9 := hsp.res.free 9
    have f10 := hsp.res.free 10
    have HFIN := Lib.hid (put11_holds hsp.res m'.sg m'.C m'.a.path.length m'.cc m'.a.leaf m'.a.opening m'.a.value)
    have HFB := Lib.hid (put11_below hsp.below (Nat.le_succ _) m'.sg m'.C m'.a.path.length m'.cc m'.a.leaf m'.a.opening m'.a.value)
    have HAN := Lib.hid (show AnIn (put11 wz (w.heap.size + 1) m'.sg m'.C m'.a.path.length m'.cc m'.a.leaf m'.a.opening m'.a.value) m' _ from
      ⟨hsp.is.is, hsp.is.sgn, put11_box hsp.is.sig (fun a e l => hsp.ga a e (by rw [hsp.is.sgn]; exact l)) _ _ _ _ _ _ _, put11_box hsp.is.path (fun a e l => hsp.gb a e (by rw [hsp.is.sgn]; exact l)) _ _ _ _ _ _ _, put11_box hsp.is.way (fun a e l => hsp.gc a e (by rw [hsp.is.is]; exact l)) _ _ _ _ _ _ _, hsp.is.cap⟩)
    clear hsp HP
    go_wp2
    refine bodyPost_ret (results_cell_row rfl _ _ (w.heap.size + 1) 65 (arr 11 (anFM m')) (0, 0) _ rfl HFIN.out Tryz.underlying65 rfl (by rw [arr_size]; exact infoAnsw)) rfl ?_
    exact ⟨m', rfl, HAN.out, HSP.out.near, HFB.out⟩
end Go.Proofs.YtcfpmofmjnhonaaGreatDoor
/- How great what a directory tells may be, spoilt or not. -/
namespace Go.Proofs.YtcfpmofmjnhonaaGreatDoor
open Go.RowKit

structure SgnDim (s : Sgn) : Prop where
  ep : s.head.epoch < 9223372036854775808
  sig : s.sig.length ≤ 35
  path : s.path.length ≤ 3
  sz : ∀ p ∈ s.sig, p.size ≤ 16
  root : s.head.root.size ≤ 16
theorem empty_size : (⟨#[]⟩ : ByteArray).size = 0 := rfl
theorem noSgn_dim : SgnDim noSgn := ⟨by show (0 : Int) < _; decide, by show 0 ≤ 35; omega, by show 0 ≤ 3; omega, (fun p hp => by cases hp), by show 0 ≤ 16; omega⟩
theorem wrap64_lt (n : Int) : wrap64 n < 9223372036854775808 := by unfold wrap64; omega
theorem next_dim (L : List Hd) (root : ByteArray) (hr : root.size ≤ 16) : (nextAns L root).1.epoch < 9223372036854775808 ∧ (nextAns L root).1.root.size ≤ 16 := by
  have no : noHd.epoch < 9223372036854775808 ∧ noHd.root.size ≤ 16 := ⟨by show (0 : Int) < _; decide, by show 0 ≤ 16; omega⟩
  unfold nextAns nextHd
  cases L.getLast? with
  | none =>
    simp only []
    split
    · exact ⟨by show (1 : Int) < _; decide, hr⟩
    · exact no
  | some h =>
    simp only []
    split
    · exact no
    · rename_i x hx
      split at hx
      · obtain rfl := Option.some.inj hx
        split
        · exact ⟨wrap64_lt _, hr⟩
        · exact no
      · cases hx
theorem sign_len (seed : ByteArray) (key : Int) (m : ByteArray) : (signAns seed key m).1.length ≤ 35 ∧ ∀ p ∈ (signAns seed key m).1, p.size ≤ 16 := by
  unfold signAns
  split
  · refine ⟨by show (signChains seed key m 35).length ≤ 35; unfold signChains; simp, fun p hp => ?_⟩
    have hp : p ∈ signChains seed key m 35 := hp
    unfold signChains at hp
    obtain ⟨c, _, rfl⟩ := List.mem_map.1 hp
    rw [along_size _ _ _ _ (seedOf_size _ _ _)]
    exact Nat.le_refl _
  · exact ⟨by show 0 ≤ 35; omega, fun p hp => by cases hp⟩
theorem sign_dim (secret : ByteArray) (n : Nat) (h : Hd) (he : h.epoch < 9223372036854775808) (hr : h.root.size ≤ 16) : SgnDim (signOf secret n h) := by
  have hs := sign_len (dirSeed secret) (n : Int) (headMarkAns h).1
  have hp : (sealPath (dirSeed secret) ((n : Int)).toNat 3).length ≤ 3 := by unfold sealPath; simp
  unfold signOf
  unfold sealAns
  split
  · split
    · exact ⟨he, hs.1, hp, hs.2, hr⟩
    · exact ⟨he, by show 0 ≤ 35; omega, by show 0 ≤ 3; omega, (fun p hp => by cases hp), hr⟩
  · exact ⟨he, by show 0 ≤ 35; omega, by show 0 ≤ 3; omega, (fun p hp => by cases hp), hr⟩
theorem root_dim (L : List It) : (rootAns L).1.size ≤ 16 := by
  unfold rootAns
  split
  · rw [show (rootOf L).size = 16 from nodeOf_size _ _ _]; exact Nat.le_refl _
  · show 0 ≤ 16; omega
theorem nextSgn_dim (d : Dst) : SgnDim (nextSgn d) := by
  unfold nextSgn
  have h := next_dim (d.eps.map (·.head)) (rootAns (itemsOf (settled d))).1 (root_dim _)
  exact sign_dim _ _ _ h.1 h.2
def EpsDim (d : Dst) : Prop := ∀ s ∈ d.eps, SgnDim s
theorem stepD_dim {d : Dst} (h : EpsDim d) (x : Hd) : EpsDim (stepD d x) := by
  unfold stepD
  split
  · unfold putAns
    repeat' split
    all_goals exact h
  · split
    · unfold publishAns
      split
      · intro s hs
        rcases List.mem_append.1 (show s ∈ d.eps ++ [nextSgn d] from hs) with hs | hs
        · exact h s hs
        · obtain rfl := List.mem_singleton.1 hs
          exact nextSgn_dim d
      · exact h
    · exact h
theorem playD_dim {d : Dst} (h : EpsDim d) (L : List Hd) : EpsDim (playD d L) := by
  unfold playD
  induction L generalizing d with
  | nil => exact h
  | cons x L ih => exact ih (stepD_dim h x)
structure AnsDim (a : Answ) : Prop where
  sgn : SgnDim a.sgn
  way : a.path.length ≤ 128
  leaf : a.leaf.2.size ≤ 16
  op : a.opening.size ≤ 16
  val : a.value.size ≤ 24
  leaf0 : a.leaf.1.size ≤ 16
theorem prove_dim (L : List It) (ix : ByteArray) : (proveAns L ix).1.length ≤ 128 ∧ (proveAns L ix).2.1.2.size ≤ 16 ∧ (proveAns L ix).2.1.1.size ≤ 16 := by
  by_cases h : rightItems L = true ∧ ix.size = 16
  · obtain ⟨P, x, hp⟩ : ∃ P x, proveAns L ix = (P, x, 0) := by
      unfold proveAns
      rw [if_pos h]
      exact ⟨_, _, rfl⟩
    obtain ⟨_, _, h3⟩ := asked h.1 h.2 hp
    rw [hp]
    refine ⟨by have := h3.few; simpa using this, ?_⟩
    rcases h3.leaf with e | ⟨hx, _⟩
    · show x.2.size ≤ 16 ∧ x.1.size ≤ 16
      rw [e]; exact ⟨by show 0 ≤ 16; omega, by show 0 ≤ 16; omega⟩
    · have := right_sizes h.1 x hx
      show x.2.size ≤ 16 ∧ x.1.size ≤ 16
      omega
  · unfold proveAns
    rw [if_neg h]
    exact ⟨by show 0 ≤ 128; omega, by show 0 ≤ 16; omega, by show 0 ≤ 16; omega⟩
theorem found_dim {d : Dst} (h : DOk d) (he : EpsDim d) (name : ByteArray) : AnsDim (lookupAns d name).1 := by
  have no : AnsDim noAnsw := ⟨noSgn_dim, by show 0 ≤ 128; omega, by show 0 ≤ 16; omega, by show 0 ≤ 16; omega, by show 0 ≤ 24; omega, by show 0 ≤ 16; omega⟩
  unfold lookupAns
  split
  · split
    · exact no
    · rename_i h0
      have hp := prove_dim (itemsOf d) (ofAns name).1
      refine ⟨?_, hp.1, hp.2.1, ?_, ?_, hp.2.2⟩
      · show SgnDim (lastSgn d)
        unfold lastSgn
        rw [List.getD_eq_getElem?_getD, List.getElem?_eq_getElem (show d.eps.length - 1 < d.eps.length by omega)]
        exact he _ (List.getElem_mem _)
      · show (if (look d.vals name).isSome then openOf d name else (⟨#[]⟩ : ByteArray)).size ≤ 16
        split
        · rw [open_size]; exact Nat.le_refl _
        · show 0 ≤ 16; omega
      · show ((look d.vals name).getD (⟨#[]⟩ : ByteArray)).size ≤ 24
        cases e : look d.vals name with
        | none => show 0 ≤ 24; omega
        | some v => exact (h.vn _ (look_mem e)).2.2
  · exact no
theorem spoilX_size (s : ByteArray) (n : Nat) (h : s.size ≤ n) (h1 : 1 ≤ n) : (spoilX s).size ≤ n := by
  unfold spoilX
  have hl : s.data.toList.length = s.size := Array.length_toList
  cases e : s.data.toList with
  | nil => exact h1
  | cons b r =>
    rw [e] at hl
    simp only []
    rw [txt_size]
    simp at hl ⊢
    omega
/-- Bounds that hold of it, spoilt. -/
structure SpDim (a : Answ) : Prop where
  ep : a.sgn.head.epoch < 9223372036854775808
  sig : a.sgn.sig.length ≤ 35
  path : a.sgn.path.length ≤ 3
  way : a.path.length ≤ 129
  op : a.opening.size ≤ 16
  val : a.value.size ≤ 24
  l1 : a.leaf.1.size ≤ 16
  l2 : a.leaf.2.size ≤ 16
theorem AnsDim.sp {a : Answ} (h : AnsDim a) : SpDim a := ⟨h.sgn.ep, h.sgn.sig, h.sgn.path, by have := h.way; omega, h.op, h.val, h.leaf0, h.leaf⟩
theorem spoilt_dim {a : Answ} (h : AnsDim a) (k : Int) : SpDim (spoiltA a k) := by
  have base : SpDim a := h.sp
  unfold spoiltA
  split
  · exact ⟨base.ep, base.sig, base.path, base.way, base.op, spoilX_size _ _ h.val (by omega), base.l1, base.l2⟩
  split
  · exact ⟨base.ep, base.sig, base.path, base.way, spoilX_size _ _ h.op (by omega), base.val, base.l1, base.l2⟩
  split
  · exact ⟨base.ep, base.sig, base.path, base.way, base.op, base.val, base.l1, base.l2⟩
  split
  · exact ⟨wrap64_lt _, base.sig, base.path, base.way, base.op, base.val, base.l1, base.l2⟩
  split
  · exact ⟨base.ep, base.sig, base.path, base.way, base.op, base.val, base.l1, base.l2⟩
  split
  · exact ⟨base.ep, base.sig, base.path, base.way, base.op, base.val, base.l1, spoilX_size _ _ h.leaf (by omega)⟩
  split
  · exact ⟨base.ep, base.sig, base.path, by show (text16 :: a.path).length ≤ 129; have := h.way; simp; omega, base.op, base.val, base.l1, base.l2⟩
  split
  · split
    · refine ⟨base.ep, ?_, base.path, base.way, base.op, base.val, base.l1, base.l2⟩
      show (spoilX (a.sgn.sig.getD 0 ⟨#[]⟩) :: a.sgn.sig.drop 1).length ≤ 35
      have := h.sgn.sig
      simp
      omega
    · exact base
  · exact base
theorem signed_dim {s : Sgn} (h : SgnDim s) : AnsDim ⟨s, [], noIt, ⟨#[]⟩, ⟨#[]⟩⟩ := ⟨h, by show 0 ≤ 128; omega, by show 0 ≤ 16; omega, by show 0 ≤ 16; omega, by show 0 ≤ 24; omega, by show 0 ≤ 16; omega⟩
end Go.Proofs.YtcfpmofmjnhonaaGreatDoor
/- Two heads, compared. -/
namespace Go.Proofs.YtcfpmofmjnhonaaGreatDoor
open Go.RowKit

theorem hd_eq_iff (a b : Hd) : a = b ↔ a.epoch = b.epoch ∧ a.root = b.root ∧ a.prev = b.prev :=
  ⟨fun h => by rw [h]; exact ⟨rfl, rfl, rfl⟩, fun h => by cases a; cases b; simp_all⟩
theorem stood : Tryz.prog.stoodInHeld 49 = false := by kernel_rfl
theorem headFields : Tryz.prog.underlying 49 = some (.struct (Tryz.prog.fieldsOf 49)) := by kernel_rfl
theorem text_ne {a b : ByteArray} (h : ¬ a = b) : (a.toList == b.toList) = false := by
  rw [beq_eq_false_iff_ne]
  intro e
  rw [ByteArray.toList_eq, ByteArray.toList_eq] at e
  exact h (text_of e)
theorem text_same (a : ByteArray) : (a.toList == a.toList) = true := by simp
set_option maxHeartbeats 1000000 in
theorem run_neq_heads (a b : Hd) (w : World) :
    (binOp .neq 49 (.agg #[.int .i64 a.epoch, .string a.root, .string a.prev]) (.agg #[.int .i64 b.epoch, .string b.root, .string b.prev])).run Tryz.prog w = .ok (.bool (!decide (a = b))) w := by
  rw [run_neq_struct, run_equalIn_agg _ 9999 _ _ _ headFields stood]
  by_cases h1 : a.epoch = b.epoch
  · by_cases h2 : a.root = b.root
    · by_cases h3 : a.prev = b.prev
      · have e : decide (a = b) = true := by simp [hd_eq_iff, h1, h2, h3]
        rw [e, h1, h2, h3]
        go_simp
      · have e : decide (a = b) = false := by simp [hd_eq_iff, h3]
        have e3 := text_ne h3
        rw [e, h1, h2]
        go_simp
    · have e : decide (a = b) = false := by simp [hd_eq_iff, h2]
      have e3 := text_ne h2
      rw [e, h1]
      go_simp
  · have e : decide (a = b) = false := by simp [hd_eq_iff, h1]
    have e3 : (a.epoch == b.epoch) = false := by rw [beq_eq_false_iff_ne]; exact h1
    rw [e]
    go_simp
end Go.Proofs.YtcfpmofmjnhonaaGreatDoor
/- The document's Whole and Parts. -/
namespace Go.Proofs.YtcfpmofmjnhonaaGreatDoor
open Go.RowKit

/-- A head's variable that was made ahead of a call is as it was behind it. -/
theorem newFacts {w w2 : World} {t : TypeId} (hb : Below (w.alloc (.cells #[.int .i64 0, .string ⟨#[]⟩, .string ⟨#[]⟩] t)).drew.heap.size (w.alloc (.cells #[.int .i64 0, .string ⟨#[]⟩, .string ⟨#[]⟩] t)).drew w2) :
    w2.cell? ⟨w.heap.size, 0, none⟩ = some (.int .i64 0) ∧ w2.cell? ⟨w.heap.size, 1, none⟩ = some (.string ⟨#[]⟩) ∧ w2.cell? ⟨w.heap.size, 2, none⟩ = some (.string ⟨#[]⟩) ∧ w2.frozen? ⟨w.heap.size, 0, none⟩ = false ∧ w2.frozen? ⟨w.heap.size, 1, none⟩ = false ∧ w2.frozen? ⟨w.heap.size, 2, none⟩ = false := by
  have h := (Holds.new w 3 (hdF noHd) t).drew.below hb (by show w.heap.size < (w.alloc _).heap.size; simp)
  exact ⟨h.cell 0 (by omega), h.cell 1 (by omega), h.cell 2 (by omega), h.free 0, h.free 1, h.free 2⟩
theorem newHolds {w w2 : World} {t : TypeId} (hb : Below (w.alloc (.cells #[.int .i64 0, .string ⟨#[]⟩, .string ⟨#[]⟩] t)).drew.heap.size (w.alloc (.cells #[.int .i64 0, .string ⟨#[]⟩, .string ⟨#[]⟩] t)).drew w2) (Y : Hd) :
    Holds (((w2.setCell ⟨w.heap.size, 0, none⟩ (.int .i64 Y.epoch)).setCell ⟨w.heap.size, 1, none⟩ (.string Y.root)).setCell ⟨w.heap.size, 2, none⟩ (.string Y.prev)) w.heap.size 3 (hdF Y) t ∧
      Below w.heap.size w (((w2.setCell ⟨w.heap.size, 0, none⟩ (.int .i64 Y.epoch)).setCell ⟨w.heap.size, 1, none⟩ (.string Y.root)).setCell ⟨w.heap.size, 2, none⟩ (.string Y.prev)) := by
  have h := (Holds.new w 3 (hdF noHd) t).drew.below hb (by show w.heap.size < (w.alloc _).heap.size; simp)
  refine ⟨(((h.set 0 _).set 1 _).set 2 _).congr fun i hi => ?_, (((((Below.refl _ _).alloc (Nat.le_refl _) _).drew.trans (hb.mono (by simp))).setCell (Nat.le_refl _) _).setCell (Nat.le_refl _) _).setCell (Nat.le_refl _) _⟩
  rcases (show i = 0 ∨ i = 1 ∨ i = 2 by omega) with rfl | rfl | rfl <;> simp [upd, hdF]
end Go.Proofs.YtcfpmofmjnhonaaGreatDoor
