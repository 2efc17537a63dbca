/- Parts of the proof, one behind the other: HdRow, RDirU, RDirX, Acts, SpoilX, CopyOf, Append, AppT, Spoilt, DDim, Pub. -/
import Derived.Test.YtcfpmofmjnhonaaGreatDoorM9
import Derived.Test.YtcfpmofmjnhonaaGreatDoorM5
import Derived.Test.YtcfpmofmjnhonaaGreatDoorM10
import Derived.Test.YtcfpmofmjnhonaaGreatDoorM7
import Derived.Deep.CutRange
import Derived.Test.YtcfpmofmjnhonaaGreatDoorM8
import Derived.Test.YtcfpmofmjnhonaaGreatDoorM4
import Derived.Deep.AppendSrc
/- Rows of heads, and of signed heads, of the call's own; one more put behind. -/
namespace Go.Proofs.YtcfpmofmjnhonaaGreatDoor
open Go.RowKit

def Hd.cells (h : Hd) : List Value := [.int .i64 h.epoch, .string h.root, .string h.prev]
def hdCells (L : List Hd) : List Value := L.flatMap Hd.cells
theorem hdCells_length (L : List Hd) : (hdCells L).length = L.length * 3 := by
  induction L with
  | nil => rfl
  | cons m M ih => unfold hdCells at ih ⊢; rw [List.flatMap_cons, List.length_append, ih]; simp [Hd.cells]; omega
theorem hdCells_append (L M : List Hd) : hdCells (L ++ M) = hdCells L ++ hdCells M := by simp [hdCells]
theorem hdCells_get (L : List Hd) : ∀ (i : Nat) (h : Hd) (j : Nat), L[i]? = some h → j < 3 → (hdCells L)[i * 3 + j]? = h.cells[j]? := by
  induction L with
  | nil => intro i m j h; simp at h
  | cons y M ih =>
    intro i m j h hj
    have e : hdCells (y :: M) = y.cells ++ hdCells M := rfl
    have hl : y.cells.length = 3 := rfl
    cases i with
    | zero =>
      simp at h; subst h
      rw [e, List.getElem?_append_left (by rw [hl]; omega)]; simp
    | succ i =>
      rw [e, List.getElem?_append_right (by rw [hl]; omega), hl, show (i + 1) * 3 + j - 3 = i * 3 + j by omega]
      exact ih i m j (by simpa using h) hj
theorem Row.hds {w : World} {base : Nat} {v : Value} {L : List Hd} {n : Nat} (h : Row w base 3 v n (hdCells L)) : n = L.length ∧ ∃ A cap, v = .slice A n cap ∧ Hds w A L := by
  have hn : n = L.length := by have := h.1; rw [hdCells_length] at this; omega
  refine ⟨hn, ?_⟩
  obtain ⟨p, cap, rfl⟩ := h.any
  refine ⟨p, cap, rfl, fun i x hi => ?_⟩
  have hil : i < L.length := (List.getElem?_eq_some_iff.1 hi).1
  obtain ⟨g, cap', hv, _, hg, _, hc, _⟩ := h.shape (by omega)
  injection hv with hv _ _
  refine ⟨⟨g, 0, none⟩, hv, hg, ?_, ?_, ?_⟩
  · rw [add_none, Nat.zero_add]; exact hc _ _ (hdCells_get L i x 0 hi (by omega))
  · rw [add_add', add_none, Nat.zero_add]; exact hc _ _ (hdCells_get L i x 1 hi (by omega))
  · rw [add_add', add_none, Nat.zero_add]; exact hc _ _ (hdCells_get L i x 2 hi (by omega))
theorem infoHd : (Tryz.prog.info? 49).map (fun i => (i.zero, i.size, i.bytes)) = some (some (.agg #[.int .i64 0, .string ⟨#[]⟩, .string ⟨#[]⟩]), 3, 40) := by kernel_rfl
theorem infoSg : (Tryz.prog.info? 54).map (fun i => (i.zero, i.size, i.bytes)) = some (some (.agg #[.int .i64 0, .string ⟨#[]⟩, .string ⟨#[]⟩, .int .i64 0, .slice none 0 0, .slice none 0 0]), 6, 96) := by kernel_rfl
/-- append of one struct of so many one-cell fields, just built. -/
theorem wpList_append_cells {P : Program} {w : World} {ops : Array Oper} {rest : List Oper} {o : Oper} {a : Act} {Q : Exit → Act → World → Prop}
    (hg : o.guard = none) (s x : Operand) (t : TypeId) (hop : o.op = Op.call { callee := Callee.builtin Builtin.append, args := #[s, x], argTypes := #[t, t] })
    (e : TypeId) (h1 : P.underlying t = some (.slice e)) (z : Value) (size bytes : Nat) (hi : (P.info? e).map (fun i => (i.zero, i.size, i.bytes)) = some (some z, size, bytes)) (h6 : z.cells.size = size) (h7 : 0 < size) (hby : bytes ≤ 256)
    (base : Nat) (v : Value) (n : Nat) (xs : List Value) (hs : a.eval s = v) (hrow : Row w base size v n xs) (hbase : base ≤ w.heap.size) (hn : n ≤ 1000000)
    (ys : List Value) (hy : ys.length = size) (hone : ∀ u ∈ ys, u.oneCell' = true) (B : Nat) (hx : a.eval x = .slice (some ⟨B, 0, none⟩) 1 1) (e' : TypeId) (hB : w.heap[B]? = some (.cells ys.toArray e' (0, 0)))
    (hK : ∀ v' w', Hid (Row w' base size v' (n + 1) (xs ++ ys)) → Hid (w.grownBy w' v.ownBlock) → Hid (Moved w v v') → wpList P ops Q rest (a.put o.dst v') w') :
    wpList P ops Q (o :: rest) a w := by
  obtain ⟨i0, hi0, hz0, hz1, hz2⟩ := info_parts hi
  refine wpList_append_row2 hg s x t hop e i0 z size bytes h1 hi0 hz0 hz1 hz2 h6 h7 base v n xs hs hrow hbase ⟨B, 0, none⟩ 1 1 ys hx (by rw [hy, Nat.one_mul]) ?_ hone (by unfold maxLen; omega) ?_ hK
  · intro j u hj
    rw [add_none, Nat.zero_add, cell_of_row _ B j _ e' (0, 0) hB]
    simpa using hj
  · have := Nat.mul_le_mul (show n + 1 ≤ 1000001 by omega) hby
    omega
end Go.Proofs.YtcfpmofmjnhonaaGreatDoor
/- The law's acts, and what is played with them on the document's directory. (An act lies as a head does: a number and two texts.) -/
namespace Go.Proofs.YtcfpmofmjnhonaaGreatDoor
open Go.RowKit Go.Maps

theorem Hds.same {F : Nat → Prop} {w w' : World} {A : Option Addr} {L : List Hd} (h : Hds w A L) (hf : ∀ a, A = some a → 0 < L.length → F a.block) (hs : Same F w w') : Hds w' A L := fun i x hi => by
  obtain ⟨a, ha, hl, c0, c1, c2⟩ := h i x hi
  have hF := hf a ha (by have := (List.getElem?_eq_some_iff.1 hi).1; omega)
  exact ⟨a, ha, Nat.lt_of_lt_of_le hl hs.size, (hs.cell (by rw [block_add]; exact hF)).trans c0, (hs.cell (by rw [block_add, block_add]; exact hF)).trans c1, (hs.cell (by rw [block_add, block_add]; exact hF)).trans c2⟩
/-- A list of heads lies below the world's end. -/
theorem Hds.lt {w : World} {A : Option Addr} {L : List Hd} (h : Hds w A L) : ∀ a, A = some a → 0 < L.length → a.block < w.heap.size := fun a ha hl => by
  obtain ⟨a', e, hlt, _⟩ := h 0 _ (List.getElem?_eq_getElem hl)
  rw [ha] at e
  obtain rfl := Option.some.inj e
  exact hlt
end Go.Proofs.YtcfpmofmjnhonaaGreatDoor
/- append([]T{}, l...): the items of a list, once more, in memory of the call's own. -/
namespace Go.Proofs.YtcfpmofmjnhonaaGreatDoor
open Go.RowKit

theorem Itms.cells {w : World} {A : Option Addr} {L : List It} (h : Itms w A L) (hn : 0 < L.length) : ∃ a, A = some a ∧ ∀ j u, (itCells L)[j]? = some u → w.cell? (a.add j) = some u := by
  obtain ⟨a, rfl, -⟩ := h.at_ hn
  refine ⟨a, rfl, fun j u hj => ?_⟩
  have hjl := (List.getElem?_eq_some_iff.1 hj).1
  rw [itCells_length] at hjl
  have hi : j / 2 < L.length := by omega
  obtain ⟨a', ha, _, h0, h1⟩ := h.at_ hi
  obtain rfl : a = a' := Option.some.inj ha
  have hx : L[j / 2]? = some (itAt L (j / 2)) := by rw [List.getElem?_eq_getElem hi, itAt_of hi]
  obtain ⟨e1, e2⟩ := itCells_get L (j / 2) _ hx
  rcases (show j = j / 2 * 2 ∨ j = j / 2 * 2 + 1 by omega) with e | e
  · rw [← e] at e1 h0
    rw [hj] at e1
    rw [h0, ← e1]
  · rw [← e] at e2
    rw [add_add', ← e] at h1
    rw [hj] at e2
    rw [h1, ← e2]
theorem itCells_one' (L : List It) : ∀ u ∈ itCells L, u.oneCell' = true := by
  intro u hu
  unfold itCells at hu
  simp only [List.mem_flatMap] at hu
  obtain ⟨x, _, hx⟩ := hu
  simp at hx
  rcases hx with rfl | rfl <;> rfl
theorem wpList_append_copyr {P : Program} {ops : Array Oper} {rest : List Oper} {o : Oper} {a : Act} {w : World} {Q : Exit → Act → World → Prop} (hgd : o.guard = none) (d s : Operand) (T : TypeId)
    (ho : o.op = .call { callee := .builtin .append, args := #[d, s], argTypes := #[T, T] }) (e : TypeId) (ht : P.underlying T = some (.slice e)) (i : TypeInfo) (z : Value) (hi : P.info? e = some i) (hz : i.zero = some z) (hsz : i.size = 2) (hby : i.bytes = 32) (hzc : z.cells.size = 2)
    (L : List It) (A : Option Addr) (cap : Nat) (g : Nat) (hg : g < w.heap.size) (base : Nat) (hbg : base ≤ g) (hd : a.eval d = .slice (some ⟨g, 0, none⟩) 0 0) (hs : a.eval s = .slice A L.length cap) (hm : Itms w A L) (hl : L.length ≤ 1000000)
    (hK : ∀ A' cap' w', Hid (Below w.heap.size w w') → Hid (Row w' base 2 (.slice A' L.length cap') L.length (itCells L)) → wpList P ops Q rest (a.put o.dst (.slice A' L.length cap')) w') : wpList P ops Q (o :: rest) a w := by
  by_cases h0 : L.length = 0
  · obtain rfl := List.eq_nil_of_length_eq_zero h0
    have hsrc : ∃ news, Src P i.size T (.slice A 0 cap) 0 news w := by
      cases A with
      | none => exact ⟨[], Src.ofNil w ht cap⟩
      | some x => exact ⟨[], Src.ofSlice w ht x 0 cap [] (by simp) (fun j u h => by simp at h) (fun u h => by cases h)⟩
    obtain ⟨news, hsrc⟩ := hsrc
    have hnl : news = [] := List.eq_nil_of_length_eq_zero (by simpa using hsrc.newsLen)
    subst hnl
    have hk1 : ∃ e', P.underlying T = some (.slice e') := ⟨e, ht⟩
    have hrun : (Builtin.append_ #[T, T] o.type #[.slice (some ⟨g, 0, none⟩) 0 0, .slice A 0 cap]).run P w = .ok (.slice (some ⟨g, 0, none⟩) 0 0) w := by
      have hst : (storeCells ((Addr.mk g 0 none).add 0) []).run P w = .ok () w := by simp [storeCells]
      simp [Builtin.append_, run_underlying ht, sizeOf, typeInfo, hi, hsrc.len, hsrc.cells, hst]
    refine wpList_plain hgd fun K hK' => ?_
    unfold Oper.wp
    simp [execOp, ho, resolve, invoke, builtin, hd, hs, hrun, Result.andThen]
    exact hK' _ _ (hK _ _ _ (Lib.hid (Below.refl _ _)) (Lib.hid ⟨rfl, .inr ⟨g, 0, rfl, hbg, hg, Nat.le_refl 0, fun j u h => (by cases h), fun j h => by omega⟩⟩))
  · obtain ⟨x, rfl, hc⟩ := hm.cells (by omega)
    refine wpList_append_grows w hgd d s T ho e i z 2 32 ht hi hz hsz hby hzc (by omega) (some ⟨g, 0, none⟩) 0 0 [] hd (fun h => by cases h) (by simp) (fun _ _ j u h => by simp at h) x L.length cap (itCells L) hs (itCells_length L) hc (itCells_one' L) (by omega) (by unfold maxLen; omega) (by omega) ?_
    intro v' w' hown hg'
    have hrow : Row w' w.heap.size 2 v' L.length (itCells L) := by simpa using Row.of_owns hown
    obtain ⟨A', cap', rfl⟩ := hrow.any
    exact hK A' cap' w' (Lib.hid (grownBy.below hg' (Nat.le_refl _) (fun k h => by cases h))) (Lib.hid (hrow.mono (by omega)))
end Go.Proofs.YtcfpmofmjnhonaaGreatDoor
/- append onto a row of items: many, that lie somewhere. -/
namespace Go.Proofs.YtcfpmofmjnhonaaGreatDoor
open Go.RowKit

theorem grownBy_refl (w : World) (g : Option Nat) : w.grownBy w g := ⟨rfl, rfl, rfl, Nat.le_refl _, fun _ _ _ => rfl⟩
theorem wpList_append_items {P : Program} {ops : Array Oper} {rest : List Oper} {o : Oper} {a : Act} {w : World} {Q : Exit → Act → World → Prop} (hgd : o.guard = none) (s x : Operand) (T : TypeId)
    (ho : o.op = .call { callee := .builtin .append, args := #[s, x], argTypes := #[T, T] }) (e : TypeId) (ht : P.underlying T = some (.slice e)) (i : TypeInfo) (z : Value) (hi : P.info? e = some i) (hz : i.zero = some z) (hsz : i.size = 2) (hby : i.bytes = 32) (hzc : z.cells.size = 2)
    (base n : Nat) (M : List It) (hml : M.length = n) (b0 : Addr) (c0 : Nat) (hd : a.eval s = .slice (some b0) n c0) (hrow : Row w base 2 (.slice (some b0) n c0) n (itCells M)) (hbase : base ≤ w.heap.size) (hn : n ≤ 1000000)
    (K : List It) (k : Nat) (hk : K.length = k) (A : Option Addr) (cap : Nat) (hs : a.eval x = .slice A k cap) (hm : Itms w A K) (hkl : k ≤ 1000000)
    (hK : ∀ v' w', Hid (Row w' base 2 v' (n + k) (itCells (M ++ K))) → Hid (w.grownBy w' (Value.slice (some b0) n c0).ownBlock) → wpList P ops Q rest (a.put o.dst v') w') : wpList P ops Q (o :: rest) a w := by
  by_cases h0 : k = 0
  · subst h0
    obtain rfl := List.eq_nil_of_length_eq_zero hk
    have hnc : n ≤ c0 := by
      obtain ⟨_, hr⟩ := hrow
      rcases hr with ⟨hr, _⟩ | ⟨g, cap', hv, _, _, hle, _⟩
      · cases hr
      · injection hv with _ _ e3
        omega
    have hsrc : ∃ news, Src P i.size T (.slice A 0 cap) 0 news w := by
      cases A with
      | none => exact ⟨[], Src.ofNil w ht cap⟩
      | some x => exact ⟨[], Src.ofSlice w ht x 0 cap [] (by simp) (fun j u h => by simp at h) (fun u h => by cases h)⟩
    obtain ⟨news, hsrc⟩ := hsrc
    have hnl : news = [] := List.eq_nil_of_length_eq_zero (by simpa using hsrc.newsLen)
    subst hnl
    have hk1 : ∃ e', P.underlying T = some (.slice e') := ⟨e, ht⟩
    have hrun : (Builtin.append_ #[T, T] o.type #[.slice (some b0) n c0, .slice A 0 cap]).run P w = .ok (.slice (some b0) n c0) w := by
      have hst : ∀ a : Addr, (storeCells a []).run P w = .ok () w := fun a => by simp [storeCells]
      simp [Builtin.append_, run_underlying ht, sizeOf, typeInfo, hi, hsrc.len, hsrc.cells, hst, hnc]
    refine wpList_plain hgd fun K hK' => ?_
    unfold Oper.wp
    simp [execOp, ho, resolve, invoke, builtin, hd, hs, hrun, Result.andThen]
    exact hK' _ _ (hK _ _ (Lib.hid (by rw [List.append_nil]; exact hrow)) (Lib.hid (grownBy_refl _ _)))
  · obtain ⟨x, rfl, hc⟩ := hm.cells (by omega)
    refine wpList_append_row2 hgd s _ T ho e i z 2 32 ht hi hz hsz hby hzc (by decide) base _ n (itCells M) hd hrow hbase x k cap (itCells K) hs (by rw [itCells_length, hk]) hc (itCells_one' K) (by unfold maxLen; omega) (by omega) ?_
    intro v' w' hr hg _
    refine hK v' w' (Lib.hid ?_) hg
    rw [itCells_append]
    exact hr.out
end Go.Proofs.YtcfpmofmjnhonaaGreatDoor
/- append onto a row of texts: many, that lie somewhere. -/
namespace Go.Proofs.YtcfpmofmjnhonaaGreatDoor
open Go.RowKit

theorem stCells_length (L : List ByteArray) : (stCells L).length = L.length := by unfold stCells; simp
theorem Strs.cells {w : World} {A : Option Addr} {L : List ByteArray} (h : Strs w A L) (hn : 0 < L.length) : ∃ a, A = some a ∧ ∀ j u, (stCells L)[j]? = some u → w.cell? (a.add j) = some u := by
  obtain ⟨a, rfl, -⟩ := h 0 _ (List.getElem?_eq_getElem hn)
  refine ⟨a, rfl, fun j u hj => ?_⟩
  unfold stCells at hj
  rw [List.getElem?_map] at hj
  cases e : L[j]? with
  | none => rw [e] at hj; cases hj
  | some s =>
    rw [e] at hj
    obtain ⟨a', ha, _, hc⟩ := h j s e
    obtain rfl := Option.some.inj ha
    rw [hc]
    exact hj
theorem stCells_one (L : List ByteArray) : ∀ u ∈ stCells L, u.oneCell' = true := by
  intro u hu
  unfold stCells at hu
  obtain ⟨s, _, rfl⟩ := List.mem_map.1 hu
  rfl
theorem wpList_append_texts {P : Program} {ops : Array Oper} {rest : List Oper} {o : Oper} {a : Act} {w : World} {Q : Exit → Act → World → Prop} (hgd : o.guard = none) (s x : Operand) (T : TypeId)
    (ho : o.op = .call { callee := .builtin .append, args := #[s, x], argTypes := #[T, T] }) (e : TypeId) (ht : P.underlying T = some (.slice e)) (z : Value) (hinf : (P.info? e).map (fun i => (i.zero, i.size, i.bytes)) = some (some z, 1, 16)) (hzc : z.cells.size = 1)
    (base n : Nat) (M : List ByteArray) (_hml : M.length = n) (b0 : Addr) (c0 : Nat) (hd : a.eval s = .slice (some b0) n c0) (hrow : Row w base 1 (.slice (some b0) n c0) n (stCells M)) (hbase : base ≤ w.heap.size) (hn : n ≤ 1000000)
    (K : List ByteArray) (k : Nat) (hk : K.length = k) (A : Option Addr) (cap : Nat) (hs : a.eval x = .slice A k cap) (hm : Strs w A K) (hkl : k ≤ 1000000)
    (hK : ∀ v' w', Hid (Row w' base 1 v' (n + k) (stCells (M ++ K))) → Hid (w.grownBy w' (Value.slice (some b0) n c0).ownBlock) → wpList P ops Q rest (a.put o.dst v') w') : wpList P ops Q (o :: rest) a w := by
  obtain ⟨i, hi, hz, hsz, hby⟩ := info_parts hinf
  by_cases h0 : k = 0
  · subst h0
    obtain rfl := List.eq_nil_of_length_eq_zero hk
    have hnc : n ≤ c0 := by
      obtain ⟨_, hr⟩ := hrow
      rcases hr with ⟨hr, _⟩ | ⟨g, cap', hv, _, _, hle, _⟩
      · cases hr
      · injection hv with _ _ e3
        omega
    have hsrc : ∃ news, Src P i.size T (.slice A 0 cap) 0 news w := by
      cases A with
      | none => exact ⟨[], Src.ofNil w ht cap⟩
      | some x => exact ⟨[], Src.ofSlice w ht x 0 cap [] (by simp) (fun j u h => by simp at h) (fun u h => by cases h)⟩
    obtain ⟨news, hsrc⟩ := hsrc
    have hnl : news = [] := List.eq_nil_of_length_eq_zero (by simpa using hsrc.newsLen)
    subst hnl
    have hk1 : ∃ e', P.underlying T = some (.slice e') := ⟨e, ht⟩
    have hrun : (Builtin.append_ #[T, T] o.type #[.slice (some b0) n c0, .slice A 0 cap]).run P w = .ok (.slice (some b0) n c0) w := by
      have hst : ∀ a : Addr, (storeCells a []).run P w = .ok () w := fun a => by simp [storeCells]
      simp [Builtin.append_, run_underlying ht, sizeOf, typeInfo, hi, hsrc.len, hsrc.cells, hst, hnc]
    refine wpList_plain hgd fun K hK' => ?_
    unfold Oper.wp
    simp [execOp, ho, resolve, invoke, builtin, hd, hs, hrun, Result.andThen]
    exact hK' _ _ (hK _ _ (Lib.hid (by rw [List.append_nil]; exact hrow)) (Lib.hid (grownBy_refl _ _)))
  · obtain ⟨x, rfl, hc⟩ := hm.cells (by omega)
    refine wpList_append_row2 hgd s _ T ho e i z 1 16 ht hi hz hsz hby hzc (by decide) base _ n (stCells M) hd hrow hbase x k cap (stCells K) hs (by rw [stCells_length, hk]; omega) hc (stCells_one K) (by unfold maxLen; omega) (by omega) ?_
    intro v' w' hr hg _
    refine hK v' w' (Lib.hid ?_) hg
    rw [stCells_append]
    exact hr.out
end Go.Proofs.YtcfpmofmjnhonaaGreatDoor
/- The law's spoilt: an answer, spoilt in one place. -/
namespace Go.Proofs.YtcfpmofmjnhonaaGreatDoor
open Go.RowKit

/-- The texts of one lie where those of the other do, or are new. -/
structure AnNear (w : World) (m m' : AnM) : Prop where
  sig : m'.sg.A = m.sg.A ∧ m'.sg.s.sig.length = m.sg.s.sig.length ∨ ∀ a, m'.sg.A = some a → w.heap.size ≤ a.block
  path : m'.sg.B = m.sg.B ∧ m'.sg.s.path = m.sg.s.path
  way : m'.C = m.C ∧ m'.a.path.length = m.a.path.length ∨ ∀ a, m'.C = some a → w.heap.size ≤ a.block
def anFM (m : AnM) : Nat → Value := anF m.sg m.C m.a.path.length m.cc m.a.leaf m.a.opening m.a.value
/-- Where the answer's box and the result lie, and what is in them. -/
structure SpAt (w wz : World) (m m' : AnM) (a' : Answ) : Prop where
  box : Holds wz w.heap.size 11 (anFM m') 65
  res : Holds wz (w.heap.size + 1) 11 noAnF 65
  below : Below w.heap.size w wz
  is : AnIn wz m' a'
  near : AnNear w m m'
  ga : ∀ a, m'.sg.A = some a → 0 < m'.sg.s.sig.length → a.block ≠ w.heap.size + 1
  gb : ∀ a, m'.sg.B = some a → 0 < m'.sg.s.path.length → a.block ≠ w.heap.size + 1
  gc : ∀ a, m'.C = some a → 0 < m'.a.path.length → a.block ≠ w.heap.size + 1
theorem Holds.one {w : World} {b n : Nat} {f g : Nat → Value} {t : TypeId} (h : Holds w b n f t) (i : Nat) (v : Value) (hg : ∀ j, j < n → upd f i v j = g j) : Holds (w.setCell ⟨b, i, none⟩ v) b n g t := (h.set i v).congr hg
theorem Strs.box {w : World} {A : Option Addr} {L : List ByteArray} (h : Strs w A L) {q : Nat} (hq : ∀ a, A = some a → 0 < L.length → a.block ≠ q) (i : Nat) (v : Value) : Strs (w.setCell ⟨q, i, none⟩ v) A L := fun j p hp => by
  obtain ⟨a, ha, hl, hc⟩ := h j p hp
  have := hq a ha (by have := (List.getElem?_eq_some_iff.1 hp).1; omega)
  exact ⟨a, ha, by simpa [World.setCell] using hl, (World.cell?_of_block (w := w) (a := a.add j) (by rw [block_add]; exact Below.heap_setCell _ _ _ _ (show a.block ≠ q by omega))).trans hc⟩
structure SpZ (q : Nat) (a : Addr) (n ca : Nat) (s : ByteArray) where
  at' : World
  h0 : at'.cell? ⟨q, 4, none⟩ = some (.slice (some a) n ca)
  h1 : at'.cell? (a.add 0) = some (.string s)
  h2 : at'.cell? a = some (.string s)
theorem Strs.lt {w : World} {A : Option Addr} {L : List ByteArray} (h : Strs w A L) : ∀ a, A = some a → 0 < L.length → a.block < w.heap.size := fun a ha hl => by
  obtain ⟨a', e, hlt, _⟩ := h 0 _ (List.getElem?_eq_getElem hl)
  rw [ha] at e
  obtain rfl := Option.some.inj e
  exact hlt
end Go.Proofs.YtcfpmofmjnhonaaGreatDoor
/- How great what a directory tells may be, spoilt or not. -/
namespace Go.Proofs.YtcfpmofmjnhonaaGreatDoor
open Go.RowKit

structure SgnDim (s : Sgn) : Prop where
  ep : s.head.epoch < 9223372036854775808
  sig : s.sig.length ≤ 35
  path : s.path.length ≤ 3
  sz : ∀ p ∈ s.sig, p.size ≤ 16
  root : s.head.root.size ≤ 16
theorem noSgn_dim : SgnDim noSgn := ⟨by show (0 : Int) < _; decide, by show 0 ≤ 35; omega, by show 0 ≤ 3; omega, (fun p hp => by cases hp), by show 0 ≤ 16; omega⟩
theorem wrap64_lt (n : Int) : wrap64 n < 9223372036854775808 := by unfold wrap64; omega
theorem next_dim (L : List Hd) (root : ByteArray) (hr : root.size ≤ 16) : (nextAns L root).1.epoch < 9223372036854775808 ∧ (nextAns L root).1.root.size ≤ 16 := by
  have no : noHd.epoch < 9223372036854775808 ∧ noHd.root.size ≤ 16 := ⟨by show (0 : Int) < _; decide, by show 0 ≤ 16; omega⟩
  unfold nextAns nextHd
  cases L.getLast? with
  | none =>
    simp only []
    split
    · exact ⟨by show (1 : Int) < _; decide, hr⟩
    · exact no
  | some h =>
    simp only []
    split
    · exact no
    · rename_i x hx
      split at hx
      · obtain rfl := Option.some.inj hx
        split
        · exact ⟨wrap64_lt _, hr⟩
        · exact no
      · cases hx
theorem sign_len (seed : ByteArray) (key : Int) (m : ByteArray) : (signAns seed key m).1.length ≤ 35 ∧ ∀ p ∈ (signAns seed key m).1, p.size ≤ 16 := by
  unfold signAns
  split
  · refine ⟨by show (signChains seed key m 35).length ≤ 35; unfold signChains; simp, fun p hp => ?_⟩
    have hp : p ∈ signChains seed key m 35 := hp
    unfold signChains at hp
    obtain ⟨c, _, rfl⟩ := List.mem_map.1 hp
    rw [along_size _ _ _ _ (seedOf_size _ _ _)]
    exact Nat.le_refl _
  · exact ⟨by show 0 ≤ 35; omega, fun p hp => by cases hp⟩
theorem sign_dim (secret : ByteArray) (n : Nat) (h : Hd) (he : h.epoch < 9223372036854775808) (hr : h.root.size ≤ 16) : SgnDim (signOf secret n h) := by
  have hs := sign_len (dirSeed secret) (n : Int) (headMarkAns h).1
  have hp : (sealPath (dirSeed secret) ((n : Int)).toNat 3).length ≤ 3 := by unfold sealPath; simp
  unfold signOf
  unfold sealAns
  split
  · split
    · exact ⟨he, hs.1, hp, hs.2, hr⟩
    · exact ⟨he, by show 0 ≤ 35; omega, by show 0 ≤ 3; omega, (fun p hp => by cases hp), hr⟩
  · exact ⟨he, by show 0 ≤ 35; omega, by show 0 ≤ 3; omega, (fun p hp => by cases hp), hr⟩
theorem root_dim (L : List It) : (rootAns L).1.size ≤ 16 := by
  unfold rootAns
  split
  · rw [show (rootOf L).size = 16 from nodeOf_size _ _ _]; exact Nat.le_refl _
  · show 0 ≤ 16; omega
theorem nextSgn_dim (d : Dst) : SgnDim (nextSgn d) := by
  unfold nextSgn
  have h := next_dim (d.eps.map (·.head)) (rootAns (itemsOf (settled d))).1 (root_dim _)
  exact sign_dim _ _ _ h.1 h.2
def EpsDim (d : Dst) : Prop := ∀ s ∈ d.eps, SgnDim s
structure AnsDim (a : Answ) : Prop where
  sgn : SgnDim a.sgn
  way : a.path.length ≤ 128
  leaf : a.leaf.2.size ≤ 16
  op : a.opening.size ≤ 16
  val : a.value.size ≤ 24
  leaf0 : a.leaf.1.size ≤ 16
theorem prove_dim (L : List It) (ix : ByteArray) : (proveAns L ix).1.length ≤ 128 ∧ (proveAns L ix).2.1.2.size ≤ 16 ∧ (proveAns L ix).2.1.1.size ≤ 16 := by
  by_cases h : rightItems L = true ∧ ix.size = 16
  · obtain ⟨P, x, hp⟩ : ∃ P x, proveAns L ix = (P, x, 0) := by
      unfold proveAns
      rw [if_pos h]
      exact ⟨_, _, rfl⟩
    obtain ⟨_, _, h3⟩ := asked h.1 h.2 hp
    rw [hp]
    refine ⟨by have := h3.few; simpa using this, ?_⟩
    rcases h3.leaf with e | ⟨hx, _⟩
    · show x.2.size ≤ 16 ∧ x.1.size ≤ 16
      rw [e]; exact ⟨by show 0 ≤ 16; omega, by show 0 ≤ 16; omega⟩
    · have := right_sizes h.1 x hx
      show x.2.size ≤ 16 ∧ x.1.size ≤ 16
      omega
  · unfold proveAns
    rw [if_neg h]
    exact ⟨by show 0 ≤ 128; omega, by show 0 ≤ 16; omega, by show 0 ≤ 16; omega⟩
theorem found_dim {d : Dst} (h : DOk d) (he : EpsDim d) (name : ByteArray) : AnsDim (lookupAns d name).1 := by
  have no : AnsDim noAnsw := ⟨noSgn_dim, by show 0 ≤ 128; omega, by show 0 ≤ 16; omega, by show 0 ≤ 16; omega, by show 0 ≤ 24; omega, by show 0 ≤ 16; omega⟩
  unfold lookupAns
  split
  · split
    · exact no
    · rename_i h0
      have hp := prove_dim (itemsOf d) (ofAns name).1
      refine ⟨?_, hp.1, hp.2.1, ?_, ?_, hp.2.2⟩
      · show SgnDim (lastSgn d)
        unfold lastSgn
        rw [List.getD_eq_getElem?_getD, List.getElem?_eq_getElem (show d.eps.length - 1 < d.eps.length by omega)]
        exact he _ (List.getElem_mem _)
      · show (if (look d.vals name).isSome then openOf d name else (⟨#[]⟩ : ByteArray)).size ≤ 16
        split
        · rw [open_size]; exact Nat.le_refl _
        · show 0 ≤ 16; omega
      · show ((look d.vals name).getD (⟨#[]⟩ : ByteArray)).size ≤ 24
        cases e : look d.vals name with
        | none => show 0 ≤ 24; omega
        | some v => exact (h.vn _ (look_mem e)).2.2
  · exact no
/-- Bounds that hold of it, spoilt. -/
structure SpDim (a : Answ) : Prop where
  ep : a.sgn.head.epoch < 9223372036854775808
  sig : a.sgn.sig.length ≤ 35
  path : a.sgn.path.length ≤ 3
  way : a.path.length ≤ 129
  op : a.opening.size ≤ 16
  val : a.value.size ≤ 24
  l1 : a.leaf.1.size ≤ 16
  l2 : a.leaf.2.size ≤ 16
theorem AnsDim.sp {a : Answ} (h : AnsDim a) : SpDim a := ⟨h.sgn.ep, h.sgn.sig, h.sgn.path, by have := h.way; omega, h.op, h.val, h.leaf0, h.leaf⟩
end Go.Proofs.YtcfpmofmjnhonaaGreatDoor
/- What a program's directory answers: the document's, of items that are right whatever is put: where two names lie at one place it keeps them its own way. -/
namespace Go.Proofs.YtcfpmofmjnhonaaGreatDoor
open Go.RowKit

/-- The items that a directory keeps: right, and the document's where those are. -/
structure Pub where
  its : Dst → List It
  free : ∀ (d : Dst) (W : List (ByteArray × ByteArray)) (E : List Sgn), its { d with wait := W, eps := E } = its d
  good : ∀ {d : Dst}, DOk d → rightItems (its d) = true
  right : ∀ {d : Dst}, DOk d → rightItems (itemsOf d) = true → its d = itemsOf d
def Pub.sgn (pa : Pub) (d : Dst) : Sgn := sgnOf d (rootOf (pa.its (settled d)))
def Pub.next (pa : Pub) (d : Dst) : Dst := { settled d with eps := d.eps ++ [pa.sgn d] }
/-- What Publish leaves, and tells. -/
def Pub.f (pa : Pub) (d : Dst) : Dst × Sgn × Int := if d.eps.length < 8 then (pa.next d, pa.sgn d, 0) else (d, noSgn, 12)
def Pub.found (pa : Pub) (d : Dst) (name ix : ByteArray) : Answ :=
  ⟨lastSgn d, (proveAns (pa.its d) ix).1, (proveAns (pa.its d) ix).2.1, if (look d.vals name).isSome then openOf d name else ⟨#[]⟩, (look d.vals name).getD ⟨#[]⟩⟩
/-- What Lookup tells. -/
def Pub.tells (pa : Pub) (d : Dst) (name : ByteArray) : Answ × Int :=
  if nameOk name.data.toList = true then (if d.eps.length = 0 then (noAnsw, 6) else (pa.found d name (ofAns name).1, 0)) else (noAnsw, 5)
theorem pushed_ok {d : Dst} (h : DOk d) (he : d.eps.length < 8) (x : Sgn) : DOk { settled d with eps := d.eps ++ [x] } := by
  have k := publishAns_ok h
  unfold publishAns at k
  rw [if_pos he] at k
  exact {
    secret := k.secret
    wk := k.wk
    vk := k.vk
    sk := k.sk
    wn := k.wn
    vn := k.vn
    same := k.same
    epoch := fun s n hn => by
      have := k.epoch s n hn
      simp only [List.length_append, List.length_singleton] at this ⊢
      exact this
    few := by
      have := k.few
      simp only [List.length_append, List.length_singleton] at this ⊢
      exact this
    room := k.room }
theorem Pub.its_next (pa : Pub) (d : Dst) (E : List Sgn) : pa.its { settled d with eps := E } = pa.its (settled d) := pa.free (settled d) [] E
theorem Pub.next_good (pa : Pub) {d : Dst} (h : DOk d) (he : d.eps.length < 8) : rightItems (pa.its (settled d)) = true := by
  rw [← pa.its_next d (d.eps ++ [noSgn])]
  exact pa.good (pushed_ok h he noSgn)
theorem Pub.next_ok (pa : Pub) {d : Dst} (h : DOk d) (he : d.eps.length < 8) : DOk (pa.next d) := pushed_ok h he _
theorem Pub.cases (pa : Pub) (d : Dst) : (d.eps.length < 8 ∧ pa.f d = (pa.next d, pa.sgn d, 0)) ∨ pa.f d = (d, noSgn, 12) := by
  by_cases h : d.eps.length < 8
  · exact .inl ⟨h, if_pos h⟩
  · exact .inr (if_neg h)
theorem Pub.ok (pa : Pub) {d : Dst} (h : DOk d) : DOk (pa.f d).1 := by
  rcases pa.cases d with ⟨he, e⟩ | e <;> rw [e]
  · exact pa.next_ok h he
  · exact h
theorem Pub.bad (pa : Pub) {d d' : Dst} {sg : Sgn} {n : Int} (h : pa.f d = (d', sg, n)) (hn : n ≠ 0) : d' = d ∧ sg = noSgn := by
  rcases pa.cases d with ⟨_, e⟩ | e <;> rw [e] at h
  · obtain ⟨_, h2⟩ := Prod.mk.inj h
    exact absurd (Prod.mk.inj h2).2.symm hn
  · obtain ⟨h1, h2⟩ := Prod.mk.inj h
    exact ⟨h1.symm, (Prod.mk.inj h2).1.symm⟩
theorem settled_right {d : Dst} (h : DOk d) (he : d.eps.length < 8) (hp : Parted (keysL (settled d).vals)) : rightItems (itemsOf (settled d)) = true :=
  items_right (d := { settled d with eps := d.eps ++ [noSgn] }) (pushed_ok h he noSgn) hp
theorem Pub.its_plain (pa : Pub) {d : Dst} (h : DOk d) (hp : Parted (keysL d.vals)) : pa.its d = itemsOf d := pa.right h (items_right h hp)
theorem Pub.next_plain (pa : Pub) {d : Dst} (h : DOk d) (he : d.eps.length < 8) (hp : Parted (keysL (settled d).vals)) : pa.its (settled d) = itemsOf (settled d) := by
  rw [← pa.its_next d (d.eps ++ [noSgn])]
  have hr : rightItems (itemsOf (settled d)) = true := settled_right h he hp
  exact pa.right (pushed_ok h he noSgn) hr
/-- Where no two names lie at one place it is the document's. -/
theorem Pub.f_plain (pa : Pub) {d : Dst} (h : DOk d) (hp : Parted (keysL (settled d).vals)) : pa.f d = publishAns d := by
  by_cases he : d.eps.length < 8
  · have hroot : (rootAns (itemsOf (settled d))).1 = rootOf (itemsOf (settled d)) := by unfold rootAns; rw [if_pos (settled_right h he hp)]
    have hsg : pa.sgn d = nextSgn d := by
      unfold Pub.sgn
      rw [pa.next_plain h he hp, ← hroot]
      rfl
    unfold Pub.f publishAns Pub.next
    rw [if_pos he, if_pos he, hsg]
  · unfold Pub.f publishAns
    rw [if_neg he, if_neg he]
theorem Pub.tells_plain (pa : Pub) {d : Dst} (h : DOk d) (hp : Parted (keysL d.vals)) (name : ByteArray) : pa.tells d name = lookupAns d name := by
  unfold Pub.tells lookupAns Pub.found foundAns
  rw [pa.its_plain h hp]
theorem Pub.sgn_dim (pa : Pub) (d : Dst) : SgnDim (pa.sgn d) := by
  unfold Pub.sgn sgnOf
  have h := next_dim (d.eps.map (·.head)) (rootOf (pa.its (settled d))) (by rw [show (rootOf (pa.its (settled d))).size = 16 from nodeOf_size _ _ _]; exact Nat.le_refl _)
  exact sign_dim _ _ _ h.1 h.2
theorem Pub.f_dim (pa : Pub) {d : Dst} (h : EpsDim d) : EpsDim (pa.f d).1 := by
  rcases pa.cases d with ⟨_, e⟩ | e <;> rw [e]
  · intro s hs
    rcases List.mem_append.1 hs with h1 | h1
    · exact h s h1
    · rw [List.mem_singleton.1 h1]; exact pa.sgn_dim d
  · exact h
theorem Pub.tells_dim (pa : Pub) {d : Dst} (h : DOk d) (he : EpsDim d) (name : ByteArray) : AnsDim (pa.tells d name).1 := by
  have no : AnsDim noAnsw := ⟨noSgn_dim, by show 0 ≤ 128; omega, by show 0 ≤ 16; omega, by show 0 ≤ 16; omega, by show 0 ≤ 24; omega, by show 0 ≤ 16; omega⟩
  unfold Pub.tells
  split
  · split
    · exact no
    · rename_i h0
      have hp := prove_dim (pa.its d) (ofAns name).1
      refine ⟨?_, hp.1, hp.2.1, ?_, ?_, hp.2.2⟩
      · show SgnDim (lastSgn d)
        unfold lastSgn
        rw [List.getD_eq_getElem?_getD, List.getElem?_eq_getElem (show d.eps.length - 1 < d.eps.length by omega)]
        exact he _ (List.getElem_mem _)
      · show (if (look d.vals name).isSome then openOf d name else (⟨#[]⟩ : ByteArray)).size ≤ 16
        split
        · rw [open_size]; exact Nat.le_refl _
        · show 0 ≤ 16; omega
      · show ((look d.vals name).getD (⟨#[]⟩ : ByteArray)).size ≤ 24
        cases e : look d.vals name with
        | none => show 0 ≤ 24; omega
        | some v => exact (h.vn _ (look_mem e)).2.2
  · exact no
/-- Whatever is there, its next epoch is the next of the chain. -/
theorem Pub.next_linked (pa : Pub) {d : Dst} (hc : Chained d) (he : d.eps.length < 8) : Chained (pa.next d) ∧ (pa.sgn d).head.root = rootOf (pa.its (settled d)) :=
  push_linked hc he (nodeOf_size _ _ _)
theorem Pub.linked (pa : Pub) {d : Dst} (hc : Chained d) : Chained (pa.f d).1 := by
  rcases pa.cases d with ⟨he, e⟩ | e <;> rw [e]
  · exact (pa.next_linked hc he).1
  · exact hc
/-- The last epoch's root is that of what is there. -/
def Lasts (pa : Pub) (d : Dst) : Prop := d.eps ≠ [] → (lastSgn d).head.root = rootOf (pa.its d)
theorem Pub.lasts (pa : Pub) {d : Dst} (hc : Chained d) (hl : Lasts pa d) : Lasts pa (pa.f d).1 := by
  rcases pa.cases d with ⟨he, e⟩ | e <;> rw [e]
  · intro _
    show (lastSgn { settled d with eps := d.eps ++ [pa.sgn d] }).head.root = rootOf (pa.its { settled d with eps := d.eps ++ [pa.sgn d] })
    rw [pa.its_next, show lastSgn { settled d with eps := d.eps ++ [pa.sgn d] } = pa.sgn d from lastSgn_snoc (settled d) (pa.sgn d)]
    exact (pa.next_linked hc he).2
  · exact hl
theorem put_lasts {pa : Pub} {d : Dst} (h : Lasts pa d) (name value : ByteArray) : Lasts pa (putAns d name value).1 := by
  unfold putAns
  repeat' split
  all_goals first
    | exact h
    | (intro he
       show (lastSgn d).head.root = rootOf (pa.its { d with wait := ups d.wait name value, eps := d.eps })
       rw [pa.free]
       exact h he)
end Go.Proofs.YtcfpmofmjnhonaaGreatDoor
