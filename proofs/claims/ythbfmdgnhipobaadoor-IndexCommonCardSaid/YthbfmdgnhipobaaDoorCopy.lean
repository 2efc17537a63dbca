/- The built-in copy from a text, and clear, into a block that is known whole. No program is imported. -/
import Derived.Test.YthbfmdgnhipobaaDoorArr
import Derived.Laws.CopyRow
import Derived.Deep.RegionLaw
namespace Go.Proofs.YthbfmdgnhipobaaDoor
open Go.RowKit

/-- Values laid over a function from a place on. -/
def over (f : Nat → Value) (o : Nat) (vs : List Value) : Nat → Value := fun i => if o ≤ i ∧ i < o + vs.length then vs.getD (i - o) undef else f i
theorem arr_over (n : Nat) (f : Nat → Value) (o : Nat) (vs : List Value) (h : o + vs.length ≤ n) : ((arr n f).toList.take o ++ vs ++ (arr n f).toList.drop (o + vs.length)).toArray = arr n (over f o vs) := by
  unfold arr
  congr 1
  apply List.ext_getElem
  · simp; omega
  · intro i h1 h2
    simp at h2
    simp only [List.getElem_map, List.getElem_range, over]
    by_cases a : i < o
    · rw [if_neg (by omega), List.getElem_append_left (by simp; omega), List.getElem_append_left (by simp; omega)]
      simp
    · by_cases b : i < o + vs.length
      · rw [if_pos ⟨by omega, b⟩, List.getElem_append_left (by simp; omega), List.getElem_append_right (by simp; omega)]
        simp only [List.length_take, List.length_map, List.length_range, show min o n = o from by omega]
        rw [List.getD_eq_getElem?_getD, List.getElem?_eq_getElem (by omega)]
        simp only [Option.getD_some]
      · rw [if_neg (by omega), List.getElem_append_right (by simp; omega)]
        simp only [List.getElem_drop, List.getElem_map, List.getElem_range]
        congr 1
        simp; omega
theorem run_store_over {P : Program} {w : World} {g n : Nat} {f : Nat → Value} {t : TypeId} (h : Holds w g n f t) (o : Nat) (vs : List Value) (hfit : o + vs.length ≤ n) (h1 : ∀ v ∈ vs, v.oneCell' = true) :
    (storeCells ⟨g, o, none⟩ vs 0).run P w = .ok () (w.setRow g (arr n (over f o vs))) := by
  have := run_storeCells_at P g o t vs 0 (arr n f) w h (by rw [arr_size]; omega) h1
  simp only [Nat.add_zero] at this
  rw [this, arr_over n f o vs hfit]
/-- A text's bytes as cells. -/
def bcells (l : List UInt8) : List Value := l.map fun b => Value.int .u8 b.toNat
theorem bcells_one (l : List UInt8) : ∀ v ∈ bcells l, v.oneCell' = true := by
  intro v hv; simp only [bcells, List.mem_map] at hv; obtain ⟨b, _, rfl⟩ := hv; rfl
theorem bcells_length (l : List UInt8) : (bcells l).length = l.length := by simp [bcells]
theorem size_len (s : ByteArray) : s.data.toList.length = s.size := by simp

theorem run_copy_text {P : Program} {w : World} {g n : Nat} {f : Nat → Value} {t : TypeId} (h : Holds w g n f t) (dT sT ty elem : TypeId) (o dLen dCap : Nat) (s : ByteArray)
    (hu : P.underlying dT = some (.slice elem)) (hs : (P.info? elem).map (·.size) = some 1) (hfit : o + min s.size dLen ≤ n) :
    (Builtin.copy_ #[dT, sT] ty #[.slice (some ⟨g, o, none⟩) dLen dCap, .string s]).run P w =
      .ok (goInt ((min s.size dLen : Nat) : Int)) (w.setRow g (arr n (over f o (bcells (s.data.toList.take (min s.size dLen)))))) := by
  have hlen : (bcells (s.data.toList.take (min s.size dLen))).length = min s.size dLen := by rw [bcells_length, List.length_take, size_len]; omega
  have hst := run_store_over (P := P) h o (bcells (s.data.toList.take (min s.size dLen))) (by omega) (bcells_one _)
  have hmin : Nat.min s.size dLen = min s.size dLen := rfl
  cases hq : P.info? elem with
  | none => simp [hq] at hs
  | some i =>
    simp [Builtin.copy_, run_underlying hu, Builtin.lenOf, Builtin.firstCells, sizeOf, typeInfo, hq, hmin]
    have e : List.map (fun b : UInt8 => Value.int IntKind.u8 (b.toNat : Int)) (s.data.toList.take (min s.size dLen)) = bcells (s.data.toList.take (min s.size dLen)) := rfl
    rw [← List.map_take] at *
    first | rw [e, hst] | (rw [hst])
    simp [Result.andThen]

theorem run_clear_over {P : Program} {w : World} {g n : Nat} {f : Nat → Value} {t : TypeId} (h : Holds w g n f t) (dT ty elem : TypeId) (z : Value) (o dLen dCap : Nat)
    (hu : P.underlying dT = some (.slice elem)) (hz : ∀ w, (zeroValue elem).run P w = .ok z w) (hc : z.cells = #[z]) (h1 : z.oneCell' = true) (hfit : o + dLen ≤ n) :
    (Builtin.clear_ #[dT] ty #[.slice (some ⟨g, o, none⟩) dLen dCap]).run P w = .ok (.tuple #[]) (w.setRow g (arr n (over f o (List.replicate dLen z)))) := by
  have hst := run_store_over (P := P) h o (List.replicate dLen z) (by simp; omega) (by intro v hv; rw [(List.mem_replicate.1 hv).2]; exact h1)
  have hz0 : (Builtin.zeroCells #[z] dLen).toList = List.replicate dLen z := by
    apply List.ext_getElem
    · simp [Builtin.zeroCells]
    · intro i h1 h2; simp [Builtin.zeroCells, Nat.mod_one]
  cases dLen with
  | zero =>
    have e : arr n (over f o (List.replicate 0 z)) = arr n f := arr_congr (fun i _ => by unfold over; rw [if_neg (by simp)])
    rw [e]
    have : w.setRow g (arr n f) = w := setRow_self w g (arr n f) t (0, 0) h
    rw [this]
    simp [Builtin.clear_, run_underlying hu]
  | succ m =>
    simp [Builtin.clear_, run_underlying hu, hz, hc, hz0, hst]

/-- The copy as one step of a region that draws its order. -/
theorem step_copy_text {P : Program} {ops : Array Oper} {o : Oper} {a : Act} {w : World} {K : Act → World → Prop} {Q : Exit → Act → World → Prop} {E : Prop} (hgd : o.guard = none) (d s : Operand) (dT sT : TypeId)
    (ho : o.op = .call { callee := .builtin .copy, args := #[d, s], argTypes := #[dT, sT] }) (elem : TypeId) (hu : P.underlying dT = some (.slice elem)) (hsz : (P.info? elem).map (·.size) = some 1)
    (g n : Nat) (f : Nat → Value) (t : TypeId) (h : Holds w g n f t) (off dLen dCap : Nat) (x : ByteArray) (hd : a.eval d = .slice (some ⟨g, off, none⟩) dLen dCap) (hs : a.eval s = .string x)
    (m : Nat) (hm : min x.size dLen = m) (hfit : off + m ≤ n) (f' : Nat → Value) (hf : ∀ i, i < n → over f off (bcells (x.data.toList.take m)) i = f' i)
    (hK : ∀ w', Hid (But g w w') → Hid (Holds w' g n f' t) → K (a.put o.dst (.int .i64 (m : Int))) w') :
    if Region.wanted o (yielded ops a.tmps) = true then Oper.wp P o a w K Q else E := by
  have hw : Region.wanted o (yielded ops a.tmps) = true := by simp [Region.wanted, hgd]
  rw [if_pos hw]
  have hrun : (Builtin.copy_ #[dT, sT] o.type #[.slice (some ⟨g, off, none⟩) dLen dCap, .string x]).run P w = .ok (.int .i64 (m : Int)) (w.setRow g (arr n (over f off (bcells (x.data.toList.take m))))) := by
    have := run_copy_text (P := P) h dT sT o.type elem off dLen dCap x hu hsz (by rw [hm]; exact hfit)
    rw [hm] at this
    exact this
  unfold Oper.wp
  simp [execOp, ho, resolve, invoke, builtin, hd, hs, hrun, Result.andThen]
  exact hK _ ((But.refl g w).row _) ((h.row _).congr hf)
theorem wpList_copy_text {P : Program} {ops : Array Oper} {rest : List Oper} {o : Oper} {a : Act} {w : World} {Q : Exit → Act → World → Prop} (hgd : o.guard = none) (d s : Operand) (dT sT : TypeId)
    (ho : o.op = .call { callee := .builtin .copy, args := #[d, s], argTypes := #[dT, sT] }) (elem : TypeId) (hu : P.underlying dT = some (.slice elem)) (hsz : (P.info? elem).map (·.size) = some 1)
    (g n : Nat) (f : Nat → Value) (t : TypeId) (h : Holds w g n f t) (off dLen dCap : Nat) (x : ByteArray) (hd : a.eval d = .slice (some ⟨g, off, none⟩) dLen dCap) (hs : a.eval s = .string x)
    (m : Nat) (hm : min x.size dLen = m) (hfit : off + m ≤ n) (f' : Nat → Value) (hf : ∀ i, i < n → over f off (bcells (x.data.toList.take m)) i = f' i)
    (hK : ∀ w', Hid (But g w w') → Hid (Holds w' g n f' t) → wpList P ops Q rest (a.put o.dst (.int .i64 (m : Int))) w') :
    wpList P ops Q (o :: rest) a w := by
  refine wpList_plain hgd fun K hKK => ?_
  have hrun : (Builtin.copy_ #[dT, sT] o.type #[.slice (some ⟨g, off, none⟩) dLen dCap, .string x]).run P w = .ok (.int .i64 (m : Int)) (w.setRow g (arr n (over f off (bcells (x.data.toList.take m))))) := by
    have := run_copy_text (P := P) h dT sT o.type elem off dLen dCap x hu hsz (by rw [hm]; exact hfit)
    rw [hm] at this
    exact this
  unfold Oper.wp
  simp [execOp, ho, resolve, invoke, builtin, hd, hs, hrun, Result.andThen]
  exact hKK _ _ (hK _ ((But.refl g w).row _) ((h.row _).congr hf))
end Go.Proofs.YthbfmdgnhipobaaDoor
