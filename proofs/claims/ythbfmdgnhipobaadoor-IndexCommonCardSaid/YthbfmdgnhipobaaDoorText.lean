/- Texts out of blocks of bytes. No program is imported. -/
import Derived.Test.YthbfmdgnhipobaaDoorCopy
import Derived.Laws.BytesString
namespace Go.Proofs.YthbfmdgnhipobaaDoor
open Go.RowKit

/-- A text of these bytes. -/
def txt (l : List UInt8) : ByteArray := ⟨l.toArray⟩
theorem txt_list (l : List UInt8) : (txt l).data.toList = l := rfl
theorem txt_size (l : List UInt8) : (txt l).size = l.length := by rw [← size_len, txt_list]
theorem txt_of (s : ByteArray) : txt s.data.toList = s := by obtain ⟨⟨l⟩⟩ := s; rfl
theorem fold_push (l : List UInt8) : ∀ (r : ByteArray), ((l.map fun b : UInt8 => (b.toNat : Int)).foldl (fun (r : ByteArray) n => r.push (UInt8.ofNat n.toNat)) r) = txt (r.data.toList ++ l) := by
  induction l with
  | nil => intro r; simp [txt_of]
  | cons b l ih =>
    intro r
    simp only [List.map_cons, List.foldl_cons]
    rw [ih]
    congr 1
    obtain ⟨⟨x⟩⟩ := r
    simp [ByteArray.push]
theorem run_conv_text {P : Program} {w : World} {g n : Nat} {f : Nat → Value} {t : TypeId} (h : Holds w g n f t) (src dst e : TypeId)
    (hs : P.underlying src = some (.slice e)) (he : P.underlying e = some (.int .u8)) (hd : P.underlying dst = some .string)
    (l : List UInt8) (o k cap : Nat) (hl : l.length = k) (hfit : o + k ≤ n) (hf : ∀ i, i < k → f (o + i) = .int .u8 ((l.getD i 0).toNat : Int)) :
    (convert src dst (.slice (some ⟨g, o, none⟩) k cap)).run P w = .ok (.string (txt l)) w := by
  rw [run_convert_bytes_string w src dst e _ _ _ hs he hd]
  have hm : (l.map fun b : UInt8 => (b.toNat : Int)).map (Value.int .u8) = bcells l := by simp [bcells]
  have hload := run_loadCells_list (P := P) w ⟨g, o, none⟩ (bcells l) (fun j v hv => by
    have hj : j < k := by
      have := (List.getElem?_eq_some_iff.1 hv).1; rw [bcells_length] at this; omega
    have hadd : (⟨g, o, none⟩ : Addr).add j = ⟨g, o + j, none⟩ := by unfold Addr.add; split <;> simp_all
    rw [hadd, h.cell (o + j) (by omega), hf j hj, ← hv]
    have hjl : j < l.length := by omega
    simp [bcells, List.getD_eq_getElem?_getD, hjl])
  rw [bcells_length, hl, ← hm] at hload
  have := run_bytesToString (P := P) w ⟨g, o, none⟩ k cap _ hload
  rw [this, fold_push]
  rfl
/-- A struct or array put together, its cells said. -/
theorem wpList_build_as {P : Program} {ops : Array Oper} {rest : List Oper} {o : Oper} {a : Act} {w : World} {Q : Exit → Act → World → Prop} (hg : o.guard = none) (t : TypeId) (parts : Array (Nat × Operand)) (ho : o.op = .build t parts)
    (cs : Array Value) (hf : P.built t (parts.map fun (i, x) => (i, a.eval x)).toList = some cs)
    (h : wpList P ops Q rest (a.put o.dst (.agg cs)) w) : wpList P ops Q (o :: rest) a w :=
  wpList_build hg t parts ho (by rw [hf]; rfl) (by rw [hf]; exact h)
theorem wpList_clear_row {P : Program} {ops : Array Oper} {rest : List Oper} {o : Oper} {a : Act} {w : World} {Q : Exit → Act → World → Prop} (hgd : o.guard = none) (d : Operand) (dT : TypeId)
    (ho : o.op = .call { callee := .builtin .clear, args := #[d], argTypes := #[dT] }) (elem : TypeId) (hu : P.underlying dT = some (.slice elem)) (z : Value) (hz : ∀ w, (zeroValue elem).run P w = .ok z w) (hc : z.cells = #[z]) (h1 : z.oneCell' = true)
    (g n : Nat) (f : Nat → Value) (t : TypeId) (h : Holds w g n f t) (off len cap : Nat) (hd : a.eval d = .slice (some ⟨g, off, none⟩) len cap)
    (hfit : off + len ≤ n) (f' : Nat → Value) (hf : ∀ i, i < n → over f off (List.replicate len z) i = f' i)
    (hK : ∀ w', Hid (But g w w') → Hid (Holds w' g n f' t) → wpList P ops Q rest (a.put o.dst (.tuple #[])) w') :
    wpList P ops Q (o :: rest) a w := by
  refine wpList_plain hgd fun K hKK => ?_
  have hrun := run_clear_over (P := P) h dT o.type elem z off len cap hu hz hc h1 hfit
  unfold Oper.wp
  simp [execOp, ho, resolve, invoke, builtin, hd, hrun, Result.andThen]
  exact hKK _ _ (hK _ ((But.refl g w).row _) ((h.row _).congr hf))
end Go.Proofs.YthbfmdgnhipobaaDoor
