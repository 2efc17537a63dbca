/- Of, Bit and Common, of the program and of the document, each by one answer: a value and the number of an error. -/
import Derived.Test.YthbfmdgnhipobaaDoorIndex2
import Derived.Test.YthbfmdgnhipobaaDoorRMark
import Derived.Test.YthbfmdgnhipobaaDoorTellErr
namespace Go.Proofs.YthbfmdgnhipobaaDoor
open Go.RowKit

/-- An error is this number, without a place. -/
theorem bare_any (m n : Int) (w : World) (hg : w.cell? ⟨1, 0, none⟩ = some (.iface 100 (.agg #[hand 29]))) :
    Calls Tryd.prog 9 #[errOf m, .int .i64 n] w fun e w' => e = .returned (.bool (decide (m = n))) ∧ Below w.heap.size w w' := by
  by_cases h : m = 0
  · subst h
    refine (bare_nil n w).mono ?_
    rintro e w' ⟨rfl, rfl⟩
    refine ⟨?_, Below.refl _ _⟩
    congr 2
    simp only [decide_eq_decide]
    omega
  · unfold errOf
    rw [if_neg h]
    exact bare_errno m n w hg
theorem bare_same (n : Int) (w : World) (hg : w.cell? ⟨1, 0, none⟩ = some (.iface 100 (.agg #[hand 29]))) :
    Calls Tryd.prog 9 #[errOf n, .int .i64 n] w fun e w' => e = .returned (.bool true) ∧ Below w.heap.size w w' :=
  (bare_any n n w hg).mono fun e w' ⟨he, hb⟩ => ⟨by rw [he]; simp, hb⟩

def ofAns (name : ByteArray) : ByteArray × Int := if nameOk name.data.toList then (markOf 105 [name], 0) else (⟨#[]⟩, 5)
def bitAns (ix : ByteArray) (k : Int) : Int × Int := if ix.size = 16 then (if 0 ≤ k ∧ k ≤ 127 then (((bitOf ix.data.toList k.toNat : Nat) : Int), 0) else (0, 2)) else (0, 1)
def comAns (a b : ByteArray) : Int × Int := if a.size = 16 ∧ b.size = 16 then (((commonOf a.data.toList b.data.toList : Nat) : Int), 0) else (0, 1)

theorem ixBit_is (ix : ByteArray) (k x n : Int) (w : World) (h : bitAns ix k = (x, n)) :
    Calls Tryd.prog 13 #[.string ix, .int .i64 k] w fun e w' => e = .returned (.tuple #[.int .i64 x, errOf n]) ∧ w' = w := by
  refine (ixBit_any ix k w).mono ?_
  rintro e w' ⟨rfl, rfl⟩
  refine ⟨?_, rfl⟩
  unfold bitAns at h
  by_cases h16 : ix.size = 16
  · rw [if_pos h16] at h ⊢
    by_cases hk : 0 ≤ k ∧ k ≤ 127
    · rw [if_pos hk] at h ⊢; cases h; rfl
    · rw [if_neg hk] at h ⊢; cases h; rfl
  · rw [if_neg h16] at h ⊢; cases h; rfl
theorem refBit_is (ix : ByteArray) (k x n : Int) (w : World) (h : bitAns ix k = (x, n)) :
    Calls Tryd.prog 12 #[.string ix, .int .i64 k] w fun e w' => e = .returned (.tuple #[.int .i64 x, .int .i64 n]) ∧ w' = w := by
  refine (refBit_any ix k w).mono ?_
  rintro e w' ⟨rfl, rfl⟩
  refine ⟨?_, rfl⟩
  unfold bitAns at h
  by_cases h16 : ix.size = 16
  · rw [if_pos h16] at h ⊢
    by_cases hk : 0 ≤ k ∧ k ≤ 127
    · rw [if_pos hk] at h ⊢; cases h; rfl
    · rw [if_neg hk] at h ⊢; cases h; rfl
  · rw [if_neg h16] at h ⊢; cases h; rfl
theorem ixCommon_is (a b : ByteArray) (x n : Int) (w : World) (h : comAns a b = (x, n)) :
    Calls Tryd.prog 15 #[.string a, .string b] w fun e w' => e = .returned (.tuple #[.int .i64 x, errOf n]) ∧ w' = w := by
  refine (ixCommon_any a b w).mono ?_
  rintro e w' ⟨rfl, rfl⟩
  refine ⟨?_, rfl⟩
  unfold comAns at h
  by_cases h16 : a.size = 16 ∧ b.size = 16
  · rw [if_pos h16] at h ⊢; cases h; rfl
  · rw [if_neg h16] at h ⊢; cases h; rfl
theorem refCommon_is (a b : ByteArray) (x n : Int) (w : World) (h : comAns a b = (x, n)) :
    Calls Tryd.prog 14 #[.string a, .string b] w fun e w' => e = .returned (.tuple #[.int .i64 x, .int .i64 n]) ∧ w' = w := by
  refine (refCommon_any a b w).mono ?_
  rintro e w' ⟨rfl, rfl⟩
  refine ⟨?_, rfl⟩
  unfold comAns at h
  by_cases h16 : a.size = 16 ∧ b.size = 16
  · rw [if_pos h16] at h ⊢; cases h; rfl
  · rw [if_neg h16] at h ⊢; cases h; rfl

/-- One text in a block that was made just now. -/
theorem one_part (name : ByteArray) (w : World) : ∀ (i : Nat) p, ([name] : List ByteArray)[i]? = some p → ∃ a, some (⟨w.heap.size, 0, none⟩ : Addr) = some a ∧ a.block < (w.alloc (.cells #[.string name] 9)).heap.size ∧ (w.alloc (.cells #[.string name] 9)).cell? (a.add i) = some (.string p) := by
  intro i p hp
  match i, hp with
  | 0, hp =>
    simp at hp; subst hp
    refine ⟨_, rfl, by simp, ?_⟩
    rw [show (⟨w.heap.size, 0, none⟩ : Addr).add 0 = ⟨w.heap.size, 0, none⟩ by simp [Addr.add]]
    exact (Holds.new w 1 (fun _ => .string name) 9).cell 0 (by omega)
theorem nameOk_size (s : ByteArray) (h : nameOk s.data.toList = true) : s.size ≤ 12 := by
  unfold nameOk at h
  simp at h
  exact h.2.2
theorem HasK.alloc {w : World} (h : HasK w) (o : Obj) : HasK (w.alloc o) := h.below ((Below.refl w.heap.size w).alloc (Nat.le_refl _) o) h.lt
set_option maxRecDepth 100000 in
theorem of_is (name x : ByteArray) (n : Int) (w : World) (hk : HasK w) (h : ofAns name = (x, n)) :
    Calls Tryd.prog 8 #[.string name] w fun e w' => e = .returned (.tuple #[.string x, errOf n]) ∧ Below w.heap.size w w' := by
  unfold ofAns at h
  by_cases hn : nameOk name.data.toList = true
  · rw [if_pos hn] at h
    cases h
    have hsz := nameOk_size name hn
    have HN := Lib.hid hn
    have HK := Lib.hid hk
    clear hn hk
    go_enter Tryd.func8, Tryd.ntmps8
    go_wp2_with fail
    refine (name_any name _).mono ?_
    rintro e w1 ⟨rfl, rfl⟩
    rw [HN.out]
    go_wp2_with fail
    refine (mark_any 105 [name] (some ⟨w1.heap.size, 0, none⟩) 1 _ (HK.out.alloc _) (by simp [total]; omega) (by simp) (one_part name w1)).mono ?_
    rintro e w2 ⟨rfl, hb⟩
    have HB := Lib.hid hb
    clear hb
    go_wp2
    refine bodyPost_ret (results_tmp2 rfl _ _ _) rfl ?_
    exact ⟨rfl, ((Below.refl _ _).alloc (Nat.le_refl _) _).trans (HB.out.mono (by simp))⟩
  · rw [if_neg hn] at h
    cases h
    have hn' : nameOk name.data.toList = false := by simpa using hn
    have HN := Lib.hid hn'
    clear hn hn' hk
    go_enter Tryd.func8, Tryd.ntmps8
    go_wp2_with fail
    refine (name_any name _).mono ?_
    rintro e w1 ⟨rfl, rfl⟩
    rw [HN.out]
    go_wp2
    refine bodyPost_ret (results_tmp2 rfl _ _ _) rfl ?_
    exact ⟨rfl, Below.refl _ _⟩
set_option maxRecDepth 100000 in
theorem refOf_is (b : Nat) (name x : ByteArray) (n : Int) (w : World) (hr : Holds w b 72 refCells 46) (hs : name.size ≤ 1000000) (h : ofAns name = (x, n)) :
    Calls Tryd.prog 7 #[.pointer (some ⟨b, 0, none⟩), .string name] w fun e w' => e = .returned (.tuple #[.string x, .int .i64 n]) ∧ Below w.heap.size w w' := by
  unfold ofAns at h
  by_cases hn : nameOk name.data.toList = true
  · rw [if_pos hn] at h
    cases h
    have hsz := nameOk_size name hn
    have HN := Lib.hid hn
    have HR := Lib.hid hr
    clear hn hr
    go_enter Tryd.func7, Tryd.ntmps7
    go_wp2_with fail
    refine (refName_any name _ hs).mono ?_
    rintro e w1 ⟨rfl, rfl⟩
    rw [HN.out]
    go_wp2_with fail
    refine (refMark_any b 105 [name] (some ⟨w1.heap.size, 0, none⟩) 1 _ (HR.out.alloc _) (by simp [total]; omega) (by simp) (one_part name w1)).mono ?_
    rintro e w2 ⟨rfl, hb⟩
    have HB := Lib.hid hb
    clear hb
    go_wp2
    refine bodyPost_ret (results_tmp2 rfl _ _ _) rfl ?_
    exact ⟨rfl, ((Below.refl _ _).alloc (Nat.le_refl _) _).trans (HB.out.mono (by simp))⟩
  · rw [if_neg hn] at h
    cases h
    have hn' : nameOk name.data.toList = false := by simpa using hn
    have HN := Lib.hid hn'
    clear hn hn' hr
    go_enter Tryd.func7, Tryd.ntmps7
    go_wp2_with fail
    refine (refName_any name _ hs).mono ?_
    rintro e w1 ⟨rfl, rfl⟩
    rw [HN.out]
    go_wp2
    refine bodyPost_ret (results_tmp2 rfl _ _ _) rfl ?_
    exact ⟨rfl, Below.refl _ _⟩
end Go.Proofs.YthbfmdgnhipobaaDoor
