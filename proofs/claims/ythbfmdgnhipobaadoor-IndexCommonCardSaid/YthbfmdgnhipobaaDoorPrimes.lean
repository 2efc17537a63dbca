/- The document's numbers of rounds: primes. -/
import Derived.Test.YthbfmdgnhipobaaDoorAbove
namespace Go.Proofs.YthbfmdgnhipobaaDoor
open Go.RowKit

def i64s (l : List Nat) : List Value := l.map fun (n : Nat) => Value.int .i64 (n : Int)
theorem i64s_get (l : List Nat) (i : Nat) (h : i < l.length) : (i64s l)[i]? = some (.int .i64 ((l.getD i 0 : Nat) : Int)) := by simp [i64s, List.getD_eq_getElem?_getD, h]
theorem infoI64 : (Tryd.prog.info? 3).map (fun i => (i.zero, i.size, i.bytes)) = some (some (.int .i64 0), 1, 8) := by kernel_rfl
/-- The primes among the first so many numbers from 2. -/
def pl : Nat → List Nat
  | 0 => []
  | m + 1 => if (pl m).all (fun p => (m + 2) % p != 0) then pl m ++ [m + 2] else pl m
theorem pl_le (m : Nat) : (pl m).length ≤ (pl (m + 1)).length := by
  show _ ≤ (if _ then _ else _ : List Nat).length
  split <;> simp
theorem pl_mono {m n : Nat} (h : m ≤ n) : (pl m).length ≤ (pl n).length := by
  induction n with
  | zero => obtain rfl : m = 0 := by omega
            exact Nat.le_refl _
  | succ n ih =>
    by_cases hm : m = n + 1
    · subst hm; exact Nat.le_refl _
    · exact Nat.le_trans (ih (by omega)) (pl_le n)
theorem pl_length (m : Nat) : (pl m).length ≤ m := by
  induction m with
  | zero => exact Nat.le_refl _
  | succ m ih =>
    show (if _ then _ else _ : List Nat).length ≤ _
    split
    · simp; omega
    · omega
theorem pl_309 : (pl 309).length = 63 := by decide +kernel
theorem pl_310 : (pl 310).length = 64 := by decide +kernel
theorem pl_pos : ∀ (m i : Nat), i < (pl m).length → 2 ≤ (pl m).getD i 0 ∧ (pl m).getD i 0 ≤ m + 1
  | 0, i, h => by simp [pl] at h
  | m + 1, i, h => by
    have ih := pl_pos m i
    unfold pl at h ⊢
    split at h <;> rename_i hc
    · rw [if_pos hc]
      by_cases hi : i < (pl m).length
      · have := ih hi
        rw [List.getD_eq_getElem?_getD, List.getElem?_append_left hi, ← List.getD_eq_getElem?_getD]; omega
      · have : i = (pl m).length := by simp at h; omega
        subst this
        simp [List.getD_eq_getElem?_getD]
    · rw [if_neg hc]
      have := ih h; omega

/-- None of the first i divides. -/
def noneOf (l : List Nat) (K i : Nat) : Bool := (l.take i).all (fun p => K % p != 0)
theorem noneOf_next (l : List Nat) (K i : Nat) (h : i < l.length) : noneOf l K (i + 1) = (noneOf l K i && (K % l.getD i 0 != 0)) := by
  unfold noneOf
  rw [List.take_add_one, List.all_append, List.getElem?_eq_getElem h, List.getD_eq_getElem?_getD, List.getElem?_eq_getElem h]
  simp
theorem noneOf_all (l : List Nat) (K : Nat) : noneOf l K l.length = l.all (fun p => K % p != 0) := by unfold noneOf; rw [List.take_length]
theorem cell_row64 {w : World} {base : Nat} {p : Option Addr} {cap : Nat} {l : List Nat} (h : Row w base 1 (.slice p l.length cap) l.length (i64s l)) (i : Nat) (hi : i < l.length) :
    ∃ g, p = some ⟨g, 0, none⟩ ∧ w.cell? ⟨g, i, none⟩ = some (.int .i64 ((l.getD i 0 : Nat) : Int)) := by
  obtain ⟨g, cap', hv, _, _, _, hcell, _⟩ := h.shape (by omega)
  injection hv with e1 e2 e3
  exact ⟨g, e1, hcell i _ (i64s_get l i hi)⟩

set_option maxRecDepth 100000 in
theorem primes_any (w : World) :
    Calls Tryd.prog 17 #[.int .i64 64] w fun e w' => ∃ v, e = .returned v ∧ Below w.heap.size w w' ∧ Row w' w.heap.size 1 v 64 (i64s (pl 310)) := by
  go_enter Tryd.func17, Tryd.ntmps17
  go_wp2
  go_loopw [3, 4] (fun v k wr => ∃ (m : Nat) (l : List Nat) (q : Option Addr) (cap : Nat), m ≤ 310 ∧ l = pl m ∧ k = .int .i64 ((m + 2 : Nat) : Int) ∧ v = .slice q l.length cap ∧ Below w.heap.size w wr ∧ Row wr w.heap.size 1 v l.length (i64s l)) (fun _ k _ => 400 - (intOf k).toNat)
  case atStart =>
    exact ⟨0, [], none, 0, by omega, rfl, rfl, rfl, Below.refl _ _, Row.nil _ _ _⟩
  case round =>
    obtain ⟨m, l, q, cap, hm, hl, rfl, rfl, hb, hr⟩ := hrel
    have HB := Lib.hid hb
    have HR := Lib.hid hr
    have hll : l.length ≤ 310 := by rw [hl]; exact Nat.le_trans (pl_length m) hm
    have hpos : ∀ i, i < l.length → 2 ≤ l.getD i 0 ∧ l.getD i 0 ≤ 311 := by
      intro i hi; rw [hl] at hi ⊢; have := pl_pos m i hi; omega
    have HP := Lib.hid hpos
    have HL := Lib.hid hl
    clear hb hr hpos hl
    obtain ⟨K, hK⟩ : ∃ K, m + 2 = K := ⟨_, rfl⟩
    rw [hK]
    have hK2 : K ≤ 312 := by omega
    by_cases hlt : l.length < 64
    · have hm309 : m < 310 := by
        have : m ≠ 310 := by
          intro e
          rw [HL.out, e, pl_310] at hlt; omega
        omega
      have HK := Lib.hid hK
      clear hK
      go_wp2
      go_loopw [5, 16] (fun b i wi => ∃ (j : Nat), j ≤ l.length ∧ i = .int .i64 (j : Int) ∧ b = .bool (noneOf l K j) ∧ wi = wr) (fun _ i _ => l.length - (intOf i).toNat)
      case atStart =>
        exact ⟨0, by omega, rfl, rfl, rfl⟩
      case round =>
        obtain ⟨j, hj, rfl, rfl, rfl⟩ := hrel
        by_cases hjl : j < l.length
        · have hn := noneOf_next l K j hjl
          obtain ⟨g, rfl, hc⟩ := cell_row64 HR.out j hjl
          have hp := HP.out j hjl
          generalize hpv : l.getD j 0 = p at hn hc hp
          have HN := Lib.hid hn
          clear hpv hn
          generalize hb : noneOf l K j = b at HN
          cases b with
          | true =>
            go_wp2
            go_roundw
            case rel =>
              refine ⟨j + 1, by omega, by go_num, ?_, trivial⟩
              rw [HN.out, Bool.true_and]
              congr 1
              rw [Bool.eq_iff_iff]; simp; omega
            case measure => simp [intOf]; omega
          | false =>
            go_wp2
            go_roundw
            case rel =>
              refine ⟨j + 1, by omega, by go_num, ?_, trivial⟩
              rw [HN.out, Bool.false_and]
            case measure => simp [intOf]; omega
        · have hjn : j = l.length := by omega
          have hall : noneOf l K j = l.all (fun p => K % p != 0) := by rw [hjn, noneOf_all]
          have hpl : pl (m + 1) = if noneOf l K j then l ++ [K] else l := by
            rw [hall]
            have h1 := HL.out; have h2 := HK.out
            show (if (pl m).all (fun p => (m + 2) % p != 0) then pl m ++ [m + 2] else pl m) = _
            rw [← h1, h2]
          have HPL := Lib.hid hpl
          clear hpl hall
          generalize noneOf l K j = b at HPL
          cases b with
          | true =>
            go_wp2_with (at_builtin; refine wpList_append_one rfl (.tmp 29) (.tmp 31) 47 rfl 3 Tryd.underlying47 (.int .i64 0) 8 infoI64 rfl (by decide) w.heap.size _ l.length _ rfl HR.out HB.out.size (by omega) _ rfl rfl 3 ?_; intro v3 w3 hr3 hg3)
            obtain ⟨q3, cap3, rfl⟩ := hr3.out.any
            go_wp2
            go_roundw
            case rel =>
              refine ⟨m + 1, l ++ [K], q3, cap3, by omega, ?_, ?_, by simp, grown_below HB.out HR.out hg3.out (Nat.le_refl _) HB.out.size, ?_⟩
              · have h := HPL.out; rw [if_pos rfl] at h; exact h.symm
              · have h := HK.out; rw [← h]; congr 1
              · have h := hr3.out; simpa [i64s] using h
            case measure => simp [intOf]; omega
          | false =>
            go_wp2
            go_roundw
            case rel =>
              refine ⟨m + 1, l, q, cap, by omega, ?_, ?_, rfl, HB.out, HR.out⟩
              · have h := HPL.out; rw [if_neg (by decide)] at h; exact h.symm
              · have h := HK.out; rw [← h]; congr 1
            case measure => simp [intOf]; omega
    · have hm310 : m = 310 := by
        have h1 := HL.out
        by_cases h : m ≤ 309
        · have := pl_mono h; rw [pl_309, ← h1] at this; omega
        · omega
      have hl64 : l.length = 64 := by
        have h1 := HL.out; rw [h1, hm310, pl_310]
      have HL64 := Lib.hid hl64
      have HM := Lib.hid hm310
      clear hm310 hl64
      go_wp2
      go_ret
      refine ⟨_, rfl, HB.out, ?_⟩
      have h := HR.out
      have h1 := HL.out
      have h2 := HM.out
      rw [HL64.out] at h ⊢
      rw [h1, h2] at h
      exact h
end Go.Proofs.YthbfmdgnhipobaaDoor
