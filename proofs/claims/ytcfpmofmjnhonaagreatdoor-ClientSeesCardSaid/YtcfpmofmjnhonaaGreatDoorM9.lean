/- Parts of the proof, one behind the other: Above, Primes, Digits. -/
import Derived.Test.YtcfpmofmjnhonaaGreatDoorM8
import Derived.Test.YtcfpmofmjnhonaaGreatDoorM6
import Derived.Deep.QuietTactic
import Derived.BigQuiet
import Derived.Test.YtcfpmofmjnhonaaGreatDoorM5
import Derived.IntWalk
/- The document's numbers of rounds: above. -/
namespace Go.Proofs.YtcfpmofmjnhonaaGreatDoor
open Go.RowKit

theorem digs_small : ∀ (f c : Nat), Small (digs f c)
  | 0, _, i => by simp [digs]
  | f + 1, c, i => by
    unfold digs
    by_cases h : c = 0
    · rw [if_pos h]; simp
    · rw [if_neg h]
      cases i with
      | zero => simp; omega
      | succ i => exact digs_small f (c / 65536) i
theorem timesL_small (x : Nat) : ∀ (l : List Nat) (c : Nat), Small (timesL x l c)
  | [], c => digs_small 4 c
  | d :: l, c => fun i => by
    cases i with
    | zero => simp [timesL]; omega
    | succ i => exact timesL_small x l _ i
theorem digs_length : ∀ (f c : Nat), (digs f c).length ≤ f
  | 0, _ => by simp [digs]
  | f + 1, c => by
    unfold digs
    by_cases h : c = 0
    · rw [if_pos h]; simp
    · rw [if_neg h]; have := digs_length f (c / 65536); simp; omega
theorem timesL_length (x : Nat) : ∀ (l : List Nat) (c : Nat), (timesL x l c).length ≤ l.length + 4
  | [], c => by have := digs_length 4 c; simpa [timesL] using this
  | d :: l, c => by have := timesL_length x l ((c + d * x) / 65536); simp [timesL]; omega
def powL (x : Nat) : Nat → List Nat
  | 0 => [1]
  | j + 1 => timesL x (powL x j) 0
theorem powL_small (x j : Nat) : Small (powL x j) := by
  cases j with
  | zero => intro i; cases i <;> simp [powL]
  | succ j => exact timesL_small x _ 0
theorem powL_length (x : Nat) : ∀ j, (powL x j).length ≤ 1 + 4 * j
  | 0 => by simp [powL]
  | j + 1 => by have := timesL_length x (powL x j) 0; have := powL_length x j; simp only [powL]; omega
def noughts (n : Nat) : List Nat := List.replicate n 0
theorem noughts_snoc (n : Nat) : noughts (n + 1) = noughts n ++ [0] := by unfold noughts; rw [List.replicate_succ']
def padTo (n : Nat) (l : List Nat) : List Nat := l ++ noughts (n - l.length)
theorem padTo_length (n : Nat) (l : List Nat) : (padTo n l).length = max n l.length := by unfold padTo noughts; simp; omega
def cmpAt (A B : List Nat) : Nat → Bool
  | 0 => false
  | n + 1 => if A.getD n 0 = B.getD n 0 then cmpAt A B n else decide (B.getD n 0 < A.getD n 0)
def aboveL (x k p : Nat) : Bool :=
  let B0 := noughts (2 * k) ++ [p]
  let A := padTo B0.length (powL x k)
  let B := padTo A.length B0
  cmpAt A B A.length

structure RowOf (N : Nat) (w wr : World) (p : Option Addr) (cap : Nat) (l : List Nat) : Prop where
  below : Below N w wr
  row : Row wr N 1 (.slice p l.length cap) l.length (u64s l)

structure TwoRows (N : Nat) (w wr : World) (vA vB : Value) (A B : List Nat) : Prop where
  below : Below N w wr
  a : Row wr N 1 vA A.length (u64s A)
  b : Row wr N 1 vB B.length (u64s B)
  ne : ∀ c, vA.ownBlock = some c → vB.ownBlock ≠ some c
theorem TwoRows.symm {N : Nat} {w wr : World} {vA vB : Value} {A B : List Nat} (h : TwoRows N w wr vA vB A B) : TwoRows N w wr vB vA B A :=
  ⟨h.below, h.b, h.a, fun c h1 h2 => h.ne c h2 h1⟩
theorem TwoRows.grow {N : Nat} {w wr w' : World} {vA vB v' : Value} {A B : List Nat} {c : Nat} (h : TwoRows N w wr vA vB A B) (hN : N ≤ w.heap.size)
    (hr : Row w' N 1 v' (A.length + 1) (u64s A ++ [.int .u64 (c : Int)])) (hg : wr.grownBy w' vA.ownBlock) (hm : Moved wr vA v') : TwoRows N w w' v' vB (A ++ [c]) B :=
  ⟨grown_below h.below h.a hg (Nat.le_refl _) (Nat.le_trans hN h.below.size), by simpa [u64s] using hr,
   h.b.kept (fun k hk => hg.block k (h.b.lt k hk).2 (fun e => h.ne k e.symm hk)) hg.size,
   fun d h1 h2 => by
     rcases hm with hm | hm
     · exact h.ne d (hm ▸ h1) h2
     · have := hm d h1; have := (h.b.lt d h2).2; omega⟩
theorem madeNoughts (n : Nat) : (madeCells #[Value.int .u64 0] n).toList = u64s (noughts n) := by
  unfold madeCells u64s noughts
  apply List.ext_getElem
  · simp
  · intro i h1 h2; simp [Nat.mod_one]
theorem cell_row {w : World} {base : Nat} {p : Option Addr} {cap : Nat} {l : List Nat} (h : Row w base 1 (.slice p l.length cap) l.length (u64s l)) (i : Nat) (hi : i < l.length) :
    ∃ g, p = some ⟨g, 0, none⟩ ∧ w.cell? ⟨g, i, none⟩ = some (.int .u64 ((l.getD i 0 : Nat) : Int)) := by
  obtain ⟨g, cap', hv, _, _, _, hcell, _⟩ := h.shape (by omega)
  injection hv with e1 e2 e3
  exact ⟨g, e1, hcell i _ (u64s_get l i hi)⟩

set_option maxHeartbeats 4000000 in
set_option maxRecDepth 100000 in
theorem above_any (x k p : Nat) (w : World) (hx : x ≤ 1099511627776) (hk : k ≤ 3) :
    Calls Tryz.prog 96 #[.int .u64 (x : Int), .int .i64 (k : Int), .int .u64 (p : Int)] w fun e w' => e = .returned (.bool (aboveL x k p)) ∧ Below w.heap.size w w' := by
  go_enter Tryz.func96, Tryz.ntmps96
  go_wp2
  go_loopw [7, 12] (fun v i wr => ∃ (j : Nat) (q : Option Addr) (cap : Nat), j ≤ k ∧ i = .int .i64 (j : Int) ∧ v = .slice q (powL x j).length cap ∧ RowOf w.heap.size w wr q cap (powL x j)) (fun _ i _ => k - (intOf i).toNat)
  case atStart =>
    refine ⟨0, _, _, by omega, rfl, rfl, (Below.refl _ _).alloc (Nat.le_refl _) _, ?_⟩
    refine ⟨rfl, .inr ⟨w.heap.size, 1, rfl, Nat.le_refl _, by simp, Nat.le_refl _, ?_, ?_⟩⟩
    · intro j u hj
      match j, hj with
      | 0, hj =>
        simp [u64s, powL] at hj; subst hj
        rw [cell_of_row _ _ _ _ _ _ (heap_alloc_new w _)]; rfl
    · intro j hj
      obtain rfl : j = 0 := by omega
      rw [cell_of_row _ _ _ _ _ _ (heap_alloc_new w _)]
      exact ⟨rfl, frozen_of_row _ _ _ _ _ (heap_alloc_new w _)⟩
  case round =>
    obtain ⟨j, q, cap, hj, rfl, rfl, hr⟩ := hrel
    have HR := Lib.hid hr
    have hlen := powL_length x j
    clear hr
    by_cases hlt : j < k
    · go_wp2_with fail
      refine (times_any (powL x j) q cap x _ hx (powL_small x j) (by omega) (fun i hi => ?_)).mono ?_
      · obtain ⟨g, cap', hv, hg, hgl, _, hcell, _⟩ := HR.out.row.shape (by omega)
        injection hv with e1 e2 e3
        exact ⟨g, e1, hgl, hcell i _ (u64s_get _ i hi)⟩
      · rintro e w1 ⟨v1, rfl, ht⟩
        obtain ⟨q1, cap1, rfl⟩ := ht.row.any
        have HT := Lib.hid ht
        clear ht
        go_wp2
        go_roundw
        case rel =>
          refine ⟨j + 1, q1, cap1, by omega, by go_num, rfl, ⟨HR.out.below.trans (HT.out.below.mono HR.out.below.size), HT.out.row.mono HR.out.below.size⟩⟩
        case measure => simp [intOf]; omega
    · have hA0 : powL x j = powL x k := by rw [show j = k by omega]
      generalize powL x j = A0 at HR hlen hA0
      generalize hB0 : noughts (2 * k) ++ [p] = B0
      have hB0l : B0.length = 2 * k + 1 := by rw [← hB0]; simp [noughts]
      have HA0 := Lib.hid hA0
      have hB7 : B0.length ≤ 7 := by omega
      clear hB0l
      have HB0 := Lib.hid hB0
      obtain ⟨i0, hi0, hz0, hz1, hz2⟩ := info_parts infoU64
      have HI0 := Lib.hid hi0
      have hlen' : A0.length ≤ 13 := by omega
      clear hi0 hA0 hB0
      go_wp2_with (first | (at_make; refine wpList_make_full _ rfl (.tmp 19) (.tmp 19) 251 rfl w.heap.size 124 i0 (.int .u64 0) 1 Tryz.underlying251 HI0.out hz0 hz1 .i64 .i64 (2 * (k : Int)) (2 * (k : Int)) (2 * k) rfl rfl (by omega) (by omega) (by rw [hz2]; omega) (by unfold maxLen; omega) HR.out.below.size ?_; intro w2 hown2 hg2; have HO2 := Lib.hid hown2; have HG2 := Lib.hid hg2; clear hown2 hg2) | (at_builtin; refine wpList_append_one2 rfl (.tmp 20) (.tmp 22) 251 rfl 124 Tryz.underlying251 (.int .u64 0) 8 infoU64 rfl (by decide) w.heap.size _ (2 * k) _ rfl (Row.of_owns HO2.out) (Nat.le_trans HR.out.below.size HG2.out.size) (by omega) _ rfl rfl 124 ?_; intro v3 w3 hr3 hg3 hm3))
      have hne0 : ∀ c, c < wr.heap.size → (Value.slice (some ⟨wr.heap.size, 0, none⟩) (2 * k) (2 * k)).ownBlock ≠ some c := by
        intro c hc e; simp [Value.ownBlock] at e; omega
      have T0 : TwoRows w.heap.size w w3 (.slice q A0.length cap) v3 A0 B0 := by
        have g3 : w2.grownBy w3 (Value.slice (some ⟨wr.heap.size, 0, none⟩) (2 * k) (2 * k)).ownBlock := hg3.out
        have m3 : Moved w2 (Value.slice (some ⟨wr.heap.size, 0, none⟩) (2 * k) (2 * k)) v3 := hm3.out
        have hrow3 := hr3.out
        rw [Nat.mul_one, show (Value.int .u64 0).cells = #[Value.int .u64 0] from rfl, madeNoughts] at hrow3
        have hb0 := HB0.out
        have g2 := HG2.out
        have hs2 := g2.size
        refine ⟨?_, HR.out.row.kept (fun c hc => ?_) (Nat.le_trans g2.size g3.size), ?_, ?_⟩
        · refine grown_below (grown_below HR.out.below (Row.nil _ _ 1) (by simpa [Value.ownBlock] using g2) (Nat.le_refl _) HR.out.below.size) (Row.of_owns HO2.out) g3 (Nat.le_refl _) (Nat.le_trans HR.out.below.size hs2)
        · have hlt := (HR.out.row.lt c hc).2
          rw [g3.block c (by omega) (fun e => hne0 c hlt e.symm), g2.block c hlt (by simp)]
        · rw [← hb0, show noughts (2 * k) ++ [p] = noughts (2 * k) ++ [p] from rfl]
          simpa [u64s, noughts] using hrow3
        · intro c hc e
          have hlt := (HR.out.row.lt c hc).2
          rcases m3 with m3 | m3
          · exact hne0 c hlt (m3 ▸ e)
          · have := m3 c e; omega
      obtain ⟨q3, cap3, hv3⟩ := T0.b.any
      have HT0 := Lib.hid T0
      clear T0 hm3 hg3 hr3
      subst hv3
      --BEGIN two
      go_loopw [7] (fun v wr => ∃ (A : List Nat) (q : Option Addr) (cap : Nat), v = .slice q A.length cap ∧ A.length ≤ max A0.length B0.length ∧ A = A0 ++ noughts (A.length - A0.length) ∧ TwoRows w.heap.size w wr v (.slice q3 B0.length cap3) A B0) (fun v _ => B0.length - sliceN v)
      case atStart =>
        refine ⟨A0, q, cap, rfl, by omega, by simp [noughts], HT0.out⟩
      case round =>
        obtain ⟨A, q4, cap4, rfl, hAl, hA, hT⟩ := hrel
        have HT := Lib.hid hT
        have HA := Lib.hid hA
        have hAge : A0.length ≤ A.length := by
          have := congrArg List.length hA; simp only [List.length_append] at this; omega
        clear hT hA
        by_cases hlt2 : A.length < B0.length
        · go_wp2_with (at_builtin; refine wpList_append_one2 rfl (.tmp 29) (.tmp 30) 251 rfl 124 Tryz.underlying251 (.int .u64 0) 8 infoU64 rfl (by decide) w.heap.size _ A.length _ rfl HT.out.a HT.out.below.size (by omega) _ rfl rfl 124 ?_; intro v5 w5 hr5 hg5 hm5)
          obtain ⟨q5, cap5, rfl⟩ := hr5.out.any
          go_wp2
          go_roundw
          case rel =>
            refine ⟨A ++ [0], q5, cap5, by simp, by simp; omega, ?_, HT.out.grow (Nat.le_refl _) hr5.out hg5.out hm5.out⟩
            rw [List.length_append, show A.length + [0].length - A0.length = (A.length - A0.length) + 1 by simp; omega, noughts_snoc, ← List.append_assoc, ← HA.out]
          case measure => simp [sliceN]; omega
        · go_wp2
          have hAe : A = padTo B0.length (powL x k) := by
            rw [← HA0.out]; unfold padTo
            by_cases h : B0.length ≤ A0.length
            · have : A.length - A0.length = 0 := by omega
              have h2 := HA.out; rw [this] at h2
              rw [h2, show B0.length - A0.length = 0 by omega]
            · have : A.length - A0.length = B0.length - A0.length := by omega
              have h2 := HA.out; rw [this] at h2; exact h2
          have HAE := Lib.hid hAe
          clear hAe
          --BEGIN three
          go_loopw [8] (fun v wr => ∃ (B : List Nat) (q : Option Addr) (cap : Nat), v = .slice q B.length cap ∧ B.length ≤ max A.length B0.length ∧ B = B0 ++ noughts (B.length - B0.length) ∧ TwoRows w.heap.size w wr (.slice q4 A.length cap4) v A B) (fun v _ => A.length - sliceN v)
          case atStart =>
            refine ⟨B0, q3, cap3, rfl, by omega, by simp [noughts], HT.out⟩
          case round =>
            obtain ⟨B, q6, cap6, rfl, hBl, hB, hT⟩ := hrel
            have HT3 := Lib.hid hT
            have HB := Lib.hid hB
            have hBge : B0.length ≤ B.length := by
              have := congrArg List.length hB; simp only [List.length_append] at this; omega
            clear hT hB
            by_cases hlt3 : B.length < A.length
            · go_wp2_with (at_builtin; refine wpList_append_one2 rfl (.tmp 37) (.tmp 38) 251 rfl 124 Tryz.underlying251 (.int .u64 0) 8 infoU64 rfl (by decide) w.heap.size _ B.length _ rfl HT3.out.b HT3.out.below.size (by omega) _ rfl rfl 124 ?_; intro v7 w7 hr7 hg7 hm7)
              obtain ⟨q7, cap7, rfl⟩ := hr7.out.any
              go_wp2
              go_roundw
              case rel =>
                refine ⟨B ++ [0], q7, cap7, by simp, by simp; omega, ?_, (HT3.out.symm.grow (Nat.le_refl _) hr7.out hg7.out hm7.out).symm⟩
                rw [List.length_append, show B.length + [0].length - B0.length = (B.length - B0.length) + 1 by simp; omega, noughts_snoc, ← List.append_assoc, ← HB.out]
              case measure => simp [sliceN]; omega
            · have hBe : B = padTo A.length B0 := by
                unfold padTo
                by_cases h : A.length ≤ B0.length
                · have : B.length - B0.length = 0 := by omega
                  have h2 := HB.out; rw [this] at h2
                  rw [h2, show A.length - B0.length = 0 by omega]
                · have : B.length - B0.length = A.length - B0.length := by omega
                  have h2 := HB.out; rw [this] at h2; exact h2
              have hans : aboveL x k p = cmpAt A B A.length := by
                unfold aboveL; rw [HB0.out]; show cmpAt (padTo B0.length (powL x k)) _ _ = _
                rw [← HAE.out, ← hBe]
              have HANS := Lib.hid hans
              clear hBe hans
              go_wp2
              --BEGIN four
              have hBA : A.length ≤ B.length := by omega
              go_loopw [9] (fun i wr => ∃ (n : Nat) (z : Int), i = .int .i64 z ∧ z + 1 = n ∧ n ≤ A.length ∧ cmpAt A B A.length = cmpAt A B n ∧ TwoRows w.heap.size w wr (.slice q4 A.length cap4) (.slice q6 B.length cap6) A B) (fun i _ => (intOf i + 1).toNat)
              case atStart =>
                refine ⟨A.length, _, rfl, by omega, Nat.le_refl _, rfl, HT3.out⟩
              case round =>
                obtain ⟨n, z, rfl, hz, hn, hc, hT⟩ := hrel
                have HC4 := Lib.hid hc
                have HT4 := Lib.hid hT
                clear hc hT
                cases n with
                | zero =>
                  obtain rfl : z = -1 := by omega
                  go_wp2
                  go_ret
                  refine ⟨?_, HT4.out.below⟩
                  rw [HANS.out, HC4.out]; rfl
                | succ m =>
                  obtain rfl : z = (m : Int) := by omega
                  obtain ⟨g1, rfl, c1⟩ := cell_row HT4.out.a m (by omega)
                  obtain ⟨g2, rfl, c2⟩ := cell_row HT4.out.b m (by omega)
                  generalize ha : A.getD m 0 = a at c1
                  generalize hb : B.getD m 0 = b at c2
                  have hstep : cmpAt A B (m + 1) = if a = b then cmpAt A B m else decide (b < a) := by rw [← ha, ← hb]; rfl
                  have HS := Lib.hid hstep
                  clear ha hb hstep
                  by_cases hab : a = b
                  · subst hab
                    go_wp2
                    go_quiet (fail)
                    go_wp2
                    go_roundw
                    case rel =>
                      refine ⟨m, (m : Int) - 1, rfl, by omega, by omega, ?_, ?_⟩
                      · have h1 := HC4.out; have h2 := HS.out; rw [h1, h2]; simp
                      · exact ⟨below_drewN HT4.out.below _, HT4.out.a.drewN _, HT4.out.b.drewN _, HT4.out.ne⟩
                    case measure => simp [intOf]
                  · go_wp2
                    go_quiet (fail)
                    go_wp2
                    refine wp_region_head_tail (fun w' => ∃ n, w' = wr.drewN n) 9 (by kernel_rfl) (by kernel_rfl) ⟨nq + 1, rfl⟩ ?_
                    simp only [List.take_succ_cons, List.take_zero, List.drop_succ_cons, List.drop_zero]
                    repeat (first | go_big_quiet_step (fail) | quiet_step (fail))
                    refine wpQuiet_nil ?_
                    rintro w4 ⟨n4, rfl⟩
                    go_wp2
                    go_ret
                    refine ⟨?_, below_drewN HT4.out.below _⟩
                    have h1 := HC4.out
                    have h2 := HS.out
                    rw [HANS.out, h1, h2, if_neg hab]
                    rfl
              --END four
          --END three
      --END two
end Go.Proofs.YtcfpmofmjnhonaaGreatDoor
/- The document's numbers of rounds: primes. -/
namespace Go.Proofs.YtcfpmofmjnhonaaGreatDoor
open Go.RowKit

def i64s (l : List Nat) : List Value := l.map fun (n : Nat) => Value.int .i64 (n : Int)
theorem i64s_get (l : List Nat) (i : Nat) (h : i < l.length) : (i64s l)[i]? = some (.int .i64 ((l.getD i 0 : Nat) : Int)) := by simp [i64s, List.getD_eq_getElem?_getD, h]
theorem infoI64 : (Tryz.prog.info? 3).map (fun i => (i.zero, i.size, i.bytes)) = some (some (.int .i64 0), 1, 8) := by kernel_rfl
/-- The primes among the first so many numbers from 2. -/
def pl : Nat → List Nat
  | 0 => []
  | m + 1 => if (pl m).all (fun p => (m + 2) % p != 0) then pl m ++ [m + 2] else pl m
theorem pl_le (m : Nat) : (pl m).length ≤ (pl (m + 1)).length := by
  show _ ≤ (if _ then _ else _ : List Nat).length
  split <;> simp
theorem pl_mono {m n : Nat} (h : m ≤ n) : (pl m).length ≤ (pl n).length := by
  induction n with
  | zero => obtain rfl : m = 0 := by omega
            exact Nat.le_refl _
  | succ n ih =>
    by_cases hm : m = n + 1
    · subst hm; exact Nat.le_refl _
    · exact Nat.le_trans (ih (by omega)) (pl_le n)
theorem pl_length (m : Nat) : (pl m).length ≤ m := by
  induction m with
  | zero => exact Nat.le_refl _
  | succ m ih =>
    show (if _ then _ else _ : List Nat).length ≤ _
    split
    · simp; omega
    · omega
theorem pl_309 : (pl 309).length = 63 := by decide +kernel
theorem pl_310 : (pl 310).length = 64 := by decide +kernel
theorem pl_pos : ∀ (m i : Nat), i < (pl m).length → 2 ≤ (pl m).getD i 0 ∧ (pl m).getD i 0 ≤ m + 1
  | 0, i, h => by simp [pl] at h
  | m + 1, i, h => by
    have ih := pl_pos m i
    unfold pl at h ⊢
    split at h <;> rename_i hc
    · rw [if_pos hc]
      by_cases hi : i < (pl m).length
      · have := ih hi
        rw [List.getD_eq_getElem?_getD, List.getElem?_append_left hi, ← List.getD_eq_getElem?_getD]; omega
      · have : i = (pl m).length := by simp at h; omega
        subst this
        simp [List.getD_eq_getElem?_getD]
    · rw [if_neg hc]
      have := ih h; omega

/-- None of the first i divides. -/
def noneOf (l : List Nat) (K i : Nat) : Bool := (l.take i).all (fun p => K % p != 0)
theorem noneOf_next (l : List Nat) (K i : Nat) (h : i < l.length) : noneOf l K (i + 1) = (noneOf l K i && (K % l.getD i 0 != 0)) := by
  unfold noneOf
  rw [List.take_add_one, List.all_append, List.getElem?_eq_getElem h, List.getD_eq_getElem?_getD, List.getElem?_eq_getElem h]
  simp
theorem noneOf_all (l : List Nat) (K : Nat) : noneOf l K l.length = l.all (fun p => K % p != 0) := by unfold noneOf; rw [List.take_length]
theorem cell_row64 {w : World} {base : Nat} {p : Option Addr} {cap : Nat} {l : List Nat} (h : Row w base 1 (.slice p l.length cap) l.length (i64s l)) (i : Nat) (hi : i < l.length) :
    ∃ g, p = some ⟨g, 0, none⟩ ∧ w.cell? ⟨g, i, none⟩ = some (.int .i64 ((l.getD i 0 : Nat) : Int)) := by
  obtain ⟨g, cap', hv, _, _, _, hcell, _⟩ := h.shape (by omega)
  injection hv with e1 e2 e3
  exact ⟨g, e1, hcell i _ (i64s_get l i hi)⟩

set_option maxRecDepth 100000 in
theorem primes_any (w : World) :
    Calls Tryz.prog 49 #[.int .i64 64] w fun e w' => ∃ v, e = .returned v ∧ Below w.heap.size w w' ∧ Row w' w.heap.size 1 v 64 (i64s (pl 310)) := by
  go_enter Tryz.func49, Tryz.ntmps49
  go_wp2
  go_loopw [3, 4] (fun v k wr => ∃ (m : Nat) (l : List Nat) (q : Option Addr) (cap : Nat), m ≤ 310 ∧ l = pl m ∧ k = .int .i64 ((m + 2 : Nat) : Int) ∧ v = .slice q l.length cap ∧ Below w.heap.size w wr ∧ Row wr w.heap.size 1 v l.length (i64s l)) (fun _ k _ => 400 - (intOf k).toNat)
  case atStart =>
    exact ⟨0, [], none, 0, by omega, rfl, rfl, rfl, Below.refl _ _, Row.nil _ _ _⟩
  case round =>
    obtain ⟨m, l, q, cap, hm, hl, rfl, rfl, hb, hr⟩ := hrel
    have HB := Lib.hid hb
    have HR := Lib.hid hr
    have hll : l.length ≤ 310 := by rw [hl]; exact Nat.le_trans (pl_length m) hm
    have hpos : ∀ i, i < l.length → 2 ≤ l.getD i 0 ∧ l.getD i 0 ≤ 311 := by
      intro i hi; rw [hl] at hi ⊢; have := pl_pos m i hi; omega
    have HP := Lib.hid hpos
    have HL := Lib.hid hl
    clear hb hr hpos hl
    obtain ⟨K, hK⟩ : ∃ K, m + 2 = K := ⟨_, rfl⟩
    rw [hK]
    have hK2 : K ≤ 312 := by omega
    by_cases hlt : l.length < 64
    · have hm309 : m < 310 := by
        have : m ≠ 310 := by
          intro e
          rw [HL.out, e, pl_310] at hlt; omega
        omega
      have HK := Lib.hid hK
      clear hK
      go_wp2
      go_loopw [5, 16] (fun b i wi => ∃ (j : Nat), j ≤ l.length ∧ i = .int .i64 (j : Int) ∧ b = .bool (noneOf l K j) ∧ wi = wr) (fun _ i _ => l.length - (intOf i).toNat)
      case atStart =>
        exact ⟨0, by omega, rfl, rfl, rfl⟩
      case round =>
        obtain ⟨j, hj, rfl, rfl, rfl⟩ := hrel
        by_cases hjl : j < l.length
        · have hn := noneOf_next l K j hjl
          obtain ⟨g, rfl, hc⟩ := cell_row64 HR.out j hjl
          have hp := HP.out j hjl
          generalize hpv : l.getD j 0 = p at hn hc hp
          have HN := Lib.hid hn
          clear hpv hn
          generalize hb : noneOf l K j = b at HN
          cases b with
          | true =>
            go_wp2
            go_roundw
            case rel =>
              refine ⟨j + 1, by omega, by go_num, ?_, trivial⟩
              rw [HN.out, Bool.true_and]
              congr 1
              rw [Bool.eq_iff_iff]; simp; omega
            case measure => simp [intOf]; omega
          | false =>
            go_wp2
            go_roundw
            case rel =>
              refine ⟨j + 1, by omega, by go_num, ?_, trivial⟩
              rw [HN.out, Bool.false_and]
            case measure => simp [intOf]; omega
        · have hjn : j = l.length := by omega
          have hall : noneOf l K j = l.all (fun p => K % p != 0) := by rw [hjn, noneOf_all]
          have hpl : pl (m + 1) = if noneOf l K j then l ++ [K] else l := by
            rw [hall]
            have h1 := HL.out; have h2 := HK.out
            show (if (pl m).all (fun p => (m + 2) % p != 0) then pl m ++ [m + 2] else pl m) = _
            rw [← h1, h2]
          have HPL := Lib.hid hpl
          clear hpl hall
          generalize noneOf l K j = b at HPL
          cases b with
          | true =>
            go_wp2_with (at_builtin; refine wpList_append_one rfl (.tmp 29) (.tmp 31) 114 rfl 3 Tryz.underlying114 (.int .i64 0) 8 infoI64 rfl (by decide) w.heap.size _ l.length _ rfl HR.out HB.out.size (by omega) _ rfl rfl 3 ?_; intro v3 w3 hr3 hg3)
            obtain ⟨q3, cap3, rfl⟩ := hr3.out.any
            go_wp2
            go_roundw
            case rel =>
              refine ⟨m + 1, l ++ [K], q3, cap3, by omega, ?_, ?_, by simp, grown_below HB.out HR.out hg3.out (Nat.le_refl _) HB.out.size, ?_⟩
              · have h := HPL.out; rw [if_pos rfl] at h; exact h.symm
              · have h := HK.out; rw [← h]; congr 1
              · have h := hr3.out; simpa [i64s] using h
            case measure => simp [intOf]; omega
          | false =>
            go_wp2
            go_roundw
            case rel =>
              refine ⟨m + 1, l, q, cap, by omega, ?_, ?_, rfl, HB.out, HR.out⟩
              · have h := HPL.out; rw [if_neg (by decide)] at h; exact h.symm
              · have h := HK.out; rw [← h]; congr 1
            case measure => simp [intOf]; omega
    · have hm310 : m = 310 := by
        have h1 := HL.out
        by_cases h : m ≤ 309
        · have := pl_mono h; rw [pl_309, ← h1] at this; omega
        · omega
      have hl64 : l.length = 64 := by
        have h1 := HL.out; rw [h1, hm310, pl_310]
      have HL64 := Lib.hid hl64
      have HM := Lib.hid hm310
      clear hm310 hl64
      go_wp2
      go_ret
      refine ⟨_, rfl, HB.out, ?_⟩
      have h := HR.out
      have h1 := HL.out
      have h2 := HM.out
      rw [HL64.out] at h ⊢
      rw [h1, h2] at h
      exact h
end Go.Proofs.YtcfpmofmjnhonaaGreatDoor
/- The document's digits. -/
namespace Go.Proofs.YtcfpmofmjnhonaaGreatDoor
open Go.RowKit

/-- append of values of one cell, just built. -/
theorem wpList_append_new {P : Program} {w : World} {ops : Array Oper} {rest : List Oper} {o : Oper} {a : Act} {Q : Exit → Act → World → Prop}
    (hg : o.guard = none) (s x : Operand) (t : TypeId) (hop : o.op = Op.call { callee := Callee.builtin Builtin.append, args := #[s, x], argTypes := #[t, t] })
    (e : TypeId) (h1 : P.underlying t = some (.slice e)) (z : Value) (bytes : Nat) (hi : (P.info? e).map (fun i => (i.zero, i.size, i.bytes)) = some (some z, 1, bytes)) (h6 : z.cells.size = 1) (hby : bytes ≤ 64)
    (base : Nat) (v : Value) (n : Nat) (xs : List Value) (hs : a.eval s = v) (hrow : Row w base 1 v n xs) (hbase : base ≤ w.heap.size) (hn : n ≤ 1000000)
    (us : List Value) (m : Nat) (hm : us.length = m) (hm2 : m ≤ 1000000) (hx : a.eval x = .slice (some ⟨w.heap.size, 0, none⟩) m m) (h1c : ∀ u ∈ us, u.oneCell' = true) (e' : TypeId)
    (hK : ∀ v' w', Hid (Row w' base 1 v' (n + m) (xs ++ us)) → Hid (w.grownBy w' v.ownBlock) → Hid (Moved w v v') → wpList P ops Q rest (a.put o.dst v') w') :
    wpList P ops Q (o :: rest) a (w.alloc (.cells us.toArray e')) := by
  obtain ⟨i0, hi0, hz0, hz1, hz2⟩ := info_parts hi
  refine wpList_append_row2 hg s x t hop e i0 z 1 bytes h1 hi0 hz0 hz1 hz2 h6 (by decide) base v n xs hs (hrow.alloc _) (by simp; omega) ⟨w.heap.size, 0, none⟩ m m us hx (by omega) ?_ h1c (by unfold maxLen; omega) ?_ ?_
  · intro j y hj
    rw [add_none, Nat.zero_add, cell_of_row _ _ _ _ _ _ (heap_alloc_new w (.cells us.toArray e'))]
    simpa using hj
  · have := Nat.mul_le_mul (show n + m ≤ 2000000 by omega) hby
    omega
  · intro v' w' hr' hg' hm'
    have hg2 := hg'.out
    exact hK v' w' hr' (show World.grownBy _ _ _ from ⟨hg2.os, hg2.tape, hg2.output, by have := hg2.size; simp at this; omega, fun k hk hne => (hg2.block k (by simp; omega) hne).trans (Below.heap_alloc _ _ _ hk)⟩) (show Moved _ _ _ from hm'.out.imp id fun h b hb => Nat.le_trans (by simp) (h b hb))

def digsOf (l : List UInt8) : List Nat := l.flatMap fun b => [b.toNat / 16, b.toNat % 16]
def lackOf (l : List UInt8) : Nat := (l.map fun b => 30 - b.toNat / 16 - b.toNat % 16).sum
def digitsOf (l : List UInt8) : List Nat := digsOf l ++ [lackOf l / 256, lackOf l / 16 % 16, lackOf l % 16]
theorem digsOf_take (l : List UInt8) (k : Nat) (c : UInt8) (h : l[k]? = some c) : digsOf (l.take (k + 1)) = digsOf (l.take k) ++ [c.toNat / 16, c.toNat % 16] := by
  unfold digsOf
  rw [List.take_add_one, h]
  simp
theorem lackOf_take (l : List UInt8) (k : Nat) (c : UInt8) (h : l[k]? = some c) : lackOf (l.take (k + 1)) = lackOf (l.take k) + (30 - c.toNat / 16 - c.toNat % 16) := by
  unfold lackOf
  rw [List.take_add_one, h]
  simp
theorem digsOf_length (l : List UInt8) : (digsOf l).length = 2 * l.length := by
  unfold digsOf
  induction l with
  | nil => rfl
  | cons b l ih => simp only [List.flatMap_cons, List.length_append, List.length_cons, ih]; simp; omega
theorem lackOf_le (l : List UInt8) : lackOf l ≤ 30 * l.length := by
  unfold lackOf
  induction l with
  | nil => simp
  | cons b l ih => simp only [List.map_cons, List.sum_cons, List.length_cons]; omega
theorem digitsOf_length {l : List UInt8} (h : l.length = 16) : (digitsOf l).length = 35 := by
  unfold digitsOf; rw [List.length_append, digsOf_length]; simp; omega
theorem digitsOf_lt {l : List UInt8} (h : l.length = 16) (d : Nat) (hd : d ∈ digitsOf l) : d < 16 := by
  unfold digitsOf digsOf at hd
  have := lackOf_le l
  simp only [List.mem_append, List.mem_flatMap, List.mem_cons, List.not_mem_nil, or_false] at hd
  rcases hd with ⟨b, _, hb⟩ | hd
  · have := b.toNat_lt; omega
  · omega
theorem i64s_append (l m : List Nat) : i64s (l ++ m) = i64s l ++ i64s m := by unfold i64s; simp

theorem below_drewP {B : Nat} {u w : World} (h : Below B u w) (n : Nat) : Below B u (w.drewN n) := ⟨h.os, h.tape, h.output, h.size, h.block⟩
set_option maxRecDepth 100000 in
theorem refDigits_any (s : ByteArray) (w : World) (h16 : s.size = 16) :
    Calls Tryz.prog 168 #[.string s] w fun e w' => ∃ v, e = .returned v ∧ Below w.heap.size w w' ∧ Row w' w.heap.size 1 v 35 (i64s (digitsOf s.data.toList)) := by
  have H16 := Lib.hid h16
  have hs1 : s.size ≤ 16 := by omega
  have hs2 : 16 ≤ s.size := by omega
  clear h16
  have HLEN := Lib.hid (show s.data.toList.length = s.size from size_len s)
  go_enter Tryz.func168, Tryz.ntmps168
  go_wp2
  go_loopw [3, 4, 10] (fun v lk i wr => ∃ (k q : Nat), k ≤ 16 ∧ i = .int .i64 (k : Int) ∧ lk = .int .i64 (q : Int) ∧ q ≤ 30 * k ∧ Hid (q = lackOf (s.data.toList.take k) ∧ Below w.heap.size w wr ∧ Row wr w.heap.size 1 v (2 * k) (i64s (digsOf (s.data.toList.take k))))) (fun _ _ i _ => 16 - (intOf i).toNat)
  case atStart => exact ⟨0, 0, by omega, rfl, rfl, by omega, Lib.hid ⟨rfl, Below.refl _ _, Row.nil _ _ _⟩⟩
  case round =>
    obtain ⟨k, q, hk, rfl, rfl, hq, HU⟩ := hrel
    by_cases hlt : k < 16
    · obtain ⟨c, hc⟩ : ∃ c, s.data.toList[k]? = some c := ⟨_, List.getElem?_eq_getElem (by have := HLEN.out; omega)⟩
      have hsk : k < s.size := by omega
      obtain ⟨B, hB⟩ : ∃ B : Nat, c.toNat = B := ⟨_, rfl⟩
      have hB2 : B < 256 := by rw [← hB]; exact c.toNat_lt
      have hbk : s[k].toNat = B := by
        rw [← hB]; congr 1
        rw [List.getElem?_eq_getElem (by have := HLEN.out; omega)] at hc
        exact Option.some.inj hc
      have hw : wrap64 ((s[k].toNat : Nat) : Int) = (B : Int) := by rw [hbk]; simp [wrap64]; omega
      have HC := Lib.hid hc
      have HB := Lib.hid hB
      clear hc hB hbk
      go_wp2
      go_quiet (fail)
      have HW1 := Lib.hid (show Below w.heap.size w (wr.drewN nq) ∧ Row (wr.drewN nq) w.heap.size 1 u3 (2 * k) (i64s (digsOf (s.data.toList.take k))) from ⟨below_drewP HU.out.2.1 nq, HU.out.2.2.drewN nq⟩)
      generalize wr.drewN nq = w1 at HW1 ⊢
      obtain ⟨a1, ha1⟩ : ∃ a1 : Nat, B / 16 = a1 := ⟨_, rfl⟩
      obtain ⟨a2, ha2⟩ : ∃ a2 : Nat, B % 16 = a2 := ⟨_, rfl⟩
      have E1 : (B : Int) / 16 = (a1 : Int) := by omega
      have E2 : (B : Int) % 16 = (a2 : Int) := by omega
      rw [E1, E2]
      have b1 : a1 ≤ 15 := by omega
      have b2 : a2 ≤ 15 := by omega
      have HA1 := Lib.hid ha1
      have HA2 := Lib.hid ha2
      clear E1 E2 ha1 ha2 hw
      go_wp2_with (at_builtin; refine wpList_append_new rfl (.tmp 23) (.tmp 26) 114 rfl 3 Tryz.underlying114 (.int .i64 0) 8 infoI64 rfl (by decide) w.heap.size _ (2 * k) _ rfl HW1.out.2 HW1.out.1.size (by omega) [.int .i64 (a1 : Int), .int .i64 (a2 : Int)] 2 rfl (by decide) rfl (by simp; exact ⟨rfl, rfl⟩) 3 ?_; intro v3 w3 hr3 hg3 hm3)
      go_roundw
      case rel =>
        have hw := HW1.out.1
        refine ⟨k + 1, q + (30 - a1 - a2), by omega, by go_num, by congr 1; omega, by omega, Lib.hid ⟨?_, ?_, ?_⟩⟩
        · rw [lackOf_take _ k c HC.out, ← HU.out.1, HB.out, HA1.out, HA2.out]
        · exact HW1.out.1.grown hg3.out HW1.out.1.size (fun j hj => (HW1.out.2.lt j hj).1)
        · rw [digsOf_take _ k c HC.out, i64s_append, HB.out, HA1.out, HA2.out]
          exact hr3.out
      case measure => simp [intOf]; omega
    · obtain rfl : k = 16 := by omega
      have HTK := Lib.hid (show s.data.toList.take 16 = s.data.toList from List.take_of_length_le (by have := HLEN.out; omega))
      have hq2 : q ≤ 480 := by omega
      clear hlt hq hk
      go_wp2_with (at_builtin; refine wpList_append_new rfl (.tmp 35) (.tmp 43) 114 rfl 3 Tryz.underlying114 (.int .i64 0) 8 infoI64 rfl (by decide) w.heap.size _ (2 * 16) _ rfl HU.out.2.2 HU.out.2.1.size (by omega) [.int .i64 ((q : Int) / 256), .int .i64 ((q : Int) / 16 % 16), .int .i64 ((q : Int) % 16)] 3 rfl (by decide) rfl (by simp; exact ⟨rfl, rfl, rfl⟩) 3 ?_; intro v3 w3 hr3 hg3 hm3)
      go_ret
      refine ⟨_, rfl, HU.out.2.1.grown hg3.out HU.out.2.1.size (fun j hj => (HU.out.2.2.lt j hj).1), ?_⟩
      have h1 := hr3.out
      rw [HTK.out] at h1
      have hq1 := HU.out.1
      rw [HTK.out] at hq1
      unfold digitsOf
      rw [i64s_append, ← hq1]
      exact h1
end Go.Proofs.YtcfpmofmjnhonaaGreatDoor
