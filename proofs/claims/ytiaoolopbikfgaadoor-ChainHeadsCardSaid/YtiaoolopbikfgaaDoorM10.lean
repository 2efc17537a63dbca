/- Parts of the proof, one behind the other: Above, Root, Primes, KTab. -/
import Derived.Test.YtiaoolopbikfgaaDoorM9
import Derived.Test.YtiaoolopbikfgaaDoorM5
import Derived.Deep.QuietTactic
import Derived.BigQuiet
import Derived.Test.YtiaoolopbikfgaaDoorM6
/- The document's numbers of rounds: above. -/
namespace Go.Proofs.YtiaoolopbikfgaaDoor
open Go.RowKit

theorem digs_small : ∀ (f c : Nat), Small (digs f c)
  | 0, _, i => by simp [digs]
  | f + 1, c, i => by
    unfold digs
    by_cases h : c = 0
    · rw [if_pos h]; simp
    · rw [if_neg h]
      cases i with
      | zero => simp; omega
      | succ i => exact digs_small f (c / 65536) i
theorem timesL_small (x : Nat) : ∀ (l : List Nat) (c : Nat), Small (timesL x l c)
  | [], c => digs_small 4 c
  | d :: l, c => fun i => by
    cases i with
    | zero => simp [timesL]; omega
    | succ i => exact timesL_small x l _ i
theorem digs_length : ∀ (f c : Nat), (digs f c).length ≤ f
  | 0, _ => by simp [digs]
  | f + 1, c => by
    unfold digs
    by_cases h : c = 0
    · rw [if_pos h]; simp
    · rw [if_neg h]; have := digs_length f (c / 65536); simp; omega
theorem timesL_length (x : Nat) : ∀ (l : List Nat) (c : Nat), (timesL x l c).length ≤ l.length + 4
  | [], c => by have := digs_length 4 c; simpa [timesL] using this
  | d :: l, c => by have := timesL_length x l ((c + d * x) / 65536); simp [timesL]; omega
def powL (x : Nat) : Nat → List Nat
  | 0 => [1]
  | j + 1 => timesL x (powL x j) 0
theorem powL_small (x j : Nat) : Small (powL x j) := by
  cases j with
  | zero => intro i; cases i <;> simp [powL]
  | succ j => exact timesL_small x _ 0
theorem powL_length (x : Nat) : ∀ j, (powL x j).length ≤ 1 + 4 * j
  | 0 => by simp [powL]
  | j + 1 => by have := timesL_length x (powL x j) 0; have := powL_length x j; simp only [powL]; omega
def noughts (n : Nat) : List Nat := List.replicate n 0
theorem noughts_snoc (n : Nat) : noughts (n + 1) = noughts n ++ [0] := by unfold noughts; rw [List.replicate_succ']
def padTo (n : Nat) (l : List Nat) : List Nat := l ++ noughts (n - l.length)
theorem padTo_length (n : Nat) (l : List Nat) : (padTo n l).length = max n l.length := by unfold padTo noughts; simp; omega
def cmpAt (A B : List Nat) : Nat → Bool
  | 0 => false
  | n + 1 => if A.getD n 0 = B.getD n 0 then cmpAt A B n else decide (B.getD n 0 < A.getD n 0)
def aboveL (x k p : Nat) : Bool :=
  let B0 := noughts (2 * k) ++ [p]
  let A := padTo B0.length (powL x k)
  let B := padTo A.length B0
  cmpAt A B A.length

structure RowOf (N : Nat) (w wr : World) (p : Option Addr) (cap : Nat) (l : List Nat) : Prop where
  below : Below N w wr
  row : Row wr N 1 (.slice p l.length cap) l.length (u64s l)

structure TwoRows (N : Nat) (w wr : World) (vA vB : Value) (A B : List Nat) : Prop where
  below : Below N w wr
  a : Row wr N 1 vA A.length (u64s A)
  b : Row wr N 1 vB B.length (u64s B)
  ne : ∀ c, vA.ownBlock = some c → vB.ownBlock ≠ some c
theorem TwoRows.symm {N : Nat} {w wr : World} {vA vB : Value} {A B : List Nat} (h : TwoRows N w wr vA vB A B) : TwoRows N w wr vB vA B A :=
  ⟨h.below, h.b, h.a, fun c h1 h2 => h.ne c h2 h1⟩
theorem TwoRows.grow {N : Nat} {w wr w' : World} {vA vB v' : Value} {A B : List Nat} {c : Nat} (h : TwoRows N w wr vA vB A B) (hN : N ≤ w.heap.size)
    (hr : Row w' N 1 v' (A.length + 1) (u64s A ++ [.int .u64 (c : Int)])) (hg : wr.grownBy w' vA.ownBlock) (hm : Moved wr vA v') : TwoRows N w w' v' vB (A ++ [c]) B :=
  ⟨grown_below h.below h.a hg (Nat.le_refl _) (Nat.le_trans hN h.below.size), by simpa [u64s] using hr,
   h.b.kept (fun k hk => hg.block k (h.b.lt k hk).2 (fun e => h.ne k e.symm hk)) hg.size,
   fun d h1 h2 => by
     rcases hm with hm | hm
     · exact h.ne d (hm ▸ h1) h2
     · have := hm d h1; have := (h.b.lt d h2).2; omega⟩
theorem madeNoughts (n : Nat) : (madeCells #[Value.int .u64 0] n).toList = u64s (noughts n) := by
  unfold madeCells u64s noughts
  apply List.ext_getElem
  · simp
  · intro i h1 h2; simp [Nat.mod_one]
theorem cell_row {w : World} {base : Nat} {p : Option Addr} {cap : Nat} {l : List Nat} (h : Row w base 1 (.slice p l.length cap) l.length (u64s l)) (i : Nat) (hi : i < l.length) :
    ∃ g, p = some ⟨g, 0, none⟩ ∧ w.cell? ⟨g, i, none⟩ = some (.int .u64 ((l.getD i 0 : Nat) : Int)) := by
  obtain ⟨g, cap', hv, _, _, _, hcell, _⟩ := h.shape (by omega)
  injection hv with e1 e2 e3
  exact ⟨g, e1, hcell i _ (u64s_get l i hi)⟩

set_option maxHeartbeats 4000000 in
set_option maxRecDepth 100000 in
theorem above_any (x k p : Nat) (w : World) (hx : x ≤ 1099511627776) (hk : k ≤ 3) :
    Calls Tryd.prog 31 #[.int .u64 (x : Int), .int .i64 (k : Int), .int .u64 (p : Int)] w fun e w' => e = .returned (.bool (aboveL x k p)) ∧ Below w.heap.size w w' := by
  go_enter Tryd.func31, Tryd.ntmps31
  go_wp2
  go_loopw [7, 12] (fun v i wr => ∃ (j : Nat) (q : Option Addr) (cap : Nat), j ≤ k ∧ i = .int .i64 (j : Int) ∧ v = .slice q (powL x j).length cap ∧ RowOf w.heap.size w wr q cap (powL x j)) (fun _ i _ => k - (intOf i).toNat)
  case atStart =>
    refine ⟨0, _, _, by omega, rfl, rfl, (Below.refl _ _).alloc (Nat.le_refl _) _, ?_⟩
    refine ⟨rfl, .inr ⟨w.heap.size, 1, rfl, Nat.le_refl _, by simp, Nat.le_refl _, ?_, ?_⟩⟩
    · intro j u hj
      match j, hj with
      | 0, hj =>
        simp [u64s, powL] at hj; subst hj
        rw [cell_of_row _ _ _ _ _ _ (heap_alloc_new w _)]; rfl
    · intro j hj
      obtain rfl : j = 0 := by omega
      rw [cell_of_row _ _ _ _ _ _ (heap_alloc_new w _)]
      exact ⟨rfl, frozen_of_row _ _ _ _ _ (heap_alloc_new w _)⟩
  case round =>
    obtain ⟨j, q, cap, hj, rfl, rfl, hr⟩ := hrel
    have HR := Lib.hid hr
    have hlen := powL_length x j
    clear hr
    by_cases hlt : j < k
    · go_wp2_with fail
      refine (times_any (powL x j) q cap x _ hx (powL_small x j) (by omega) (fun i hi => ?_)).mono ?_
      · obtain ⟨g, cap', hv, hg, hgl, _, hcell, _⟩ := HR.out.row.shape (by omega)
        injection hv with e1 e2 e3
        exact ⟨g, e1, hgl, hcell i _ (u64s_get _ i hi)⟩
      · rintro e w1 ⟨v1, rfl, ht⟩
        obtain ⟨q1, cap1, rfl⟩ := ht.row.any
        have HT := Lib.hid ht
        clear ht
        go_wp2
        go_roundw
        case rel =>
          refine ⟨j + 1, q1, cap1, by omega, by go_num, rfl, ⟨HR.out.below.trans (HT.out.below.mono HR.out.below.size), HT.out.row.mono HR.out.below.size⟩⟩
        case measure => simp [intOf]; omega
    · have hA0 : powL x j = powL x k := by rw [show j = k by omega]
      generalize powL x j = A0 at HR hlen hA0
      generalize hB0 : noughts (2 * k) ++ [p] = B0
      have hB0l : B0.length = 2 * k + 1 := by rw [← hB0]; simp [noughts]
      have HA0 := Lib.hid hA0
      have hB7 : B0.length ≤ 7 := by omega
      clear hB0l
      have HB0 := Lib.hid hB0
      obtain ⟨i0, hi0, hz0, hz1, hz2⟩ := info_parts infoU64
      have HI0 := Lib.hid hi0
      have hlen' : A0.length ≤ 13 := by omega
      clear hi0 hA0 hB0
      go_wp2_with (first | (at_make; refine wpList_make_full _ rfl (.tmp 19) (.tmp 19) 93 rfl w.heap.size 56 i0 (.int .u64 0) 1 Tryd.underlying93 HI0.out hz0 hz1 .i64 .i64 (2 * (k : Int)) (2 * (k : Int)) (2 * k) rfl rfl (by omega) (by omega) (by rw [hz2]; omega) (by unfold maxLen; omega) HR.out.below.size ?_; intro w2 hown2 hg2; have HO2 := Lib.hid hown2; have HG2 := Lib.hid hg2; clear hown2 hg2) | (at_builtin; refine wpList_append_one2 rfl (.tmp 20) (.tmp 22) 93 rfl 56 Tryd.underlying93 (.int .u64 0) 8 infoU64 rfl (by decide) w.heap.size _ (2 * k) _ rfl (Row.of_owns HO2.out) (Nat.le_trans HR.out.below.size HG2.out.size) (by omega) _ rfl rfl 56 ?_; intro v3 w3 hr3 hg3 hm3))
      have hne0 : ∀ c, c < wr.heap.size → (Value.slice (some ⟨wr.heap.size, 0, none⟩) (2 * k) (2 * k)).ownBlock ≠ some c := by
        intro c hc e; simp [Value.ownBlock] at e; omega
      have T0 : TwoRows w.heap.size w w3 (.slice q A0.length cap) v3 A0 B0 := by
        have g3 : w2.grownBy w3 (Value.slice (some ⟨wr.heap.size, 0, none⟩) (2 * k) (2 * k)).ownBlock := hg3.out
        have m3 : Moved w2 (Value.slice (some ⟨wr.heap.size, 0, none⟩) (2 * k) (2 * k)) v3 := hm3.out
        have hrow3 := hr3.out
        rw [Nat.mul_one, show (Value.int .u64 0).cells = #[Value.int .u64 0] from rfl, madeNoughts] at hrow3
        have hb0 := HB0.out
        have g2 := HG2.out
        have hs2 := g2.size
        refine ⟨?_, HR.out.row.kept (fun c hc => ?_) (Nat.le_trans g2.size g3.size), ?_, ?_⟩
        · refine grown_below (grown_below HR.out.below (Row.nil _ _ 1) (by simpa [Value.ownBlock] using g2) (Nat.le_refl _) HR.out.below.size) (Row.of_owns HO2.out) g3 (Nat.le_refl _) (Nat.le_trans HR.out.below.size hs2)
        · have hlt := (HR.out.row.lt c hc).2
          rw [g3.block c (by omega) (fun e => hne0 c hlt e.symm), g2.block c hlt (by simp)]
        · rw [← hb0, show noughts (2 * k) ++ [p] = noughts (2 * k) ++ [p] from rfl]
          simpa [u64s, noughts] using hrow3
        · intro c hc e
          have hlt := (HR.out.row.lt c hc).2
          rcases m3 with m3 | m3
          · exact hne0 c hlt (m3 ▸ e)
          · have := m3 c e; omega
      obtain ⟨q3, cap3, hv3⟩ := T0.b.any
      have HT0 := Lib.hid T0
      clear T0 hm3 hg3 hr3
      subst hv3
      --BEGIN two
      go_loopw [7] (fun v wr => ∃ (A : List Nat) (q : Option Addr) (cap : Nat), v = .slice q A.length cap ∧ A.length ≤ max A0.length B0.length ∧ A = A0 ++ noughts (A.length - A0.length) ∧ TwoRows w.heap.size w wr v (.slice q3 B0.length cap3) A B0) (fun v _ => B0.length - sliceN v)
      case atStart =>
        refine ⟨A0, q, cap, rfl, by omega, by simp [noughts], HT0.out⟩
      case round =>
        obtain ⟨A, q4, cap4, rfl, hAl, hA, hT⟩ := hrel
        have HT := Lib.hid hT
        have HA := Lib.hid hA
        have hAge : A0.length ≤ A.length := by
          have := congrArg List.length hA; simp only [List.length_append] at this; omega
        clear hT hA
        by_cases hlt2 : A.length < B0.length
        · go_wp2_with (at_builtin; refine wpList_append_one2 rfl (.tmp 29) (.tmp 30) 93 rfl 56 Tryd.underlying93 (.int .u64 0) 8 infoU64 rfl (by decide) w.heap.size _ A.length _ rfl HT.out.a HT.out.below.size (by omega) _ rfl rfl 56 ?_; intro v5 w5 hr5 hg5 hm5)
          obtain ⟨q5, cap5, rfl⟩ := hr5.out.any
          go_wp2
          go_roundw
          case rel =>
            refine ⟨A ++ [0], q5, cap5, by simp, by simp; omega, ?_, HT.out.grow (Nat.le_refl _) hr5.out hg5.out hm5.out⟩
            rw [List.length_append, show A.length + [0].length - A0.length = (A.length - A0.length) + 1 by simp; omega, noughts_snoc, ← List.append_assoc, ← HA.out]
          case measure => simp [sliceN]; omega
        · go_wp2
          have hAe : A = padTo B0.length (powL x k) := by
            rw [← HA0.out]; unfold padTo
            by_cases h : B0.length ≤ A0.length
            · have : A.length - A0.length = 0 := by omega
              have h2 := HA.out; rw [this] at h2
              rw [h2, show B0.length - A0.length = 0 by omega]
            · have : A.length - A0.length = B0.length - A0.length := by omega
              have h2 := HA.out; rw [this] at h2; exact h2
          have HAE := Lib.hid hAe
          clear hAe
          --BEGIN three
          go_loopw [8] (fun v wr => ∃ (B : List Nat) (q : Option Addr) (cap : Nat), v = .slice q B.length cap ∧ B.length ≤ max A.length B0.length ∧ B = B0 ++ noughts (B.length - B0.length) ∧ TwoRows w.heap.size w wr (.slice q4 A.length cap4) v A B) (fun v _ => A.length - sliceN v)
          case atStart =>
            refine ⟨B0, q3, cap3, rfl, by omega, by simp [noughts], HT.out⟩
          case round =>
            obtain ⟨B, q6, cap6, rfl, hBl, hB, hT⟩ := hrel
            have HT3 := Lib.hid hT
            have HB := Lib.hid hB
            have hBge : B0.length ≤ B.length := by
              have := congrArg List.length hB; simp only [List.length_append] at this; omega
            clear hT hB
            by_cases hlt3 : B.length < A.length
            · go_wp2_with (at_builtin; refine wpList_append_one2 rfl (.tmp 37) (.tmp 38) 93 rfl 56 Tryd.underlying93 (.int .u64 0) 8 infoU64 rfl (by decide) w.heap.size _ B.length _ rfl HT3.out.b HT3.out.below.size (by omega) _ rfl rfl 56 ?_; intro v7 w7 hr7 hg7 hm7)
              obtain ⟨q7, cap7, rfl⟩ := hr7.out.any
              go_wp2
              go_roundw
              case rel =>
                refine ⟨B ++ [0], q7, cap7, by simp, by simp; omega, ?_, (HT3.out.symm.grow (Nat.le_refl _) hr7.out hg7.out hm7.out).symm⟩
                rw [List.length_append, show B.length + [0].length - B0.length = (B.length - B0.length) + 1 by simp; omega, noughts_snoc, ← List.append_assoc, ← HB.out]
              case measure => simp [sliceN]; omega
            · have hBe : B = padTo A.length B0 := by
                unfold padTo
                by_cases h : A.length ≤ B0.length
                · have : B.length - B0.length = 0 := by omega
                  have h2 := HB.out; rw [this] at h2
                  rw [h2, show A.length - B0.length = 0 by omega]
                · have : B.length - B0.length = A.length - B0.length := by omega
                  have h2 := HB.out; rw [this] at h2; exact h2
              have hans : aboveL x k p = cmpAt A B A.length := by
                unfold aboveL; rw [HB0.out]; show cmpAt (padTo B0.length (powL x k)) _ _ = _
                rw [← HAE.out, ← hBe]
              have HANS := Lib.hid hans
              clear hBe hans
              go_wp2
              --BEGIN four
              have hBA : A.length ≤ B.length := by omega
              go_loopw [9] (fun i wr => ∃ (n : Nat) (z : Int), i = .int .i64 z ∧ z + 1 = n ∧ n ≤ A.length ∧ cmpAt A B A.length = cmpAt A B n ∧ TwoRows w.heap.size w wr (.slice q4 A.length cap4) (.slice q6 B.length cap6) A B) (fun i _ => (intOf i + 1).toNat)
              case atStart =>
                refine ⟨A.length, _, rfl, by omega, Nat.le_refl _, rfl, HT3.out⟩
              case round =>
                obtain ⟨n, z, rfl, hz, hn, hc, hT⟩ := hrel
                have HC4 := Lib.hid hc
                have HT4 := Lib.hid hT
                clear hc hT
                cases n with
                | zero =>
                  obtain rfl : z = -1 := by omega
                  go_wp2
                  go_ret
                  refine ⟨?_, HT4.out.below⟩
                  rw [HANS.out, HC4.out]; rfl
                | succ m =>
                  obtain rfl : z = (m : Int) := by omega
                  obtain ⟨g1, rfl, c1⟩ := cell_row HT4.out.a m (by omega)
                  obtain ⟨g2, rfl, c2⟩ := cell_row HT4.out.b m (by omega)
                  generalize ha : A.getD m 0 = a at c1
                  generalize hb : B.getD m 0 = b at c2
                  have hstep : cmpAt A B (m + 1) = if a = b then cmpAt A B m else decide (b < a) := by rw [← ha, ← hb]; rfl
                  have HS := Lib.hid hstep
                  clear ha hb hstep
                  by_cases hab : a = b
                  · subst hab
                    go_wp2
                    go_quiet (fail)
                    go_wp2
                    go_roundw
                    case rel =>
                      refine ⟨m, (m : Int) - 1, rfl, by omega, by omega, ?_, ?_⟩
                      · have h1 := HC4.out; have h2 := HS.out; rw [h1, h2]; simp
                      · exact ⟨below_drewN HT4.out.below _, HT4.out.a.drewN _, HT4.out.b.drewN _, HT4.out.ne⟩
                    case measure => simp [intOf]
                  · go_wp2
                    go_quiet (fail)
                    go_wp2
                    refine wp_region_head_tail (fun w' => ∃ n, w' = wr.drewN n) 9 (by kernel_rfl) (by kernel_rfl) ⟨nq + 1, rfl⟩ ?_
                    simp only [List.take_succ_cons, List.take_zero, List.drop_succ_cons, List.drop_zero]
                    repeat (first | go_big_quiet_step (fail) | quiet_step (fail))
                    refine wpQuiet_nil ?_
                    rintro w4 ⟨n4, rfl⟩
                    go_wp2
                    go_ret
                    refine ⟨?_, below_drewN HT4.out.below _⟩
                    have h1 := HC4.out
                    have h2 := HS.out
                    rw [HANS.out, h1, h2, if_neg hab]
                    rfl
              --END four
          --END three
      --END two
end Go.Proofs.YtiaoolopbikfgaaDoor
/- The document's numbers of rounds: root. -/
namespace Go.Proofs.YtiaoolopbikfgaaDoor
open Go.RowKit

def searchL (k p : Nat) : Nat → Nat → Nat → Nat
  | 0, low, _ => low
  | f + 1, low, high => if low + 1 < high then (if aboveL ((low + high) / 2) k p then searchL k p f low ((low + high) / 2) else searchL k p f ((low + high) / 2) high) else low
def rootL (p k : Nat) : Nat := searchL k p 40 0 1099511627776 % 4294967296
theorem searchL_done (k p f low high : Nat) (h : ¬ low + 1 < high) : searchL k p f low high = low := by
  cases f with
  | zero => rfl
  | succ f => show (if low + 1 < high then _ else low) = low; rw [if_neg h]
theorem searchL_step (k p f low high x : Nat) (h : low + 1 < high) (hx : (low + high) / 2 = x) : searchL k p (f + 1) low high = if aboveL x k p then searchL k p f low x else searchL k p f x high := by
  show (if low + 1 < high then _ else low) = _; rw [if_pos h, hx]

set_option maxRecDepth 100000 in
theorem root_any (p k : Nat) (w : World) (hk : k ≤ 3) :
    Calls Tryd.prog 21 #[.int .u64 (p : Int), .int .i64 (k : Int)] w fun e w' => e = .returned (.int .u32 ((rootL p k : Nat) : Int)) ∧ Below w.heap.size w w' := by
  go_enter Tryd.func21, Tryd.ntmps21
  go_wp2
  go_loopw [5, 6, 7] (fun lo hi x wr => ∃ low high f : Nat, lo = .int .u64 (low : Int) ∧ hi = .int .u64 (high : Int) ∧ high ≤ 1099511627776 ∧ low ≤ 1099511627776 ∧ low ≤ high ∧ high - low ≤ 2 ^ f ∧ searchL k p f low high = searchL k p 40 0 1099511627776 ∧ Below w.heap.size w wr)
    (fun lo hi _ _ => (intOf hi).toNat - (intOf lo).toNat)
  case atStart =>
    exact ⟨0, 1099511627776, 40, rfl, rfl, by omega, by omega, by omega, by decide, rfl, Below.refl _ _⟩
  case round =>
    obtain ⟨low, high, f, rfl, rfl, hh, hl, hlh, hf, hs, hb⟩ := hrel
    have HS := Lib.hid hs
    have HB := Lib.hid hb
    have HF := Lib.hid hf
    clear hs hb hf
    by_cases hlt : low + 1 < high
    · obtain ⟨x, hx⟩ : ∃ x, (low + high) / 2 = x := ⟨_, rfl⟩
      have hxi : ((low : Int) + (high : Int)) / 2 = (x : Int) := by omega
      have hx1 : low < x := by omega
      have hx2 : x < high := by omega
      have hx3 : x ≤ 1099511627776 := by omega
      have HX := Lib.hid hx
      obtain ⟨f', rfl⟩ : ∃ f', f = f' + 1 := by
        cases f with
        | zero => have := HF.out; simp at this; omega
        | succ f => exact ⟨f, rfl⟩
      have hp : high - low ≤ 2 * 2 ^ f' := by have := HF.out; rw [Nat.pow_succ] at this; omega
      have hs := HS.out
      rw [searchL_step k p f' low high x hlt hx] at hs
      have h1 : x - low ≤ 2 ^ f' := by omega
      have h2 : high - x ≤ 2 ^ f' := by omega
      have H1 := Lib.hid h1
      have H2 := Lib.hid h2
      have HS2 := Lib.hid hs
      clear hs hp hx h1 h2
      cases hab : aboveL x k p with
      | true =>
        go_wp2_with (go_at_call 31; refine (above_any x k p _ hx3 hk).mono ?_; rintro e w1 ⟨rfl, hb1⟩; have HB1 := Lib.hid hb1; clear hb1; rw [hab])
        go_wp2
        go_roundw
        case rel =>
          refine ⟨low, x, f', rfl, rfl, by omega, by omega, by omega, H1.out, ?_, HB.out.trans (HB1.out.mono HB.out.size)⟩
          have h := HS2.out; rw [hab, if_pos rfl] at h; exact h
        case measure => simp [intOf]; omega
      | false =>
        go_wp2_with (go_at_call 31; refine (above_any x k p _ hx3 hk).mono ?_; rintro e w1 ⟨rfl, hb1⟩; have HB1 := Lib.hid hb1; clear hb1; rw [hab])
        go_wp2
        go_roundw
        case rel =>
          refine ⟨x, high, f', rfl, rfl, by omega, by omega, by omega, H2.out, ?_, HB.out.trans (HB1.out.mono HB.out.size)⟩
          have h := HS2.out; rw [hab, if_neg (by decide)] at h; exact h
        case measure => simp [intOf]; omega
    · go_wp2
      go_ret
      refine ⟨?_, HB.out⟩
      have h := HS.out
      rw [searchL_done k p f low high hlt] at h
      unfold rootL; rw [← h]; rfl
end Go.Proofs.YtiaoolopbikfgaaDoor
/- The document's numbers of rounds: primes. -/
namespace Go.Proofs.YtiaoolopbikfgaaDoor
open Go.RowKit

def i64s (l : List Nat) : List Value := l.map fun (n : Nat) => Value.int .i64 (n : Int)
theorem i64s_get (l : List Nat) (i : Nat) (h : i < l.length) : (i64s l)[i]? = some (.int .i64 ((l.getD i 0 : Nat) : Int)) := by simp [i64s, List.getD_eq_getElem?_getD, h]
theorem infoI64 : (Tryd.prog.info? 3).map (fun i => (i.zero, i.size, i.bytes)) = some (some (.int .i64 0), 1, 8) := by kernel_rfl
/-- The primes among the first so many numbers from 2. -/
def pl : Nat → List Nat
  | 0 => []
  | m + 1 => if (pl m).all (fun p => (m + 2) % p != 0) then pl m ++ [m + 2] else pl m
theorem pl_le (m : Nat) : (pl m).length ≤ (pl (m + 1)).length := by
  show _ ≤ (if _ then _ else _ : List Nat).length
  split <;> simp
theorem pl_mono {m n : Nat} (h : m ≤ n) : (pl m).length ≤ (pl n).length := by
  induction n with
  | zero => obtain rfl : m = 0 := by omega
            exact Nat.le_refl _
  | succ n ih =>
    by_cases hm : m = n + 1
    · subst hm; exact Nat.le_refl _
    · exact Nat.le_trans (ih (by omega)) (pl_le n)
theorem pl_length (m : Nat) : (pl m).length ≤ m := by
  induction m with
  | zero => exact Nat.le_refl _
  | succ m ih =>
    show (if _ then _ else _ : List Nat).length ≤ _
    split
    · simp; omega
    · omega
theorem pl_309 : (pl 309).length = 63 := by decide +kernel
theorem pl_310 : (pl 310).length = 64 := by decide +kernel
theorem pl_pos : ∀ (m i : Nat), i < (pl m).length → 2 ≤ (pl m).getD i 0 ∧ (pl m).getD i 0 ≤ m + 1
  | 0, i, h => by simp [pl] at h
  | m + 1, i, h => by
    have ih := pl_pos m i
    unfold pl at h ⊢
    split at h <;> rename_i hc
    · rw [if_pos hc]
      by_cases hi : i < (pl m).length
      · have := ih hi
        rw [List.getD_eq_getElem?_getD, List.getElem?_append_left hi, ← List.getD_eq_getElem?_getD]; omega
      · have : i = (pl m).length := by simp at h; omega
        subst this
        simp [List.getD_eq_getElem?_getD]
    · rw [if_neg hc]
      have := ih h; omega

/-- None of the first i divides. -/
def noneOf (l : List Nat) (K i : Nat) : Bool := (l.take i).all (fun p => K % p != 0)
theorem noneOf_next (l : List Nat) (K i : Nat) (h : i < l.length) : noneOf l K (i + 1) = (noneOf l K i && (K % l.getD i 0 != 0)) := by
  unfold noneOf
  rw [List.take_add_one, List.all_append, List.getElem?_eq_getElem h, List.getD_eq_getElem?_getD, List.getElem?_eq_getElem h]
  simp
theorem noneOf_all (l : List Nat) (K : Nat) : noneOf l K l.length = l.all (fun p => K % p != 0) := by unfold noneOf; rw [List.take_length]
theorem cell_row64 {w : World} {base : Nat} {p : Option Addr} {cap : Nat} {l : List Nat} (h : Row w base 1 (.slice p l.length cap) l.length (i64s l)) (i : Nat) (hi : i < l.length) :
    ∃ g, p = some ⟨g, 0, none⟩ ∧ w.cell? ⟨g, i, none⟩ = some (.int .i64 ((l.getD i 0 : Nat) : Int)) := by
  obtain ⟨g, cap', hv, _, _, _, hcell, _⟩ := h.shape (by omega)
  injection hv with e1 e2 e3
  exact ⟨g, e1, hcell i _ (i64s_get l i hi)⟩

set_option maxRecDepth 100000 in
theorem primes_any (w : World) :
    Calls Tryd.prog 20 #[.int .i64 64] w fun e w' => ∃ v, e = .returned v ∧ Below w.heap.size w w' ∧ Row w' w.heap.size 1 v 64 (i64s (pl 310)) := by
  go_enter Tryd.func20, Tryd.ntmps20
  go_wp2
  go_loopw [3, 4] (fun v k wr => ∃ (m : Nat) (l : List Nat) (q : Option Addr) (cap : Nat), m ≤ 310 ∧ l = pl m ∧ k = .int .i64 ((m + 2 : Nat) : Int) ∧ v = .slice q l.length cap ∧ Below w.heap.size w wr ∧ Row wr w.heap.size 1 v l.length (i64s l)) (fun _ k _ => 400 - (intOf k).toNat)
  case atStart =>
    exact ⟨0, [], none, 0, by omega, rfl, rfl, rfl, Below.refl _ _, Row.nil _ _ _⟩
  case round =>
    obtain ⟨m, l, q, cap, hm, hl, rfl, rfl, hb, hr⟩ := hrel
    have HB := Lib.hid hb
    have HR := Lib.hid hr
    have hll : l.length ≤ 310 := by rw [hl]; exact Nat.le_trans (pl_length m) hm
    have hpos : ∀ i, i < l.length → 2 ≤ l.getD i 0 ∧ l.getD i 0 ≤ 311 := by
      intro i hi; rw [hl] at hi ⊢; have := pl_pos m i hi; omega
    have HP := Lib.hid hpos
    have HL := Lib.hid hl
    clear hb hr hpos hl
    obtain ⟨K, hK⟩ : ∃ K, m + 2 = K := ⟨_, rfl⟩
    rw [hK]
    have hK2 : K ≤ 312 := by omega
    by_cases hlt : l.length < 64
    · have hm309 : m < 310 := by
        have : m ≠ 310 := by
          intro e
          rw [HL.out, e, pl_310] at hlt; omega
        omega
      have HK := Lib.hid hK
      clear hK
      go_wp2
      go_loopw [5, 16] (fun b i wi => ∃ (j : Nat), j ≤ l.length ∧ i = .int .i64 (j : Int) ∧ b = .bool (noneOf l K j) ∧ wi = wr) (fun _ i _ => l.length - (intOf i).toNat)
      case atStart =>
        exact ⟨0, by omega, rfl, rfl, rfl⟩
      case round =>
        obtain ⟨j, hj, rfl, rfl, rfl⟩ := hrel
        by_cases hjl : j < l.length
        · have hn := noneOf_next l K j hjl
          obtain ⟨g, rfl, hc⟩ := cell_row64 HR.out j hjl
          have hp := HP.out j hjl
          generalize hpv : l.getD j 0 = p at hn hc hp
          have HN := Lib.hid hn
          clear hpv hn
          generalize hb : noneOf l K j = b at HN
          cases b with
          | true =>
            go_wp2
            go_roundw
            case rel =>
              refine ⟨j + 1, by omega, by go_num, ?_, trivial⟩
              rw [HN.out, Bool.true_and]
              congr 1
              rw [Bool.eq_iff_iff]; simp; omega
            case measure => simp [intOf]; omega
          | false =>
            go_wp2
            go_roundw
            case rel =>
              refine ⟨j + 1, by omega, by go_num, ?_, trivial⟩
              rw [HN.out, Bool.false_and]
            case measure => simp [intOf]; omega
        · have hjn : j = l.length := by omega
          have hall : noneOf l K j = l.all (fun p => K % p != 0) := by rw [hjn, noneOf_all]
          have hpl : pl (m + 1) = if noneOf l K j then l ++ [K] else l := by
            rw [hall]
            have h1 := HL.out; have h2 := HK.out
            show (if (pl m).all (fun p => (m + 2) % p != 0) then pl m ++ [m + 2] else pl m) = _
            rw [← h1, h2]
          have HPL := Lib.hid hpl
          clear hpl hall
          generalize noneOf l K j = b at HPL
          cases b with
          | true =>
            go_wp2_with (at_builtin; refine wpList_append_one rfl (.tmp 29) (.tmp 31) 53 rfl 3 Tryd.underlying53 (.int .i64 0) 8 infoI64 rfl (by decide) w.heap.size _ l.length _ rfl HR.out HB.out.size (by omega) _ rfl rfl 3 ?_; intro v3 w3 hr3 hg3)
            obtain ⟨q3, cap3, rfl⟩ := hr3.out.any
            go_wp2
            go_roundw
            case rel =>
              refine ⟨m + 1, l ++ [K], q3, cap3, by omega, ?_, ?_, by simp, grown_below HB.out HR.out hg3.out (Nat.le_refl _) HB.out.size, ?_⟩
              · have h := HPL.out; rw [if_pos rfl] at h; exact h.symm
              · have h := HK.out; rw [← h]; congr 1
              · have h := hr3.out; simpa [i64s] using h
            case measure => simp [intOf]; omega
          | false =>
            go_wp2
            go_roundw
            case rel =>
              refine ⟨m + 1, l, q, cap, by omega, ?_, ?_, rfl, HB.out, HR.out⟩
              · have h := HPL.out; rw [if_neg (by decide)] at h; exact h.symm
              · have h := HK.out; rw [← h]; congr 1
            case measure => simp [intOf]; omega
    · have hm310 : m = 310 := by
        have h1 := HL.out
        by_cases h : m ≤ 309
        · have := pl_mono h; rw [pl_309, ← h1] at this; omega
        · omega
      have hl64 : l.length = 64 := by
        have h1 := HL.out; rw [h1, hm310, pl_310]
      have HL64 := Lib.hid hl64
      have HM := Lib.hid hm310
      clear hm310 hl64
      go_wp2
      go_ret
      refine ⟨_, rfl, HB.out, ?_⟩
      have h := HR.out
      have h1 := HL.out
      have h2 := HM.out
      rw [HL64.out] at h ⊢
      rw [h1, h2] at h
      exact h
end Go.Proofs.YtiaoolopbikfgaaDoor
/- The numbers of rounds, reckoned from roots of primes, are the tables'. -/
namespace Go.Proofs.YtiaoolopbikfgaaDoor
open Go.RowKit

theorem k_all : (List.range 64).all (fun i => rootL ((pl 310).getD i 0) 3 == kTab.getD i 0) = true := by decide +kernel
theorem h_all : (List.range 8).all (fun i => rootL ((pl 310).getD i 0) 2 == (iv i).toNat) = true := by decide +kernel
theorem k_root (i : Nat) (h : i < 64) : rootL ((pl 310).getD i 0) 3 = kTab.getD i 0 := by
  have := List.all_eq_true.1 k_all i (List.mem_range.2 h); simpa using this
theorem h_root (i : Nat) (h : i < 8) : rootL ((pl 310).getD i 0) 2 = (iv i).toNat := by
  have := List.all_eq_true.1 h_all i (List.mem_range.2 h); simpa using this

theorem k_val (i : Nat) (h : i < 64) : ((rootL ((pl 310).getD i 0) 3 : Nat) : Int) = W32 (kOf i) := by
  have h1 := k_root i h
  have h2 : rootL ((pl 310).getD i 0) 3 < 4294967296 := Nat.mod_lt _ (by decide)
  rw [h1] at h2 ⊢
  unfold W32 kOf
  rw [BitVec.toNat_ofNat, Nat.mod_eq_of_lt (by omega)]
theorem h_val (i : Nat) (h : i < 8) : ((rootL ((pl 310).getD i 0) 2 : Nat) : Int) = W32 (iv i) := by
  have h1 := h_root i h
  rw [h1]; rfl

end Go.Proofs.YtiaoolopbikfgaaDoor
