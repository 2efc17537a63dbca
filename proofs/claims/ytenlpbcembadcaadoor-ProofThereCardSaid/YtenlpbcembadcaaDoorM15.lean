/- Parts of the proof, one behind the other: There, RepL, Proved. -/
import Derived.Test.YtenlpbcembadcaaDoorM13
import Derived.Test.YtenlpbcembadcaaDoorM14
import Derived.Shelf.Strings.Repeat
import Derived.Test.YtenlpbcembadcaaDoorProg
import Derived.Test.YtenlpbcembadcaaDoorM1
import Derived.KernelRfl
import Derived.Test.YtenlpbcembadcaaDoorM10
import Derived.Test.YtenlpbcembadcaaDoorM7
import Derived.Deep.RegionHeld3
import Derived.Deep.DeepCutAuto
/- What is proved of items: plain facts (for ProofThere). -/
namespace Go.Proofs.YtenlpbcembadcaaDoor

abbrev bitX (ix : ByteArray) (k : Nat) : Nat := bitOf ix.data.toList k
/-- A proof's step, where two or more are left. -/
theorem proveFrom_step (f : Nat) (L : List It) (ix : ByteArray) (d : Nat) (h : 2 ≤ L.length) : proveFrom (f + 1) L ix d =
    (nodeOf f (half L d (1 - bitX ix d)) (d + 1) :: (proveFrom f (half L d (bitX ix d)) ix (d + 1)).1, (proveFrom f (half L d (bitX ix d)) ix (d + 1)).2) := by
  rw [proveFrom, if_neg (by omega)]
theorem few_node (f : Nat) (L : List It) (d : Nat) (h : L.length < 2) (h16 : ∀ x ∈ L, x.1.size = 16) (Q : List ByteArray) (hq : Q.length = d) : startOf Q (itAt L 0) = nodeOf f L d := by
  unfold startOf
  match L, h with
  | [], _ =>
    rw [nodeOf_nil f [] d rfl, hq]
    rfl
  | [x], _ =>
    have hx := h16 x (by simp)
    rw [nodeOf_one f [x] d rfl, hq]
    show (if x.1.size = 0 then _ else leafM x d) = leafM x d
    rw [if_neg (by omega)]
/-- It leads to the items' node. -/
theorem prove_leads (ix : ByteArray) : ∀ (f : Nat) (L : List It) (d : Nat) (Q : List ByteArray), d + f = 128 → Apart L d → Q.length = d →
    leadFrom ix (Q ++ (proveFrom f L ix d).1) (d + (proveFrom f L ix d).1.length) (startOf (Q ++ (proveFrom f L ix d).1) (proveFrom f L ix d).2) = leadFrom ix (Q ++ (proveFrom f L ix d).1) d (nodeOf f L d) := by
  intro f
  induction f with
  | zero =>
    intro L d Q hd hap hq
    have h2 : L.length < 2 := by
      rcases Nat.lt_or_ge L.length 2 with h | h
      · exact h
      · have := hap.lt h
        omega
    rw [proveFrom_few 0 L ix d h2]
    simp only [List.append_nil, List.length_nil, Nat.add_zero]
    rw [few_node 0 L d h2 hap.1 Q hq]
  | succ f ih =>
    intro L d Q hd hap hq
    by_cases h2 : L.length < 2
    · rw [proveFrom_few (f + 1) L ix d h2]
      simp only [List.append_nil, List.length_nil, Nat.add_zero]
      rw [few_node (f + 1) L d h2 hap.1 Q hq]
    · rw [proveFrom_step f L ix d (by omega)]
      have hi := ih (half L d (bitX ix d)) (d + 1) (Q ++ [nodeOf f (half L d (1 - bitX ix d)) (d + 1)]) (by omega) (hap.half _) (by simp [hq])
      rw [List.append_assoc, List.singleton_append] at hi
      generalize (proveFrom f (half L d (bitX ix d)) ix (d + 1)).1 = P at hi ⊢
      generalize (proveFrom f (half L d (bitX ix d)) ix (d + 1)).2 = x at hi ⊢
      have hl : d + (nodeOf f (half L d (1 - bitX ix d)) (d + 1) :: P).length = d + 1 + P.length := by rw [List.length_cons]; omega
      rw [hl, hi, leadFrom]
      have hg : (Q ++ nodeOf f (half L d (1 - bitX ix d)) (d + 1) :: P).getD d ⟨#[]⟩ = nodeOf f (half L d (1 - bitX ix d)) (d + 1) := by
        rw [List.getD_eq_getElem?_getD, List.getElem?_append_right (by omega), hq, Nat.sub_self]
        rfl
      rw [hg, nodeOf_two f L d (by omega)]
      have hb := bitOf_lt ix.data.toList d
      rcases (show bitX ix d = 0 ∨ bitX ix d = 1 by unfold bitX; omega) with h | h
      · rw [if_pos h, h]
      · rw [if_neg (show ¬ bitOf ix.data.toList d = 0 from fun h0 => by unfold bitX at h; omega), h]
/-- All alike with what is asked, ahead of bit d. -/
def Beside (L : List It) (ix : ByteArray) (d : Nat) : Prop := ∀ x ∈ L, ∀ k, k < d → bitI x k = bitX ix k
theorem Beside.half {L : List It} {ix : ByteArray} {d : Nat} (h : Beside L ix d) : Beside (half L d (bitX ix d)) ix (d + 1) := fun x hx k hk => by
  obtain ⟨hx1, hx2⟩ := List.mem_filter.1 hx
  by_cases e : k = d
  · subst e; exact eq_of_beq hx2
  · exact h x hx1 k (by omega)
/-- What a proof holds: marks, no more than there are bits; what lies there, or nothing; and it is no longer than another one's likeness asks. -/
structure Proves (L : List It) (ix : ByteArray) (d : Nat) (P : List ByteArray) (x : It) : Prop where
  marks : marksOk P = true
  few : d + P.length ≤ 128
  leaf : x = noIt ∨ (x ∈ L ∧ ∀ k, k < d + P.length → bitI x k = bitX ix k)
  there : ∀ y ∈ L, y.1 = ix → x = y
  far : P ≠ [] → ∃ y ∈ L, y.1 ≠ ix ∧ ∀ k, k + 1 < d + P.length → bitI y k = bitX ix k
theorem few_proves {L : List It} {ix : ByteArray} {d : Nat} (hd : d ≤ 128) (h : L.length < 2) (hb : Beside L ix d) : Proves L ix d [] (itAt L 0) := by
  refine ⟨rfl, by simpa using hd, ?_, ?_, fun h => absurd rfl h⟩
  · match L, h with
    | [], _ => exact .inl rfl
    | [x], _ => exact .inr ⟨by simp [itAt], fun k hk => hb x (by simp) k (by simpa using hk)⟩
  · match L, h with
    | [], _ => exact fun y hy => by cases hy
    | [x], _ => exact fun y hy _ => by rw [List.mem_singleton.1 hy]; rfl
theorem prove_holds (ix : ByteArray) : ∀ (f : Nat) (L : List It) (d : Nat), d + f = 128 → Apart L d → Beside L ix d → Proves L ix d (proveFrom f L ix d).1 (proveFrom f L ix d).2 := by
  intro f
  induction f with
  | zero =>
    intro L d hd hap hb
    have h2 : L.length < 2 := by
      rcases Nat.lt_or_ge L.length 2 with h | h
      · exact h
      · have := hap.lt h
        omega
    rw [proveFrom_few 0 L ix d h2]
    exact few_proves (by omega) h2 hb
  | succ f ih =>
    intro L d hd hap hb
    by_cases h2 : L.length < 2
    · rw [proveFrom_few (f + 1) L ix d h2]
      exact few_proves (by omega) h2 hb
    · rw [proveFrom_step f L ix d (by omega)]
      have hi := ih (half L d (bitX ix d)) (d + 1) (by omega) (hap.half _) hb.half
      generalize (proveFrom f (half L d (bitX ix d)) ix (d + 1)).1 = P at hi ⊢
      generalize (proveFrom f (half L d (bitX ix d)) ix (d + 1)).2 = x at hi ⊢
      have hl : ∀ n : ByteArray, d + (n :: P).length = d + 1 + P.length := fun n => by rw [List.length_cons]; omega
      refine ⟨?_, by rw [hl]; exact hi.few, ?_, ?_, ?_⟩
      · have := hi.marks
        unfold marksOk at this ⊢
        rw [List.all_cons, this, decide_eq_true (nodeOf_size _ _ _)]
        rfl
      · rcases hi.leaf with h | ⟨h, h'⟩
        · exact .inl h
        · exact .inr ⟨(List.mem_filter.1 h).1, fun k hk => h' k (by rw [hl] at hk; exact hk)⟩
      · intro y hy he
        refine hi.there y (List.mem_filter.2 ⟨hy, ?_⟩) he
        show (bitI y d == bitX ix d) = true
        unfold bitI bitX
        rw [he]
        exact beq_self_eq_true _
      · intro _
        by_cases hp : P = []
        · subst hp
          obtain ⟨y, hy, hne⟩ : ∃ y ∈ L, y.1 ≠ ix := by
            match L, h2, hap with
            | [], h2, _ => exact absurd (by simp) h2
            | [a], h2, _ => exact absurd (by simp) h2
            | a :: b :: r, _, hap =>
              have hab : a.1 ≠ b.1 := (List.pairwise_cons.1 hap.2.1).1 b (by simp)
              by_cases e : a.1 = ix
              · exact ⟨b, by simp, fun hb => hab (e.trans hb.symm)⟩
              · exact ⟨a, by simp, e⟩
          exact ⟨y, hy, hne, fun k hk => hb y hy k (by simp at hk; omega)⟩
        · obtain ⟨y, hy, hne, hk⟩ := hi.far hp
          exact ⟨y, (List.mem_filter.1 hy).1, hne, fun k h => hk k (by rw [hl] at h; exact h)⟩
/-- What is asked of right items is proved: the proof is right, leads to their root, and tells what lies there. -/
theorem asked {L : List It} {ix : ByteArray} {P : List ByteArray} {x : It} (hr : rightItems L = true) (h16 : ix.size = 16) (h : proveAns L ix = (P, x, 0)) :
    rightProof ix P x = true ∧ proofRootAns ix P x = (rootOf L, 0) ∧ Proves L ix 0 P x := by
  unfold proveAns at h
  rw [if_pos ⟨hr, h16⟩] at h
  have hap := right_apart hr
  have hp := prove_holds ix 128 L 0 (by omega) hap (fun x _ k hk => by omega)
  have hle := prove_leads ix 128 L 0 [] (by omega) hap rfl
  simp only [List.nil_append, Nat.zero_add] at hle
  rw [show (proveFrom 128 L ix 0).1 = P from congrArg Prod.fst h, show (proveFrom 128 L ix 0).2 = x from congrArg (fun p => p.2.1) h] at hp hle
  have hrp : rightProof ix P x = true := by
    unfold rightProof
    rw [decide_eq_true h16, decide_eq_true (by have := hp.few; omega), hp.marks]
    rcases hp.leaf with rfl | ⟨hx, hk⟩
    · rfl
    · have hs := right_sizes hr x hx
      rw [if_neg (by omega)]
      unfold leafOk
      rw [decide_eq_true hs.1, decide_eq_true hs.2, decide_eq_true]
      · rfl
      · refine commonOf_ge _ _ _ (by have := hp.few; omega) fun k h => (hk k (by omega)).symm
  refine ⟨hrp, ?_, hp⟩
  unfold proofRootAns
  rw [if_pos hrp, hle]
  rfl
/-- And so it is verified. -/
theorem verified {L : List It} {ix : ByteArray} {P : List ByteArray} {x : It} (hr : rightItems L = true) (h16 : ix.size = 16) (h : proveAns L ix = (P, x, 0)) :
    (∃ y ∈ L, y.1 = ix ∧ verifyAns (rootOf L) ix P x = (y.2, true, 0)) ∨ ((∀ y ∈ L, y.1 ≠ ix) ∧ verifyAns (rootOf L) ix P x = (⟨#[]⟩, false, 0)) := by
  obtain ⟨_, h2, h3⟩ := asked hr h16 h
  unfold verifyAns
  rw [h2]
  simp only [ne_eq, not_true_eq_false, if_false]
  by_cases e : ∃ y ∈ L, y.1 = ix
  · obtain ⟨y, hy, he⟩ := e
    left
    refine ⟨y, hy, he, ?_⟩
    rw [h3.there y hy he, if_pos he]
  · right
    refine ⟨fun y hy he => e ⟨y, hy, he⟩, ?_⟩
    rcases h3.leaf with rfl | ⟨hx, _⟩
    · rw [if_neg (show ¬ noIt.1 = ix from fun he => by rw [← he] at h16; exact absurd h16 (by decide))]
    · rw [if_neg (fun he => e ⟨x, hx, he⟩)]
/-- No longer than as far as another one is alike, and one bit more. -/
theorem asked_far {L : List It} {ix : ByteArray} {P : List ByteArray} {x : It} (hr : rightItems L = true) (h16 : ix.size = 16) (h : proveAns L ix = (P, x, 0)) :
    P = [] ∨ ∃ y ∈ L, y.1 ≠ ix ∧ P.length ≤ commonOf ix.data.toList y.1.data.toList + 1 := by
  obtain ⟨_, _, h3⟩ := asked hr h16 h
  by_cases hp : P = []
  · exact .inl hp
  · obtain ⟨y, hy, hne, hk⟩ := h3.far hp
    refine .inr ⟨y, hy, hne, ?_⟩
    have := commonOf_ge ix.data.toList y.1.data.toList (P.length - 1) (by have := h3.few; omega) fun k h => (hk k (by omega)).symm
    omega
end Go.Proofs.YtenlpbcembadcaaDoor
/- strings.Repeat, laid by name, no walk; one byte, sixteen times. -/
namespace Go.Proofs
open Go.Shelf
set_option maxRecDepth 100000
def Tryd.lays105_ren : Go.Shelf.Ren := ⟨fun | 105 => 46 | 212 => 68 | 99 => 69 | 165 => 70 | 166 => 71 | 170 => 72 | 169 => 73 | 263 => 87 | 264 => 88 | 206 => 89 | 240 => 90 | 241 => 91 | 276 => 99 | 277 => 100 | n => n, fun | 9 => 9 | 3 => 3 | 4 => 4 | 20 => 20 | 0 => 0 | 46 => 110 | 109 => 111 | 5 => 5 | 72 => 116 | 76 => 56 | 51 => 59 | 146 => 134 | 53 => 67 | 148 => 136 | 70 => 114 | 37 => 102 | 75 => 35 | 127 => 138 | 164 => 139 | 80 => 109 | n => n, fun | n => n⟩
theorem Tryd.lays105 : Go.Proofs.Lays.n105 Tryd.prog Tryd.lays105_ren := {
  mixed := by kernel_rfl
  f99 := Tryd.func69.trans (congrArg some (by kernel_rfl))
  f105 := Tryd.func46.trans (congrArg some (by kernel_rfl))
  f165 := Tryd.func70.trans (congrArg some (by kernel_rfl))
  f166 := Tryd.func71.trans (congrArg some (by kernel_rfl))
  f169 := Tryd.func73.trans (congrArg some (by kernel_rfl))
  f170 := Tryd.func72.trans (congrArg some (by kernel_rfl))
  f206 := Tryd.func89.trans (congrArg some (by kernel_rfl))
  f212 := Tryd.func68.trans (congrArg some (by kernel_rfl))
  f240 := Tryd.func90.trans (congrArg some (by kernel_rfl))
  f241 := Tryd.func91.trans (congrArg some (by kernel_rfl))
  f263 := Tryd.func87.trans (congrArg some (by kernel_rfl))
  f264 := Tryd.func88.trans (congrArg some (by kernel_rfl))
  f276 := Tryd.func99.trans (congrArg some (by kernel_rfl))
  f277 := Tryd.func100.trans (congrArg some (by kernel_rfl))
  t0 := Tryd.underlying0
  a0 := Tryd.isAgg0
  z0 := Tryd.sizeOf0
  v0 := Tryd.zeroValue0
  t3 := Tryd.underlying3
  a3 := Tryd.isAgg3
  z3 := Tryd.sizeOf3
  v3 := Tryd.zeroValue3
  t4 := Tryd.underlying4
  a4 := Tryd.isAgg4
  z4 := Tryd.sizeOf4
  v4 := Tryd.zeroValue4
  t5 := Tryd.underlying5
  a5 := Tryd.isAgg5
  z5 := Tryd.sizeOf5
  v5 := Tryd.zeroValue5
  t9 := Tryd.underlying9
  a9 := Tryd.isAgg9
  z9 := Tryd.sizeOf9
  v9 := Tryd.zeroValue9
  t20 := Tryd.underlying20
  a20 := Tryd.isAgg20
  z20 := Tryd.sizeOf20
  v20 := Tryd.zeroValue20
  t37 := Tryd.underlying102
  a37 := Tryd.isAgg102
  z37 := Tryd.sizeOf102
  v37 := Tryd.zeroValue102
  t46 := Tryd.underlying110
  a46 := Tryd.isAgg110
  z46 := Tryd.sizeOf110
  v46 := Tryd.zeroValue110
  t51 := Tryd.underlying59
  a51 := Tryd.isAgg59
  z51 := Tryd.sizeOf59
  v51 := Tryd.zeroValue59
  t53 := Tryd.underlying67
  a53 := Tryd.isAgg67
  z53 := Tryd.sizeOf67
  v53 := Tryd.zeroValue67
  t70 := Tryd.underlying114
  a70 := Tryd.isAgg114
  z70 := Tryd.sizeOf114
  v70 := Tryd.zeroValue114
  t72 := Tryd.underlying116
  a72 := Tryd.isAgg116
  z72 := Tryd.sizeOf116
  v72 := Tryd.zeroValue116
  t75 := Tryd.underlying35
  a75 := Tryd.isAgg35
  z75 := Tryd.sizeOf35
  v75 := Tryd.zeroValue35
  t76 := Tryd.underlying56
  a76 := Tryd.isAgg56
  z76 := Tryd.sizeOf56
  v76 := Tryd.zeroValue56
  t109 := Tryd.underlying111
  a109 := Tryd.isAgg111
  z109 := Tryd.sizeOf111
  v109 := Tryd.zeroValue111
  t127 := Tryd.underlying138
  a127 := Tryd.isAgg138
  z127 := Tryd.sizeOf138
  v127 := Tryd.zeroValue138
  t146 := Tryd.underlying134
  a146 := Tryd.isAgg134
  z146 := Tryd.sizeOf134
  v146 := Tryd.zeroValue134
  t148 := Tryd.underlying136
  a148 := Tryd.isAgg136
  z148 := Tryd.sizeOf136
  v148 := Tryd.zeroValue136
  t164 := Tryd.underlying139
  a164 := Tryd.isAgg139
  z164 := Tryd.sizeOf139
  v164 := Tryd.zeroValue139 }
theorem Tryd.Builder_Extra_105 : Builder.Extra Tryd.prog Tryd.lays105_ren := {
  sizeBuilder := by kernel_rfl
  liesBuilder := by kernel_rfl
  t5 := Tryd.underlying5
  a5 := Tryd.isAgg5
  z5 := Tryd.sizeOf5
  v5 := Tryd.zeroValue5
  infoByte := by kernel_rfl
  cellsByte := by kernel_rfl
  sizeByte := by kernel_rfl
  neB5 := by decide }
end Go.Proofs
namespace Go.Proofs.YtenlpbcembadcaaDoor
open Go.RowKit Go.Lib
def rep16 (c : UInt8) : ByteArray := ⟨(Lib.repeatL [c] 16).toArray⟩
theorem rep16_size (c : UInt8) : (rep16 c).size = 16 := rfl
theorem repeat16_any (c : UInt8) (w : World) : Calls Tryd.prog 46 #[.string ⟨#[c]⟩, .int .i64 16] w fun e w' => e = .returned (.string (rep16 c)) ∧ Below w.heap.size w w' :=
  (Any.strings_Repeat_main Tryd.lays105 Tryd.Builder_Extra_105 ⟨#[c]⟩ 16 w (by decide) (by decide) (by show 1 * 16 ≤ 140737488355328; decide) (by show 0 < 1; decide)).mono fun _ _ h => ⟨h.1, h.2⟩
end Go.Proofs.YtenlpbcembadcaaDoor
/- The keeps' fact: what is proved. -/
namespace Go.Proofs.YtenlpbcembadcaaDoor
open Go.RowKit

/-- What the program's Verify answers. -/
structure VerifyFace : Prop where
  verify : ∀ (root ix : ByteArray) (P : List ByteArray) (A : Option Addr) (cap : Nat) (x : It) (c : ByteArray) (t : Bool) (n : Int) (w : World), HasK w → P.length ≤ 1000000 → Strs w A P → ix.size ≤ 1000000 → x.1.size ≤ 1000000 → x.2.size ≤ 1000000 → verifyAns root ix P x = (c, t, n) →
    Calls Tryd.prog 14 #[.string root, .string ix, .agg #[.slice A P.length cap, .string x.1, .string x.2]] w fun e w' => e = .returned (.tuple #[.string c, .bool t, errOf n]) ∧ Below w.heap.size w w'
theorem one_root {x : It} (hx : goodI x = true) : rightItems [x] = true ∧ rootAns [x] = (rootOf [x], 0) ∧ ∀ ix : ByteArray, ix.size = 16 → proveAns [x] ix = ([], x, 0) := by
  have hr : rightItems [x] = true := by rw [right_one]; exact hx
  refine ⟨hr, by unfold rootAns; rw [if_pos hr], fun ix h => ?_⟩
  unfold proveAns
  rw [if_pos ⟨hr, h⟩, proveFrom_few 128 [x] ix 0 (by simp)]
  rfl
theorem proved_known : rootAns [(rep16 0, rep16 99)] = (rootOf [(rep16 0, rep16 99)], 0) ∧ proveAns [(rep16 0, rep16 99)] (rep16 0) = ([], (rep16 0, rep16 99), 0) ∧
    verifyAns (rootOf [(rep16 0, rep16 99)]) (rep16 0) [] (rep16 0, rep16 99) = (rep16 99, true, 0) ∧ verifyAns (rootOf [(rep16 0, rep16 99)]) (rep16 1) [] (rep16 0, rep16 99) = (⟨#[]⟩, false, 0) := by
  obtain ⟨hr, h1, h2⟩ := one_root (x := (rep16 0, rep16 99)) (by decide)
  refine ⟨h1, h2 _ rfl, ?_, ?_⟩
  · rcases verified hr rfl (h2 (rep16 0) rfl) with ⟨y, hy, _, h⟩ | ⟨h, _⟩
    · rw [List.mem_singleton] at hy
      subst hy
      exact h
    · exact absurd rfl (h _ (List.mem_singleton.2 rfl))
  · rcases verified hr rfl (h2 (rep16 1) rfl) with ⟨y, hy, he, _⟩ | ⟨_, h⟩
    · rw [List.mem_singleton] at hy
      subst hy
      exact absurd he (by decide)
    · exact h
set_option maxHeartbeats 4000000 in
set_option maxRecDepth 100000 in
theorem proved_any (F : VerifyFace) (w : World) (hk : HasK w) : Calls Tryd.prog 18 #[] w fun e w' => e = .returned (.bool true) ∧ Below w.heap.size w w' := by
  have HK := Lib.hid hk
  have HF := Lib.hid F
  have HPK := Lib.hid proved_known
  have HA := Lib.hid (show (rep16 0).size = 16 ∧ (rep16 99).size = 16 from ⟨rfl, rfl⟩)
  have HI := Lib.hid (show (rep16 1).size = 16 from rfl)
  clear hk F
  go_enter Tryd.func18, Tryd.ntmps18
  go_wp2_with fail
  refine (repeat16_any 0 _).mono ?_
  rintro e w1 ⟨rfl, hb1⟩
  have HB1 := Lib.hid hb1
  clear hb1
  go_wp2_with fail
  refine (repeat16_any 99 _).mono ?_
  rintro e w2 ⟨rfl, hb2⟩
  have HB2 := Lib.hid (HB1.out.trans (hb2.mono HB1.out.size))
  clear hb2
  generalize rep16 0 = a1 at HPK HA
  generalize rep16 99 = a2 at HPK HA
  obtain ⟨R, hR⟩ : ∃ R, rootOf [(a1, a2)] = R := ⟨_, rfl⟩
  rw [hR] at HPK
  clear hR
  have HH3 := Lib.hid (show Holds (w2.alloc (.cells #[.string a1, .string a2] 24)) w2.heap.size 2 (fun i => if i = 0 then .string a1 else .string a2) 24 from Holds.new w2 2 (fun i => if i = 0 then .string a1 else .string a2) 24)
  have HB3 := Lib.hid (HB2.out.alloc HB2.out.size (.cells #[.string a1, .string a2] 24))
  have c0 := HH3.out.cell 0 (by omega)
  have c1 := HH3.out.cell 1 (by omega)
  have hi4 : Itms ((w2.alloc (.cells #[.string a1, .string a2] 24)).alloc (.cells #[.string a1, .string a2] 24)) (some ⟨w2.heap.size + 1, 0, none⟩) [(a1, a2)] := by
    have h := one_item (a1, a2) (w2.alloc (.cells #[.string a1, .string a2] 24)) 24
    rw [show (w2.alloc (.cells #[.string a1, .string a2] 24)).heap.size = w2.heap.size + 1 by simp] at h
    exact h
  have HI4 := Lib.hid hi4
  have HB4 := Lib.hid (HB3.out.alloc HB3.out.size (.cells #[.string a1, .string a2] 24))
  have HH4 := Lib.hid (HH3.out.alloc (.cells #[.string a1, .string a2] 24))
  clear hi4
  go_wp2_with fail
  clear c0 c1 HH3 HB3
  generalize (w2.alloc (.cells #[.string a1, .string a2] 24)).alloc (.cells #[.string a1, .string a2] 24) = w4 at HI4 HB4 HH4
  obtain ⟨pa, hpa⟩ : ∃ pa, w2.heap.size = pa := ⟨_, rfl⟩
  rw [hpa] at HI4 HH4 ⊢
  clear hpa HB2 HB1
  refine (tRoot_is [(a1, a2)] _ 1 R 0 _ (HK.out.below HB4.out HK.out.lt) (by simp) (by simp) HI4.out HPK.out.1).mono ?_
  rintro e w5 ⟨rfl, hb5⟩
  have HB5 := Lib.hid (HB4.out.trans (hb5.mono HB4.out.size))
  have HH5 := Lib.hid (HH4.out.below hb5 HH4.out.lt)
  clear hb5 HI4 HB4 HH4
  rw [show errOf 0 = .nilIface from rfl]
  have c0 := HH5.out.cell 0 (by omega)
  have c1 := HH5.out.cell 1 (by omega)
  have HI6 := Lib.hid (one_item (a1, a2) w5 24)
  have HB6 := Lib.hid (HB5.out.alloc HB5.out.size (.cells #[.string a1, .string a2] 24))
  have HH6 := Lib.hid (HH5.out.alloc (.cells #[.string a1, .string a2] 24))
  have d0 := HH6.out.cell 0 (by omega)
  have d1 := HH6.out.cell 1 (by omega)
  go_wp2_with fail
  clear c0 c1 d0 d1
  refine (tProve_is [(a1, a2)] _ 1 a1 [] (a1, a2) 0 _ (HK.out.below HB6.out HK.out.lt) (by simp) (by simp) HI6.out HPK.out.2.1).mono ?_
  rintro e w6 ⟨PA, pc, rfl, hb6, -⟩
  have HB7 := Lib.hid (HB6.out.trans (hb6.mono HB6.out.size))
  have HH7 := Lib.hid (HH6.out.below hb6 HH6.out.lt)
  clear hb6 HI6 HB6 HH6 HB5 HH5
  rw [show errOf 0 = .nilIface from rfl]
  have HP8 := Lib.hid (show Holds (w6.alloc (.cells #[.slice PA 0 pc, .string a1, .string a2] 26)) w6.heap.size 3 (pCells (.slice PA 0 pc) (a1, a2)) 26 from Holds.new w6 3 (pCells (.slice PA 0 pc) (a1, a2)) 26)
  have HB8 := Lib.hid (HB7.out.alloc HB7.out.size (.cells #[.slice PA 0 pc, .string a1, .string a2] 26))
  have HH8 := Lib.hid (HH7.out.alloc (.cells #[.slice PA 0 pc, .string a1, .string a2] 26))
  have c0 := HH8.out.cell 0 (by omega)
  have c1 := HH8.out.cell 1 (by omega)
  have q0 : _ = some (Value.slice PA 0 pc) := HP8.out.cell 0 (by omega)
  have q1 : _ = some (Value.string a1) := HP8.out.cell 1 (by omega)
  have q2 : _ = some (Value.string a2) := HP8.out.cell 2 (by omega)
  go_wp2_with fail
  clear c0 c1 q0 q1 q2
  generalize w6.alloc (.cells #[.slice PA 0 pc, .string a1, .string a2] 26) = w7 at HP8 HB8 HH8
  obtain ⟨pp, hpp⟩ : ∃ pp, w6.heap.size = pp := ⟨_, rfl⟩
  rw [hpp] at HP8 ⊢
  clear hpp HB7 HH7
  refine (HF.out.verify R a1 [] PA pc (a1, a2) a2 true 0 _ (HK.out.below HB8.out HK.out.lt) (by simp) (Strs.nil _ _) (by have := HA.out.1; omega) (by have := HA.out.1; show a1.size ≤ _; omega) (by have := HA.out.2; show a2.size ≤ _; omega) HPK.out.2.2.1).mono ?_
  rintro e w8 ⟨rfl, hb8⟩
  have HB9 := Lib.hid (HB8.out.trans (hb8.mono HB8.out.size))
  have HH9 := Lib.hid (HH8.out.below hb8 HH8.out.lt)
  have HP9 := Lib.hid (HP8.out.below hb8 HP8.out.lt)
  clear hb8 HH8 HP8 HB8
  rw [show errOf 0 = .nilIface from rfl]
  have c1 := HH9.out.cell 1 (by omega)
  have hpl : pp < w8.heap.size := HP9.out.lt
  have HS0 := Lib.hid (show (w8.cell? ⟨pp, 0, none⟩ = some (.slice PA 0 pc) ∧ w8.cell? ⟨pp, 1, none⟩ = some (.string a1) ∧ w8.cell? ⟨pp, 2, none⟩ = some (.string a2) ∧ Below w8.heap.size w8 w8.drew) from ⟨HP9.out.cell 0 (by omega), HP9.out.cell 1 (by omega), HP9.out.cell 2 (by omega), (Below.refl _ _).drew⟩)
  have HKEEP := Lib.hid (show ∀ u v : World, (u.cell? ⟨pp, 0, none⟩ = some (.slice PA 0 pc) ∧ u.cell? ⟨pp, 1, none⟩ = some (.string a1) ∧ u.cell? ⟨pp, 2, none⟩ = some (.string a2) ∧ Below w8.heap.size w8 u) → Below u.heap.size u v → (v.cell? ⟨pp, 0, none⟩ = some (.slice PA 0 pc) ∧ v.cell? ⟨pp, 1, none⟩ = some (.string a1) ∧ v.cell? ⟨pp, 2, none⟩ = some (.string a2) ∧ Below w8.heap.size w8 v) from
    fun u v ⟨h0, h1, h2, hb⟩ hv => ⟨(hv.cell (p := ⟨pp, 0, none⟩) (Nat.lt_of_lt_of_le hpl hb.size)).trans h0, (hv.cell (p := ⟨pp, 1, none⟩) (Nat.lt_of_lt_of_le hpl hb.size)).trans h1, (hv.cell (p := ⟨pp, 2, none⟩) (Nat.lt_of_lt_of_le hpl hb.size)).trans h2, hb.trans (hv.mono hb.size)⟩)
  have HKK := Lib.hid (show ∀ u : World, (u.cell? ⟨pp, 0, none⟩ = some (.slice PA 0 pc) ∧ u.cell? ⟨pp, 1, none⟩ = some (.string a1) ∧ u.cell? ⟨pp, 2, none⟩ = some (.string a2) ∧ Below w8.heap.size w8 u) → HasK u from fun u hu => (HK.out.below HB9.out HK.out.lt).below hu.2.2.2 (Nat.lt_of_lt_of_le HK.out.lt HB9.out.size))
  go_wp2_with fail
  go_region_held3 (fun u => (u.cell? ⟨pp, 0, none⟩ = some (.slice PA 0 pc) ∧ u.cell? ⟨pp, 1, none⟩ = some (.string a1) ∧ u.cell? ⟨pp, 2, none⟩ = some (.string a2) ∧ Below w8.heap.size w8 u))
    (first | exact HS0.out | assumption | (refine HKEEP.out _ _ ?_ (by assumption); first | exact HS0.out | assumption | exact ⟨by assumption, by assumption, by assumption, by assumption⟩))
    (first
      | (go_at_call 46; refine (repeat16_any 1 _).mono ?_; rintro e wn ⟨rfl, hbn⟩)
      | (go_at_call 14; refine (HF.out.verify R (rep16 1) [] PA pc (a1, a2) ⟨#[]⟩ false 0 _ (HKK.out _ (by first | exact HS0.out | assumption)) (by simp) (Strs.nil _ _) (by have := HI.out; omega) (by have := HA.out.1; show a1.size ≤ _; omega) (by have := HA.out.2; show a2.size ≤ _; omega) HPK.out.2.2.2).mono ?_; rintro e wm ⟨he, hbm⟩; rw [show errOf 0 = Value.nilIface from rfl] at he; subst he))
  rename_i hheld
  have HBF := Lib.hid (HB9.out.trans (hheld.2.2.2.mono HB9.out.size))
  clear hheld
  go_wp2
  go_ret
  exact ⟨rfl, HBF.out⟩
end Go.Proofs.YtenlpbcembadcaaDoor
