/- Parts of the proof, one behind the other: There, Order, DFresh, Off, RDir. -/
import Derived.Test.YtcfpmofmjnhonaaGreatDoorM6
import Derived.Test.YtcfpmofmjnhonaaGreatDoorM8
import Derived.Test.YtcfpmofmjnhonaaGreatDoorM5
import Derived.Test.YtcfpmofmjnhonaaGreatDoorM1
import Derived.Test.YtcfpmofmjnhonaaGreatDoorM7
/- What is proved of items: plain facts (for ProofThere). -/
namespace Go.Proofs.YtcfpmofmjnhonaaGreatDoor

abbrev bitX (ix : ByteArray) (k : Nat) : Nat := bitOf ix.data.toList k
/-- A proof's step, where two or more are left. -/
theorem proveFrom_step (f : Nat) (L : List It) (ix : ByteArray) (d : Nat) (h : 2 ≤ L.length) : proveFrom (f + 1) L ix d =
    (nodeOf f (half L d (1 - bitX ix d)) (d + 1) :: (proveFrom f (half L d (bitX ix d)) ix (d + 1)).1, (proveFrom f (half L d (bitX ix d)) ix (d + 1)).2) := by
  rw [proveFrom, if_neg (by omega)]
theorem few_node (f : Nat) (L : List It) (d : Nat) (h : L.length < 2) (h16 : ∀ x ∈ L, x.1.size = 16) (Q : List ByteArray) (hq : Q.length = d) : startOf Q (itAt L 0) = nodeOf f L d := by
  unfold startOf
  match L, h with
  | [], _ =>
    rw [nodeOf_nil f [] d rfl, hq]
    rfl
  | [x], _ =>
    have hx := h16 x (by simp)
    rw [nodeOf_one f [x] d rfl, hq]
    show (if x.1.size = 0 then _ else leafM x d) = leafM x d
    rw [if_neg (by omega)]
/-- It leads to the items' node. -/
theorem prove_leads (ix : ByteArray) : ∀ (f : Nat) (L : List It) (d : Nat) (Q : List ByteArray), d + f = 128 → Apart L d → Q.length = d →
    leadFrom ix (Q ++ (proveFrom f L ix d).1) (d + (proveFrom f L ix d).1.length) (startOf (Q ++ (proveFrom f L ix d).1) (proveFrom f L ix d).2) = leadFrom ix (Q ++ (proveFrom f L ix d).1) d (nodeOf f L d) := by
  intro f
  induction f with
  | zero =>
    intro L d Q hd hap hq
    have h2 : L.length < 2 := by
      rcases Nat.lt_or_ge L.length 2 with h | h
      · exact h
      · have := hap.lt h
        omega
    rw [proveFrom_few 0 L ix d h2]
    simp only [List.append_nil, List.length_nil, Nat.add_zero]
    rw [few_node 0 L d h2 hap.1 Q hq]
  | succ f ih =>
    intro L d Q hd hap hq
    by_cases h2 : L.length < 2
    · rw [proveFrom_few (f + 1) L ix d h2]
      simp only [List.append_nil, List.length_nil, Nat.add_zero]
      rw [few_node (f + 1) L d h2 hap.1 Q hq]
    · rw [proveFrom_step f L ix d (by omega)]
      have hi := ih (half L d (bitX ix d)) (d + 1) (Q ++ [nodeOf f (half L d (1 - bitX ix d)) (d + 1)]) (by omega) (hap.half _) (by simp [hq])
      rw [List.append_assoc, List.singleton_append] at hi
      generalize (proveFrom f (half L d (bitX ix d)) ix (d + 1)).1 = P at hi ⊢
      generalize (proveFrom f (half L d (bitX ix d)) ix (d + 1)).2 = x at hi ⊢
      have hl : d + (nodeOf f (half L d (1 - bitX ix d)) (d + 1) :: P).length = d + 1 + P.length := by rw [List.length_cons]; omega
      rw [hl, hi, leadFrom]
      have hg : (Q ++ nodeOf f (half L d (1 - bitX ix d)) (d + 1) :: P).getD d ⟨#[]⟩ = nodeOf f (half L d (1 - bitX ix d)) (d + 1) := by
        rw [List.getD_eq_getElem?_getD, List.getElem?_append_right (by omega), hq, Nat.sub_self]
        rfl
      rw [hg, nodeOf_two f L d (by omega)]
      have hb := bitOf_lt ix.data.toList d
      rcases (show bitX ix d = 0 ∨ bitX ix d = 1 by unfold bitX; omega) with h | h
      · rw [if_pos h, h]
      · rw [if_neg (show ¬ bitOf ix.data.toList d = 0 from fun h0 => by unfold bitX at h; omega), h]
/-- All alike with what is asked, ahead of bit d. -/
def Beside (L : List It) (ix : ByteArray) (d : Nat) : Prop := ∀ x ∈ L, ∀ k, k < d → bitI x k = bitX ix k
theorem Beside.half {L : List It} {ix : ByteArray} {d : Nat} (h : Beside L ix d) : Beside (half L d (bitX ix d)) ix (d + 1) := fun x hx k hk => by
  obtain ⟨hx1, hx2⟩ := List.mem_filter.1 hx
  by_cases e : k = d
  · subst e; exact eq_of_beq hx2
  · exact h x hx1 k (by omega)
/-- What a proof holds: marks, no more than there are bits; what lies there, or nothing; and it is no longer than another one's likeness asks. -/
structure Proves (L : List It) (ix : ByteArray) (d : Nat) (P : List ByteArray) (x : It) : Prop where
  marks : marksOk P = true
  few : d + P.length ≤ 128
  leaf : x = noIt ∨ (x ∈ L ∧ ∀ k, k < d + P.length → bitI x k = bitX ix k)
  there : ∀ y ∈ L, y.1 = ix → x = y
  far : P ≠ [] → ∃ y ∈ L, y.1 ≠ ix ∧ ∀ k, k + 1 < d + P.length → bitI y k = bitX ix k
theorem few_proves {L : List It} {ix : ByteArray} {d : Nat} (hd : d ≤ 128) (h : L.length < 2) (hb : Beside L ix d) : Proves L ix d [] (itAt L 0) := by
  refine ⟨rfl, by simpa using hd, ?_, ?_, fun h => absurd rfl h⟩
  · match L, h with
    | [], _ => exact .inl rfl
    | [x], _ => exact .inr ⟨by simp [itAt], fun k hk => hb x (by simp) k (by simpa using hk)⟩
  · match L, h with
    | [], _ => exact fun y hy => by cases hy
    | [x], _ => exact fun y hy _ => by rw [List.mem_singleton.1 hy]; rfl
theorem prove_holds (ix : ByteArray) : ∀ (f : Nat) (L : List It) (d : Nat), d + f = 128 → Apart L d → Beside L ix d → Proves L ix d (proveFrom f L ix d).1 (proveFrom f L ix d).2 := by
  intro f
  induction f with
  | zero =>
    intro L d hd hap hb
    have h2 : L.length < 2 := by
      rcases Nat.lt_or_ge L.length 2 with h | h
      · exact h
      · have := hap.lt h
        omega
    rw [proveFrom_few 0 L ix d h2]
    exact few_proves (by omega) h2 hb
  | succ f ih =>
    intro L d hd hap hb
    by_cases h2 : L.length < 2
    · rw [proveFrom_few (f + 1) L ix d h2]
      exact few_proves (by omega) h2 hb
    · rw [proveFrom_step f L ix d (by omega)]
      have hi := ih (half L d (bitX ix d)) (d + 1) (by omega) (hap.half _) hb.half
      generalize (proveFrom f (half L d (bitX ix d)) ix (d + 1)).1 = P at hi ⊢
      generalize (proveFrom f (half L d (bitX ix d)) ix (d + 1)).2 = x at hi ⊢
      have hl : ∀ n : ByteArray, d + (n :: P).length = d + 1 + P.length := fun n => by rw [List.length_cons]; omega
      refine ⟨?_, by rw [hl]; exact hi.few, ?_, ?_, ?_⟩
      · have := hi.marks
        unfold marksOk at this ⊢
        rw [List.all_cons, this, decide_eq_true (nodeOf_size _ _ _)]
        rfl
      · rcases hi.leaf with h | ⟨h, h'⟩
        · exact .inl h
        · exact .inr ⟨(List.mem_filter.1 h).1, fun k hk => h' k (by rw [hl] at hk; exact hk)⟩
      · intro y hy he
        refine hi.there y (List.mem_filter.2 ⟨hy, ?_⟩) he
        show (bitI y d == bitX ix d) = true
        unfold bitI bitX
        rw [he]
        exact beq_self_eq_true _
      · intro _
        by_cases hp : P = []
        · subst hp
          obtain ⟨y, hy, hne⟩ : ∃ y ∈ L, y.1 ≠ ix := by
            match L, h2, hap with
            | [], h2, _ => exact absurd (by simp) h2
            | [a], h2, _ => exact absurd (by simp) h2
            | a :: b :: r, _, hap =>
              have hab : a.1 ≠ b.1 := (List.pairwise_cons.1 hap.2.1).1 b (by simp)
              by_cases e : a.1 = ix
              · exact ⟨b, by simp, fun hb => hab (e.trans hb.symm)⟩
              · exact ⟨a, by simp, e⟩
          exact ⟨y, hy, hne, fun k hk => hb y hy k (by simp at hk; omega)⟩
        · obtain ⟨y, hy, hne, hk⟩ := hi.far hp
          exact ⟨y, (List.mem_filter.1 hy).1, hne, fun k h => hk k (by rw [hl] at h; exact h)⟩
/-- What is asked of right items is proved: the proof is right, leads to their root, and tells what lies there. -/
theorem asked {L : List It} {ix : ByteArray} {P : List ByteArray} {x : It} (hr : rightItems L = true) (h16 : ix.size = 16) (h : proveAns L ix = (P, x, 0)) :
    rightProof ix P x = true ∧ proofRootAns ix P x = (rootOf L, 0) ∧ Proves L ix 0 P x := by
  unfold proveAns at h
  rw [if_pos ⟨hr, h16⟩] at h
  have hap := right_apart hr
  have hp := prove_holds ix 128 L 0 (by omega) hap (fun x _ k hk => by omega)
  have hle := prove_leads ix 128 L 0 [] (by omega) hap rfl
  simp only [List.nil_append, Nat.zero_add] at hle
  rw [show (proveFrom 128 L ix 0).1 = P from congrArg Prod.fst h, show (proveFrom 128 L ix 0).2 = x from congrArg (fun p => p.2.1) h] at hp hle
  have hrp : rightProof ix P x = true := by
    unfold rightProof
    rw [decide_eq_true h16, decide_eq_true (by have := hp.few; omega), hp.marks]
    rcases hp.leaf with rfl | ⟨hx, hk⟩
    · rfl
    · have hs := right_sizes hr x hx
      rw [if_neg (by omega)]
      unfold leafOk
      rw [decide_eq_true hs.1, decide_eq_true hs.2, decide_eq_true]
      · rfl
      · refine commonOf_ge _ _ _ (by have := hp.few; omega) fun k h => (hk k (by omega)).symm
  refine ⟨hrp, ?_, hp⟩
  unfold proofRootAns
  rw [if_pos hrp, hle]
  rfl
/-- And so it is verified. -/
theorem verified {L : List It} {ix : ByteArray} {P : List ByteArray} {x : It} (hr : rightItems L = true) (h16 : ix.size = 16) (h : proveAns L ix = (P, x, 0)) :
    (∃ y ∈ L, y.1 = ix ∧ verifyAns (rootOf L) ix P x = (y.2, true, 0)) ∨ ((∀ y ∈ L, y.1 ≠ ix) ∧ verifyAns (rootOf L) ix P x = (⟨#[]⟩, false, 0)) := by
  obtain ⟨_, h2, h3⟩ := asked hr h16 h
  unfold verifyAns
  rw [h2]
  simp only [ne_eq, not_true_eq_false, if_false]
  by_cases e : ∃ y ∈ L, y.1 = ix
  · obtain ⟨y, hy, he⟩ := e
    left
    refine ⟨y, hy, he, ?_⟩
    rw [h3.there y hy he, if_pos he]
  · right
    refine ⟨fun y hy he => e ⟨y, hy, he⟩, ?_⟩
    rcases h3.leaf with rfl | ⟨hx, _⟩
    · rw [if_neg (show ¬ noIt.1 = ix from fun he => by rw [← he] at h16; exact absurd h16 (by decide))]
    · rw [if_neg (fun he => e ⟨x, hx, he⟩)]
end Go.Proofs.YtcfpmofmjnhonaaGreatDoor
/- Items set one behind the other: plain lists (for TrieOrder). -/
namespace Go.Proofs.YtcfpmofmjnhonaaGreatDoor

def goodI (x : It) : Bool := decide (x.1.size = 16) && decide (x.2.size = 16)
theorem right_one (x : It) : rightItems [x] = goodI x := by
  unfold rightItems goodItems goodItem goodI itAt
  simp
/-- Items that rise, each of the right sizes, are right. -/
theorem right_of {T : List It} (hs : T.Pairwise ltI) (hg : ∀ x ∈ T, goodI x = true) (hl : T.length ≤ 60) : rightItems T = true := by
  unfold rightItems
  rw [Bool.and_eq_true]
  refine ⟨?_, decide_eq_true hl⟩
  unfold goodItems
  rw [List.all_eq_true]
  intro i hi
  have hi := List.mem_range.1 hi
  have hgi := hg T[i] (List.getElem_mem hi)
  unfold goodI at hgi
  rw [Bool.and_eq_true] at hgi
  unfold goodItem
  rw [itAt_get (List.getElem?_eq_getElem hi), Bool.and_eq_true, Bool.and_eq_true]
  refine ⟨⟨hgi.1, hgi.2⟩, ?_⟩
  rw [Bool.or_eq_true]
  by_cases h0 : i = 0
  · exact .inl (decide_eq_true h0)
  · right
    have hj : i - 1 < T.length := by omega
    rw [itAt_get (List.getElem?_eq_getElem hj)]
    exact decide_eq_true (List.pairwise_iff_getElem.1 hs (i - 1) i hj hi (by omega))
end Go.Proofs.YtcfpmofmjnhonaaGreatDoor
/- What a directory tells is proved, and believed, where no two names lie at one place; its epochs are a chain that a client sees step by step. -/
namespace Go.Proofs.YtcfpmofmjnhonaaGreatDoor
open Go.RowKit

/-- No two of these names lie at one place. -/
def Parted (S : List ByteArray) : Prop := ∀ s ∈ S, ∀ t ∈ S, nameOk s.data.toList = true → nameOk t.data.toList = true → (ofAns s).1 = (ofAns t).1 → s = t
theorem Parted.mono {S T : List ByteArray} (h : Parted T) (hs : ∀ s ∈ S, s ∈ T) : Parted S := fun s h1 t h2 => h s (hs s h1) t (hs t h2)
theorem no_name : nameOk (⟨#[]⟩ : ByteArray).data.toList = false := rfl
theorem DOk.vals60 {d : Dst} (h : DOk d) : d.vals.length ≤ 60 := by
  have hn : (⟨#[]⟩ : ByteArray) ∉ keysL d.vals := fun e => by
    obtain ⟨p, hp, he⟩ := List.mem_map.1 e
    have := (h.vn p hp).1
    rw [he] at this
    exact absurd this (by rw [no_name]; decide)
  have := nodup_le (A := ⟨#[]⟩ :: keysL d.vals) (B := keysL (allNames d ⟨#[]⟩)) (List.nodup_cons.2 ⟨hn, h.vk⟩) fun x hx => by
    rw [mem_names h.vk h.wk]
    rcases List.mem_cons.1 hx with rfl | hx
    · exact .inr (.inr rfl)
    · exact .inr (.inl hx)
  rw [List.length_cons, keysL_length, keysL_length] at this
  have := h.room
  omega
theorem of_ok {name : ByteArray} (h : nameOk name.data.toList = true) : (ofAns name).1.size = 16 := by
  unfold ofAns
  rw [if_pos h]
  exact markOf_len _ _
theorem open_size (d : Dst) (name : ByteArray) : (openOf d name).size = 16 := markOf_len _ _
theorem commit_ok {o v : ByteArray} (h : o.size = 16) (h1 : 1 ≤ v.size) (h2 : v.size ≤ 24) : commitAns o v = (markOf 99 [o, v], 0) := by
  unfold commitAns
  rw [if_pos ⟨h, h1, h2⟩]
theorem item_good {d : Dst} (h : DOk d) {p : ByteArray × ByteArray} (hp : p ∈ d.vals) : goodI (itemOf d p) = true := by
  obtain ⟨h1, h2, h3⟩ := h.vn p hp
  unfold goodI itemOf
  rw [Bool.and_eq_true]
  refine ⟨decide_eq_true (of_ok h1), decide_eq_true ?_⟩
  rw [commit_ok (open_size d p.1) h2 h3]
  exact markOf_len _ _
theorem items_mem {d : Dst} {y : It} : y ∈ itemsOf d ↔ ∃ p ∈ d.vals, itemOf d p = y := by
  rw [show (y ∈ itemsOf d ↔ y ∈ itemsRaw d) from (sortIts_perm (itemsRaw d)).mem_iff]
  exact List.mem_map
/-- The items are right. -/
theorem items_right {d : Dst} (h : DOk d) (hp : Parted (keysL d.vals)) : rightItems (itemsOf d) = true := by
  have hd : (itemsRaw d).Pairwise fun x y => x.1 ≠ y.1 := by
    unfold itemsRaw
    rw [List.pairwise_map]
    have hk := h.vk
    unfold keysL at hk
    rw [List.Nodup, List.pairwise_map] at hk
    refine List.Pairwise.imp_of_mem (fun {a b} ha hb hab e => hab ?_) hk
    exact hp a.1 (List.mem_map_of_mem ha) b.1 (List.mem_map_of_mem hb) (h.vn a ha).1 (h.vn b hb).1 e
  have hs := sortIts_sorted (itemsRaw d)
  have hd' : (itemsOf d).Pairwise fun x y => x.1 ≠ y.1 := ((sortIts_perm (itemsRaw d)).symm.pairwise_iff (fun h e => h e.symm)).1 hd
  refine right_of ((hs.and hd').imp fun hxy => ?_) (fun x hx => ?_) ?_
  · rename_i x y
    by_cases e : ltI x y
    · exact e
    · exact absurd (ltI_total e hxy.2) hxy.1
  · obtain ⟨p, hp, rfl⟩ := items_mem.1 hx
    exact item_good h hp
  · rw [show (itemsOf d).length = (itemsRaw d).length from (sortIts_perm (itemsRaw d)).length_eq]
    unfold itemsRaw
    rw [List.length_map]
    exact h.vals60
/-- What is asked of a name is proved. -/
theorem told_right {d : Dst} (h : DOk d) {name : ByteArray} (hp : Parted (name :: keysL d.vals)) (hn : nameOk name.data.toList = true) :
    (proveAns (itemsOf d) (ofAns name).1).2.2 = 0 ∧
    verifyAns (rootOf (itemsOf d)) (ofAns name).1 (proveAns (itemsOf d) (ofAns name).1).1 (proveAns (itemsOf d) (ofAns name).1).2.1 =
      match look d.vals name with | some v => ((commitAns (openOf d name) v).1, true, 0) | none => (⟨#[]⟩, false, 0) := by
  have hr := items_right h (hp.mono fun s hs => List.mem_cons_of_mem _ hs)
  have h16 := of_ok hn
  obtain ⟨P, x, hpr⟩ : ∃ P x, proveAns (itemsOf d) (ofAns name).1 = (P, x, 0) := by
    unfold proveAns
    rw [if_pos ⟨hr, h16⟩]
    exact ⟨_, _, rfl⟩
  rw [hpr]
  refine ⟨rfl, ?_⟩
  rcases verified hr h16 hpr with ⟨y, hy, hix, hv⟩ | ⟨hno, hv⟩
  · obtain ⟨p, hpm, rfl⟩ := items_mem.1 hy
    have hsame : p.1 = name := hp p.1 (List.mem_cons_of_mem _ (List.mem_map_of_mem hpm)) name (List.mem_cons_self ..) (h.vn p hpm).1 hn hix
    obtain ⟨s, v⟩ := p
    have hsame : s = name := hsame
    subst hsame
    rw [look_of_mem h.vk hpm]
    exact hv
  · cases e : look d.vals name with
    | none => exact hv
    | some v =>
      exact absurd rfl (hno (itemOf d (name, v)) (items_mem.2 ⟨(name, v), look_mem e, rfl⟩))
/-- Whoever has seen the last epoch believes it. -/
theorem ask_found {d : Dst} (h : DOk d) {name : ByteArray} (hp : Parted (name :: keysL d.vals)) (hn : nameOk name.data.toList = true) {c : Cl} (hs : (seeAns c (lastSgn d)).2 = 0) (hroot : (lastSgn d).head.root = rootOf (itemsOf d)) :
    askAns c name (foundAns d name (ofAns name).1) = ((seeAns c (lastSgn d)).1, (look d.vals name).getD ⟨#[]⟩, (look d.vals name).isSome, 0) := by
  obtain ⟨h1, h2⟩ := told_right h hp hn
  unfold askAns foundAns
  rw [if_pos hn, if_pos hs]
  show (if (verifyAns (lastSgn d).head.root _ _ _).2.2 = 0 then _ else _) = _
  rw [hroot]
  show (if (verifyAns (rootOf (itemsOf d)) (ofAns name).1 (proveAns (itemsOf d) (ofAns name).1).1 (proveAns (itemsOf d) (ofAns name).1).2.1).2.2 = 0 then _ else _) = _
  rw [h2]
  cases e : look d.vals name with
  | none =>
    simp only []
    rw [if_pos trivial, if_pos (by exact ⟨trivial, rfl, rfl⟩)]
    rfl
  | some v =>
    have hv : 1 ≤ v.size ∧ v.size ≤ 24 := (h.vn _ (look_mem e)).2
    simp only []
    rw [if_pos trivial, if_neg (by rintro ⟨h0, _⟩; cases h0), if_pos]
    · rfl
    · refine ⟨trivial, ?_⟩
      show commitAns (openOf d name) v = ((commitAns (openOf d name) v).1, 0)
      rw [commit_ok (open_size d name) hv.1 hv.2]

def headsOf (d : Dst) : List Hd := d.eps.map (·.head)
/-- Its epochs are a chain, each sealed in its turn. -/
structure Chained (d : Dst) : Prop where
  link : ∀ (i : Nat) s, d.eps[i]? = some s → s = signOf d.secret i s.head ∧ s.head.epoch = (i : Int) + 1 ∧ rightHead s.head = true ∧ nextAns ((headsOf d).take i) s.head.root = (s.head, 0)
theorem newDst_chained (secret : ByteArray) : Chained (newDst secret) := ⟨fun i s h => by simp [newDst] at h⟩
theorem none16_size : none16.size = 16 := rfl
theorem next_right {L : List Hd} {root : ByteArray} (hl : L.length ≤ 8) (h16 : root.size = 16) (hlast : ∀ h, L.getLast? = some h → rightHead h = true ∧ h.epoch = (L.length : Int)) :
    ∃ h, nextAns L root = (h, 0) ∧ rightHead h = true ∧ h.epoch = (L.length : Int) + 1 ∧ h.root = root := by
  unfold nextAns nextHd
  cases e : L.getLast? with
  | none =>
    have hL : L = [] := List.getLast?_eq_none_iff.1 e
    subst hL
    have hr : rightHead (firstHd root) = true := by unfold rightHead firstHd; simp [h16, none16_size]
    exact ⟨firstHd root, by simp only []; rw [if_pos hr], hr, rfl, rfl⟩
  | some h =>
    obtain ⟨hr, he⟩ := hlast h e
    have hw : wrap64 (h.epoch + 1) = (L.length : Int) + 1 := by rw [he]; unfold wrap64; omega
    have hr2 : rightHead (afterHd h root) = true := by
      unfold rightHead afterHd
      simp only []
      rw [hw]
      simp [h16, headMark, markOf_len]
      try omega
    refine ⟨afterHd h root, ?_, hr2, hw, rfl⟩
    simp only []
    rw [if_pos hr]
    simp only []
    rw [if_pos hr2]
theorem headsOf_get {d : Dst} {i : Nat} {s : Sgn} (h : d.eps[i]? = some s) : (headsOf d)[i]? = some s.head := by unfold headsOf; rw [List.getElem?_map, h]; rfl
theorem put_chained {d : Dst} (h : Chained d) (name value : ByteArray) : Chained (putAns d name value).1 := by
  unfold putAns
  repeat' split
  all_goals first | exact h | exact ⟨h.link⟩
theorem lastSgn_snoc (d : Dst) (s : Sgn) : lastSgn { d with eps := d.eps ++ [s] } = s := by
  unfold lastSgn
  simp
/-- What is signed of a root. -/
def sgnOf (d : Dst) (root : ByteArray) : Sgn := signOf d.secret d.eps.length (nextAns (d.eps.map (·.head)) root).1
/-- One more epoch of a root is the next of the chain. -/
theorem push_linked {d : Dst} (hc : Chained d) (he : d.eps.length < 8) {root : ByteArray} (h16 : root.size = 16) :
    Chained { settled d with eps := d.eps ++ [sgnOf d root] } ∧ (sgnOf d root).head.root = root := by
  have hlen : (headsOf d).length = d.eps.length := by unfold headsOf; simp
  obtain ⟨hd, hn, hrt, hep, hdr⟩ := next_right (L := headsOf d) (root := root) (by rw [hlen]; omega) h16 (fun x hx => by
    rw [List.getLast?_eq_getElem?, hlen] at hx
    have hi : d.eps.length - 1 < d.eps.length := by
      have := (List.getElem?_eq_some_iff.1 hx).1
      rw [hlen] at this
      omega
    obtain ⟨s, hs⟩ : ∃ s, d.eps[d.eps.length - 1]? = some s := ⟨_, List.getElem?_eq_getElem hi⟩
    rw [headsOf_get hs] at hx
    obtain rfl := Option.some.inj hx
    obtain ⟨_, h2, h3, _⟩ := hc.link _ _ hs
    exact ⟨h3, by rw [h2, hlen]; omega⟩)
  have hsg : sgnOf d root = signOf d.secret d.eps.length hd := by
    unfold sgnOf
    rw [show d.eps.map (·.head) = headsOf d from rfl, hn]
  refine ⟨⟨fun i s hs => ?_⟩, ?_⟩
  · have hs : (d.eps ++ [sgnOf d root])[i]? = some s := hs
    show s = signOf d.secret i s.head ∧ s.head.epoch = (i : Int) + 1 ∧ rightHead s.head = true ∧ nextAns (((d.eps ++ [sgnOf d root]).map (·.head)).take i) s.head.root = (s.head, 0)
    rw [List.map_append]
    by_cases hi : i < d.eps.length
    · rw [List.getElem?_append_left hi] at hs
      rw [List.take_append_of_le_length (by rw [List.length_map]; omega)]
      exact hc.link i s hs
    · have hi2 : i = d.eps.length := by
        have := (List.getElem?_eq_some_iff.1 hs).1
        simp at this
        omega
      subst hi2
      rw [List.getElem?_append_right (Nat.le_refl _), Nat.sub_self] at hs
      obtain rfl : sgnOf d root = s := by simpa using hs
      rw [List.take_append_of_le_length (by rw [List.length_map]; omega), List.take_of_length_le (by rw [List.length_map]; omega), hsg]
      exact ⟨rfl, by show hd.epoch = _; rw [hep, hlen], hrt, by show nextAns (headsOf d) hd.root = (hd, 0); rw [hdr]; exact hn⟩
  · rw [hsg]
    exact hdr
/-- One more epoch is the next of the chain, where no two names lie at one place. -/
theorem publish_chained {d : Dst} (h : DOk d) (hc : Chained d) (he : d.eps.length < 8) (hp : Parted (keysL (settled d).vals)) :
    publishAns d = ({ settled d with eps := d.eps ++ [nextSgn d] }, nextSgn d, 0) ∧ Chained { settled d with eps := d.eps ++ [nextSgn d] } ∧ (nextSgn d).head.root = rootOf (itemsOf (settled d)) := by
  have hok : DOk { settled d with eps := d.eps ++ [nextSgn d] } := by have := publishAns_ok h; unfold publishAns at this; rwa [if_pos he] at this
  have hr := items_right (d := { settled d with eps := d.eps ++ [nextSgn d] }) hok hp
  have hroot : (rootAns (itemsOf (settled d))).1 = rootOf (itemsOf (settled d)) := by unfold rootAns; rw [if_pos (show rightItems (itemsOf (settled d)) = true from hr)]
  have hsg : nextSgn d = sgnOf d (rootOf (itemsOf (settled d))) := by rw [← hroot]; rfl
  refine ⟨by unfold publishAns; rw [if_pos he], ?_⟩
  rw [hsg]
  exact push_linked hc he (nodeOf_size _ _ _)
theorem dirSeed_size (s : ByteArray) : (dirSeed s).size = 16 := markOf_len _ _
/-- Its own epoch is what a client may see. -/
theorem ep_fits {d : Dst} (h : DOk d) (hc : Chained d) {i : Nat} {s : Sgn} (hs : d.eps[i]? = some s) : rightHead s.head = true ∧ s.key = s.head.epoch - 1 ∧ sealOk (dirPub d.secret) (headMark s.head) s.key s.sig s.path = true := by
  obtain ⟨h1, h2, h3, _⟩ := hc.link i s hs
  have hi : i < 8 := by have := (List.getElem?_eq_some_iff.1 hs).1; have := h.few; omega
  have hm : (headMarkAns s.head).1 = headMark s.head := by unfold headMarkAns; rw [if_pos h3]
  have hk := sealAns_ok (seed := dirSeed d.secret) (key := (i : Int)) (m := headMark s.head) (dirSeed_size _) (by omega) (by omega) (markOf_len _ _)
  refine ⟨h3, ?_, ?_⟩
  · rw [h1]
    unfold signOf
    show (sealAns (dirSeed d.secret) (i : Int) (headMarkAns s.head).1).1 = s.head.epoch - 1
    rw [hm, hk.1, h2]
    omega
  · rw [h1]
    unfold signOf
    show sealOk (dirPub d.secret) (headMark s.head) (sealAns (dirSeed d.secret) (i : Int) (headMarkAns s.head).1).1 (sealAns (dirSeed d.secret) (i : Int) (headMarkAns s.head).1).2.1 (sealAns (dirSeed d.secret) (i : Int) (headMarkAns s.head).1).2.2.1 = true
    rw [hm]
    exact hk.2.2
theorem see_eps {d : Dst} (h : DOk d) (hc : Chained d) {i n : Nat} {s : Sgn} (hs : d.eps[i]? = some s) (hn : n ≤ d.eps.length) :
    seeAns ⟨dirPub d.secret, (headsOf d).take n⟩ s = if n < i then (⟨dirPub d.secret, (headsOf d).take n⟩, 10) else if n = i then (⟨dirPub d.secret, (headsOf d).take (n + 1)⟩, 0) else (⟨dirPub d.secret, (headsOf d).take n⟩, 0) := by
  obtain ⟨h1, h2, h3, h4⟩ := hc.link i s hs
  have hl : ((headsOf d).take n).length = n := by unfold headsOf; rw [List.length_take, List.length_map]; omega
  unfold seeAns
  rw [if_pos (ep_fits h hc hs)]
  simp only [hl, h2]
  by_cases c1 : n < i
  · rw [if_pos (by omega), if_pos c1]
  · rw [if_neg (by omega), if_neg c1]
    by_cases c2 : n = i
    · subst c2
      rw [if_neg (by omega), if_pos rfl, if_pos h4]
      congr 2
      rw [List.take_add_one, headsOf_get hs]
      rfl
    · rw [if_pos (by omega), if_neg c2, if_pos]
      rw [show ((i : Int) + 1 - 1).toNat = i by omega]
      refine hdAt_get ?_
      rw [List.getElem?_take_of_lt (by omega)]
      exact headsOf_get hs
end Go.Proofs.YtcfpmofmjnhonaaGreatDoor
/- Worlds that part from one another only in some blocks, and in new ones. -/
namespace Go.Proofs.YtcfpmofmjnhonaaGreatDoor
open Go.RowKit

/-- But for the blocks of F, and new ones, all is as it was. -/
structure Off (F : Nat → Prop) (w w' : World) : Prop where
  os : w'.os = w.os
  tape : w'.tape = w.tape
  output : w'.output = w.output
  size : w.heap.size ≤ w'.heap.size
  block : ∀ k, k < w.heap.size → ¬ F k → w'.heap[k]? = w.heap[k]?
theorem Off.refl (F : Nat → Prop) (w : World) : Off F w w := ⟨rfl, rfl, rfl, Nat.le_refl _, fun _ _ _ => rfl⟩
theorem Off.of_below {F : Nat → Prop} {w w' : World} (h : Below w.heap.size w w') : Off F w w' := ⟨h.os, h.tape, h.output, h.size, fun k hk _ => h.block k hk⟩
theorem Off.trans {F G : Nat → Prop} {a b c : World} (h : Off F a b) (k : Off G b c) (hG : ∀ i, i < a.heap.size → G i → F i) : Off F a c :=
  ⟨k.os.trans h.os, k.tape.trans h.tape, k.output.trans h.output, Nat.le_trans h.size k.size, fun i hi hn => (k.block i (Nat.lt_of_lt_of_le hi h.size) (fun g => hn (hG i hi g))).trans (h.block i hi hn)⟩
theorem Off.mono {F G : Nat → Prop} {w w' : World} (h : Off F w w') (hG : ∀ i, F i → G i) : Off G w w' := ⟨h.os, h.tape, h.output, h.size, fun k hk hn => h.block k hk (fun f => hn (hG k f))⟩
theorem Off.then {F : Nat → Prop} {a b c : World} (h : Off F a b) (k : Below b.heap.size b c) : Off F a c := h.trans (G := fun _ => False) (.of_below k) (fun _ _ g => g.elim)
theorem Off.below {F : Nat → Prop} {w w' : World} {B : Nat} (h : Off F w w') (hB : ∀ k, F k → B ≤ k) (hs : B ≤ w.heap.size) : Below B w w' :=
  ⟨h.os, h.tape, h.output, h.size, fun k hk => h.block k (by omega) (fun f => by have := hB k f; omega)⟩
theorem Off.of_grown {F : Nat → Prop} {w w' : World} {row : Option Nat} (h : w.grownBy w' row) (hr : ∀ k, row = some k → F k) : Off F w w' :=
  ⟨h.os, h.tape, h.output, h.size, fun k hk hn => h.block k hk (fun e => hn (hr k e.symm))⟩
theorem Off.setCell {F : Nat → Prop} {u w : World} (h : Off F u w) {a : Addr} (ha : u.heap.size ≤ a.block ∨ F a.block) (v : Value) : Off F u (w.setCell a v) :=
  ⟨h.os, h.tape, h.output, by simp [World.setCell]; exact h.size, fun k hk hn => (Below.heap_setCell w a v k (by rcases ha with ha | ha; omega; exact fun e => hn (e ▸ ha))).trans (h.block k hk hn)⟩
theorem Off.alloc {F : Nat → Prop} {u w : World} (h : Off F u w) (o : Obj) : Off F u (w.alloc o) := h.then (alloc_below w o)
theorem Off.drew {F : Nat → Prop} {u w : World} (h : Off F u w) : Off F u w.drew := ⟨h.os, h.tape, h.output, h.size, h.block⟩
theorem Off.drewN {F : Nat → Prop} {u w : World} (h : Off F u w) (n : Nat) : Off F u (w.drewN n) := ⟨h.os, h.tape, h.output, h.size, h.block⟩
/-- The blocks of F are as they were. -/
structure Same (F : Nat → Prop) (w w' : World) : Prop where
  size : w.heap.size ≤ w'.heap.size
  block : ∀ k, F k → w'.heap[k]? = w.heap[k]?
theorem Same.refl (F : Nat → Prop) (w : World) : Same F w w := ⟨Nat.le_refl _, fun _ _ => rfl⟩
theorem Same.trans {F : Nat → Prop} {a b c : World} (h : Same F a b) (k : Same F b c) : Same F a c := ⟨Nat.le_trans h.size k.size, fun i hi => (k.block i hi).trans (h.block i hi)⟩
theorem Same.mono {F G : Nat → Prop} {a b : World} (h : Same F a b) (hG : ∀ i, G i → F i) : Same G a b := ⟨h.size, fun i hi => h.block i (hG i hi)⟩
theorem Same.cell {F : Nat → Prop} {a b : World} (h : Same F a b) {p : Addr} (hp : F p.block) : b.cell? p = a.cell? p := World.cell?_of_block (w := a) (h.block p.block hp)
theorem Off.same {F G : Nat → Prop} {w w' : World} (h : Off G w w') (lt : ∀ k, F k → k < w.heap.size) (hd : ∀ k, F k → ¬ G k) : Same F w w' := ⟨h.size, fun k hk => h.block k (lt k hk) (hd k hk)⟩
theorem same_of_below {F : Nat → Prop} {w w' : World} {B : Nat} (h : Below B w w') (lt : ∀ k, F k → k < B) : Same F w w' := ⟨h.size, fun k hk => h.block k (lt k hk)⟩
/-- What is now its own was its own, or is new. -/
def Grew (w : World) (F F' : Nat → Prop) : Prop := ∀ k, F' k → F k ∨ w.heap.size ≤ k
theorem Grew.refl (w : World) (F : Nat → Prop) : Grew w F F := fun _ h => .inl h
theorem Grew.trans {a b : World} {F G H : Nat → Prop} (h : Grew a F G) (k : Grew b G H) (hs : a.heap.size ≤ b.heap.size) : Grew a F H := fun i hi => by
  rcases k i hi with h1 | h1
  · exact h i h1
  · exact .inr (Nat.le_trans hs h1)
/-- What was apart stays apart from what grew. -/
theorem Grew.apart {w : World} {F F' G : Nat → Prop} (h : Grew w F F') (lt : ∀ k, G k → k < w.heap.size) (hd : ∀ k, G k → ¬ F k) : ∀ k, G k → ¬ F' k := fun k hk hf => by
  rcases h k hf with h1 | h1
  · exact hd k hk h1
  · have := lt k hk; omega
theorem Grew.base {w : World} {F F' : Nat → Prop} {B : Nat} (h : Grew w F F') (hB : ∀ k, F k → B ≤ k) (hs : B ≤ w.heap.size) : ∀ k, F' k → B ≤ k := fun k hk => by
  rcases h k hk with h1 | h1
  · exact hB k h1
  · omega
end Go.Proofs.YtcfpmofmjnhonaaGreatDoor
/- The document's directory in memory. -/
namespace Go.Proofs.YtcfpmofmjnhonaaGreatDoor
open Go.RowKit

/-- A signed head in memory: where its texts lie. -/
structure SgM where
  s : Sgn
  A : Option Addr
  ca : Nat
  B : Option Addr
  cb : Nat
def SgM.cells (m : SgM) : List Value := [.int .i64 m.s.head.epoch, .string m.s.head.root, .string m.s.head.prev, .int .i64 m.s.key, .slice m.A m.s.sig.length m.ca, .slice m.B m.s.path.length m.cb]
def sgCells (M : List SgM) : List Value := M.flatMap SgM.cells
theorem sgCells_length (M : List SgM) : (sgCells M).length = M.length * 6 := by
  induction M with
  | nil => rfl
  | cons m M ih => unfold sgCells at ih ⊢; rw [List.flatMap_cons, List.length_append, ih]; simp [SgM.cells]; omega
theorem sgCells_snoc (M : List SgM) (m : SgM) : sgCells (M ++ [m]) = sgCells M ++ m.cells := by simp [sgCells]
theorem sgCells_get (M : List SgM) : ∀ (i : Nat) (m : SgM) (j : Nat), M[i]? = some m → j < 6 → (sgCells M)[i * 6 + j]? = m.cells[j]? := by
  induction M with
  | nil => intro i m j h; simp at h
  | cons y M ih =>
    intro i m j h hj
    have e : sgCells (y :: M) = y.cells ++ sgCells M := rfl
    have hl : y.cells.length = 6 := rfl
    cases i with
    | zero =>
      simp at h; subst h
      rw [e, List.getElem?_append_left (by rw [hl]; omega)]; simp
    | succ i =>
      rw [e, List.getElem?_append_right (by rw [hl]; omega), hl, show (i + 1) * 6 + j - 6 = i * 6 + j by omega]
      exact ih i m j (by simpa using h) hj
/-- The texts of a signed head lie in blocks of F. -/
structure SgIn (F : Nat → Prop) (w : World) (m : SgM) : Prop where
  sig : Strs w m.A m.s.sig
  path : Strs w m.B m.s.path
  fs : ∀ a, m.A = some a → 0 < m.s.sig.length → F a.block
  fp : ∀ a, m.B = some a → 0 < m.s.path.length → F a.block
  cp : m.s.sig.length ≤ m.ca
theorem Strs.same {F : Nat → Prop} {w w' : World} {A : Option Addr} {L : List ByteArray} (h : Strs w A L) (hf : ∀ a, A = some a → 0 < L.length → F a.block) (hs : Same F w w') : Strs w' A L := fun i p hp => by
  obtain ⟨a, ha, hl, hc⟩ := h i p hp
  have hF := hf a ha (by have := (List.getElem?_eq_some_iff.1 hp).1; omega)
  exact ⟨a, ha, Nat.lt_of_lt_of_le hl hs.size, (hs.cell (by rw [block_add]; exact hF)).trans hc⟩
theorem SgIn.same {F : Nat → Prop} {w w' : World} {m : SgM} (h : SgIn F w m) (hs : Same F w w') : SgIn F w' m := ⟨h.sig.same h.fs hs, h.path.same h.fp hs, h.fs, h.fp, h.cp⟩
theorem SgIn.mono {F G : Nat → Prop} {w : World} {m : SgM} (h : SgIn F w m) (hG : ∀ k, F k → G k) : SgIn G w m := ⟨h.sig, h.path, fun a e l => hG _ (h.fs a e l), fun a e l => hG _ (h.fp a e l), h.cp⟩

/-- A box in memory, its two blocks known. -/
structure BoxAt (w : World) (bb g : Nat) (seed : ByteArray) : Prop where
  lt : bb < w.heap.size
  ltg : g < w.heap.size
  sd : w.cell? ⟨bb, 0, none⟩ = some (.string seed)
  rows : ∃ rc, w.cell? ⟨bb, 1, none⟩ = some (.slice (some ⟨g, 0, none⟩) 15 rc) ∧ ∀ k, k < 15 → w.cell? ⟨g, k, none⟩ = some (.string ((rowsOf seed).getD k ⟨#[]⟩))
theorem BoxIs.at' {w : World} {bb : Nat} {seed : ByteArray} (h : BoxIs w bb seed) : ∃ g, BoxAt w bb g seed := by
  obtain ⟨g, rc, hg, h1, h2⟩ := h.rows
  exact ⟨g, h.lt, hg, h.sd, rc, h1, h2⟩
theorem BoxAt.is {w : World} {bb g : Nat} {seed : ByteArray} (h : BoxAt w bb g seed) : BoxIs w bb seed := by
  obtain ⟨rc, h1, h2⟩ := h.rows
  exact ⟨h.lt, h.sd, g, rc, h.ltg, h1, h2⟩
theorem BoxAt.same {F : Nat → Prop} {w w' : World} {bb g : Nat} {seed : ByteArray} (h : BoxAt w bb g seed) (hs : Same F w w') (h1 : F bb) (h2 : F g) : BoxAt w' bb g seed := by
  obtain ⟨rc, e1, e2⟩ := h.rows
  exact ⟨Nat.lt_of_lt_of_le h.lt hs.size, Nat.lt_of_lt_of_le h.ltg hs.size, (hs.cell (p := ⟨bb, 0, none⟩) h1).trans h.sd, rc, (hs.cell (p := ⟨bb, 1, none⟩) h1).trans e1, fun k hk => (hs.cell (p := ⟨g, k, none⟩) h2).trans (e2 k hk)⟩

def rdF (rb bb m1 m2 m3 : Nat) (secret : ByteArray) (v : Value) : Nat → Value := fun i =>
  if i = 0 then .pointer (some ⟨rb, 0, none⟩) else if i = 1 then .string secret else if i = 2 then .pointer (some ⟨bb, 0, none⟩) else if i = 3 then .map (some m1) else if i = 4 then .map (some m2) else if i = 5 then .map (some m3) else v
/-- The document's directory at block p, its parts at these blocks, all of F. -/
structure RDirM (F : Nat → Prop) (w : World) (p rb : Nat) (d : Dst) (bb g m1 m2 m3 : Nat) (v : Value) (M : List SgM) : Prop where
  own : Holds w p 7 (rdF rb bb m1 m2 m3 d.secret v) 43
  box : BoxAt w bb g (dirSeed d.secret)
  wait : MapIs kS w m1 d.wait
  vals : MapIs kS w m2 d.vals
  since : MapIs kI w m3 d.since
  row : Row w (p + 1) 6 v M.length (sgCells M)
  eps : M.map (·.s) = d.eps
  sgs : ∀ m ∈ M, SgIn (fun k => F k ∧ v.ownBlock ≠ some k ∧ k ≠ m1 ∧ k ≠ m2 ∧ k ≠ m3 ∧ k ≠ p) w m
  fp : F p
  fb : F bb
  fg : F g
  f1 : F m1
  f2 : F m2
  f3 : F m3
  fv : ∀ k, v.ownBlock = some k → F k
  n12 : m1 ≠ m2
  n13 : m1 ≠ m3
  n23 : m2 ≠ m3
  lb : bb < p
  lg : g < p
  out : ∀ k, (k = bb ∨ k = g ∨ v.ownBlock = some k) → k ≠ m1 ∧ k ≠ m2 ∧ k ≠ m3
  lt : ∀ k, F k → k < w.heap.size
theorem holds_map {K : Type} {k : MKind K} {w : World} {p n b : Nat} {f : Nat → Value} {t : TypeId} {L : List (ByteArray × K)} (h : Holds w p n f t) (m : MapIs k w b L) : p ≠ b := fun e => by
  obtain ⟨⟨D, ⟨es, clock, hb, _⟩, _⟩, _, _⟩ := m
  unfold Holds at h
  rw [e, hb] at h
  cases h
theorem RDirM.same {F : Nat → Prop} {w w' : World} {p rb : Nat} {d : Dst} {bb g m1 m2 m3 : Nat} {v : Value} {M : List SgM} (h : RDirM F w p rb d bb g m1 m2 m3 v M) (hs : Same F w w') : RDirM F w' p rb d bb g m1 m2 m3 v M where
  own := by have := h.own; unfold Holds at this ⊢; rw [hs.block p h.fp]; exact this
  box := h.box.same hs h.fb h.fg
  wait := h.wait.block (hs.block _ h.f1)
  vals := h.vals.block (hs.block _ h.f2)
  since := h.since.block (hs.block _ h.f3)
  row := h.row.kept (fun k hk => hs.block k (h.fv k hk)) hs.size
  eps := h.eps
  sgs m hm := (h.sgs m hm).same (hs.mono fun _ h => h.1)
  fp := h.fp
  fb := h.fb
  fg := h.fg
  f1 := h.f1
  f2 := h.f2
  f3 := h.f3
  fv := h.fv
  n12 := h.n12
  n13 := h.n13
  n23 := h.n23
  lb := h.lb
  lg := h.lg
  out := h.out
  lt k hk := Nat.lt_of_lt_of_le (h.lt k hk) hs.size
/-- A wider F serves as well. -/
theorem RDirM.wide {F G : Nat → Prop} {w : World} {p rb : Nat} {d : Dst} {bb g m1 m2 m3 : Nat} {v : Value} {M : List SgM} (h : RDirM F w p rb d bb g m1 m2 m3 v M) (hG : ∀ k, F k → G k) (lt : ∀ k, G k → k < w.heap.size) : RDirM G w p rb d bb g m1 m2 m3 v M where
  own := h.own
  box := h.box
  wait := h.wait
  vals := h.vals
  since := h.since
  row := h.row
  eps := h.eps
  sgs m hm := (h.sgs m hm).mono fun k hk => ⟨hG k hk.1, hk.2⟩
  fp := hG _ h.fp
  fb := hG _ h.fb
  fg := hG _ h.fg
  f1 := hG _ h.f1
  f2 := hG _ h.f2
  f3 := hG _ h.f3
  fv k hk := hG _ (h.fv k hk)
  n12 := h.n12
  n13 := h.n13
  n23 := h.n23
  lb := h.lb
  lg := h.lg
  out := h.out
  lt := lt
def RDir (F : Nat → Prop) (w : World) (p rb : Nat) (d : Dst) : Prop := ∃ bb g m1 m2 m3 v M, RDirM F w p rb d bb g m1 m2 m3 v M
theorem RDir.same {F : Nat → Prop} {w w' : World} {p rb : Nat} {d : Dst} (h : RDir F w p rb d) (hs : Same F w w') : RDir F w' p rb d := by
  obtain ⟨bb, g, m1, m2, m3, v, M, h⟩ := h
  exact ⟨bb, g, m1, m2, m3, v, M, h.same hs⟩
theorem RDir.lt {F : Nat → Prop} {w : World} {p rb : Nat} {d : Dst} (h : RDir F w p rb d) : ∀ k, F k → k < w.heap.size := by
  obtain ⟨bb, g, m1, m2, m3, v, M, h⟩ := h
  exact h.lt
theorem RDir.below {F : Nat → Prop} {w w' : World} {p rb : Nat} {d : Dst} (h : RDir F w p rb d) (hb : Below w.heap.size w w') : RDir F w' p rb d := h.same (same_of_below hb h.lt)
end Go.Proofs.YtcfpmofmjnhonaaGreatDoor
