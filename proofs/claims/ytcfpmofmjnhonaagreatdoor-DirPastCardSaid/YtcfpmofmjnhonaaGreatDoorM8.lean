/- Parts of the proof, one behind the other: SealS, Lead, SetM, Dst, DKeep, SealV, SealT, Cl. -/
import Derived.Test.YtcfpmofmjnhonaaGreatDoorM7
import Derived.Test.YtcfpmofmjnhonaaGreatDoorM5
import Derived.Test.YtcfpmofmjnhonaaGreatDoorM4
import Derived.Sort.LotA
import Derived.Lib.SortBridge
import Derived.Test.YtcfpmofmjnhonaaGreatDoorM2
import Derived.Test.YtcfpmofmjnhonaaGreatDoorM6
import Derived.Deep.RegionHeld3
import Derived.IntWalk
/- The document's NewBox of no mark, Public, SealSign. -/
namespace Go.Proofs.YtcfpmofmjnhonaaGreatDoor
open Go.RowKit

/-- A box in memory: its seed and its rows. -/
structure BoxIs (w : World) (bb : Nat) (seed : ByteArray) : Prop where
  lt : bb < w.heap.size
  sd : w.cell? ⟨bb, 0, none⟩ = some (.string seed)
  rows : ∃ g rc, g < w.heap.size ∧ w.cell? ⟨bb, 1, none⟩ = some (.slice (some ⟨g, 0, none⟩) 15 rc) ∧ ∀ k, k < 15 → w.cell? ⟨g, k, none⟩ = some (.string ((rowsOf seed).getD k ⟨#[]⟩))
theorem BoxIs.below {w w' : World} {bb : Nat} {seed : ByteArray} (h : BoxIs w bb seed) (hb : Below w.heap.size w w') : BoxIs w' bb seed := by
  obtain ⟨g, rc, hg, h1, h2⟩ := h.rows
  exact ⟨Nat.lt_of_lt_of_le h.lt hb.size, (hb.cell h.lt).trans h.sd, g, rc, Nat.lt_of_lt_of_le hg hb.size, (hb.cell (p := ⟨bb, 1, none⟩) h.lt).trans h1, fun k hk => (hb.cell (p := ⟨g, k, none⟩) hg).trans (h2 k hk)⟩
theorem BoxRel.is {bb : Nat} {w wr : World} {seed : ByteArray} {v : Value} (h : BoxRel bb w wr seed (rowsOf seed) v) : BoxIs wr bb seed := by
  have hl : (rowsOf seed).length = 15 := rowsUpto_length seed 7
  obtain ⟨g, rc, rfl, _, hg, _, hc, _⟩ := h.row.shape (by omega)
  refine ⟨h.own.lt, h.own.cell 0 (by omega), g, rc, hg, by have := h.own.cell 1 (by omega); rw [hl] at this; exact this, fun k hk => hc k _ ?_⟩
  unfold stCells
  rw [List.getElem?_map, List.getD_eq_getElem?_getD, List.getElem?_eq_getElem (by omega)]; rfl
theorem getD_size (R : List ByteArray) (hs : ∀ p ∈ R, p.size = 16) (k : Nat) (hk : k < R.length) : (R.getD k ⟨#[]⟩).size = 16 := by
  rw [List.getD_eq_getElem?_getD, List.getElem?_eq_getElem hk]
  exact hs _ (List.getElem_mem _)
theorem rowsOf_size (seed : ByteArray) (k : Nat) (hk : k < 15) : ((rowsOf seed).getD k ⟨#[]⟩).size = 16 :=
  getD_size _ (rowsUpto_size seed 7) k (by have := rowsUpto_length seed 7; omega)
def sib (k : Nat) : Nat := if k % 2 = 1 then k - 1 else k + 1
def rowBase (t : Nat) : Nat := [0, 8, 12, 14].getD t 14
def rowLen (t : Nat) : Nat := [8, 4, 2, 1].getD t 1
def sealPath (seed : ByteArray) (key : Nat) (t : Nat) : List ByteArray := (List.range t).map fun i : Nat => (rowsOf seed).getD (rowBase i + sib (key / 2 ^ i)) ⟨#[]⟩
/-- What a box tells of a mark by a key: the signature, the path, the error. -/
def sealAns (seed : ByteArray) (key : Int) (m : ByteArray) : Int × List ByteArray × List ByteArray × Int :=
  if 0 ≤ key ∧ key ≤ 7 then (if (signAns seed key m).2 = 0 then (key, (signAns seed key m).1, sealPath seed key.toNat 3, 0) else (0, [], [], (signAns seed key m).2)) else (0, [], [], 2)
end Go.Proofs.YtcfpmofmjnhonaaGreatDoor
/- The document's ProofRoot, Verify and Commit. -/
namespace Go.Proofs.YtcfpmofmjnhonaaGreatDoor
open Go.RowKit

/-- From a mark on, along the last k of a path, back. -/
def leadFrom (ix : ByteArray) (P : List ByteArray) : Nat → ByteArray → ByteArray
  | 0, s => s
  | k + 1, s => leadFrom ix P k (if bitOf ix.data.toList k = 0 then joinM s (P.getD k ⟨#[]⟩) else joinM (P.getD k ⟨#[]⟩) s)
def startOf (P : List ByteArray) (x : It) : ByteArray := if x.1.size = 0 then emptyM P.length else leafM x P.length
def proofRootAns (ix : ByteArray) (P : List ByteArray) (x : It) : ByteArray × Int := if rightProof ix P x = true then (leadFrom ix P P.length (startOf P x), 0) else (⟨#[]⟩, 1)
theorem join_size (a b : ByteArray) : (joinM a b).size = 16 := markOf_len _ _
theorem start_size (P : List ByteArray) (x : It) : (startOf P x).size = 16 := by unfold startOf emptyM leafM; split <;> exact markOf_len _ _
theorem rightProof_facts {ix : ByteArray} {P : List ByteArray} {x : It} (h : rightProof ix P x = true) :
    ix.size = 16 ∧ P.length ≤ 128 ∧ marksOk P = true ∧ ((x.1.size = 0 ∧ x.2.size = 0) ∨ (x.1.size = 16 ∧ x.2.size = 16 ∧ P.length ≤ commonOf ix.data.toList x.1.data.toList)) := by
  unfold rightProof at h
  simp only [Bool.and_eq_true, decide_eq_true_eq] at h
  obtain ⟨⟨⟨h1, h2⟩, h3⟩, h4⟩ := h
  refine ⟨h1, h2, h3, ?_⟩
  by_cases e : x.1.size = 0 ∧ x.2.size = 0
  · exact .inl e
  · rw [if_neg e] at h4
    unfold leafOk at h4
    simp only [Bool.and_eq_true, decide_eq_true_eq] at h4
    exact .inr ⟨h4.1.1, h4.2, h4.1.2⟩

theorem results_tmp3' {fn : Func} {p q r : Tmp} (h : fn.results = #[.tmp p, .tmp q, .tmp r]) (tmps : Array Value) (P : Program) (w : World) :
    (results fn tmps).run P w = .ok (.tuple #[tmps.getD p undef, tmps.getD q undef, tmps.getD r undef]) w := by
  simp [results, h, go_sem]
def verifyAns (root ix : ByteArray) (P : List ByteArray) (x : It) : ByteArray × Bool × Int :=
  if (proofRootAns ix P x).2 ≠ 0 then (⟨#[]⟩, false, (proofRootAns ix P x).2)
  else if (proofRootAns ix P x).1 ≠ root then (⟨#[]⟩, false, 13)
  else if x.1 = ix then (x.2, true, 0) else (⟨#[]⟩, false, 0)
theorem text_eq (a b : ByteArray) : a.toList = b.toList ↔ a = b := by
  rw [ByteArray.toList_eq, ByteArray.toList_eq]
  exact ⟨text_of, fun h => by rw [h]⟩
def commitAns (o v : ByteArray) : ByteArray × Int := if o.size = 16 ∧ 1 ≤ v.size ∧ v.size ≤ 24 then (markOf 99 [o, v], 0) else (⟨#[]⟩, 1)
end Go.Proofs.YtcfpmofmjnhonaaGreatDoor
/- One item more: plain lists. -/
namespace Go.Proofs.YtcfpmofmjnhonaaGreatDoor

abbrev ltI (x y : It) : Prop := x.1.data.toList < y.1.data.toList
def insIt (x : It) : List It → List It
  | [] => [x]
  | y :: r => if ltI y x then y :: insIt x r else x :: y :: r
def others (L : List It) (x : It) : List It := L.filter fun y => decide (y.1 ≠ x.1)
def setOf (L : List It) (x : It) : List It × Int :=
  if rightItems L = true ∧ rightItems [x] = true then (if (others L x).length = L.length ∧ 60 ≤ L.length then ([], 12) else (insIt x (others L x), 0)) else ([], 1)
theorem ltI_trans {x y z : It} (h1 : ltI x y) (h2 : ltI y z) : ltI x z := List.lt_trans h1 h2
theorem ltI_asymm {x y : It} (h1 : ltI x y) (h2 : ltI y x) : False := List.lt_irrefl _ (List.lt_trans h1 h2)
theorem ltI_total {x y : It} (h : ¬ ltI x y) (hne : x.1 ≠ y.1) : ltI y x := by
  have h1 : y.1.data.toList ≤ x.1.data.toList := List.not_lt.1 h
  by_cases h2 : ltI y x
  · exact h2
  · have h3 : x.1.data.toList ≤ y.1.data.toList := List.not_lt.1 h2
    exact absurd (text_of (List.le_antisymm h3 h1)) hne
theorem insIt_perm (x : It) : ∀ L : List It, (insIt x L).Perm (x :: L)
  | [] => List.Perm.refl _
  | y :: r => by
    unfold insIt
    split
    · exact ((insIt_perm x r).cons y).trans (List.Perm.swap x y r)
    · exact List.Perm.refl _
theorem insIt_sorted (x : It) : ∀ L : List It, L.Pairwise ltI → (∀ y ∈ L, y.1 ≠ x.1) → (insIt x L).Pairwise ltI
  | [], _, _ => by unfold insIt; simp
  | y :: r, hs, hn => by
    obtain ⟨h1, h2⟩ := List.pairwise_cons.1 hs
    unfold insIt
    split
    · rename_i h
      refine List.pairwise_cons.2 ⟨fun z hz => ?_, insIt_sorted x r h2 (fun z hz => hn z (by simp [hz]))⟩
      have hz' := (insIt_perm x r).mem_iff.1 hz
      rcases List.mem_cons.1 hz' with rfl | hz'
      · exact h
      · exact h1 z hz'
    · rename_i h
      have hxy : ltI x y := ltI_total h (hn y (by simp))
      refine List.pairwise_cons.2 ⟨fun z hz => ?_, hs⟩
      rcases List.mem_cons.1 hz with rfl | hz
      · exact hxy
      · exact ltI_trans hxy (h1 z hz)
/-- There is one order in which they rise. -/
theorem sorted_one {L M : List It} (p : L.Perm M) (hL : L.Pairwise ltI) (hM : M.Pairwise ltI) : L = M :=
  List.Perm.eq_of_pairwise (fun _ _ _ _ h1 h2 => (ltI_asymm h1 h2).elim) hL hM p
theorem others_sorted {L : List It} (h : L.Pairwise ltI) (x : It) : (others L x).Pairwise ltI := h.filter _
theorem others_ne (L : List It) (x : It) : ∀ y ∈ others L x, y.1 ≠ x.1 := fun y hy => by
  have := (List.mem_filter.1 hy).2
  exact of_decide_eq_true this
/-- Whoever is put behind the others and sorted stands where it is put in. -/
theorem set_sorted {L M : List It} {x : It} (h : L.Pairwise ltI) (p : M.Perm (others L x ++ [x])) (hM : M.Pairwise ltI) : M = insIt x (others L x) :=
  sorted_one (p.trans ((List.perm_append_singleton x (others L x)).trans (insIt_perm x _).symm)) hM (insIt_sorted x _ (others_sorted h x) (others_ne L x))
end Go.Proofs.YtcfpmofmjnhonaaGreatDoor
/- The document's directory: what it knows, and what it answers. -/
namespace Go.Proofs.YtcfpmofmjnhonaaGreatDoor
open Go.RowKit

/-- A signed head. -/
structure Sgn where
  head : Hd
  key : Int
  sig : List ByteArray
  path : List ByteArray
def noSgn : Sgn := ⟨noHd, 0, [], []⟩
/-- A directory: those that wait, those that are there, since when, the epochs. -/
structure Dst where
  secret : ByteArray
  wait : List (ByteArray × ByteArray)
  vals : List (ByteArray × ByteArray)
  since : List (ByteArray × Int)
  eps : List Sgn
def newDst (secret : ByteArray) : Dst := ⟨secret, [], [], [], []⟩
def dirSeed (secret : ByteArray) : ByteArray := markOf 107 [secret]
def dirPub (secret : ByteArray) : ByteArray := boxPub (dirSeed secret)
def openOf (d : Dst) (name : ByteArray) : ByteArray := markOf 111 [d.secret, name, txt (num8 ((look d.since name).getD 0))]
def itemOf (d : Dst) (p : ByteArray × ByteArray) : It := ((ofAns p.1).1, (commitAns (openOf d p.1) p.2).1)
def itemsRaw (d : Dst) : List It := d.vals.map (itemOf d)
/-- Sorted by index (those of one index as they come). -/
def putIt (x : It) : List It → List It
  | [] => [x]
  | y :: L => if y.1.data.toList < x.1.data.toList then y :: putIt x L else x :: y :: L
def sortIts (L : List It) : List It := L.foldr putIt []
def itemsOf (d : Dst) : List It := sortIts (itemsRaw d)
/-- All names that are known, and one more. -/
def allNames (d : Dst) (name : ByteArray) : List (ByteArray × Bool) := upsAll (upsAll [(name, true)] (d.vals.map fun p => (p.1, true))) (d.wait.map fun p => (p.1, true))
def putAns (d : Dst) (name value : ByteArray) : Dst × Int :=
  if nameOk name.data.toList = true then
    (if 1 ≤ value.size ∧ value.size ≤ 24 then
      (if (allNames d name).length ≤ 60 then ({ d with wait := ups d.wait name value }, 0) else (d, 12))
    else (d, 1))
  else (d, 5)
/-- What waits is there. -/
def settled (d : Dst) : Dst := { d with wait := [], vals := upsAll d.vals d.wait, since := upsAll d.since (d.wait.map fun p => (p.1, ((d.eps.length : Int) + 1))) }
def signOf (secret : ByteArray) (n : Nat) (h : Hd) : Sgn :=
  ⟨h, (sealAns (dirSeed secret) (n : Int) (headMarkAns h).1).1, (sealAns (dirSeed secret) (n : Int) (headMarkAns h).1).2.1, (sealAns (dirSeed secret) (n : Int) (headMarkAns h).1).2.2.1⟩
def nextSgn (d : Dst) : Sgn := signOf d.secret d.eps.length (nextAns (d.eps.map (·.head)) (rootAns (itemsOf (settled d))).1).1
def publishAns (d : Dst) : Dst × Sgn × Int :=
  if d.eps.length < 8 then ({ settled d with eps := d.eps ++ [nextSgn d] }, nextSgn d, 0) else (d, noSgn, 12)
structure Answ where
  sgn : Sgn
  path : List ByteArray
  leaf : It
  opening : ByteArray
  value : ByteArray
def noAnsw : Answ := ⟨noSgn, [], noIt, ⟨#[]⟩, ⟨#[]⟩⟩
def lastSgn (d : Dst) : Sgn := d.eps.getD (d.eps.length - 1) noSgn
def foundAns (d : Dst) (name ix : ByteArray) : Answ :=
  ⟨lastSgn d, (proveAns (itemsOf d) ix).1, (proveAns (itemsOf d) ix).2.1, if (look d.vals name).isSome then openOf d name else ⟨#[]⟩, (look d.vals name).getD ⟨#[]⟩⟩
def lookupAns (d : Dst) (name : ByteArray) : Answ × Int :=
  if nameOk name.data.toList = true then (if d.eps.length = 0 then (noAnsw, 6) else (foundAns d name (ofAns name).1, 0)) else (noAnsw, 5)

/-- What holds of every directory that is so made. -/
structure DOk (d : Dst) : Prop where
  secret : d.secret.size = 16
  wk : (keysL d.wait).Nodup
  vk : (keysL d.vals).Nodup
  sk : (keysL d.since).Nodup
  wn : ∀ p ∈ d.wait, nameOk p.1.data.toList = true ∧ 1 ≤ p.2.size ∧ p.2.size ≤ 24
  vn : ∀ p ∈ d.vals, nameOk p.1.data.toList = true ∧ 1 ≤ p.2.size ∧ p.2.size ≤ 24
  same : ∀ s, (look d.since s).isSome = (look d.vals s).isSome
  epoch : ∀ s n, look d.since s = some n → 1 ≤ n ∧ n ≤ d.eps.length
  few : d.eps.length ≤ 8
  room : (allNames d ⟨#[]⟩).length ≤ 61
theorem newDst_ok {secret : ByteArray} (h : secret.size = 16) : DOk (newDst secret) :=
  ⟨h, List.nodup_nil, List.nodup_nil, List.nodup_nil, (fun p hp => by cases hp), (fun p hp => by cases hp), fun s => rfl, (fun s n h => by simp [newDst, look_nil] at h), by simp [newDst], by simp [allNames, newDst, upsAll]⟩

theorem putIt_perm (x : It) : ∀ L : List It, (putIt x L).Perm (x :: L)
  | [] => List.Perm.refl _
  | y :: L => by
    unfold putIt
    split
    · exact ((putIt_perm x L).cons y).trans (List.Perm.swap x y L)
    · exact List.Perm.refl _
theorem sortIts_perm (L : List It) : (sortIts L).Perm L := by
  induction L with
  | nil => exact List.Perm.refl _
  | cons x L ih => exact (putIt_perm x _).trans (ih.cons x)
def leI (x y : It) : Prop := ¬ y.1.data.toList < x.1.data.toList
theorem leI_trans {x y z : It} (h1 : leI x y) (h2 : leI y z) : leI x z := fun h => by
  unfold leI at h1 h2
  rw [List.not_lt] at h1 h2
  exact absurd h (List.not_lt.2 (List.le_trans h1 h2))
theorem putIt_sorted (x : It) : ∀ L : List It, L.Pairwise leI → (putIt x L).Pairwise leI
  | [], _ => List.pairwise_singleton _ _
  | y :: L, h => by
    obtain ⟨h1, h2⟩ := List.pairwise_cons.1 h
    unfold putIt
    split
    · rename_i hlt
      refine List.pairwise_cons.2 ⟨fun z hz => ?_, putIt_sorted x L h2⟩
      rcases List.mem_cons.1 ((putIt_perm x L).mem_iff.1 hz) with e | hz
      · subst e; exact fun h => List.lt_irrefl _ (List.lt_trans h hlt)
      · exact h1 z hz
    · rename_i hlt
      refine List.pairwise_cons.2 ⟨fun z hz => ?_, h⟩
      rcases List.mem_cons.1 hz with e | hz
      · subst e; exact hlt
      · exact leI_trans hlt (h1 z hz)
theorem sortIts_sorted (L : List It) : (sortIts L).Pairwise leI := by
  induction L with
  | nil => exact List.Pairwise.nil
  | cons x L ih => exact putIt_sorted x _ ih
end Go.Proofs.YtcfpmofmjnhonaaGreatDoor
/- What holds of a directory is kept by what is put, and published. -/
namespace Go.Proofs.YtcfpmofmjnhonaaGreatDoor
open Go.RowKit

theorem nodup_le : ∀ {A B : List ByteArray}, A.Nodup → (∀ x ∈ A, x ∈ B) → A.length ≤ B.length
  | [], _, _, _ => Nat.zero_le _
  | a :: A, B, h, s => by
    obtain ⟨h1, h2⟩ := List.nodup_cons.1 h
    have hb : a ∈ B := s a (List.mem_cons_self ..)
    have h3 := nodup_le (A := A) (B := B.filter fun x => decide (x ≠ a)) h2 (fun x hx => List.mem_filter.2 ⟨s x (List.mem_cons_of_mem _ hx), decide_eq_true (fun e => h1 (by rw [← e]; exact hx))⟩)
    have h4 : (B.filter fun x => decide (x ≠ a)).length < B.length := List.length_filter_lt_length_iff_exists.2 ⟨a, hb, by simp⟩
    simp; omega
theorem keysL_length {α : Type} (L : List (ByteArray × α)) : (keysL L).length = L.length := by simp [keysL]
theorem mem_ups {α : Type} {L : List (ByteArray × α)} {s : ByteArray} {x : α} {p : ByteArray × α} (h : p ∈ ups L s x) : p = (s, x) ∨ p ∈ L := by
  unfold ups at h
  split at h
  · obtain ⟨q, hq, e⟩ := List.mem_map.1 h
    split at e
    · exact .inl e.symm
    · exact .inr (e ▸ hq)
  · rcases List.mem_append.1 h with h | h
    · exact .inr h
    · exact .inl (List.mem_singleton.1 h)
theorem mem_upsAll {α : Type} {L : List (ByteArray × α)} : ∀ (P : List (ByteArray × α)) {p : ByteArray × α}, p ∈ upsAll L P → p ∈ P ∨ p ∈ L := fun P => by
  induction P generalizing L with
  | nil => intro p h; exact .inr h
  | cons q P ih =>
    intro p h
    rcases ih (L := ups L q.1 q.2) (show p ∈ upsAll (ups L q.1 q.2) P from h) with h | h
    · exact .inl (List.mem_cons_of_mem _ h)
    · rcases mem_ups h with rfl | h
      · exact .inl (List.mem_cons_self ..)
      · exact .inr h
/-- Keys, each with something that hangs on nothing. -/
theorem keysL_map {α β : Type} (L : List (ByteArray × α)) (f : ByteArray × α → β) : keysL (L.map fun p => (p.1, f p)) = keysL L := by simp [keysL]
theorem mem_names {d : Dst} (hv : (keysL d.vals).Nodup) (hw : (keysL d.wait).Nodup) (name s : ByteArray) : s ∈ keysL (allNames d name) ↔ s ∈ keysL d.wait ∨ s ∈ keysL d.vals ∨ s = name := by
  rw [← look_isSome]
  unfold allNames
  rw [upsAll_look _ _ (by rw [keysL_map d.wait (fun _ => true)]; exact hw), upsAll_look _ _ (by rw [keysL_map d.vals (fun _ => true)]; exact hv)]
  simp only [Option.isSome_or, Bool.or_eq_true, look_isSome]
  rw [keysL_map d.wait (fun _ => true), keysL_map d.vals (fun _ => true)]
  simp [keysL]
theorem names_nodup (d : Dst) (name : ByteArray) : (keysL (allNames d name)).Nodup := upsAll_nodup (upsAll_nodup (by simp [keysL]) _) _
theorem DOk.vals_len {d : Dst} (h : DOk d) : d.vals.length ≤ 61 := by
  have := nodup_le h.vk (B := keysL (allNames d ⟨#[]⟩)) fun x hx => (mem_names h.vk h.wk _ _).2 (.inr (.inl hx))
  rw [keysL_length, keysL_length] at this
  have := h.room
  omega
theorem DOk.wait_len {d : Dst} (h : DOk d) : d.wait.length ≤ 61 := by
  have := nodup_le h.wk (B := keysL (allNames d ⟨#[]⟩)) fun x hx => (mem_names h.vk h.wk _ _).2 (.inl hx)
  rw [keysL_length, keysL_length] at this
  have := h.room
  omega
theorem putAns_ok {d : Dst} (h : DOk d) (name value : ByteArray) : DOk (putAns d name value).1 := by
  unfold putAns
  split
  · rename_i hn
    split
    · rename_i hv
      split
      · rename_i hr
        exact {
          secret := h.secret
          wk := ups_nodup h.wk _ _
          vk := h.vk
          sk := h.sk
          wn := fun p hp => by
            rcases mem_ups hp with rfl | hp
            · exact ⟨hn, hv.1, hv.2⟩
            · exact h.wn p hp
          vn := h.vn
          same := h.same
          epoch := h.epoch
          few := h.few
          room := by
            have := nodup_le (A := keysL (allNames { d with wait := ups d.wait name value } ⟨#[]⟩)) (B := ⟨#[]⟩ :: keysL (allNames d name)) (names_nodup _ _) fun x hx => by
              rw [mem_names (d := { d with wait := ups d.wait name value }) h.vk (ups_nodup h.wk _ _)] at hx
              rw [List.mem_cons, mem_names h.vk h.wk]
              rcases hx with hx | hx | hx
              · rw [← look_isSome] at hx
                by_cases e : x = name
                · exact .inr (.inr (.inr e))
                · have : (look (ups d.wait name value) x).isSome = true := hx
                  rw [look_ups_other _ _ _ _ e, look_isSome] at this
                  exact .inr (.inl this)
              · exact .inr (.inr (.inl hx))
              · exact .inl hx
            rw [List.length_cons, keysL_length, keysL_length] at this
            show (allNames { d with wait := ups d.wait name value } ⟨#[]⟩).length ≤ 61
            omega }
      · exact h
    · exact h
  · exact h
theorem look_keyed {α β : Type} (L : List (ByteArray × α)) (y : β) (s : ByteArray) : look (L.map fun p => (p.1, y)) s = (look L s).map fun _ => y := by
  induction L with
  | nil => rfl
  | cons p L ih =>
    rw [List.map_cons, look_cons, look_cons, ih]
    split <;> rfl
theorem settled_look {d : Dst} (h : DOk d) (s : ByteArray) : look (settled d).vals s = (look d.wait s).or (look d.vals s) ∧ look (settled d).since s = ((look d.wait s).map fun _ => (d.eps.length : Int) + 1).or (look d.since s) := by
  refine ⟨upsAll_look _ _ h.wk s, ?_⟩
  show look (upsAll d.since (d.wait.map fun p => (p.1, ((d.eps.length : Int) + 1)))) s = _
  rw [upsAll_look _ _ (by rw [keysL_map d.wait (fun _ => ((d.eps.length : Int) + 1))]; exact h.wk), look_keyed]
theorem publishAns_ok {d : Dst} (h : DOk d) : DOk (publishAns d).1 := by
  unfold publishAns
  split
  · rename_i he
    exact {
      secret := h.secret
      wk := List.nodup_nil
      vk := upsAll_nodup h.vk _
      sk := upsAll_nodup h.sk _
      wn := fun p hp => by cases hp
      vn := fun p hp => by
        rcases mem_upsAll _ (show p ∈ upsAll d.vals d.wait from hp) with hp | hp
        · exact h.wn p hp
        · exact h.vn p hp
      same := fun s => by
        show (look (settled d).since s).isSome = (look (settled d).vals s).isSome
        rw [(settled_look h s).1, (settled_look h s).2]
        have := h.same s
        cases look d.wait s <;> simp [this]
      epoch := fun s n hn => by
        have hn : look (settled d).since s = some n := hn
        rw [(settled_look h s).2] at hn
        show 1 ≤ n ∧ n ≤ ((d.eps ++ [nextSgn d]).length : Int)
        rw [List.length_append]
        cases e : look d.wait s with
        | none =>
          rw [e] at hn
          have := h.epoch s n hn
          simp; omega
        | some x =>
          rw [e] at hn
          have : (d.eps.length : Int) + 1 = n := Option.some.inj hn
          simp; omega
      few := by
        show (d.eps ++ [nextSgn d]).length ≤ 8
        rw [List.length_append]; simp; omega
      room := by
        have := nodup_le (A := keysL (allNames { settled d with eps := d.eps ++ [nextSgn d] } ⟨#[]⟩)) (B := keysL (allNames d ⟨#[]⟩)) (names_nodup _ _) fun x hx => by
          rw [mem_names (d := { settled d with eps := d.eps ++ [nextSgn d] }) (upsAll_nodup h.vk _) List.nodup_nil] at hx
          rw [mem_names h.vk h.wk]
          rcases hx with hx | hx | hx
          · cases hx
          · obtain ⟨p, hp, rfl⟩ := List.mem_map.1 (show x ∈ (upsAll d.vals d.wait).map (·.1) from hx)
            rcases mem_upsAll _ hp with hp | hp
            · exact .inl (List.mem_map_of_mem hp)
            · exact .inr (.inl (List.mem_map_of_mem hp))
          · exact .inr (.inr hx)
        rw [keysL_length, keysL_length] at this
        exact Nat.le_trans this h.room }
  · exact h
end Go.Proofs.YtcfpmofmjnhonaaGreatDoor
/- The document's SealVerify. -/
namespace Go.Proofs.YtcfpmofmjnhonaaGreatDoor
open Go.RowKit

/-- Along a path, from a mark and a key on. -/
def upFrom : List ByteArray → ByteArray → Nat → ByteArray
  | [], t, _ => t
  | x :: r, t, k => upFrom r (if k % 2 = 1 then markOf 117 [x, t] else markOf 117 [t, x]) (k / 2)
def sealOk (pub m : ByteArray) (key : Int) (S P : List ByteArray) : Bool :=
  decide (0 ≤ key ∧ key ≤ 7) && decide (P.length = 3) && marksOk P && decide ((fromAns m S).2 = 0) && decide (upFrom P (markOf 116 [txt (num8 key), (fromAns m S).1]) key.toNat = pub)
theorem fromAns_size {m : ByteArray} {S : List ByteArray} {x : ByteArray} (h : fromAns m S = (x, 0)) : x.size = 16 := by
  unfold fromAns at h
  split at h
  · obtain ⟨rfl, _⟩ := Prod.mk.inj h; exact markOf_len _ _
  · obtain ⟨_, h2⟩ := Prod.mk.inj h; omega
def slF (key : Int) (u v : Value) : Nat → Value := fun i => if i = 0 then .int .i64 key else if i = 1 then u else v

end Go.Proofs.YtcfpmofmjnhonaaGreatDoor
/- What a box tells of a mark is its seal: it leads to what the box is known by. -/
namespace Go.Proofs.YtcfpmofmjnhonaaGreatDoor
open Go.RowKit

theorem along_add (c : Int) : ∀ (n m k : Nat) (s : ByteArray), alongFrom c m (k + n) (alongFrom c n k s) = alongFrom c (n + m) k s
  | 0, m, k, s => by simp [alongFrom]
  | n + 1, m, k, s => by
    rw [show n + 1 + m = (n + m) + 1 by omega, alongFrom, alongFrom, show k + (n + 1) = (k + 1) + n by omega]
    exact along_add c n m (k + 1) _
theorem from_sign {seed : ByteArray} {key : Int} {m : ByteArray} (hm : m.size = 16) : fromAns m (signChains seed key m 35) = (publicOf seed key, 0) := by
  have hl : (signChains seed key m 35).length = 35 := by unfold signChains; simp
  have hs : ∀ p ∈ signChains seed key m 35, p.size = 16 := by
    intro p hp
    unfold signChains at hp
    obtain ⟨c, _, rfl⟩ := List.mem_map.1 hp
    exact along_size _ _ _ _ (seedOf_size _ _ _)
  have hok : marksOk (signChains seed key m 35) = true := by
    unfold marksOk
    rw [List.all_eq_true]
    intro p hp
    exact decide_eq_true (hs p hp)
  unfold fromAns
  rw [if_pos ⟨hm, hl, hok⟩]
  unfold publicOf
  congr 2
  unfold fromChains pubChains
  refine List.map_congr_left fun c hc => ?_
  have hc35 : c < 35 := List.mem_range.1 hc
  have hd := digit_le hm c
  have hg : (signChains seed key m 35).getD c ⟨#[]⟩ = alongFrom (c : Int) ((digitsOf m.data.toList).getD c 0) 0 (seedOf seed key c) := by
    unfold signChains
    rw [List.getD_eq_getElem?_getD, List.getElem?_map, List.getElem?_range hc35]
    rfl
  rw [hg]
  have := along_add (c : Int) ((digitsOf m.data.toList).getD c 0) (15 - (digitsOf m.data.toList).getD c 0) 0 (seedOf seed key c)
  rw [Nat.zero_add] at this
  rw [this]
  congr 1
  omega
theorem rows_all (seed : ByteArray) : ∃ a0 a1 a2 a3 a4 a5 a6 a7 : ByteArray, (∀ k : Nat, k < 8 → markOf 116 [txt (num8 (k : Int)), publicOf seed (k : Int)] = [a0, a1, a2, a3, a4, a5, a6, a7].getD k ⟨#[]⟩) ∧
    rowsOf seed = [a0, a1, a2, a3, a4, a5, a6, a7, markOf 117 [a0, a1], markOf 117 [a2, a3], markOf 117 [a4, a5], markOf 117 [a6, a7], markOf 117 [markOf 117 [a0, a1], markOf 117 [a2, a3]], markOf 117 [markOf 117 [a4, a5], markOf 117 [a6, a7]], markOf 117 [markOf 117 [markOf 117 [a0, a1], markOf 117 [a2, a3]], markOf 117 [markOf 117 [a4, a5], markOf 117 [a6, a7]]]] := by
  have h0 : rows0 seed 8 = [markOf 116 [txt (num8 ((0 : Nat) : Int)), publicOf seed ((0 : Nat) : Int)], markOf 116 [txt (num8 ((1 : Nat) : Int)), publicOf seed ((1 : Nat) : Int)], markOf 116 [txt (num8 ((2 : Nat) : Int)), publicOf seed ((2 : Nat) : Int)], markOf 116 [txt (num8 ((3 : Nat) : Int)), publicOf seed ((3 : Nat) : Int)], markOf 116 [txt (num8 ((4 : Nat) : Int)), publicOf seed ((4 : Nat) : Int)], markOf 116 [txt (num8 ((5 : Nat) : Int)), publicOf seed ((5 : Nat) : Int)], markOf 116 [txt (num8 ((6 : Nat) : Int)), publicOf seed ((6 : Nat) : Int)], markOf 116 [txt (num8 ((7 : Nat) : Int)), publicOf seed ((7 : Nat) : Int)]] := by
    unfold rows0
    have hl : ∀ f : Nat → ByteArray, (List.range 8).map f = [f 0, f 1, f 2, f 3, f 4, f 5, f 6, f 7] := fun f => rfl
    rw [hl]
  have h1 : ∀ k : Nat, k < 8 → markOf 116 [txt (num8 (k : Int)), publicOf seed (k : Int)] = (rows0 seed 8).getD k ⟨#[]⟩ := fun k hk => by
    unfold rows0
    rw [List.getD_eq_getElem?_getD, List.getElem?_map, List.getElem?_range hk]
    rfl
  rw [h0] at h1
  unfold rowsOf
  simp only [rowsUpto, h0]
  generalize markOf 116 [txt (num8 ((0 : Nat) : Int)), publicOf seed ((0 : Nat) : Int)] = a0 at h1
  generalize markOf 116 [txt (num8 ((1 : Nat) : Int)), publicOf seed ((1 : Nat) : Int)] = a1 at h1
  generalize markOf 116 [txt (num8 ((2 : Nat) : Int)), publicOf seed ((2 : Nat) : Int)] = a2 at h1
  generalize markOf 116 [txt (num8 ((3 : Nat) : Int)), publicOf seed ((3 : Nat) : Int)] = a3 at h1
  generalize markOf 116 [txt (num8 ((4 : Nat) : Int)), publicOf seed ((4 : Nat) : Int)] = a4 at h1
  generalize markOf 116 [txt (num8 ((5 : Nat) : Int)), publicOf seed ((5 : Nat) : Int)] = a5 at h1
  generalize markOf 116 [txt (num8 ((6 : Nat) : Int)), publicOf seed ((6 : Nat) : Int)] = a6 at h1
  generalize markOf 116 [txt (num8 ((7 : Nat) : Int)), publicOf seed ((7 : Nat) : Int)] = a7 at h1
  refine ⟨a0, a1, a2, a3, a4, a5, a6, a7, h1, ?_⟩
  generalize markOf 117 = f
  rfl
theorem rows_top (seed : ByteArray) (k : Nat) (hk : k < 8) : upFrom (sealPath seed k 3) (markOf 116 [txt (num8 (k : Int)), publicOf seed (k : Int)]) k = boxPub seed := by
  obtain ⟨a0, a1, a2, a3, a4, a5, a6, a7, h1, h2⟩ := rows_all seed
  rw [h1 k hk]
  unfold sealPath boxPub
  rw [h2]
  have hu : ∀ (x y z t : ByteArray) (k : Nat), upFrom [x, y, z] t k = (fun f : List ByteArray → ByteArray => (fun t1 => (fun t2 => if k / 2 / 2 % 2 = 1 then f [z, t2] else f [t2, z]) (if k / 2 % 2 = 1 then f [y, t1] else f [t1, y])) (if k % 2 = 1 then f [x, t] else f [t, x])) (markOf 117) := fun x y z t k => rfl
  rw [show (List.range 3) = [0, 1, 2] from rfl]
  simp only [List.map_cons, List.map_nil]
  rw [hu]
  generalize markOf 117 = f
  rcases (show k = 0 ∨ k = 1 ∨ k = 2 ∨ k = 3 ∨ k = 4 ∨ k = 5 ∨ k = 6 ∨ k = 7 by omega) with rfl | rfl | rfl | rfl | rfl | rfl | rfl | rfl <;> rfl
theorem seal_ok {seed : ByteArray} {key : Int} {m : ByteArray} (h0 : 0 ≤ key) (h7 : key ≤ 7) (hm : m.size = 16) : sealOk (boxPub seed) m key (signChains seed key m 35) (sealPath seed key.toNat 3) = true := by
  obtain ⟨k, rfl⟩ : ∃ k : Nat, key = (k : Int) := ⟨key.toNat, by omega⟩
  unfold sealOk
  rw [from_sign hm, Int.toNat_natCast]
  have hp : marksOk (sealPath seed k 3) = true := by
    unfold marksOk
    rw [List.all_eq_true]
    intro p hp
    unfold sealPath at hp
    obtain ⟨i, hi, rfl⟩ := List.mem_map.1 hp
    refine decide_eq_true (rowsOf_size _ _ ?_)
    have hi3 : i < 3 := List.mem_range.1 hi
    rcases (show i = 0 ∨ i = 1 ∨ i = 2 by omega) with rfl | rfl | rfl <;> simp [rowBase, sib] <;> split <;> omega
  have hl : (sealPath seed k 3).length = 3 := by unfold sealPath; simp
  rw [hp, hl, rows_top seed k (by omega)]
  simp
  omega
theorem sealAns_ok {seed : ByteArray} {key : Int} {m : ByteArray} (hs : seed.size = 16) (h0 : 0 ≤ key) (h7 : key ≤ 7) (hm : m.size = 16) :
    (sealAns seed key m).1 = key ∧ (sealAns seed key m).2.2.2 = 0 ∧ sealOk (boxPub seed) m (sealAns seed key m).1 (sealAns seed key m).2.1 (sealAns seed key m).2.2.1 = true := by
  have e : signAns seed key m = (signChains seed key m 35, 0) := by unfold signAns; rw [if_pos ⟨hs, hm⟩]
  unfold sealAns
  rw [if_pos ⟨h0, h7⟩, e]
  exact ⟨rfl, rfl, seal_ok h0 h7 hm⟩
end Go.Proofs.YtcfpmofmjnhonaaGreatDoor
/- The document's client: what it knows, and what it answers. -/
namespace Go.Proofs.YtcfpmofmjnhonaaGreatDoor
open Go.RowKit

/-- A client: whose directory, and the heads that it has seen. -/
structure Cl where
  pub : ByteArray
  heads : List Hd
def seeAns (c : Cl) (s : Sgn) : Cl × Int :=
  if rightHead s.head = true ∧ s.key = s.head.epoch - 1 ∧ sealOk c.pub (headMark s.head) s.key s.sig s.path = true then
    (if (c.heads.length : Int) < s.head.epoch - 1 then (c, 10)
    else if s.head.epoch - 1 < (c.heads.length : Int) then (if hdAt c.heads (s.head.epoch - 1).toNat = s.head then (c, 0) else (c, 13))
    else if nextAns c.heads s.head.root = (s.head, 0) then ({ c with heads := c.heads ++ [s.head] }, 0) else (c, 13))
  else (c, 15)
/-- What a client believes: a value, whether it is there, an error's number. -/
def askAns (c : Cl) (name : ByteArray) (a : Answ) : Cl × ByteArray × Bool × Int :=
  if nameOk name.data.toList = true then
    (if (seeAns c a.sgn).2 = 0 then
      (if (verifyAns a.sgn.head.root (ofAns name).1 a.path a.leaf).2.2 = 0 then
        (if (verifyAns a.sgn.head.root (ofAns name).1 a.path a.leaf).2.1 = false ∧ a.opening.size = 0 ∧ a.value.size = 0 then ((seeAns c a.sgn).1, ⟨#[]⟩, false, 0)
        else if (verifyAns a.sgn.head.root (ofAns name).1 a.path a.leaf).2.1 = true ∧ commitAns a.opening a.value = ((verifyAns a.sgn.head.root (ofAns name).1 a.path a.leaf).1, 0) then ((seeAns c a.sgn).1, a.value, true, 0)
        else ((seeAns c a.sgn).1, ⟨#[]⟩, false, 13))
      else ((seeAns c a.sgn).1, ⟨#[]⟩, false, (verifyAns a.sgn.head.root (ofAns name).1 a.path a.leaf).2.2))
    else ((seeAns c a.sgn).1, ⟨#[]⟩, false, (seeAns c a.sgn).2))
  else (c, ⟨#[]⟩, false, 5)
end Go.Proofs.YtcfpmofmjnhonaaGreatDoor
