/- Parts of the proof, one behind the other: Of, RProof, Once, OnceFrom, Row3, Held, Box. -/
import Derived.Test.YtcfpmofmjnhonaaGreatDoorM6
import Derived.Test.YtcfpmofmjnhonaaGreatDoorM5
import Derived.StillTail
import Derived.OrdersHeld
import Derived.Deep.Quiet
import Derived.Deep.QuietTactic
import Derived.Deep.RegionLaw
import Derived.IntWalk
/- Of, Bit and Common, of the program and of the document, each by one answer: a value and the number of an error. -/
namespace Go.Proofs.YtcfpmofmjnhonaaGreatDoor
open Go.RowKit

def ofAns (name : ByteArray) : ByteArray × Int := if nameOk name.data.toList then (markOf 105 [name], 0) else (⟨#[]⟩, 5)
def bitAns (ix : ByteArray) (k : Int) : Int × Int := if ix.size = 16 then (if 0 ≤ k ∧ k ≤ 127 then (((bitOf ix.data.toList k.toNat : Nat) : Int), 0) else (0, 2)) else (0, 1)
def comAns (a b : ByteArray) : Int × Int := if a.size = 16 ∧ b.size = 16 then (((commonOf a.data.toList b.data.toList : Nat) : Int), 0) else (0, 1)

theorem ixBit_is (ix : ByteArray) (k x n : Int) (w : World) (h : bitAns ix k = (x, n)) :
    Calls Tryz.prog 81 #[.string ix, .int .i64 k] w fun e w' => e = .returned (.tuple #[.int .i64 x, errOf n]) ∧ w' = w := by
  refine (ixBit_any ix k w).mono ?_
  rintro e w' ⟨rfl, rfl⟩
  refine ⟨?_, rfl⟩
  unfold bitAns at h
  by_cases h16 : ix.size = 16
  · rw [if_pos h16] at h ⊢
    by_cases hk : 0 ≤ k ∧ k ≤ 127
    · rw [if_pos hk] at h ⊢; cases h; rfl
    · rw [if_neg hk] at h ⊢; cases h; rfl
  · rw [if_neg h16] at h ⊢; cases h; rfl
theorem ixCommon_is (a b : ByteArray) (x n : Int) (w : World) (h : comAns a b = (x, n)) :
    Calls Tryz.prog 82 #[.string a, .string b] w fun e w' => e = .returned (.tuple #[.int .i64 x, errOf n]) ∧ w' = w := by
  refine (ixCommon_any a b w).mono ?_
  rintro e w' ⟨rfl, rfl⟩
  refine ⟨?_, rfl⟩
  unfold comAns at h
  by_cases h16 : a.size = 16 ∧ b.size = 16
  · rw [if_pos h16] at h ⊢; cases h; rfl
  · rw [if_neg h16] at h ⊢; cases h; rfl
/-- One text in a block that was made just now. -/
theorem one_part (name : ByteArray) (w : World) : ∀ (i : Nat) p, ([name] : List ByteArray)[i]? = some p → ∃ a, some (⟨w.heap.size, 0, none⟩ : Addr) = some a ∧ a.block < (w.alloc (.cells #[.string name] 9)).heap.size ∧ (w.alloc (.cells #[.string name] 9)).cell? (a.add i) = some (.string p) := by
  intro i p hp
  match i, hp with
  | 0, hp =>
    simp at hp; subst hp
    refine ⟨_, rfl, by simp, ?_⟩
    rw [show (⟨w.heap.size, 0, none⟩ : Addr).add 0 = ⟨w.heap.size, 0, none⟩ by simp [Addr.add]]
    exact (Holds.new w 1 (fun _ => .string name) 9).cell 0 (by omega)
theorem nameOk_size (s : ByteArray) (h : nameOk s.data.toList = true) : s.size ≤ 12 := by
  unfold nameOk at h
  simp at h
  exact h.2.2
theorem HasK.alloc {w : World} (h : HasK w) (o : Obj) : HasK (w.alloc o) := h.below ((Below.refl w.heap.size w).alloc (Nat.le_refl _) o) h.lt
set_option maxRecDepth 100000 in
theorem of_is (name x : ByteArray) (n : Int) (w : World) (hk : HasK w) (h : ofAns name = (x, n)) :
    Calls Tryz.prog 76 #[.string name] w fun e w' => e = .returned (.tuple #[.string x, errOf n]) ∧ Below w.heap.size w w' := by
  unfold ofAns at h
  by_cases hn : nameOk name.data.toList = true
  · rw [if_pos hn] at h
    cases h
    have hsz := nameOk_size name hn
    have HN := Lib.hid hn
    have HK := Lib.hid hk
    clear hn hk
    go_enter Tryz.func76, Tryz.ntmps76
    go_wp2_with fail
    refine (name_any name _).mono ?_
    rintro e w1 ⟨rfl, rfl⟩
    rw [HN.out]
    go_wp2_with fail
    refine (mark_any 105 [name] (some ⟨w1.heap.size, 0, none⟩) 1 _ (HK.out.alloc _) (by simp [total]; omega) (by simp) (one_part name w1)).mono ?_
    rintro e w2 ⟨rfl, hb⟩
    have HB := Lib.hid hb
    clear hb
    go_wp2
    refine bodyPost_ret (results_tmp2 rfl _ _ _) rfl ?_
    exact ⟨rfl, ((Below.refl _ _).alloc (Nat.le_refl _) _).trans (HB.out.mono (by simp))⟩
  · rw [if_neg hn] at h
    cases h
    have hn' : nameOk name.data.toList = false := by simpa using hn
    have HN := Lib.hid hn'
    clear hn hn' hk
    go_enter Tryz.func76, Tryz.ntmps76
    go_wp2_with fail
    refine (name_any name _).mono ?_
    rintro e w1 ⟨rfl, rfl⟩
    rw [HN.out]
    go_wp2
    refine bodyPost_ret (results_tmp2 rfl _ _ _) rfl ?_
    exact ⟨rfl, Below.refl _ _⟩
end Go.Proofs.YtcfpmofmjnhonaaGreatDoor
/- The document's RightProof, ProofRoot, Verify, Commit. -/
namespace Go.Proofs.YtcfpmofmjnhonaaGreatDoor
open Go.RowKit

def marksOk (L : List ByteArray) : Bool := L.all fun s => decide (s.size = 16)
def marksUpto (L : List ByteArray) (k : Nat) : Bool := marksOk (L.take k)
theorem marksOk_false {L : List ByteArray} {k : Nat} {p : ByteArray} (h : L[k]? = some p) (hp : ¬ p.size = 16) : marksOk L = false := by
  unfold marksOk
  rw [List.all_eq_false]
  exact ⟨p, List.mem_of_getElem? h, by simpa using hp⟩
theorem marksOk_get {L : List ByteArray} (h : marksOk L = true) {k : Nat} {p : ByteArray} (hp : L[k]? = some p) : p.size = 16 := by
  unfold marksOk at h
  rw [List.all_eq_true] at h
  simpa using h p (List.mem_of_getElem? hp)
def leafOk (ix : ByteArray) (n : Nat) (x : It) : Bool := decide (x.1.size = 16) && decide (n ≤ commonOf ix.data.toList x.1.data.toList) && decide (x.2.size = 16)
def rightProof (ix : ByteArray) (P : List ByteArray) (x : It) : Bool :=
  decide (ix.size = 16) && decide (P.length ≤ 128) && marksOk P && (if x.1.size = 0 ∧ x.2.size = 0 then true else leafOk ix P.length x)
end Go.Proofs.YtcfpmofmjnhonaaGreatDoor
/- The document's OncePublic, OnceSign, OnceFrom. -/
namespace Go.Proofs.YtcfpmofmjnhonaaGreatDoor
open Go.RowKit

/-- Where a chain begins. -/
def seedOf (seed : ByteArray) (key : Int) (c : Nat) : ByteArray := markOf 115 [seed, txt (num8 key), txt (num8 (c : Int))]
def pubChains (seed : ByteArray) (key : Int) (k : Nat) : List ByteArray := (List.range k).map fun c : Nat => alongFrom (c : Int) 15 0 (seedOf seed key c)
def publicOf (seed : ByteArray) (key : Int) : ByteArray := markOf 112 (pubChains seed key 35)
def publicAns (seed : ByteArray) (key : Int) : ByteArray × Int := if seed.size = 16 then (publicOf seed key, 0) else (⟨#[]⟩, 1)
def signChains (seed : ByteArray) (key : Int) (m : ByteArray) (k : Nat) : List ByteArray := (List.range k).map fun c : Nat => alongFrom (c : Int) ((digitsOf m.data.toList).getD c 0) 0 (seedOf seed key c)
def signAns (seed : ByteArray) (key : Int) (m : ByteArray) : List ByteArray × Int := if seed.size = 16 ∧ m.size = 16 then (signChains seed key m 35, 0) else ([], 1)
def fromChains (m : ByteArray) (sig : List ByteArray) (k : Nat) : List ByteArray := (List.range k).map fun c : Nat => alongFrom (c : Int) (15 - (digitsOf m.data.toList).getD c 0) ((digitsOf m.data.toList).getD c 0) (sig.getD c ⟨#[]⟩)
def fromAns (m : ByteArray) (sig : List ByteArray) : ByteArray × Int := if m.size = 16 ∧ sig.length = 35 ∧ marksOk sig = true then (markOf 112 (fromChains m sig 35), 0) else (⟨#[]⟩, 1)
theorem total_leM (l : List ByteArray) (n : Nat) (h : ∀ p ∈ l, p.size ≤ n) : total l ≤ l.length * (n + 8) := by
  unfold total
  induction l with
  | nil => simp
  | cons x r ih =>
    have h1 := h x (by simp)
    have h2 := ih fun p hp => h p (by simp [hp])
    simp only [List.map_cons, List.sum_cons, List.length_cons, Nat.add_mul]
    omega
theorem seedOf_size (seed : ByteArray) (key : Int) (c : Nat) : (seedOf seed key c).size = 16 := markOf_len _ _
theorem pub_size (seed : ByteArray) (key : Int) (k : Nat) : ∀ p ∈ pubChains seed key k, p.size ≤ 16 := by
  intro p hp
  unfold pubChains at hp
  obtain ⟨c, _, rfl⟩ := List.mem_map.1 hp
  exact Nat.le_of_eq (along_size _ _ _ _ (seedOf_size _ _ _))
theorem stCells_append (a b : List ByteArray) : stCells (a ++ b) = stCells a ++ stCells b := by unfold stCells; simp

theorem digit_le {m : ByteArray} (h16 : m.size = 16) (k : Nat) : (digitsOf m.data.toList).getD k 0 ≤ 15 := by
  by_cases hk : k < (digitsOf m.data.toList).length
  · have := digitsOf_lt (show m.data.toList.length = 16 by rw [size_len]; exact h16) ((digitsOf m.data.toList).getD k 0) (by rw [List.getD_eq_getElem?_getD, List.getElem?_eq_getElem hk]; exact List.getElem_mem _)
    omega
  · rw [List.getD_eq_getElem?_getD, List.getElem?_eq_none (by omega)]; simp
theorem chains_len (f : Nat → ByteArray) (k : Nat) : ((List.range k).map f).length = k := by simp

end Go.Proofs.YtcfpmofmjnhonaaGreatDoor
/- The document's OnceFrom. -/
namespace Go.Proofs.YtcfpmofmjnhonaaGreatDoor
open Go.RowKit

theorem from_size (m : ByteArray) (sig : List ByteArray) (h : ∀ p ∈ sig, p.size = 16) (hl : sig.length = 35) (k : Nat) (hk : k ≤ 35) : ∀ p ∈ fromChains m sig k, p.size ≤ 16 := by
  intro p hp
  unfold fromChains at hp
  obtain ⟨c, hc, rfl⟩ := List.mem_map.1 hp
  have hc' : c < sig.length := by have := List.mem_range.1 hc; omega
  refine Nat.le_of_eq (along_size _ _ _ _ ?_)
  rw [List.getD_eq_getElem?_getD, List.getElem?_eq_getElem hc']
  exact h _ (List.getElem_mem _)
theorem marksOk_all {L : List ByteArray} (h : marksOk L = true) : ∀ p ∈ L, p.size = 16 := by
  unfold marksOk at h
  rw [List.all_eq_true] at h
  intro p hp
  simpa using h p hp

end Go.Proofs.YtcfpmofmjnhonaaGreatDoor
/- append onto a row, once more: what stood in it stands where it stood. -/
namespace Go.Proofs.YtcfpmofmjnhonaaGreatDoor
open Go.RowKit

/-- append onto a row; and what stood in it stands where it stood. -/
theorem wpList_append_row3 {P : Program} {w : World} {ops : Array Oper} {rest : List Oper} {o : Oper} {a : Act} {Q : Exit → Act → World → Prop}
    (hg : o.guard = none) (s x : Operand) (t : TypeId) (hop : o.op = Op.call { callee := Callee.builtin Builtin.append, args := #[s, x], argTypes := #[t, t] })
    (e : TypeId) (i : TypeInfo) (z : Value) (size bytes : Nat) (h1 : P.underlying t = some (.slice e)) (h2 : P.info? e = some i) (h3 : i.zero = some z) (h4 : i.size = size) (h5 : i.bytes = bytes) (h6 : z.cells.size = size) (h7 : 0 < size)
    (base : Nat) (v : Value) (n : Nat) (xs : List Value) (hs : a.eval s = v) (hrow : Row w base size v n xs) (hbase : base ≤ w.heap.size)
    (ad : Addr) (m c : Nat) (news : List Value) (hx : a.eval x = .slice (some ad) m c) (hn : news.length = m * size) (hc : ∀ j u, news[j]? = some u → w.cell? (ad.add j) = some u) (h1c : ∀ u ∈ news, u.oneCell' = true)
    (b1 : n + m ≤ maxLen) (b2 : (n + m) * bytes ≤ 140737488355328)
    (hK : ∀ v' w', Hid (Row w' base size v' (n + m) (xs ++ news)) → Hid (w.grownBy w' v.ownBlock) → Hid (Moved w v v') → Hid (∀ g c, v = .slice (some ⟨g, 0, none⟩) n c → ∀ j, j < xs.length → w'.cell? ⟨g, j, none⟩ = w.cell? ⟨g, j, none⟩) → wpList P ops Q rest (a.put o.dst v') w') :
    wpList P ops Q (o :: rest) a w := by
  obtain ⟨hl, hr⟩ := hrow
  rcases hr with ⟨rfl, rfl⟩ | ⟨g, cap, rfl, hgb, hgl, hnc, hcell, hspare⟩
  · obtain rfl : xs = [] := List.eq_nil_of_length_eq_zero (by simpa using hl)
    refine wpList_append_own w hg s x t hop w.heap.size e i z size bytes h1 h2 h3 h4 h5 h6 h7 _ 0 [] hs (World.ownsRow_nil _ _ _ _) ad m c news hx hn hc h1c (by simpa using b1) (by simpa using b2) (Nat.le_refl w.heap.size) ?_
    intro v' w' r1 r2 _
    exact hK v' w' (show Row _ _ _ _ _ _ from (Row.of_owns r1).mono hbase) r2 (show Moved _ _ _ from .inr fun b hb => ((Row.of_owns r1).lt b hb).1) (show ∀ g c, _ → _ from fun _ _ e => by cases e)
  · refine wpList_append_arg w hg s x t hop e i z size bytes h1 h2 h3 h4 h5 h6 h7 g 0 n cap xs hs hl (fun j u hj => by rw [Nat.zero_add]; exact hcell j u hj) ad m c news hx hn hc h1c ?_ b1 b2 ?_ ?_
    · intro hroom j hj
      rw [Nat.zero_add]
      refine hspare _ ?_
      have := Nat.mul_le_mul_right size hroom
      rw [Nat.add_mul] at this
      omega
    · intro hroom
      rw [Nat.zero_add]
      have hin : ∀ j, j < news.length → (w.cell? ⟨g, n * size + j, none⟩).isSome = true := fun j hj => (hspare _ (by
        have := Nat.mul_le_mul_right size hroom
        rw [Nat.add_mul] at this
        omega)).1
      refine hK _ _ ?_ ?_ (show Moved _ _ _ from .inl rfl) (show ∀ g' c', Value.slice (some ⟨g, 0, none⟩) n cap = _ → _ from fun g' c' e j hj => by
        injection e with e1 _ _; injection e1 with e1; injection e1 with e1 _ _; subst e1
        exact World.cell?_setCells_out g _ _ _ _ (fun _ _ => Or.inl (by show j < n * size; omega)))
      · refine ⟨by rw [List.length_append, hl, hn, Nat.add_mul], .inr ⟨g, cap, rfl, hgb, by rw [setCells_size]; exact hgl, hroom, ?_, ?_⟩⟩
        · intro j u hj
          by_cases hjn : j < xs.length
          · rw [List.getElem?_append_left hjn] at hj
            rw [World.cell?_setCells_out g _ _ _ _ (fun _ _ => Or.inl (by show j < n * size; omega))]
            exact hcell j u hj
          · rw [List.getElem?_append_right (by omega)] at hj
            have hjl := (List.getElem?_eq_some_iff.1 hj).1
            have := World.cell?_setCells_in g news (n * size) w hin (j - xs.length) hjl
            rw [show n * size + (j - xs.length) = j from by omega] at this
            rw [this]
            rw [List.getElem?_eq_getElem hjl] at hj
            exact hj
        · intro j hj
          rw [World.frozen?_setCells]
          refine ⟨?_, (hspare j hj).2⟩
          by_cases hjn : n * size ≤ j ∧ j < n * size + news.length
          · have := World.cell?_setCells_in g news (n * size) w hin (j - n * size) (by omega)
            rw [show n * size + (j - n * size) = j from by omega] at this
            rw [this]; rfl
          · rw [World.cell?_setCells_out g _ _ _ _ (fun _ _ => by show j < n * size ∨ n * size + news.length ≤ j; omega)]
            exact (hspare j hj).1
      · have hr := setCells_rest g news (n * size) w
        exact (show World.grownBy _ _ _ from ⟨hr.1, hr.2.1, hr.2.2, by rw [setCells_size]; exact Nat.le_refl _, fun k _ hk => setCells_block g _ _ _ k (fun e => hk (by rw [e]; rfl))⟩)
    · intro hgrow v' w' r1 r2
      refine hK v' w' (show Row _ _ _ _ _ _ from (Row.of_owns r1).mono hbase) ?_ (show Moved _ _ _ from .inr fun b hb => ((Row.of_owns r1).lt b hb).1) (show ∀ g' c', Value.slice (some ⟨g, 0, none⟩) n cap = _ → _ from fun g' c' e j hj => by
        injection e with e1 _ _; injection e1 with e1; injection e1 with e1 _ _; subst e1
        have h1 := r2.block g hgl (by simp)
        unfold World.cell?; simp only [h1])
      exact (show World.grownBy _ _ _ from ⟨r2.os, r2.tape, r2.output, r2.size, fun k hk _ => r2.block k hk (by simp)⟩)
/-- append of one value of one cell, just built. -/
theorem wpList_append_one3 {P : Program} {w : World} {ops : Array Oper} {rest : List Oper} {o : Oper} {a : Act} {Q : Exit → Act → World → Prop}
    (hg : o.guard = none) (s x : Operand) (t : TypeId) (hop : o.op = Op.call { callee := Callee.builtin Builtin.append, args := #[s, x], argTypes := #[t, t] })
    (e : TypeId) (h1 : P.underlying t = some (.slice e)) (z : Value) (bytes : Nat) (hi : (P.info? e).map (fun i => (i.zero, i.size, i.bytes)) = some (some z, 1, bytes)) (h6 : z.cells.size = 1) (hby : bytes ≤ 64)
    (base : Nat) (v : Value) (n : Nat) (xs : List Value) (hs : a.eval s = v) (hrow : Row w base 1 v n xs) (hbase : base ≤ w.heap.size) (hn : n ≤ 2147483647)
    (u : Value) (hx : a.eval x = .slice (some ⟨w.heap.size, 0, none⟩) 1 1) (h1c : u.oneCell' = true) (e' : TypeId)
    (hK : ∀ v' w', Hid (Row w' base 1 v' (n + 1) (xs ++ [u])) → Hid (w.grownBy w' v.ownBlock) → Hid (Moved w v v') → Hid (∀ g c, v = .slice (some ⟨g, 0, none⟩) n c → ∀ j, j < xs.length → w'.cell? ⟨g, j, none⟩ = w.cell? ⟨g, j, none⟩) → wpList P ops Q rest (a.put o.dst v') w') :
    wpList P ops Q (o :: rest) a (w.alloc (.cells #[u] e')) := by
  obtain ⟨i0, hi0, hz0, hz1, hz2⟩ := info_parts hi
  refine wpList_append_row3 hg s x t hop e i0 z 1 bytes h1 hi0 hz0 hz1 hz2 h6 (by decide) base v n xs hs (hrow.alloc _) (by simp; omega) ⟨w.heap.size, 0, none⟩ 1 1 [u] hx rfl ?_ ?_ (by unfold maxLen; omega) ?_ ?_
  · intro j y hj
    match j, hj with
    | 0, hj =>
      simp at hj; subst hj
      have hadd : (⟨w.heap.size, 0, none⟩ : Addr).add 0 = ⟨w.heap.size, 0, none⟩ := by unfold Addr.add; split <;> simp_all
      rw [hadd, cell_of_row _ _ _ _ _ _ (heap_alloc_new w (.cells #[u] e'))]; rfl
  · intro y hy; simp at hy; subst hy; exact h1c
  · have := Nat.mul_le_mul (show n + 1 ≤ 2147483648 by omega) hby
    omega
  · intro v' w' hr' hg' hm' hk'
    have hg2 := hg'.out
    exact hK v' w' hr' (show World.grownBy _ _ _ from ⟨hg2.os, hg2.tape, hg2.output, by have := hg2.size; simp at this; omega, fun k hk hne => (hg2.block k (by simp; omega) hne).trans (Below.heap_alloc _ _ _ hk)⟩) (show Moved _ _ _ from hm'.out.imp id fun h b hb => Nat.le_trans (by simp) (h b hb)) (show ∀ g c, _ → _ from fun g c e j hj => (hk'.out g c e j hj).trans (by
      have hgl : g < w.heap.size := (hrow.lt g (by rw [e]; rfl)).2
      exact (alloc_below w (.cells #[u] e')).cell (p := ⟨g, j, none⟩) hgl))
end Go.Proofs.YtcfpmofmjnhonaaGreatDoor
/- A region that draws its order: loads and plain operations taken first, in any listed order; then operations in one forced order, the last of which may write what was loaded. One walk serves. No program is imported. -/
namespace Go.Proofs.YtcfpmofmjnhonaaGreatDoor
open Go.RowKit

section
variable {P : Program} {ops : Array Oper} {md : Region.Mode} {S : World → Prop} {Q : Exit → Act → World → Prop}

/-- Whatever order is picked; S is shown behind each operation but the last one. -/
def wpAnyT (P : Program) (md : Region.Mode) (ops : Array Oper) (Q : Exit → Act → World → Prop) (S : World → Prop) (n : Nat) : Nat → Array Bool → Act → World → Prop
  | 0, listed, a, w => Region.ready md ops listed = [] ∧ Q .normal a w
  | fuel + 1, listed, a, w =>
    (Region.ready md ops listed = [] → Q .normal a w) ∧
    ∀ i ∈ Region.ready md ops listed, wpOp P ops Q i (fun a' w' => (i ≠ n → S w') ∧ wpAnyT P md ops Q S n fuel (listed.setIfInBounds i true) a' w') a w
theorem wpAny_of_T {n : Nat} : ∀ (fuel : Nat) (listed : Array Bool) (a : Act) (w : World), wpAnyT P md ops Q S n fuel listed a w → wpAny P md ops Q fuel listed a w
  | 0, _, _, _, h => h
  | fuel + 1, _, _, _, h => ⟨h.1, fun i hi => wpOp_mono (fun a' w' h' => wpAny_of_T fuel _ a' w' h'.2) (h.2 i hi)⟩
theorem wpAnyT_first {n i : Nat} {oi : Oper} {v : Value} (hs : Region.sinkB md ops n = true) (hc : Region.chainB md ops n = true) (hn : n < ops.size) (hin : i < n) (hi : ops[i]? = some oi) (hsel : ∀ (j : Nat) (o : Oper) cs b, ops[j]? = some o → o.op ≠ .select cs b)
    (hQ : ∀ c a w, Q (.panic c) (a.put oi.dst v) w → Q (.panic c) a w) :
    ∀ (fuel : Nat) (listed : Array Bool) (a : Act) (w : World), HeadInv md ops n listed →
      (∀ j oj, ops[j]? = some oj → j ≠ i → listed.getD j true = false → (∀ e ∈ oj.after, Region.binds md e = true → e.on ≠ i) → oi.apart ops oj = true) →
      i ∈ Region.ready md ops listed → YieldsIf P ops S oi v a → S w →
      wpAnyT P md ops Q S n fuel (listed.setIfInBounds i true) (a.put oi.dst v) w → wpAnyT P md ops Q S n (fuel + 1) listed a w := by
  intro fuel
  induction fuel with
  | zero =>
    intro listed a w _ _ hr hy hS H
    refine ⟨fun h => (by rw [h] at hr; cases hr), fun j hj => ?_⟩
    by_cases hji : j = i
    · subst hji; exact hy.wpOp hi hS ⟨fun _ => hS, H⟩
    · have := ready_mono hj hji
      rw [H.1] at this
      cases this
  | succ fuel ih =>
    intro listed a w inv hfree hr hy hS H
    refine ⟨fun h => (by rw [h] at hr; cases hr), fun j hj => ?_⟩
    by_cases hji : j = i
    · subst hji; exact hy.wpOp hi hS ⟨fun _ => hS, H⟩
    · have h1 := H.2 j (ready_mono hj hji)
      obtain ⟨hjun, oj, hoj, hall⟩ := mem_ready.1 hj
      have hjl : j < ops.size := (Array.getElem?_eq_some_iff.1 hoj).1
      have hun : listed.getD i true = false := (mem_ready.1 hr).1
      have hjn : j < n := by
        rcases Nat.lt_or_ge j n with h | h
        · exact h
        · exact absurd hj (tail_waits hs hc hn inv (n - i) i rfl hin hun j h)
      have hnot : ∀ e ∈ oj.after, Region.binds md e = true → e.on ≠ i := fun e he hb heq => by
        have h1 := hall e he hb
        have h0 := (mem_ready.1 hr).1
        rw [heq] at h1
        rcases Nat.lt_or_ge i listed.size with h' | h'
        · simp [h'] at h0 h1; rw [h0] at h1; cases h1
        · simp [Array.getElem?_eq_none h'] at h1
      have h2 := wpOp_putIf hoj (hfree j oj hoj hji hjun hnot) (fun cs b => hsel i oi cs b hi) (fun cs b => hsel j oj cs b hoj) hQ hy h1
      have hfree' : ∀ k ok, ops[k]? = some ok → k ≠ i → (listed.setIfInBounds j true).getD k true = false →
          (∀ e ∈ ok.after, Region.binds md e = true → e.on ≠ i) → oi.apart ops ok = true := fun k ok hk hki hun hno => by
        refine hfree k ok hk hki ?_ hno
        by_cases hjk : j = k
        · subst hjk; exact hjun
        · rw [getD_set_ne true hjk] at hun; exact hun
      refine wpOp_mono (fun a' w' h3 => ⟨h3.2.1, ih (listed.setIfInBounds j true) a' w' (inv.set hj hjn) hfree' (ready_mono hr (Ne.symm hji)) h3.1 (h3.2.1 (by omega)) ?_⟩) h2
      rw [Array.setIfInBounds_comm _ _ hji]
      exact h3.2.2

/-- Operations that yield a value and enter nothing. -/
def plainOp (o : Oper) : Bool := match o.op with
  | .move _ | .assign _ | .load _ _ | .binOp _ _ _ _ _ | .unOp _ _ _ | .fieldAddr _ _ _ | .indexAddr _ _ _ | .index _ _ _ | .extract _ _ | .convert _ _ _ | .slice _ _ _ _ _ | .nilCheck _ => true
  | _ => false
theorem plain_value {o : Oper} (h : plainOp o = true) (ρ : Operand → Value) (w w' : World) (x : Next) (hx : (execOp ρ o).run P w = .ok x w') : ∃ u, x = .value u := by
  have key : ∀ s : Sem Value, (do let y ← s; pure (Next.value y) : Sem Next).run P w = .ok x w' → ∃ u, x = .value u := by
    intro s hs
    rw [Sem.run_bind] at hs
    generalize s.run P w = r at hs
    cases r with
    | ok y w1 => simp only [Result.andThen_ok, Sem.run_pure] at hs; injection hs with h1 _; exact ⟨y, h1.symm⟩
    | halt y w1 => simp [Result.andThen] at hs
  unfold plainOp at h
  unfold execOp at hx
  have val : ∀ u : Value, (pure (Next.value u) : Sem Next).run P w = .ok x w' → ∃ u, x = .value u := by
    intro u hu
    rw [Sem.run_pure] at hu
    injection hu with h1 _
    exact ⟨u, h1.symm⟩
  cases ho : o.op <;> rw [ho] at h hx <;> first
    | exact key _ hx
    | exact val _ hx
    | (exfalso; revert h; simp; done)
    | skip
  simp only at hx
  split at hx
  · exact absurd hx (by simp [runtimePanic])
  · exact absurd hx (by simp [runtimePanic])
  · exact absurd hx (by simp [runtimePanic])
  · split at hx
    · exact absurd hx (by simp [runtimePanic])
    · rw [Sem.run_bind] at hx
      generalize program.run P w = r1 at hx
      cases r1 with
      | halt e w1 => simp [Result.andThen] at hx
      | ok p w1 =>
        simp only [Result.andThen_ok] at hx
        rw [Sem.run_bind] at hx
        generalize (nilAhead _ _ _ _).run P w1 = r2 at hx
        cases r2 with
        | halt e w2 => simp [Result.andThen] at hx
        | ok y w2 =>
          simp only [Result.andThen_ok] at hx
          split at hx
          · simp [unsupported, Result.andThen] at hx
          · rw [Sem.run_pure] at hx
            injection hx with h1 _
            exact ⟨_, h1.symm⟩
    · exact val _ hx
  · exact val _ hx
theorem yields_of_quiet {o : Oper} {v : Value} {a : Act} (hp : plainOp o = true) (hw : Region.wanted o (yielded ops a.tmps) = true) (h : ∀ w, S w → o.quietAt P a S w v) : YieldsIf P ops S o v a := by
  refine .inl ⟨hw, fun w hS => ?_⟩
  have h1 := h w hS
  unfold Oper.quietAt at h1
  generalize hr : (execOp a.eval o).run P w = r at h1
  cases r with
  | ok x w' =>
    obtain ⟨u, rfl⟩ := plain_value hp a.eval w w' x hr
    simp only [Oper.quietUpon] at h1
    rw [h1.1, h1.2]
  | halt x w' => simp only [Oper.quietUpon] at h1

/-- What is checked of the operations that are taken first. -/
def takeB (md : Region.Mode) (ops : Array Oper) (n : Nat) : List Nat → Array Bool → Bool
  | [], _ => true
  | i :: r, listed => decide (i < n) && (Region.ready md ops listed).contains i && Region.free md ops listed i && (match ops[i]? with | some o => plainOp o | none => false) && takeB md ops n r (listed.setIfInBounds i true)
def taken : List Nat → Array Bool → Array Bool
  | [], listed => listed
  | i :: r, listed => taken r (listed.setIfInBounds i true)
/-- .. and of those that come behind, in one forced order. -/
def tailB (md : Region.Mode) (ops : Array Oper) : List Nat → Array Bool → Bool
  | [], listed => (Region.ready md ops listed).isEmpty
  | t :: r, listed => decide (Region.ready md ops listed = [t]) && tailB md ops r (listed.setIfInBounds t true)
/-- The forced operations, one behind the other, S between them. -/
def wpSeq (P : Program) (ops : Array Oper) (S : World → Prop) (Q : Exit → Act → World → Prop) : List Oper → Act → World → Prop
  | [], a, w => Q .normal a w
  | o :: r, a, w => o.guard = none ∧ wpList P ops (Then1 fun a' w' => (r ≠ [] → S w') ∧ wpSeq P ops S Q r a' w') [o] a w

theorem wpAnyT_quiet {n : Nat} (hs : Region.sinkB md ops n = true) (hc : Region.chainB md ops n = true) (hsz : ops.size = n + 1) (hsel : Region.noSelect ops = true) (hQ : ∀ c d v a w, Q (.panic c) (a.put d v) w → Q (.panic c) a w)
    {fuel : Nat} {w : World} {Qp : Act → Prop} (hS : S w) :
    ∀ (qs : List Nat) (ql : List Oper) (listed : Array Bool) (a : Act), qs.map (fun i => ops[i]?) = ql.map some → takeB md ops n qs listed = true → HeadInv md ops n listed →
      (∀ a', Qp a' → wpAnyT P md ops Q S n fuel (taken qs listed) a' w) → wpQuiet P ops S Qp ql a → wpAnyT P md ops Q S n (fuel + qs.length) listed a w
  | [], [], listed, a, _, _, _, hK, h => hK a h
  | [], _ :: _, _, _, hm, _, _, _, _ => by simp at hm
  | _ :: _, [], _, _, hm, _, _, _, _ => by simp at hm
  | i :: qs, o :: ql, listed, a, hm, hB, inv, hK, h => by
    simp only [List.map_cons, List.cons.injEq] at hm
    obtain ⟨hi, hm⟩ := hm
    simp only [takeB, Bool.and_eq_true, decide_eq_true_eq, hi] at hB
    obtain ⟨⟨⟨⟨hin, hr⟩, hf⟩, hp⟩, hB⟩ := hB
    have hr' : i ∈ Region.ready md ops listed := by simpa using hr
    have inv' := inv.set hr' hin
    have hn : n < ops.size := by omega
    unfold wpQuiet at h
    by_cases hw : Region.wanted o (yielded ops a.tmps) = true
    · rw [if_pos hw] at h
      obtain ⟨v, h1, h2⟩ := h
      exact wpAnyT_first hs hc hn hin hi (Region.noSelect_spec hsel) (fun c a w => hQ c _ _ a w) (fuel + qs.length) listed a w inv (Region.free_spec hi hf) hr' (yields_of_quiet hp hw h1) hS
        (wpAnyT_quiet hs hc hsz hsel hQ hS qs ql _ _ hm hB inv' hK h2)
    · rw [if_neg hw] at h
      exact wpAnyT_first hs hc hn hin hi (Region.noSelect_spec hsel) (fun c a w => hQ c _ _ a w) (fuel + qs.length) listed a w inv (Region.free_spec hi hf) hr' (.inr ⟨by simpa using hw, rfl⟩) hS
        (wpAnyT_quiet hs hc hsz hsel hQ hS qs ql _ _ hm hB inv' hK h)
theorem wpAnyT_tail {n : Nat} (hsz : ops.size = n + 1) : ∀ (ts : List Nat) (tl : List Oper) (listed : Array Bool) (a : Act) (w : World), ts.map (fun i => ops[i]?) = tl.map some → tailB md ops ts listed = true → (∀ t ∈ ts, t ≠ n → True) → ts.getLast? = some n ∨ ts = [] → ts.Nodup →
      wpSeq P ops S Q tl a w → wpAnyT P md ops Q S n ts.length listed a w
  | [], [], listed, a, w, _, hB, _, _, _, h => ⟨by simpa [tailB] using hB, h⟩
  | [], _ :: _, _, _, _, hm, _, _, _, _, _ => by simp at hm
  | _ :: _, [], _, _, _, hm, _, _, _, _, _ => by simp at hm
  | t :: ts, o :: tl, listed, a, w, hm, hB, hx, hl, hnd, h => by
    simp only [List.map_cons, List.cons.injEq] at hm
    obtain ⟨ho, hm⟩ := hm
    simp only [tailB, Bool.and_eq_true, decide_eq_true_eq] at hB
    obtain ⟨hr, hB⟩ := hB
    obtain ⟨hg, h⟩ := h
    refine ⟨fun h0 => (by rw [hr] at h0; cases h0), fun j hj => ?_⟩
    rw [hr, List.mem_singleton] at hj
    subst hj
    have hw : Region.wanted o (yielded ops a.tmps) = true := by simp [Region.wanted, hg]
    unfold wpOp
    rw [ho]
    simp only [hw, if_true]
    refine .inl (Oper.wp_mono (fun a' w' h' => ?_) (wp_of_list hg h))
    refine ⟨fun hne => h'.1 (fun e => ?_), ?_⟩
    · subst e
      have : ts = [] := by cases ts with
        | nil => rfl
        | cons x y => simp at hm
      subst this
      rcases hl with hl | hl
      · simp at hl; exact hne hl
      · cases hl
    · refine wpAnyT_tail hsz ts tl _ a' w' hm hB (fun _ _ _ => trivial) ?_ (List.nodup_cons.1 hnd).2 h'.2
      cases ts with
      | nil => exact .inr rfl
      | cons x y =>
        rcases hl with hl | hl
        · rw [List.getLast?_cons_cons] at hl; exact .inl hl
        · cases hl
end
/-- The region: the operations qs taken first, then ts one behind the other. -/
theorem wp_region_held_tail {P : Program} {id : Nat} {Q : Exit → Act → World → Prop} {a : Act} {w : World} {l : List Oper} (S : World → Prop) (qs ts : List Nat) (ql tl : List Oper) (hm : P.follows .mixedOrders = true)
    (hq : qs.map (fun i => l.toArray[i]?) = ql.map some) (ht : ts.map (fun i => l.toArray[i]?) = tl.map some)
    (hB : (Region.sinkB .any l.toArray (l.length - 1) && Region.chainB .any l.toArray (l.length - 1) && Region.noSelect l.toArray && takeB .any l.toArray (l.length - 1) qs (Array.replicate l.toArray.size false)
      && tailB .any l.toArray ts (taken qs (Array.replicate l.toArray.size false)) && decide (qs.length + ts.length = l.length) && decide (0 < l.length) && decide (ts.getLast? = some (l.length - 1)) && decide ts.Nodup) = true)
    (hQ : ∀ c d v a w, Q (.panic c) (a.put d v) w → Q (.panic c) a w) (hS : S w.drew)
    (h : wpQuiet P l.toArray S (fun a' => wpSeq P l.toArray S Q tl a' w.drew) ql a) : (Code.region id l.toArray true).wp P Q a w := by
  simp only [Bool.and_eq_true, decide_eq_true_eq] at hB
  obtain ⟨⟨⟨⟨⟨⟨⟨⟨h1, h2⟩, h3⟩, h4⟩, h5⟩, h6⟩, h7⟩, h8⟩, h9⟩ := hB
  have hsz : l.toArray.size = (l.length - 1) + 1 := by simp; omega
  have inv0 : HeadInv .any l.toArray (l.length - 1) (Array.replicate l.toArray.size false) :=
    ⟨by simp, fun j oj _ hl => (by rw [getD_replicate_false] at hl; cases hl), fun t _ ht => getD_in (by simpa using ht) (getD_replicate_false _ _)⟩
  have H := wpAnyT_quiet (md := .any) (fuel := ts.length) h1 h2 hsz h3 hQ hS qs ql _ a hq h4 inv0 (fun a' ha' => wpAnyT_tail hsz ts tl _ a' _ ht h5 (fun _ _ _ => trivial) (.inl h8) h9 ha') h
  refine wp_region_any hm ?_
  have e : ts.length + qs.length = l.toArray.size := by simp; omega
  rw [e] at H
  exact wpAny_of_T _ _ _ _ H
/-- The operations of these numbers. -/
def pickOps (l : List Oper) (qs : List Nat) : List Oper := qs.filterMap fun i => l[i]?
theorem pick_all (l : List Oper) : ∀ qs : List Nat, (qs.all fun i => decide (i < l.length)) = true → qs.map (fun i => l.toArray[i]?) = (pickOps l qs).map some
  | [], _ => rfl
  | i :: qs, h => by
    simp only [List.all_cons, Bool.and_eq_true, decide_eq_true_eq] at h
    have e : l[i]? = some l[i] := List.getElem?_eq_getElem h.1
    have := pick_all l qs h.2
    unfold pickOps at this ⊢
    rw [List.map_cons, List.filterMap_cons, e, this]
    simp [h.1]
def heldB (l : List Oper) (qs ts : List Nat) : Bool :=
  (Region.sinkB .any l.toArray (l.length - 1) && Region.chainB .any l.toArray (l.length - 1) && Region.noSelect l.toArray && takeB .any l.toArray (l.length - 1) qs (Array.replicate l.toArray.size false)
      && tailB .any l.toArray ts (taken qs (Array.replicate l.toArray.size false)) && decide (qs.length + ts.length = l.length) && decide (0 < l.length) && decide (ts.getLast? = some (l.length - 1)) && decide ts.Nodup) && (qs.all fun i => decide (i < l.length)) && (ts.all fun i => decide (i < l.length))
theorem wp_region_taken {P : Program} {id : Nat} {Q : Exit → Act → World → Prop} {a : Act} {w : World} {l : List Oper} (S : World → Prop) (qs ts : List Nat) (hm : P.follows .mixedOrders = true)
    (hB : heldB l qs ts = true) (hQ : ∀ c d v a w, Q (.panic c) (a.put d v) w → Q (.panic c) a w) (hS : S w.drew)
    (h : wpQuiet P l.toArray S (fun a' => wpSeq P l.toArray S Q (pickOps l ts) a' w.drew) (pickOps l qs) a) : (Code.region id l.toArray true).wp P Q a w := by
  unfold heldB at hB
  rw [Bool.and_eq_true, Bool.and_eq_true] at hB
  obtain ⟨⟨h1, h2⟩, h3⟩ := hB
  exact wp_region_held_tail S qs ts _ _ hm (pick_all l qs h2) (pick_all l ts h3) h1 hQ hS h
/-- One forced operation, S shown behind it. -/
theorem wpSeq_one {P : Program} {ops : Array Oper} {S : World → Prop} {Q : Exit → Act → World → Prop} {a : Act} {w : World} {o : Oper} {r : List Oper} (hg : o.guard = none)
    (h : ∀ K : Act → World → Prop, (∀ a' w', S w' → wpSeq P ops S Q r a' w' → K a' w') → wpList P ops (Then1 K) [o] a w) : wpSeq P ops S Q (o :: r) a w :=
  ⟨hg, h _ fun _ _ h1 h2 => ⟨fun _ => h1, h2⟩⟩
/-- The last one. -/
theorem wpSeq_last {P : Program} {ops : Array Oper} {S : World → Prop} {Q : Exit → Act → World → Prop} {a : Act} {w : World} {o : Oper} (hg : o.guard = none)
    (h : ∀ K : Act → World → Prop, (∀ a' w', Q .normal a' w' → K a' w') → wpList P ops (Then1 K) [o] a w) : wpSeq P ops S Q [o] a w :=
  ⟨hg, h _ fun _ _ h1 => ⟨fun h => absurd rfl h, h1⟩⟩
end Go.Proofs.YtcfpmofmjnhonaaGreatDoor
/- The document's NewBox, Public. -/
namespace Go.Proofs.YtcfpmofmjnhonaaGreatDoor
open Go.RowKit

def rows0 (seed : ByteArray) (k : Nat) : List ByteArray := (List.range k).map fun c : Nat => markOf 116 [txt (num8 (c : Int)), publicOf seed (c : Int)]
def rowsUpto (seed : ByteArray) : Nat → List ByteArray
  | 0 => rows0 seed 8
  | j + 1 => rowsUpto seed j ++ [markOf 117 [(rowsUpto seed j).getD (2 * j) ⟨#[]⟩, (rowsUpto seed j).getD (2 * j + 1) ⟨#[]⟩]]
def rowsOf (seed : ByteArray) : List ByteArray := rowsUpto seed 7
def boxPub (seed : ByteArray) : ByteArray := (rowsOf seed).getD 14 ⟨#[]⟩
theorem rows0_length (seed : ByteArray) (k : Nat) : (rows0 seed k).length = k := by unfold rows0; simp
theorem rowsUpto_length (seed : ByteArray) : ∀ j, (rowsUpto seed j).length = 8 + j
  | 0 => rows0_length seed 8
  | j + 1 => by rw [rowsUpto, List.length_append, rowsUpto_length seed j]; simp; omega
theorem rows0_size (seed : ByteArray) (k : Nat) : ∀ p ∈ rows0 seed k, p.size = 16 := by
  intro p hp
  unfold rows0 at hp
  obtain ⟨c, _, rfl⟩ := List.mem_map.1 hp
  exact markOf_len _ _
theorem rowsUpto_size (seed : ByteArray) : ∀ j, ∀ p ∈ rowsUpto seed j, p.size = 16
  | 0 => rows0_size seed 8
  | j + 1 => by
    intro p hp
    rw [rowsUpto, List.mem_append] at hp
    rcases hp with hp | hp
    · exact rowsUpto_size seed j p hp
    · simp at hp; subst hp; exact markOf_len _ _
def bxF (seed : ByteArray) (v : Value) : Nat → Value := fun i => if i = 0 then .string seed else v
structure BoxRel (bb : Nat) (w wr : World) (seed : ByteArray) (R : List ByteArray) (v : Value) : Prop where
  below : Below w.heap.size w wr
  lt : w.heap.size ≤ bb
  own : Holds wr bb 2 (bxF seed v) 138
  row : Row wr (bb + 1) 1 v R.length (stCells R)
/-- One row more. -/
theorem BoxRel.next {bb : Nat} {w wr w3 w4 : World} {seed : ByteArray} {R : List ByteArray} {v v' : Value} {y : ByteArray} (h : BoxRel bb w wr seed R v) (hb : Below wr.heap.size wr w3)
    (hrow : Row w4 (bb + 1) 1 v' (R.length + 1) (stCells R ++ [.string y])) (hg : w3.grownBy w4 v.ownBlock) : BoxRel bb w (w4.setCell ⟨bb, 1, none⟩ v') seed (R ++ [y]) v' := by
  have hrow3 : Row w3 (bb + 1) 1 v R.length (stCells R) := h.row.belowAll hb
  have hown3 := h.own.below hb h.own.lt
  have hb3 : Below w.heap.size w w3 := h.below.trans (hb.mono h.below.size)
  have hlt := h.lt
  refine ⟨(hb3.grown hg hb3.size (fun k hk => by have := (hrow3.lt k hk).1; omega)).setCell (p := ⟨bb, 1, none⟩) (by show w.heap.size ≤ bb; omega) _, hlt, ?_, ?_⟩
  · have h4 : Holds w4 bb 2 (bxF seed v) 138 := by
      unfold Holds at hown3 ⊢
      rw [hg.block bb (lt_of_block hown3) (fun e => hrow3.fresh (Nat.lt_succ_self bb) e.symm)]; exact hown3
    refine (h4.set 1 v').congr fun i hi => ?_
    unfold upd bxF
    rcases (show i = 0 ∨ i = 1 by omega) with rfl | rfl <;> simp
  · have e : stCells (R ++ [y]) = stCells R ++ [.string y] := by simp [stCells]
    rw [List.length_append, e]
    exact hrow.setOther (hrow.fresh (Nat.lt_succ_self _)) _

/-- A world in which a box's rows, and two of them, read so. -/
structure BoxZ (bb g i : Nat) (v : Value) (x y : ByteArray) where
  at' : World
  h0 : at'.cell? ⟨bb, 1, none⟩ = some v
  h1 : at'.cell? ⟨g, i, none⟩ = some (.string x)
  h2 : at'.cell? ⟨g, i + 1, none⟩ = some (.string y)
end Go.Proofs.YtcfpmofmjnhonaaGreatDoor
