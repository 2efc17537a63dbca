/- Parts of the proof, one behind the other: RSet2, Append, PSet, Order, Made, Long, LawItems. -/
import Derived.Test.YtenlpbcembadcaaDoorM9
import Derived.Test.YtenlpbcembadcaaDoorM8
import Derived.Test.YtenlpbcembadcaaDoorM1
import Derived.Test.YtenlpbcembadcaaDoorProg
import Derived.Test.YtenlpbcembadcaaDoorM5
/- The document's Set: the walk. -/
namespace Go.Proofs.YtenlpbcembadcaaDoor
open Go.RowKit

theorem grow_grownBy (w : World) (os : Array Obj) (g : Option Nat) : w.grownBy (Go.Sort.grow w os) g :=
  ⟨rfl, rfl, rfl, by unfold Go.Sort.grow; simp, fun k hk _ => grow_block w os k hk⟩
theorem perm_of_in {d d' : Array It} (h : Go.Sort.PermIn 0 d.size d d') : d'.toList.Perm d.toList := by
  obtain ⟨hs, _, hp⟩ := h
  have e1 : d'.extract 0 d.size = d' := by rw [← hs]; simp
  have e2 : d.extract 0 d.size = d := by simp
  rwa [e1, e2] at hp
theorem pairwise_one {α : Type} {R : α → α → Prop} {L : List α} (h : L.length = 1) : L.Pairwise R := by
  obtain ⟨x, rfl⟩ := List.length_eq_one_iff.1 h
  simp
structure SetRel (ob : Nat) (w wr : World) (L : List It) (x : It) (k : Nat) (v : Value) : Prop where
  below : Below w.heap.size w wr
  lt : w.heap.size < ob
  box : Holds wr w.heap.size 2 (fun i => if i = 0 then .string x.1 else .string x.2) 24
  own : Holds wr ob 1 (fun _ => v) 47
  row : Row wr (ob + 1) 2 v (others (L.take k) x).length (itCells (others (L.take k) x))
theorem others_take (L : List It) (k : Nat) (x y : It) (h : L[k]? = some y) : others (L.take (k + 1)) x = others (L.take k) x ++ (if y.1 = x.1 then [] else [y]) := by
  rw [List.take_add_one, h]
  unfold others
  rw [List.filter_append]
  congr 1
  by_cases e : y.1 = x.1 <;> simp [e]
theorem others_le (L : List It) (x : It) : (others L x).length ≤ L.length := List.length_filter_le _ _
/-- The world behind an append to what the variable holds, and the store of it. -/
theorem SetRel.alloc {ob : Nat} {w wr : World} {L : List It} {x : It} {k : Nat} {v : Value} (h : SetRel ob w wr L x k v) (X : Obj) : SetRel ob w (wr.alloc X) L x k v :=
  ⟨h.below.alloc h.below.size _, h.lt, h.box.alloc _, h.own.alloc _, h.row.alloc _⟩
theorem SetRel.after {ob : Nat} {w w2 w3 : World} {L : List It} {x : It} {k : Nat} {v : Value} {X : Obj} (h : SetRel ob w w2 L x k v) (hg : (w2.alloc X).grownBy w3 v.ownBlock) : Holds w3 ob 1 (fun _ => v) 47 := by
  have hown := h.own
  have hob := hown.lt
  unfold Holds at hown ⊢
  rw [hg.block ob (by simp; omega) (fun e => by have := (h.row.lt ob e.symm).1; omega), Below.heap_alloc _ _ _ hob]
  exact hown
theorem SetRel.put {ob : Nat} {w w2 w3 : World} {L : List It} {x y : It} {k : Nat} {v v' : Value} {X : Obj} {K : List It} (h : SetRel ob w w2 L x k v) (hrow : Row w3 (ob + 1) 2 v' K.length (itCells K)) (hg : (w2.alloc X).grownBy w3 v.ownBlock) (_hy : y = y) :
    Below w.heap.size w (w3.setCell ⟨ob, 0, none⟩ v') ∧ Holds (w3.setCell ⟨ob, 0, none⟩ v') w.heap.size 2 (fun i => if i = 0 then .string x.1 else .string x.2) 24 ∧ Holds (w3.setCell ⟨ob, 0, none⟩ v') ob 1 (fun _ => v') 47 ∧
      Row (w3.setCell ⟨ob, 0, none⟩ v') (ob + 1) 2 v' K.length (itCells K) := by
  have hlt := h.lt
  have hb2 : Below w.heap.size w (w2.alloc X) := h.below.alloc h.below.size X
  have hob := h.own.lt
  have keep : ∀ c, c < w2.heap.size → c < ob + 1 → w3.heap[c]? = w2.heap[c]? := fun c hc hc2 =>
    (hg.block c (by simp; omega) (fun e => by have := (h.row.lt c e.symm).1; omega)).trans (Below.heap_alloc _ _ _ hc)
  have hbox := h.box
  have hown := h.own
  refine ⟨(hb2.grown hg (Nat.le_trans h.below.size (by simp)) (fun c hc => by have := (h.row.lt c hc).1; omega)).setCell (p := ⟨ob, 0, none⟩) (Nat.le_of_lt hlt) _, ?_, ?_, hrow.setOther (hrow.fresh (Nat.lt_succ_self _)) _⟩
  · refine Holds.other ?_ (a := ⟨ob, 0, none⟩) (by show w.heap.size ≠ ob; omega) v'
    have := hbox.lt
    unfold Holds at hbox ⊢; rw [keep _ this (by omega)]; exact hbox
  · have h4 : Holds w3 ob 1 (fun _ => v) 47 := by unfold Holds at hown ⊢; rw [keep _ hob (by omega)]; exact hown
    refine (h4.set 0 v').congr fun i hi => ?_
    have : i = 0 := by omega
    subst this; rfl
end Go.Proofs.YtenlpbcembadcaaDoor
/- append onto a row of items: many, that lie somewhere. -/
namespace Go.Proofs.YtenlpbcembadcaaDoor
open Go.RowKit

theorem grownBy_refl (w : World) (g : Option Nat) : w.grownBy w g := ⟨rfl, rfl, rfl, Nat.le_refl _, fun _ _ _ => rfl⟩
theorem wpList_append_items {P : Program} {ops : Array Oper} {rest : List Oper} {o : Oper} {a : Act} {w : World} {Q : Exit → Act → World → Prop} (hgd : o.guard = none) (s x : Operand) (T : TypeId)
    (ho : o.op = .call { callee := .builtin .append, args := #[s, x], argTypes := #[T, T] }) (e : TypeId) (ht : P.underlying T = some (.slice e)) (i : TypeInfo) (z : Value) (hi : P.info? e = some i) (hz : i.zero = some z) (hsz : i.size = 2) (hby : i.bytes = 32) (hzc : z.cells.size = 2)
    (base n : Nat) (M : List It) (hml : M.length = n) (b0 : Addr) (c0 : Nat) (hd : a.eval s = .slice (some b0) n c0) (hrow : Row w base 2 (.slice (some b0) n c0) n (itCells M)) (hbase : base ≤ w.heap.size) (hn : n ≤ 1000000)
    (K : List It) (k : Nat) (hk : K.length = k) (A : Option Addr) (cap : Nat) (hs : a.eval x = .slice A k cap) (hm : Itms w A K) (hkl : k ≤ 1000000)
    (hK : ∀ v' w', Hid (Row w' base 2 v' (n + k) (itCells (M ++ K))) → Hid (w.grownBy w' (Value.slice (some b0) n c0).ownBlock) → wpList P ops Q rest (a.put o.dst v') w') : wpList P ops Q (o :: rest) a w := by
  by_cases h0 : k = 0
  · subst h0
    obtain rfl := List.eq_nil_of_length_eq_zero hk
    have hnc : n ≤ c0 := by
      obtain ⟨_, hr⟩ := hrow
      rcases hr with ⟨hr, _⟩ | ⟨g, cap', hv, _, _, hle, _⟩
      · cases hr
      · injection hv with _ _ e3
        omega
    have hsrc : ∃ news, Src P i.size T (.slice A 0 cap) 0 news w := by
      cases A with
      | none => exact ⟨[], Src.ofNil w ht cap⟩
      | some x => exact ⟨[], Src.ofSlice w ht x 0 cap [] (by simp) (fun j u h => by simp at h) (fun u h => by cases h)⟩
    obtain ⟨news, hsrc⟩ := hsrc
    have hnl : news = [] := List.eq_nil_of_length_eq_zero (by simpa using hsrc.newsLen)
    subst hnl
    have hk1 : ∃ e', P.underlying T = some (.slice e') := ⟨e, ht⟩
    have hrun : (Builtin.append_ #[T, T] o.type #[.slice (some b0) n c0, .slice A 0 cap]).run P w = .ok (.slice (some b0) n c0) w := by
      have hst : ∀ a : Addr, (storeCells a []).run P w = .ok () w := fun a => by simp [storeCells]
      simp [Builtin.append_, run_underlying ht, sizeOf, typeInfo, hi, hsrc.len, hsrc.cells, hst, hnc]
    refine wpList_plain hgd fun K hK' => ?_
    unfold Oper.wp
    simp [execOp, ho, resolve, invoke, builtin, hd, hs, hrun, Result.andThen]
    exact hK' _ _ (hK _ _ (Lib.hid (by rw [List.append_nil]; exact hrow)) (Lib.hid (grownBy_refl _ _)))
  · obtain ⟨x, rfl, hc⟩ := hm.cells (by omega)
    refine wpList_append_row2 hgd s _ T ho e i z 2 32 ht hi hz hsz hby hzc (by decide) base _ n (itCells M) hd hrow hbase x k cap (itCells K) hs (by rw [itCells_length, hk]) hc (itCells_one' K) (by unfold maxLen; omega) (by omega) ?_
    intro v' w' hr hg _
    refine hK v' w' (Lib.hid ?_) hg
    rw [itCells_append]
    exact hr.out
end Go.Proofs.YtenlpbcembadcaaDoor
/- The program's Set. -/
namespace Go.Proofs.YtenlpbcembadcaaDoor
open Go.RowKit

theorem row_one {w : World} {base p : Nat} {v : Value} {L : List It} {x : It} (h : Row w base 2 v (L.take p ++ [x]).length (itCells (L.take p ++ [x]))) (hp : p ≤ L.length) :
    ∃ g c, v = .slice (some ⟨g, 0, none⟩) (p + 1) c ∧ Hid (Row w base 2 (.slice (some ⟨g, 0, none⟩) (p + 1) c) (p + 1) (itCells (L.take p ++ [x]))) := by
  have e : (L.take p ++ [x]).length = p + 1 := by simp; omega
  rw [e] at h
  obtain ⟨g, c, rfl, _⟩ := h.shape (by omega)
  exact ⟨g, c, rfl, Lib.hid h⟩
set_option maxRecDepth 100000 in
theorem tSet_is (L : List It) (A : Option Addr) (cap : Nat) (x : It) (T : List It) (n : Int) (w : World) (hl : L.length ≤ 1000000) (hc : L.length ≤ cap) (hm : Itms w A L) (h : setOf L x = (T, n)) :
    Calls Tryd.prog 47 #[.slice A L.length cap, .agg #[.string x.1, .string x.2]] w fun e w' => ∃ A' c', e = .returned (.tuple #[.slice A' T.length c', errOf n]) ∧ Below w.heap.size w w' ∧ Itms w' A' T ∧ T.length ≤ c' := by
  have HM := Lib.hid hm
  have HCAP := Lib.hid hc
  clear hm hc
  unfold setOf at h
  have hb0 := alloc_below w (.cells #[.string x.1, .string x.2] 24)
  have HB0 := Lib.hid hb0
  have HX0 := Lib.hid (show Holds (w.alloc (.cells #[.string x.1, .string x.2] 24)) w.heap.size 2 (fun i => if i = 0 then .string x.1 else .string x.2) 24 from Holds.new w 2 (fun i => if i = 0 then .string x.1 else .string x.2) 24)
  clear hb0
  by_cases hk : rightItems L = true
  · have HK := Lib.hid hk
    by_cases hx : rightItems [x] = true
    · rw [if_pos ⟨hk, hx⟩] at h
      have HXR := Lib.hid hx
      have HRISE := Lib.hid (right_sorted hk)
      have hl60 := right_length hk
      clear hk hx
      have HSET := Lib.hid h
      clear h
      go_enter Tryd.func47, Tryd.ntmps47
      go_wp2_with fail
      refine (tRight_any L A cap _ hl (HM.out.below HB0.out)).mono ?_
      rintro e w1 ⟨rfl, hb1⟩
      rw [HK.out]
      have HB1 := Lib.hid (HB0.out.trans (hb1.mono HB0.out.size))
      have HX1 := Lib.hid (HX0.out.below hb1 HX0.out.lt)
      clear hb1
      have x0 : w1.cell? ⟨w.heap.size, 0, none⟩ = some (.string x.1) := HX1.out.cell 0 (by omega)
      have x1 : w1.cell? ⟨w.heap.size, 1, none⟩ = some (.string x.2) := HX1.out.cell 1 (by omega)
      go_wp2_with fail
      clear x0 x1
      refine (tRight_any [x] (some ⟨w1.heap.size, 0, none⟩) 1 _ (by simp) (one_item x w1 24)).mono ?_
      rintro e w2 ⟨rfl, hb2⟩
      rw [HXR.out]
      have HB2 := Lib.hid (HB1.out.trans ((alloc_below w1 (.cells #[.string x.1, .string x.2] 24)).mono HB1.out.size |>.trans (hb2.mono (Nat.le_trans HB1.out.size (by simp)))))
      have HX2 := Lib.hid ((HX1.out.alloc (.cells #[.string x.1, .string x.2] 24)).below hb2 (by have := HX1.out.lt; simp; omega))
      clear hb2
      have x0 : w2.cell? ⟨w.heap.size, 0, none⟩ = some (.string x.1) := HX2.out.cell 0 (by omega)
      have x1 : w2.cell? ⟨w.heap.size, 1, none⟩ = some (.string x.2) := HX2.out.cell 1 (by omega)
      go_wp2_with fail
      clear x0 x1
      refine (tSeek_any L A cap x _ hl (HM.out.below HB2.out) HRISE.out).mono ?_
      rintro e w3 ⟨hb3, ⟨p, b⟩, hof, rfl⟩
      have HB3 := Lib.hid (HB2.out.trans (hb3.mono HB2.out.size))
      have HX3 := Lib.hid (HX2.out.below hb3 HX2.out.lt)
      have HOF := Lib.hid hof
      have hpl : p ≤ L.length := hof.le
      clear hb3 hof
      cases b with
      | true =>
        obtain ⟨hpn, hpe⟩ := HOF.out.there rfl
        have hpn' : p < L.length := hpn
        obtain ⟨hol, hins⟩ := set_there HRISE.out hpn hpe
        have HINS := Lib.hid (show T = L.take p ++ x :: L.drop (p + 1) ∧ n = 0 by
          have h := HSET.out
          rw [if_neg (by omega)] at h
          cases h
          exact ⟨hins.symm, rfl⟩)
        clear hol hins HSET hpe hpn
        have hto := it_to A L.length cap p (by have := HCAP.out; omega)
        have hf1 := it_from A L.length cap p hpl
        have hdr := fun u (hu : Itms u A L) => hu.drop (r := p) HCAP.out
        have hpc : (L.drop p).length ≤ cap - p := by rw [List.length_drop]; have := HCAP.out; omega
        generalize partAt A cap p = B at hf1 hdr
        obtain ⟨s, hse⟩ : ∃ s, L.length - p = s := ⟨_, rfl⟩
        obtain ⟨c2, hc2⟩ : ∃ c2, cap - p = c2 := ⟨_, rfl⟩
        rw [hse, hc2] at hf1
        rw [hc2] at hpc
        have hf2 : ∀ u : World, (Instr.sliceAt 47 (.slice B s c2) (some (.int .i64 1)) none none).run Tryd.prog u = .ok (.slice (partAt B c2 1) (s - 1) (c2 - 1)) u := fun u => it_from B s c2 1 (by omega) u
        have HDR := Lib.hid (show ∀ u, Itms u A L → Itms u (partAt B c2 1) (L.drop (p + 1)) from fun u hu => by
          have := (hdr u hu).drop (r := 1) hpc
          rwa [List.drop_drop] at this)
        have HDL := Lib.hid (show (L.drop (p + 1)).length = s - 1 by rw [List.length_drop]; omega)
        have hsl : s - 1 ≤ 60 := by omega
        clear hdr hpc hse hc2
        generalize partAt B c2 1 = D at hf2 HDR
        generalize s - 1 = s2 at hf2 HDL hsl
        generalize c2 - 1 = c3 at hf2
        obtain ⟨i0, hi0, hz0, hz1, hz2⟩ := info_parts infoItem
        have HI0 := Lib.hid hi0
        clear hi0
        have hl60i : (L.length : Int) ≤ 60 := by omega
        have HBX := Lib.hid HX3.out.lt
        go_wp2_with (first
          | (at_make; refine wpList_make_own _ rfl (.const (.int .i64 0)) (.tmp 39) 47 rfl (w.heap.size + 1) 24 i0 (.agg #[.string ⟨#[]⟩, .string ⟨#[]⟩]) 2 Tryd.underlying47 HI0.out hz0 hz1 .i64 .i64 ((L.length : Int) + 1) (L.length + 1) rfl rfl (by omega) (by rw [hz2]; omega) (by unfold maxLen; omega) HBX.out ?_; intro w4 hown4 hg4; have R4 := Lib.hid (Row.of_owns hown4); have HX4 := Lib.hid (grownBy.holds hg4 HX3.out (fun h => by cases h)); have HB4 := Lib.hid (HB3.out.trans (grownBy.below hg4 HB3.out.size (fun k h => by cases h))); clear hown4 hg4)
          | (at_builtin; refine wpList_append_items rfl (.tmp 41) (.tmp 44) 47 rfl 24 Tryd.underlying47 i0 _ HI0.out hz0 hz1 hz2 rfl (w.heap.size + 1) 0 [] rfl _ _ rfl R4.out HX4.out.lt (by omega) (L.take p) p (by rw [List.length_take]; omega) A cap rfl ((HM.out.below HB4.out).take p) (by omega) ?_; intro v5 w5 hr5 hg5; obtain ⟨p5, c5, rfl⟩ := hr5.out.any; have R5 := Lib.hid (show Row w5 (w.heap.size + 1) 2 (.slice p5 p c5) (L.take p).length (itCells (L.take p)) by have := hr5.out; rw [List.nil_append, Nat.zero_add] at this; rw [List.length_take, Nat.min_eq_left hpl]; exact this); have HX5 := Lib.hid (grownBy.holds hg5.out HX4.out (R4.out.fresh (Nat.lt_succ_self _))); have HB5 := Lib.hid (grown_below HB4.out R4.out hg5.out (Nat.le_succ _) HB4.out.size); clear hr5 hg5; have x50 : w5.cell? ⟨w.heap.size, 0, none⟩ = some (.string x.1) := HX5.out.cell 0 (by omega); have x51 : w5.cell? ⟨w.heap.size, 1, none⟩ = some (.string x.2) := HX5.out.cell 1 (by omega))
          | (at_builtin; refine wpList_append_item rfl (.tmp 46) (.tmp 48) 47 rfl 24 Tryd.underlying47 _ 32 infoItem rfl (by decide) (w.heap.size + 1) (.slice p5 p c5) (L.take p) rfl (R5.out.alloc _) (by have := HX5.out.lt; simp; omega) (by have := List.length_take_le p L; omega) x w5.heap.size rfl 24 (heap_alloc_new _ _) ?_; intro v6 w6 hr6 hg6 _; obtain ⟨g6, c6, r6, R6⟩ := row_one hr6.out hpl; subst r6; have HZ6 := Lib.hid (show w.heap.size + 1 ≤ w6.heap.size from Nat.le_trans (Nat.le_trans (show w.heap.size + 1 ≤ w5.heap.size from HX5.out.lt) (by simp)) hg6.out.size); have HB6 := Lib.hid (grown_below (HB5.out.alloc HB5.out.size _) (R5.out.alloc _) hg6.out (Nat.le_succ _) (by have := HB5.out.size; simp; omega)); clear hr6 hg6 x50 x51)
          | (at_builtin; refine wpList_append_items rfl (.tmp 50) (.tmp 51) 47 rfl 24 Tryd.underlying47 i0 _ HI0.out hz0 hz1 hz2 rfl (w.heap.size + 1) (p + 1) (L.take p ++ [x]) (by simp; omega) _ _ rfl R6.out HZ6.out (by omega) (L.drop (p + 1)) s2 HDL.out D c3 rfl (HDR.out _ (HM.out.below HB6.out)) (by omega) ?_; intro v7 w7 hr7 hg7; obtain ⟨p7, c7, rfl⟩ := hr7.out.any; have HB7 := Lib.hid (grown_below HB6.out R6.out hg7.out (Nat.le_succ _) HB6.out.size); clear hg7))
        refine bodyPost_ret (results_tmp2 rfl _ _ _) rfl ?_
        obtain ⟨hT, rfl⟩ := HINS.out
        have hT2 : L.take p ++ [x] ++ L.drop (p + 1) = T := by rw [hT]; simp
        have r7 := hr7.out
        rw [hT2] at r7
        obtain ⟨ht, A', c', hv, hit⟩ := r7.itms
        have hcap := r7.cap
        injection hv with e1 _ e3
        subst e1 e3
        refine ⟨p7, c7, ?_, HB7.out, hit, ?_⟩
        · rw [← ht]; rfl
        · rw [← ht]; exact hcap
      | false =>
        have hnew := set_new HRISE.out HOF.out.low (HOF.out.high rfl)
        obtain ⟨hol, hins⟩ := hnew
        have hol' : (others L x).length = L.length := by rw [hol]
        by_cases h60 : L.length = 60
        · have HINS := Lib.hid (show T = [] ∧ n = 12 by
            have h := HSET.out
            rw [if_pos ⟨hol', by omega⟩] at h
            cases h
            exact ⟨rfl, rfl⟩)
          have h60i : ((L.length : Int) == 60) = true := by rw [beq_iff_eq]; omega
          clear hol hol' hins HSET
          have hf1 := it_from A L.length cap p hpl
          obtain ⟨B, hBe⟩ : ∃ B, partAt A cap p = B := ⟨_, rfl⟩
          rw [hBe] at hf1
          clear h60 hBe
          generalize L.length - p = s at hf1
          generalize cap - p = c2 at hf1
          go_wp2
          refine bodyPost_ret (results_tmp2 rfl _ _ _) rfl ?_
          obtain ⟨rfl, rfl⟩ := HINS.out
          exact ⟨none, 0, rfl, HB3.out, Itms.nil _ _, Nat.le_refl 0⟩
        · have HINS := Lib.hid (show T = L.take p ++ x :: L.drop p ∧ n = 0 by
            have h := HSET.out
            rw [if_neg (by omega)] at h
            cases h
            exact ⟨hins.symm, rfl⟩)
          have h60i : ((L.length : Int) == 60) = false := by rw [beq_eq_false_iff_ne]; omega
          clear hol hol' hins HSET
          have hto := it_to A L.length cap p (by have := HCAP.out; omega)
          have hf1 := it_from A L.length cap p hpl
          have hdr := fun u (hu : Itms u A L) => hu.drop (r := p) HCAP.out
          have hdl : (L.drop p).length = L.length - p := List.length_drop
          obtain ⟨B, hBe⟩ : ∃ B, partAt A cap p = B := ⟨_, rfl⟩
          rw [hBe] at hf1 hdr
          have hsl : L.length - p ≤ 60 := by omega
          have HDR := Lib.hid hdr
          have HDL := Lib.hid hdl
          clear hdr hdl hBe h60
          generalize L.length - p = s at hf1 HDL hsl
          generalize cap - p = c2 at hf1
          obtain ⟨i0, hi0, hz0, hz1, hz2⟩ := info_parts infoItem
          have HI0 := Lib.hid hi0
          clear hi0
          have hl60i : (L.length : Int) ≤ 60 := by omega
          have HBX := Lib.hid HX3.out.lt
          go_wp2_with (first
            | (at_make; refine wpList_make_own _ rfl (.const (.int .i64 0)) (.tmp 39) 47 rfl (w.heap.size + 1) 24 i0 (.agg #[.string ⟨#[]⟩, .string ⟨#[]⟩]) 2 Tryd.underlying47 HI0.out hz0 hz1 .i64 .i64 ((L.length : Int) + 1) (L.length + 1) rfl rfl (by omega) (by rw [hz2]; omega) (by unfold maxLen; omega) HBX.out ?_; intro w4 hown4 hg4; have R4 := Lib.hid (Row.of_owns hown4); have HX4 := Lib.hid (grownBy.holds hg4 HX3.out (fun h => by cases h)); have HB4 := Lib.hid (HB3.out.trans (grownBy.below hg4 HB3.out.size (fun k h => by cases h))); clear hown4 hg4)
            | (at_builtin; refine wpList_append_items rfl (.tmp 41) (.tmp 44) 47 rfl 24 Tryd.underlying47 i0 _ HI0.out hz0 hz1 hz2 rfl (w.heap.size + 1) 0 [] rfl _ _ rfl R4.out HX4.out.lt (by omega) (L.take p) p (by rw [List.length_take]; omega) A cap rfl ((HM.out.below HB4.out).take p) (by omega) ?_; intro v5 w5 hr5 hg5; obtain ⟨p5, c5, rfl⟩ := hr5.out.any; have R5 := Lib.hid (show Row w5 (w.heap.size + 1) 2 (.slice p5 p c5) (L.take p).length (itCells (L.take p)) by have := hr5.out; rw [List.nil_append, Nat.zero_add] at this; rw [List.length_take, Nat.min_eq_left hpl]; exact this); have HX5 := Lib.hid (grownBy.holds hg5.out HX4.out (R4.out.fresh (Nat.lt_succ_self _))); have HB5 := Lib.hid (grown_below HB4.out R4.out hg5.out (Nat.le_succ _) HB4.out.size); clear hr5 hg5; have x50 : w5.cell? ⟨w.heap.size, 0, none⟩ = some (.string x.1) := HX5.out.cell 0 (by omega); have x51 : w5.cell? ⟨w.heap.size, 1, none⟩ = some (.string x.2) := HX5.out.cell 1 (by omega))
            | (at_builtin; refine wpList_append_item rfl (.tmp 46) (.tmp 48) 47 rfl 24 Tryd.underlying47 _ 32 infoItem rfl (by decide) (w.heap.size + 1) (.slice p5 p c5) (L.take p) rfl (R5.out.alloc _) (by have := HX5.out.lt; simp; omega) (by have := List.length_take_le p L; omega) x w5.heap.size rfl 24 (heap_alloc_new _ _) ?_; intro v6 w6 hr6 hg6 _; obtain ⟨g6, c6, r6, R6⟩ := row_one hr6.out hpl; subst r6; have HZ6 := Lib.hid (show w.heap.size + 1 ≤ w6.heap.size from Nat.le_trans (Nat.le_trans (show w.heap.size + 1 ≤ w5.heap.size from HX5.out.lt) (by simp)) hg6.out.size); have HB6 := Lib.hid (grown_below (HB5.out.alloc HB5.out.size _) (R5.out.alloc _) hg6.out (Nat.le_succ _) (by have := HB5.out.size; simp; omega)); clear hr6 hg6 x50 x51)
            | (at_builtin; refine wpList_append_items rfl (.tmp 50) (.tmp 51) 47 rfl 24 Tryd.underlying47 i0 _ HI0.out hz0 hz1 hz2 rfl (w.heap.size + 1) (p + 1) (L.take p ++ [x]) (by simp; omega) _ _ rfl R6.out HZ6.out (by omega) (L.drop p) s HDL.out B c2 rfl (HDR.out _ (HM.out.below HB6.out)) (by omega) ?_; intro v7 w7 hr7 hg7; obtain ⟨p7, c7, rfl⟩ := hr7.out.any; have HB7 := Lib.hid (grown_below HB6.out R6.out hg7.out (Nat.le_succ _) HB6.out.size); clear hg7))
          refine bodyPost_ret (results_tmp2 rfl _ _ _) rfl ?_
          obtain ⟨hT, rfl⟩ := HINS.out
          have hT2 : L.take p ++ [x] ++ L.drop p = T := by rw [hT]; simp
          have r7 := hr7.out
          rw [hT2] at r7
          obtain ⟨ht, A', c', hv, hit⟩ := r7.itms
          have hcap := r7.cap
          injection hv with e1 _ e3
          subst e1 e3
          refine ⟨p7, c7, ?_, HB7.out, hit, ?_⟩
          · rw [← ht]; rfl
          · rw [← ht]; exact hcap
    · rw [if_neg (fun hh => hx hh.2)] at h
      cases h
      have HXR := Lib.hid (show rightItems [x] = false by simpa using hx)
      clear hk hx
      go_enter Tryd.func47, Tryd.ntmps47
      go_wp2_with fail
      refine (tRight_any L A cap _ hl (HM.out.below HB0.out)).mono ?_
      rintro e w1 ⟨rfl, hb1⟩
      rw [HK.out]
      have HB1 := Lib.hid (HB0.out.trans (hb1.mono HB0.out.size))
      have HX1 := Lib.hid (HX0.out.below hb1 HX0.out.lt)
      clear hb1
      have x0 : w1.cell? ⟨w.heap.size, 0, none⟩ = some (.string x.1) := HX1.out.cell 0 (by omega)
      have x1 : w1.cell? ⟨w.heap.size, 1, none⟩ = some (.string x.2) := HX1.out.cell 1 (by omega)
      go_wp2_with fail
      clear x0 x1
      refine (tRight_any [x] (some ⟨w1.heap.size, 0, none⟩) 1 _ (by simp) (one_item x w1 24)).mono ?_
      rintro e w2 ⟨rfl, hb2⟩
      rw [HXR.out]
      have HB2 := Lib.hid (HB1.out.trans ((alloc_below w1 (.cells #[.string x.1, .string x.2] 24)).mono HB1.out.size |>.trans (hb2.mono (Nat.le_trans HB1.out.size (by simp)))))
      clear hb2
      go_wp2
      refine bodyPost_ret (results_tmp2 rfl _ _ _) rfl ?_
      exact ⟨none, 0, rfl, HB2.out, Itms.nil _ _, Nat.le_refl 0⟩
  · rw [if_neg (fun hh => hk hh.1)] at h
    cases h
    have HK := Lib.hid (show rightItems L = false by simpa using hk)
    clear hk
    go_enter Tryd.func47, Tryd.ntmps47
    go_wp2_with fail
    refine (tRight_any L A cap _ hl (HM.out.below HB0.out)).mono ?_
    rintro e w1 ⟨rfl, hb1⟩
    rw [HK.out]
    have HB1 := Lib.hid (HB0.out.trans (hb1.mono HB0.out.size))
    clear hb1
    go_wp2
    refine bodyPost_ret (results_tmp2 rfl _ _ _) rfl ?_
    exact ⟨none, 0, rfl, HB1.out, Itms.nil _ _, Nat.le_refl 0⟩
end Go.Proofs.YtenlpbcembadcaaDoor
/- Items set one behind the other: plain lists (for TrieOrder). -/
namespace Go.Proofs.YtenlpbcembadcaaDoor

def goodI (x : It) : Bool := decide (x.1.size = 16) && decide (x.2.size = 16)
theorem right_one (x : It) : rightItems [x] = goodI x := by
  unfold rightItems goodItems goodItem goodI itAt
  simp
/-- Items that rise, each of the right sizes, are right. -/
theorem right_of {T : List It} (hs : T.Pairwise ltI) (hg : ∀ x ∈ T, goodI x = true) (hl : T.length ≤ 60) : rightItems T = true := by
  unfold rightItems
  rw [Bool.and_eq_true]
  refine ⟨?_, decide_eq_true hl⟩
  unfold goodItems
  rw [List.all_eq_true]
  intro i hi
  have hi := List.mem_range.1 hi
  have hgi := hg T[i] (List.getElem_mem hi)
  unfold goodI at hgi
  rw [Bool.and_eq_true] at hgi
  unfold goodItem
  rw [itAt_get (List.getElem?_eq_getElem hi), Bool.and_eq_true, Bool.and_eq_true]
  refine ⟨⟨hgi.1, hgi.2⟩, ?_⟩
  rw [Bool.or_eq_true]
  by_cases h0 : i = 0
  · exact .inl (decide_eq_true h0)
  · right
    have hj : i - 1 < T.length := by omega
    rw [itAt_get (List.getElem?_eq_getElem hj)]
    exact decide_eq_true (List.pairwise_iff_getElem.1 hs (i - 1) i hj hi (by omega))
/-- One more is set, as far as it may be. -/
def putIn (T : List It) (x : It) : List It := if (setOf T x).2 = 0 then (setOf T x).1 else T
def madeOf (L : List It) : List It := L.foldl putIn []
theorem putIn_good {T : List It} {x : It} (hr : rightItems T = true) (hl : T.length < 60) (hx : goodI x = true) : putIn T x = insIt x (others T x) := by
  have hs : setOf T x = (insIt x (others T x), 0) := by
    unfold setOf
    rw [if_pos ⟨hr, (right_one x).trans hx⟩, if_neg (by omega)]
  unfold putIn
  rw [hs]
  rfl
theorem putIn_bad {T : List It} {x : It} (hx : goodI x = false) : putIn T x = T := by
  have hs : setOf T x = ([], 1) := by
    unfold setOf
    rw [if_neg (by rw [right_one, hx]; simp)]
  unfold putIn
  rw [hs]
  rfl
theorem others_few (T : List It) (x : It) : (others T x).length ≤ T.length := List.length_filter_le _ _
theorem putIn_right {T : List It} {x : It} (hr : rightItems T = true) (hl : T.length < 60) : rightItems (putIn T x) = true ∧ (putIn T x).length ≤ T.length + 1 := by
  cases hx : goodI x
  · rw [putIn_bad hx]
    exact ⟨hr, by omega⟩
  · rw [putIn_good hr hl hx]
    have hp := insIt_perm x (others T x)
    have hn := hp.length_eq
    have hf := others_few T x
    have hsz := right_sizes hr
    rw [List.length_cons] at hn
    refine ⟨right_of (insIt_sorted x _ (others_sorted (right_sorted hr) x) (others_ne T x)) (fun y hy => ?_) (by omega), by omega⟩
    rcases List.mem_cons.1 (hp.mem_iff.1 hy) with rfl | hy
    · exact hx
    · have hy := hsz y (List.mem_filter.1 hy).1
      unfold goodI
      rw [hy.1, hy.2]
      rfl
theorem right_nil : rightItems [] = true := right_of List.Pairwise.nil (fun x hx => by cases hx) (by simp)
theorem fold_right : ∀ (L T : List It), rightItems T = true → T.length + L.length ≤ 60 → rightItems (L.foldl putIn T) = true ∧ (L.foldl putIn T).length ≤ T.length + L.length
  | [], T, hr, _ => ⟨hr, by simp⟩
  | x :: r, T, hr, hl => by
    rw [List.length_cons] at hl
    obtain ⟨h1, h2⟩ := putIn_right (x := x) hr (by omega)
    obtain ⟨h3, h4⟩ := fold_right r (putIn T x) h1 (by omega)
    rw [List.foldl_cons, List.length_cons]
    exact ⟨h3, by omega⟩
/-- What is set is right, and no more than it was set of. -/
theorem made_right (L : List It) (hl : L.length ≤ 60) : rightItems (madeOf L) = true ∧ (madeOf L).length ≤ L.length := by
  obtain ⟨h1, h2⟩ := fold_right L [] right_nil (by simpa using hl)
  exact ⟨h1, by simpa [madeOf] using h2⟩
theorem others_all {T : List It} {x : It} (h : ∀ y ∈ T, y.1 ≠ x.1) : others T x = T := List.filter_eq_self.2 fun y hy => decide_eq_true (h y hy)
/-- None twice: all that are good are there. -/
theorem fold_perm : ∀ (L T : List It), rightItems T = true → T.length + L.length ≤ 60 → (L.Pairwise fun x y => x.1 ≠ y.1) → (∀ x ∈ L, ∀ y ∈ T, y.1 ≠ x.1) → (L.foldl putIn T).Perm (T ++ L.filter goodI)
  | [], T, _, _, _, _ => by simp
  | x :: r, T, hr, hl, hp, hn => by
    rw [List.length_cons] at hl
    obtain ⟨p1, p2⟩ := List.pairwise_cons.1 hp
    have hput := putIn_right (x := x) hr (by omega)
    rw [List.foldl_cons]
    cases hx : goodI x
    · rw [putIn_bad hx, List.filter_cons, hx]
      exact fold_perm r T hr (by omega) p2 (fun z hz y hy => hn z (List.mem_cons_of_mem _ hz) y hy)
    · have ho : others T x = T := others_all (hn x (List.mem_cons_self ..))
      have he : putIn T x = insIt x T := by rw [putIn_good hr (by omega) hx, ho]
      have hpm : (putIn T x).Perm (x :: T) := by rw [he]; exact insIt_perm x T
      refine (fold_perm r (putIn T x) hput.1 (by omega) p2 (fun z hz y hy => ?_)).trans ?_
      · rcases List.mem_cons.1 (hpm.mem_iff.1 hy) with rfl | hy
        · exact p1 z hz
        · exact hn z (List.mem_cons_of_mem _ hz) y hy
      · rw [List.filter_cons, hx]
        exact (hpm.append_right _).trans (List.perm_middle.symm)
theorem made_perm {L : List It} (hl : L.length ≤ 60) (hd : L.Pairwise fun x y => x.1 ≠ y.1) : (madeOf L).Perm (L.filter goodI) := by
  have := fold_perm L [] right_nil (by simpa using hl) hd (fun x _ y hy => by cases hy)
  simpa [madeOf] using this
/-- The order is nothing. -/
theorem made_order {L M : List It} (hl : L.length ≤ 60) (hd : L.Pairwise fun x y => x.1 ≠ y.1) (p : M.Perm L) : madeOf M = madeOf L := by
  have hm : M.length ≤ 60 := by rw [p.length_eq]; exact hl
  have hdm : M.Pairwise fun x y => x.1 ≠ y.1 := p.symm.pairwise hd (fun h => h.symm)
  exact sorted_one ((made_perm hm hdm).trans ((p.filter goodI).trans (made_perm hl hd).symm)) (right_sorted (made_right M hm).1) (right_sorted (made_right L hl).1)
theorem fold_keeps : ∀ (L T : List It) (y : It), rightItems T = true → T.length + L.length ≤ 60 → y ∈ T → (∀ x ∈ L, goodI x = true → x.1 ≠ y.1) → y ∈ L.foldl putIn T
  | [], _, _, _, _, hy, _ => hy
  | x :: r, T, y, hr, hl, hy, hn => by
    rw [List.length_cons] at hl
    have hput := putIn_right (x := x) hr (by omega)
    rw [List.foldl_cons]
    refine fold_keeps r (putIn T x) y hput.1 (by omega) ?_ (fun z hz hg => hn z (List.mem_cons_of_mem _ hz) hg)
    cases hx : goodI x
    · rw [putIn_bad hx]; exact hy
    · rw [putIn_good hr (by omega) hx, (insIt_perm x _).mem_iff]
      exact List.mem_cons_of_mem _ (List.mem_filter.2 ⟨hy, decide_eq_true fun he => hn x (List.mem_cons_self ..) hx he.symm⟩)
/-- One that is set again is as it was set last. -/
theorem made_last {L R : List It} {y : It} (hl : (L ++ y :: R).length ≤ 60) (hy : goodI y = true) (hn : ∀ x ∈ R, goodI x = true → x.1 ≠ y.1) : y ∈ madeOf (L ++ y :: R) := by
  rw [List.length_append, List.length_cons] at hl
  have hm := made_right L (by omega)
  unfold madeOf at hm ⊢
  rw [List.foldl_append, List.foldl_cons]
  have hput := putIn_right (x := y) hm.1 (by omega)
  refine fold_keeps R _ y hput.1 (by omega) ?_ hn
  rw [putIn_good hm.1 (by omega) hy, (insIt_perm y _).mem_iff]
  exact List.mem_cons_self ..
end Go.Proofs.YtenlpbcembadcaaDoor
/- The keeps' made: items set one behind the other. -/
namespace Go.Proofs.YtenlpbcembadcaaDoor
open Go.RowKit

theorem putIn_ok {T S : List It} {x : It} (h : setOf T x = (S, 0)) : putIn T x = S := by
  unfold putIn
  rw [h]
  rfl
theorem putIn_not {T S : List It} {x : It} {n : Int} (h : setOf T x = (S, n)) (hn : n ≠ 0) : putIn T x = T := by
  unfold putIn
  rw [h, if_neg hn]
theorem made_next {L : List It} {k : Nat} {x : It} (h : L[k]? = some x) : madeOf (L.take (k + 1)) = putIn (madeOf (L.take k)) x := by
  unfold madeOf
  rw [List.take_add_one, h, List.foldl_append]
  rfl
theorem made_few (L : List It) (k : Nat) (hl : L.length ≤ 60) : (madeOf (L.take k)).length ≤ 60 := by
  have h1 := (made_right (L.take k) (by rw [List.length_take]; omega)).2
  rw [List.length_take] at h1
  omega
set_option maxRecDepth 100000 in
theorem made_any (L : List It) (A : Option Addr) (cap : Nat) (w : World) (hm : Itms w A L) (hl : L.length ≤ 60) :
    Calls Tryd.prog 19 #[.slice A L.length cap] w fun e w' => ∃ A' c', e = .returned (.slice A' (madeOf L).length c') ∧ Below w.heap.size w w' ∧ Itms w' A' (madeOf L) ∧ (madeOf L).length ≤ c' := by
  have HM := Lib.hid hm
  have HL := Lib.hid hl
  clear hm hl
  go_enter Tryd.func19, Tryd.ntmps19
  go_wp2
  go_loopw [3, 4] (fun o i wr => ∃ (k : Nat) (B : Option Addr) (c : Nat), k ≤ L.length ∧ i = .int .i64 (k : Int) ∧ o = .slice B (madeOf (L.take k)).length c ∧ Below w.heap.size w wr ∧ Itms wr B (madeOf (L.take k)) ∧ (madeOf (L.take k)).length ≤ c) (fun _ i _ => L.length - (intOf i).toNat)
  case atStart => exact ⟨0, none, 0, by omega, rfl, rfl, Below.refl _ _, Itms.nil _ _, Nat.le_refl 0⟩
  case round =>
    obtain ⟨k, B, c, hk, rfl, rfl, hb, hi, hcp⟩ := hrel
    have HCP := Lib.hid hcp
    have HB := Lib.hid hb
    have HI := Lib.hid hi
    clear hb hi hcp
    by_cases hlt : k < L.length
    · have hmk := Itms.below HM.out HB.out
      obtain ⟨a, rfl, hal, c0, c1⟩ := hmk.at_ hlt
      have d2 : wr.cell? ⟨(a.add (k * 2)).block, (a.add (k * 2)).off + 1, none⟩ = some (.string (itAt L k).2) := c1
      have HX := Lib.hid (made_next (show L[k]? = some (itAt L k) by rw [List.getElem?_eq_getElem hlt, itAt_get (List.getElem?_eq_getElem hlt)]))
      clear hmk
      generalize itAt L k = x at c0 c1 d2 HX
      have HS := Lib.hid (made_few L k HL.out)
      obtain ⟨S, n, hs⟩ : ∃ S n, setOf (madeOf (L.take k)) x = (S, n) := ⟨_, _, rfl⟩
      have HSET := Lib.hid hs
      clear hs
      go_wp2_with fail
      refine (tSet_is (madeOf (L.take k)) B c x S n _ (by have := HS.out; omega) HCP.out HI.out HSET.out).mono ?_
      rintro e w1 ⟨A', c', rfl, hb1, hi1, hc1⟩
      have HB1 := Lib.hid (HB.out.trans (hb1.mono HB.out.size))
      have HI1 := Lib.hid hi1
      have HC1 := Lib.hid hc1
      have HIK := Lib.hid (Itms.below HI.out hb1)
      clear hb1 hi1 hc1 c0 c1 d2
      by_cases hn : n = 0
      · subst hn
        rw [show errOf 0 = .nilIface from rfl]
        have HP := Lib.hid (HX.out.trans (putIn_ok HSET.out))
        have hl := HL.out
        go_wp2
        go_roundw
        case rel =>
          exact ⟨k + 1, A', c', hlt, by go_num, by rw [HP.out], HB1.out, by rw [HP.out]; exact HI1.out, by rw [HP.out]; exact HC1.out⟩
        case measure =>
          simp [intOf]; omega
      · have HP := Lib.hid (HX.out.trans (putIn_not HSET.out hn))
        rw [show errOf n = .iface 31 (.int .i64 n) from if_neg hn]
        have hl := HL.out
        go_wp2
        go_roundw
        case rel =>
          exact ⟨k + 1, B, c, hlt, by go_num, by rw [HP.out], HB1.out, by rw [HP.out]; exact HIK.out, by rw [HP.out]; exact HCP.out⟩
        case measure =>
          simp [intOf]; omega
    · go_wp2
      go_ret
      have he : L.take k = L := List.take_of_length_le (by omega)
      refine ⟨B, c, ?_, HB.out, ?_, by have := HCP.out; rwa [he] at this⟩
      · show Ending.returned (.slice B (madeOf (L.take k)).length c) = _
        rw [he]
      · have := HI.out
        rw [he] at this
        exact this
end Go.Proofs.YtenlpbcembadcaaDoor
/- long. -/
namespace Go.Proofs.YtenlpbcembadcaaDoor
open Go.RowKit

set_option maxRecDepth 100000 in
theorem long_any (s : ByteArray) (w : World) : Calls Tryd.prog 5 #[.string s] w fun e w' => e = .returned (.bool (decide (60 < s.size))) ∧ w' = w := by
  go_enter Tryd.func5, Tryd.ntmps5
  go_wp2
  go_ret
  refine ⟨?_, rfl⟩
  show Ending.returned (Value.bool _) = _
  congr 2
  simp; omega
theorem long_e (s : ByteArray) (w : World) : Calls Tryd.prog 5 #[.string s] w fun e w' => ∃ b, e = .returned (.bool b) ∧ w' = w ∧ (b = false → s.size ≤ 60) :=
  (long_any s w).mono fun _ _ ⟨he, hw⟩ => ⟨_, he, hw, fun h => by simpa using h⟩

end Go.Proofs.YtenlpbcembadcaaDoor
/- The law's own helpers over items and texts: items, sameItems, sameTexts, sameProof. -/
namespace Go.Proofs.YtenlpbcembadcaaDoor
open Go.RowKit

theorem long_t (s : ByteArray) (w : World) (h : 60 < s.size) : Calls Tryd.prog 5 #[.string s] w fun e w' => e = .returned (.bool true) ∧ w' = w :=
  (long_any s w).mono fun _ _ ⟨he, hw⟩ => ⟨by rw [he, decide_eq_true h], hw⟩
theorem long_f (s : ByteArray) (w : World) (h : ¬ 60 < s.size) : Calls Tryd.prog 5 #[.string s] w fun e w' => e = .returned (.bool false) ∧ w' = w :=
  (long_any s w).mono fun _ _ ⟨he, hw⟩ => ⟨by rw [he, decide_eq_false h], hw⟩
end Go.Proofs.YtenlpbcembadcaaDoor
