/- Parts of the proof, one behind the other: Halves, RSet. -/
import Derived.Test.YtpoibacokdjplaaGreatDoorM5
import Derived.Deep.RegionHeld3
import Derived.Deep.RegionLaw
import Derived.Deep.DeepCutAuto
import Derived.Shelf.GgSortFunc.Tiny
/- The document's Halves. -/
namespace Go.Proofs.YtpoibacokdjplaaGreatDoor
open Go.RowKit

theorem infoItem : (Tryz.prog.info? 24).map (fun i => (i.zero, i.size, i.bytes)) = some (some (.agg #[.string ⟨#[]⟩, .string ⟨#[]⟩]), 2, 32) := by kernel_rfl
/-- append of one item, just built. -/
theorem wpList_append_item {P : Program} {w : World} {ops : Array Oper} {rest : List Oper} {o : Oper} {a : Act} {Q : Exit → Act → World → Prop}
    (hg : o.guard = none) (s x : Operand) (t : TypeId) (hop : o.op = Op.call { callee := Callee.builtin Builtin.append, args := #[s, x], argTypes := #[t, t] })
    (e : TypeId) (h1 : P.underlying t = some (.slice e)) (z : Value) (bytes : Nat) (hi : (P.info? e).map (fun i => (i.zero, i.size, i.bytes)) = some (some z, 2, bytes)) (h6 : z.cells.size = 2) (hby : bytes ≤ 64)
    (base : Nat) (v : Value) (L : List It) (hs : a.eval s = v) (hrow : Row w base 2 v L.length (itCells L)) (hbase : base ≤ w.heap.size) (hn : L.length ≤ 2147483647)
    (y : It) (B : Nat) (hx : a.eval x = .slice (some ⟨B, 0, none⟩) 1 1) (e' : TypeId) (hB : w.heap[B]? = some (.cells #[.string y.1, .string y.2] e' (0, 0)))
    (hK : ∀ v' w', Hid (Row w' base 2 v' (L ++ [y]).length (itCells (L ++ [y]))) → Hid (w.grownBy w' v.ownBlock) → Hid (Moved w v v') → wpList P ops Q rest (a.put o.dst v') w') :
    wpList P ops Q (o :: rest) a w := by
  obtain ⟨i0, hi0, hz0, hz1, hz2⟩ := info_parts hi
  refine wpList_append_row2 hg s x t hop e i0 z 2 bytes h1 hi0 hz0 hz1 hz2 h6 (by decide) base v L.length (itCells L) hs hrow hbase ⟨B, 0, none⟩ 1 1 (itCells [y]) hx rfl ?_ ?_ (by unfold maxLen; omega) ?_ ?_
  · intro j u hj
    rw [add_none, Nat.zero_add, cell_of_row _ B j _ e' (0, 0) hB]
    simpa [itCells] using hj
  · intro u hu; simp [itCells] at hu; rcases hu with rfl | rfl <;> rfl
  · have := Nat.mul_le_mul (show L.length + 1 ≤ 2147483648 by omega) hby
    omega
  · intro v' w' hr' hg' hm'
    refine hK v' w' ?_ hg' hm'
    have := hr'.out
    rw [← itCells_append] at this
    rw [List.length_append]
    exact Lib.hid this

/-- A block that the row does not lie in, behind an append behind a new block. -/
theorem grown_holds {w w3 : World} {X : Obj} {v : Value} {b n : Nat} {f : Nat → Value} {t : TypeId} (h : Holds w b n f t) (hg : ((w.alloc X).drew).grownBy w3 v.ownBlock) (hv : v.ownBlock ≠ some b) : Holds w3 b n f t := by
  have h1 := (h.alloc X).drew
  have := h1.lt
  unfold Holds at h1 ⊢
  rw [hg.block b this (fun e => hv e.symm)]; exact h1
structure HalfRel (N : Nat) (w wr : World) (L : List It) (d k : Nat) (v0 v1 : Value) : Prop where
  below : Below N w wr
  own : Holds wr N 2 (fun i => if i = 0 then v0 else v1) 69
  row0 : Row wr (N + 1) 2 v0 (half (L.take k) d 0).length (itCells (half (L.take k) d 0))
  row1 : Row wr (N + 1) 2 v1 (half (L.take k) d 1).length (itCells (half (L.take k) d 1))
  apart : ∀ b, v0.ownBlock = some b → v1.ownBlock ≠ some b
theorem half_take (L : List It) (d k j : Nat) (x : It) (h : L[k]? = some x) : half (L.take (k + 1)) d j = half (L.take k) d j ++ (if bitI x d = j then [x] else []) := by
  rw [List.take_add_one, h]
  unfold half
  rw [List.filter_append]
  congr 1
  by_cases e : bitI x d = j <;> simp [e]
theorem row_past {w w3 : World} {X : Obj} {v u : Value} {base size n : Nat} {xs : List Value} (h : Row w base size u n xs) (hg : ((w.alloc X).drew).grownBy w3 v.ownBlock) (ha : ∀ b, v.ownBlock = some b → u.ownBlock ≠ some b) : Row w3 base size u n xs := by
  have h1 : Row ((w.alloc X).drew) base size u n xs := (h.alloc X).drew
  refine h1.kept (fun k hk => hg.block k (h1.lt k hk).2 (fun e => ha k e.symm hk)) hg.size
theorem moved_apart {w : World} {X : Obj} {v v' u : Value} {base size n : Nat} {xs : List Value} (h : Row w base size u n xs) (hm : Moved ((w.alloc X).drew) v v') (ha : ∀ b, v.ownBlock = some b → u.ownBlock ≠ some b) : ∀ b, v'.ownBlock = some b → u.ownBlock ≠ some b := by
  intro b hb hu
  rcases hm with e | hm
  · exact ha b (e.symm.trans hb) hu
  · have h1 := hm b hb
    have h2 := (h.lt b hu).2
    have : w.heap.size < ((w.alloc X).drew).heap.size := by show w.heap.size < (w.alloc X).heap.size; simp
    omega
theorem half_step {w w2 w3 : World} {X : Obj} {L : List It} {d k : Nat} {v0 v1 v' : Value} {x : It} (HB1 : Below w.heap.size w w2) (HO1 : Holds w2 w.heap.size 2 (fun i => if i = 0 then v0 else v1) 69)
    (hr0 : Row w2 (w.heap.size + 1) 2 v0 (half (L.take k) d 0).length (itCells (half (L.take k) d 0))) (hr1 : Row w2 (w.heap.size + 1) 2 v1 (half (L.take k) d 1).length (itCells (half (L.take k) d 1))) (ha : ∀ b, v0.ownBlock = some b → v1.ownBlock ≠ some b)
    (hLk : L[k]? = some x) (hN : w.heap.size < w2.heap.size) :
    (bitI x d = 0 → Row w3 (w.heap.size + 1) 2 v' (half (L.take k) d 0 ++ [x]).length (itCells (half (L.take k) d 0 ++ [x])) → ((w2.alloc X).drew).grownBy w3 v0.ownBlock → Moved ((w2.alloc X).drew) v0 v' → HalfRel w.heap.size w (w3.setCell ⟨w.heap.size, 0, none⟩ v') L d (k + 1) v' v1) ∧
    (bitI x d = 1 → Row w3 (w.heap.size + 1) 2 v' (half (L.take k) d 1 ++ [x]).length (itCells (half (L.take k) d 1 ++ [x])) → ((w2.alloc X).drew).grownBy w3 v1.ownBlock → Moved ((w2.alloc X).drew) v1 v' → HalfRel w.heap.size w (w3.setCell ⟨w.heap.size, 1, none⟩ v') L d (k + 1) v0 v') := by
  have hb2 : Below w.heap.size w ((w2.alloc X).drew) := (HB1.alloc (Nat.le_of_lt hN) X).drew
  have hz : w.heap.size ≤ ((w2.alloc X).drew).heap.size := by show w.heap.size ≤ (w2.alloc X).heap.size; simp; omega
  constructor
  · intro hbit hrow hg hm
    have e0 : half (L.take (k + 1)) d 0 = half (L.take k) d 0 ++ [x] := by rw [half_take L d k 0 x hLk, if_pos hbit]
    have e1 : half (L.take (k + 1)) d 1 = half (L.take k) d 1 := by rw [half_take L d k 1 x hLk, if_neg (by omega), List.append_nil]
    refine ⟨(hb2.grown hg hz (fun b hb => by have := (hr0.lt b hb).1; omega)).setCell (p := ⟨w.heap.size, 0, none⟩) (Nat.le_refl _) _, ?_, ?_, ?_, moved_apart hr1 hm ha⟩
    · refine ((grown_holds HO1 hg (hr0.fresh (Nat.lt_succ_self _))).set 0 v').congr fun i hi => ?_
      unfold upd; by_cases h : i = 0 <;> simp [h]
    · rw [e0]; exact hrow.setOther (hrow.fresh (Nat.lt_succ_self _)) _
    · rw [e1]; exact (row_past hr1 hg ha).setOther (hr1.fresh (Nat.lt_succ_self _)) _
  · intro hbit hrow hg hm
    have e0 : half (L.take (k + 1)) d 0 = half (L.take k) d 0 := by rw [half_take L d k 0 x hLk, if_neg (by omega), List.append_nil]
    have e1 : half (L.take (k + 1)) d 1 = half (L.take k) d 1 ++ [x] := by rw [half_take L d k 1 x hLk, if_pos hbit]
    have ha' : ∀ b, v1.ownBlock = some b → v0.ownBlock ≠ some b := fun b h1 h0 => ha b h0 h1
    refine ⟨(hb2.grown hg hz (fun b hb => by have := (hr1.lt b hb).1; omega)).setCell (p := ⟨w.heap.size, 1, none⟩) (Nat.le_refl _) _, ?_, ?_, ?_, fun b h0 h1 => moved_apart hr0 hm ha' b h1 h0⟩
    · refine ((grown_holds HO1 hg (hr1.fresh (Nat.lt_succ_self _))).set 1 v').congr fun i hi => ?_
      unfold upd; by_cases h : i = 0
      · subst h; simp
      · have : i = 1 := by omega
        subst this; simp
    · rw [e0]; exact (row_past hr0 hg ha').setOther (hr0.fresh (Nat.lt_succ_self _)) _
    · rw [e1]; exact hrow.setOther (hrow.fresh (Nat.lt_succ_self _)) _
set_option maxRecDepth 100000 in
theorem refHalves_any (L : List It) (A : Option Addr) (cap d : Nat) (w : World) (hm : Itms w A L) (hl : L.length ≤ 1000000) (h16 : ∀ x ∈ L, x.1.size = 16) (hd : d < 128) :
    Calls Tryz.prog 18 #[.slice A L.length cap, .int .i64 (d : Int)] w fun e w' => ∃ v0 v1, e = .returned (.tuple #[v0, v1]) ∧ Below w.heap.size w w' ∧
      Row w' w.heap.size 2 v0 (half L d 0).length (itCells (half L d 0)) ∧ Row w' w.heap.size 2 v1 (half L d 1).length (itCells (half L d 1)) := by
  have HM := Lib.hid hm
  have H16 := Lib.hid h16
  clear hm h16
  go_enter Tryz.func18, Tryz.ntmps18
  go_wp2
  go_loopw [12] (fun i wr => ∃ (k : Nat) (v0 v1 : Value), k ≤ L.length ∧ i = .int .i64 (k : Int) ∧ HalfRel w.heap.size w wr L d k v0 v1) (fun i _ => L.length - (intOf i).toNat)
  case atStart =>
    refine ⟨0, .slice none 0 0, .slice none 0 0, by omega, rfl, alloc_below _ _, ?_, Row.nil _ _ _, Row.nil _ _ _, fun b hb => by cases hb⟩
    refine (Holds.new w 2 (fun _ => .slice none 0 0) 69).congr fun i _ => ?_
    split <;> rfl
  case round =>
    obtain ⟨k, v0, v1, hk, rfl, hr⟩ := hrel
    have HR := Lib.hid hr
    clear hr
    by_cases hlt : k < L.length
    · obtain ⟨a, rfl, hal, c0, c1⟩ := HM.out.at_ hlt
      have d0 : wr.cell? (a.add (k * 2)) = some (.string (itAt L k).1) := (HR.out.below.cell (by rw [block_add]; exact hal)).trans c0
      have d2 : wr.cell? ⟨(a.add (k * 2)).block, (a.add (k * 2)).off + 1, none⟩ = some (.string (itAt L k).2) := (HR.out.below.cell (by show (a.add (k * 2)).block < _; rw [block_add]; exact hal)).trans c1
      have hLk : L[k]? = some (itAt L k) := by rw [itAt_of hlt, List.getElem?_eq_getElem hlt]
      have h16 : (itAt L k).1.size = 16 := H16.out _ (List.mem_of_getElem? hLk)
      clear c0 c1 hal
      generalize itAt L k = x at d0 d2 hLk h16
      have HLK := Lib.hid hLk
      have H16x := Lib.hid h16
      clear hLk h16
      have hN : w.heap.size < wr.heap.size := HR.out.own.lt
      go_wp2_with fail
      have hb1 : Below w.heap.size w (wr.alloc (.cells #[.string x.1, .string x.2] 24)) := HR.out.below.alloc (Nat.le_of_lt hN) _
      have hN1 : wr.heap.size < (wr.alloc (.cells #[.string x.1, .string x.2] 24)).heap.size := by simp
      have hx1 := heap_alloc_new wr (.cells #[.string x.1, .string x.2] 24)
      have ho1 := HR.out.own.alloc (.cells #[.string x.1, .string x.2] 24)
      have hr0 := HR.out.row0.alloc (.cells #[.string x.1, .string x.2] 24)
      have hr1 := HR.out.row1.alloc (.cells #[.string x.1, .string x.2] 24)
      have HB1 := Lib.hid hb1
      have HX1 := Lib.hid hx1
      have HO1 := Lib.hid ho1
      have HR0 := Lib.hid hr0
      have HR1 := Lib.hid hr1
      clear hb1 hx1 ho1 hr0 hr1 d0 d2
      generalize hw1 : wr.alloc (.cells #[.string x.1, .string x.2] 24) = w1 at HB1 HX1 HO1 HR0 HR1 hN1
      clear hw1
      refine (at_any x.1 d _ H16x.out hd).mono ?_
      rintro e w2 ⟨rfl, rfl⟩
      have hb2 : bitOf x.1.data.toList d = 0 ∨ bitOf x.1.data.toList d = 1 := by have := bitOf_lt x.1.data.toList d; omega
      rcases hb2 with hbit | hbit
      · rw [hbit]
        have HBIT := Lib.hid hbit
        clear hbit
        have q0 : w2.cell? ⟨w.heap.size, 0, none⟩ = some v0 := HO1.out.cell 0 (by omega)
        have q1 : w2.cell? ⟨w.heap.size, 1, none⟩ = some v1 := HO1.out.cell 1 (by omega)
        have x0 : w2.cell? ⟨wr.heap.size, 0, none⟩ = some (.string x.1) := cell_of_row _ wr.heap.size 0 _ 24 (0, 0) HX1.out
        have x1 : w2.cell? ⟨wr.heap.size, 1, none⟩ = some (.string x.2) := cell_of_row _ wr.heap.size 1 _ 24 (0, 0) HX1.out
        have r0 : (w2.alloc (.cells #[.string x.1, .string x.2] 24)).cell? ⟨w.heap.size, 0, none⟩ = some v0 := (HO1.out.alloc _).cell 0 (by omega)
        go_wp2_with fail
        go_region_law (first | (refine step_of_list rfl ?_; refine wpList_append_item rfl (.tmp 23) (.tmp 25) 22 rfl 24 Tryz.underlying22 _ 32 infoItem rfl (by decide) (w.heap.size + 1) v0 (half (L.take k) d 0) rfl (HR0.out.alloc _).drew (by simp; omega) (by have := half_le (L.take k) d 0; have := List.length_take_le k L; omega) x w2.heap.size rfl 24 (heap_alloc_new _ _) ?_; intro v' w3 hrow3 hgrow3 hmove3; obtain ⟨p', cap', rfl⟩ := hrow3.out.any; have s0 := grown_holds HO1.out hgrow3.out (HR0.out.fresh (Nat.lt_succ_self _)); have t0 := s0.cell 0 (by omega); have t1 := s0.free 0; have S0 := Lib.hid s0; clear s0; refine then1 ?_))
        all_goals
          go_wp2
          go_roundw
          case rel =>
            have h := (half_step (v' := .slice p' (half (L.take k) d 0 ++ [x]).length cap') HB1.out HO1.out HR0.out HR1.out HR.out.apart HLK.out (Nat.lt_trans hN hN1)).1 HBIT.out hrow3.out hgrow3.out hmove3.out
            rw [show (half (L.take k) d 0 ++ [x]).length = (half (L.take k) d 0).length + 1 by simp] at h
            exact ⟨k + 1, _, _, by omega, by go_num, h⟩
          case measure => simp [intOf]; omega
      · rw [hbit]
        have HBIT := Lib.hid hbit
        clear hbit
        have q0 : w2.cell? ⟨w.heap.size, 0, none⟩ = some v0 := HO1.out.cell 0 (by omega)
        have q1 : w2.cell? ⟨w.heap.size, 1, none⟩ = some v1 := HO1.out.cell 1 (by omega)
        have x0 : w2.cell? ⟨wr.heap.size, 0, none⟩ = some (.string x.1) := cell_of_row _ wr.heap.size 0 _ 24 (0, 0) HX1.out
        have x1 : w2.cell? ⟨wr.heap.size, 1, none⟩ = some (.string x.2) := cell_of_row _ wr.heap.size 1 _ 24 (0, 0) HX1.out
        have r0 : (w2.alloc (.cells #[.string x.1, .string x.2] 24)).cell? ⟨w.heap.size, 1, none⟩ = some v1 := (HO1.out.alloc _).cell 1 (by omega)
        go_wp2_with fail
        go_region_law (first | (refine step_of_list rfl ?_; refine wpList_append_item rfl (.tmp 23) (.tmp 25) 22 rfl 24 Tryz.underlying22 _ 32 infoItem rfl (by decide) (w.heap.size + 1) v1 (half (L.take k) d 1) rfl (HR1.out.alloc _).drew (by simp; omega) (by have := half_le (L.take k) d 1; have := List.length_take_le k L; omega) x w2.heap.size rfl 24 (heap_alloc_new _ _) ?_; intro v' w3 hrow3 hgrow3 hmove3; obtain ⟨p', cap', rfl⟩ := hrow3.out.any; have s0 := grown_holds HO1.out hgrow3.out (HR1.out.fresh (Nat.lt_succ_self _)); have t0 := s0.cell 1 (by omega); have t1 := s0.free 1; have S0 := Lib.hid s0; clear s0; refine then1 ?_))
        all_goals
          go_wp2
          go_roundw
          case rel =>
            have h := (half_step (v' := .slice p' (half (L.take k) d 1 ++ [x]).length cap') HB1.out HO1.out HR0.out HR1.out HR.out.apart HLK.out (Nat.lt_trans hN hN1)).2 HBIT.out hrow3.out hgrow3.out hmove3.out
            rw [show (half (L.take k) d 1 ++ [x]).length = (half (L.take k) d 1).length + 1 by simp] at h
            exact ⟨k + 1, _, _, by omega, by go_num, h⟩
          case measure => simp [intOf]; omega
    · have hkn : k = L.length := by omega
      have E0 := Lib.hid (show half (L.take k) d 0 = half L d 0 by rw [hkn, List.take_length])
      have E1 := Lib.hid (show half (L.take k) d 1 = half L d 1 by rw [hkn, List.take_length])
      clear hkn
      have q0 : wr.cell? ⟨w.heap.size, 0, none⟩ = some v0 := HR.out.own.cell 0 (by omega)
      have q1 : wr.cell? ⟨w.heap.size, 1, none⟩ = some v1 := HR.out.own.cell 1 (by omega)
      go_wp2
      go_quiet (fail)
      go_wp2
      refine bodyPost_ret (results_tmp2 rfl _ _ _) rfl ?_
      refine ⟨_, _, rfl, below_drew HR.out.below _, ?_, ?_⟩
      · rw [← E0.out]; exact (HR.out.row0.mono (Nat.le_succ _)).drewN _
      · rw [← E1.out]; exact (HR.out.row1.mono (Nat.le_succ _)).drewN _
end Go.Proofs.YtpoibacokdjplaaGreatDoor
/- The document's Set. -/
namespace Go.Proofs.YtpoibacokdjplaaGreatDoor
open Go.RowKit Go.Sort Go.Shelf

noncomputable def svT : TypeInfo := (Tryz.prog.info? 22).get (by kernel_rfl)
noncomputable def svE : TypeInfo := (Tryz.prog.info? 24).get (by kernel_rfl)
theorem svK (n : Nat) (h2 : 2 ≤ n) : Lib.swapperK n svE 25 = 9 := by
  have a : svE.hasPointers = true := by kernel_rfl
  have b : svE.bytes = 32 := by kernel_rfl
  have c : (n == 0) = false := by rw [beq_eq_false_iff_ne]; omega
  have d : (n == 1) = false := by rw [beq_eq_false_iff_ne]; omega
  simp [Lib.swapperK, a, b, c, d]
set_option maxHeartbeats 2000000 in
theorem less_any (blk off c Bs size : Nat) (W : World) (G : Nat → ByteArray) (hs : W.cell? ⟨Bs, 0, none⟩ = some (.slice (some ⟨blk, off, none⟩) size c))
    (hc : ∀ t, t < size → W.cell? ⟨blk, off + t * 2, none⟩ = some (.string (G t))) (i j : Nat) (hi : i < size) (hj : j < size) (_hsz : size < 4611686018427387904) :
    Calls Tryz.prog 43 #[.int .i64 i, .int .i64 j, .pointer (some ⟨Bs, 0, none⟩)] W fun e w' => e = .returned (.bool (Op.bytesLess (G i).toList (G j).toList)) ∧ ∃ q, w' = W.drewN q := by
  have ci := hc i hi
  have cj := hc j hj
  go_enter Tryz.func43, Tryz.ntmps43
  go_wp2
  go_quiet (fail)
  go_wp2
  go_ret
  exact ⟨rfl, nq, rfl⟩
set_option maxRecDepth 100000 in
theorem sort_any (blk off c Bs : Nat) (d : Array It) (h2 : 2 ≤ d.size) (hsz : d.size < 4611686018427387904) (w : World) (hH : HoldsK encI 2 w blk off d) (hblk : blk < w.heap.size)
    (hBs : w.cell? ⟨Bs, 0, none⟩ = some (.slice (some ⟨blk, off, none⟩) d.size c)) (hB1 : Bs < w.heap.size) (hB2 : Bs ≠ blk) :
    Calls Tryz.prog 42 #[.iface 22 (.slice (some ⟨blk, off, none⟩) d.size c), .func (.func 43) #[] #[.pointer (some ⟨Bs, 0, none⟩)]] w fun e w' =>
      e = .returned (.tuple #[]) ∧ ∃ d' n os, PermIn 0 d.size d d' ∧ SortedIn ltIB 0 d.size d' ∧ w' = grow (putRowK encI 2 (Sort.ahead w n) blk off d') os := by
  have hless : LessReadsK Tryz.prog 43 #[.pointer (some ⟨Bs, 0, none⟩)] encI 2 ltIB blk off d.size w := by
    intro m os dk hs i j hi hj
    have e : sortWorldK encI 2 w blk off m dk os = putRowK encI 2 (grow (Sort.ahead w m) os) blk off dk := by
      unfold sortWorldK; rw [putRowK_grow _ _ (Sort.ahead w m) _ blk off _ hblk]
    have hHg : HoldsK encI 2 (grow (Sort.ahead w m) os) blk off d := holdsK_grow _ _ _ _ blk off d hblk (holdsK_ahead _ _ _ _ _ _ _ hH)
    have key := less_any blk off c Bs d.size (sortWorldK encI 2 w blk off m dk os) (fun t => dk[t]!.1) (by rw [e, cell?_putRowK_other _ _ _ blk off dk _ (by exact hB2), cell?_grow _ _ _ (by exact hB1)]; exact hBs)
      (fun t ht => by rw [e]; exact ((holdsK_putRowK _ _ _ blk off d dk hHg hs).cell (i := t) (c := 0) (by omega) (by omega)).1) i j hi hj (by omega)
    refine key.mono fun ev w' ⟨he, hw⟩ => ⟨?_, hw⟩
    rw [he]
    unfold ltIB ltStr
    rw [bytesLess_eq, ByteArray.toList_eq, ByteArray.toList_eq]
  have hf := svK d.size h2
  exact Any.sort_Slice_cells_sorted Tryz.laysGg6 22 24 svT svE (by kernel_rfl) (by kernel_rfl) (by kernel_rfl) (by kernel_rfl) 25 (fun _ => by kernel_rfl) encI 2 (fun _ => rfl) (by kernel_rfl) (fun _ => by kernel_rfl)
    (fun x v hv => by simp [encI] at hv; rcases hv with rfl | rfl <;> rfl) ltIB swo_ltIB 43 _
    (enters_of Tryz.func43 (by kernel_rfl) rfl) blk off c d h2 hsz 77 (by rw [hf]; kernel_rfl) false
    (fun args W => run_callFunc_extern Tryz.func77 (by kernel_rfl) (by kernel_rfl) (by kernel_rfl) (e := Extern.ReflectliteSwapper.swap false) (by kernel_rfl) args W) w hless hH hblk
end Go.Proofs.YtpoibacokdjplaaGreatDoor
