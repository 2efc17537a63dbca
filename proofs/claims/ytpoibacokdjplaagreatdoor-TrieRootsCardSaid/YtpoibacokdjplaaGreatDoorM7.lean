/- Parts of the proof, one behind the other: RSet2, RNum, Rot2, RWords. -/
import Derived.Test.YtpoibacokdjplaaGreatDoorM6
import Derived.Test.YtpoibacokdjplaaGreatDoorM3
import Derived.Test.YtpoibacokdjplaaGreatDoorM2
import Derived.Test.YtpoibacokdjplaaGreatDoorProg
import Derived.WalkLawsBesides
import Derived.Lib.Hide
import Derived.Outline
import Derived.Deep.QuietTactic
import Derived.BigQuiet
/- The document's Set: the walk. -/
namespace Go.Proofs.YtpoibacokdjplaaGreatDoor
open Go.RowKit

theorem grow_grownBy (w : World) (os : Array Obj) (g : Option Nat) : w.grownBy (Go.Sort.grow w os) g :=
  ⟨rfl, rfl, rfl, by unfold Go.Sort.grow; simp, fun k hk _ => grow_block w os k hk⟩
theorem perm_of_in {d d' : Array It} (h : Go.Sort.PermIn 0 d.size d d') : d'.toList.Perm d.toList := by
  obtain ⟨hs, _, hp⟩ := h
  have e1 : d'.extract 0 d.size = d' := by rw [← hs]; simp
  have e2 : d.extract 0 d.size = d := by simp
  rwa [e1, e2] at hp
theorem pairwise_one {α : Type} {R : α → α → Prop} {L : List α} (h : L.length = 1) : L.Pairwise R := by
  obtain ⟨x, rfl⟩ := List.length_eq_one_iff.1 h
  simp
set_option maxRecDepth 100000 in
theorem sort_row (base g cap Bs : Nat) (L : List It) (w : World) (hrow : Row w base 2 (.slice (some ⟨g, 0, none⟩) L.length cap) L.length (itCells L)) (h1 : 1 ≤ L.length) (hsz : L.length ≤ 1000000)
    (hBs : w.cell? ⟨Bs, 0, none⟩ = some (.slice (some ⟨g, 0, none⟩) L.length cap)) (hne : Bs ≠ g) :
    Calls Tryz.prog 42 #[.iface 22 (.slice (some ⟨g, 0, none⟩) L.length cap), .func (.func 43) #[] #[.pointer (some ⟨Bs, 0, none⟩)]] w fun e w' =>
      e = .returned (.tuple #[]) ∧ ∃ M : List It, M.Perm L ∧ (L.Pairwise (fun x y => x.1 ≠ y.1) → M.Pairwise ltI) ∧ Row w' base 2 (.slice (some ⟨g, 0, none⟩) L.length cap) L.length (itCells M) ∧ w.grownBy w' (some g) := by
  have hg : g < w.heap.size := (hrow.lt g rfl).2
  have hB1 : Bs < w.heap.size := by
    have := block_lt_of_cell hBs
    exact this
  by_cases h2 : 2 ≤ L.length
  · have key := sort_any g 0 cap Bs L.toArray (by simpa using h2) (by simp; omega) w (row_holdsK hrow (by omega)) hg (by simpa using hBs) hB1 hne
    rw [List.size_toArray] at key
    refine key.mono ?_
    rintro e w' ⟨rfl, d', n, os, hp, hso, rfl⟩
    have hlen : d'.toList.length = L.length := by have := hp.1; simpa using this
    have hperm : d'.toList.Perm L := by
      have := perm_of_in (d := L.toArray) (d' := d') (by simpa using hp)
      simpa using this
    obtain ⟨hr, hgr⟩ := row_sorted (q := n) (os := os) (M := d'.toList) hrow (by omega) hlen
    refine ⟨rfl, d'.toList, hperm, fun hd => ?_, ?_, ?_⟩
    · refine rises_of_sorted ?_ (hperm.symm.pairwise hd (fun h e => h e.symm))
      rw [hlen]; exact hso
    · rw [hlen] at hr
      exact hr
    · exact hgr
  · have hl1 : L.length = 1 := by omega
    have hk : Lib.swapperK L.length svE 25 = 2 := by rw [hl1]; rfl
    have key : Calls Tryz.prog 42 #[.iface 22 (.slice (some ⟨g, 0, none⟩) L.length cap), .func (.func 43) #[] #[.pointer (some ⟨Bs, 0, none⟩)]] w fun e w' => e = .returned (.tuple #[]) ∧ ∃ os, w' = Go.Sort.grow w os := Any.sort_Slice_tiny Tryz.laysGg6 22 24 svT svE (by kernel_rfl) (by kernel_rfl) (by kernel_rfl) (by kernel_rfl) 25 (fun _ => by kernel_rfl) (some ⟨g, 0, none⟩) L.length cap (by omega) 70 (by rw [hk]; kernel_rfl) (.func 43) #[] #[.pointer (some ⟨Bs, 0, none⟩)] w
    refine key.mono ?_
    rintro e w' ⟨rfl, os, rfl⟩
    refine ⟨rfl, L, List.Perm.refl _, fun _ => pairwise_one hl1, hrow.kept (fun k hk => grow_block w os k (hrow.lt k hk).2) (by unfold Go.Sort.grow; simp), grow_grownBy w os _⟩

structure SetRel (ob : Nat) (w wr : World) (L : List It) (x : It) (k : Nat) (v : Value) : Prop where
  below : Below w.heap.size w wr
  lt : w.heap.size < ob
  box : Holds wr w.heap.size 2 (fun i => if i = 0 then .string x.1 else .string x.2) 24
  own : Holds wr ob 1 (fun _ => v) 22
  row : Row wr (ob + 1) 2 v (others (L.take k) x).length (itCells (others (L.take k) x))
theorem others_take (L : List It) (k : Nat) (x y : It) (h : L[k]? = some y) : others (L.take (k + 1)) x = others (L.take k) x ++ (if y.1 = x.1 then [] else [y]) := by
  rw [List.take_add_one, h]
  unfold others
  rw [List.filter_append]
  congr 1
  by_cases e : y.1 = x.1 <;> simp [e]
theorem others_le (L : List It) (x : It) : (others L x).length ≤ L.length := List.length_filter_le _ _
/-- The world behind an append to what the variable holds, and the store of it. -/
theorem SetRel.alloc {ob : Nat} {w wr : World} {L : List It} {x : It} {k : Nat} {v : Value} (h : SetRel ob w wr L x k v) (X : Obj) : SetRel ob w (wr.alloc X) L x k v :=
  ⟨h.below.alloc h.below.size _, h.lt, h.box.alloc _, h.own.alloc _, h.row.alloc _⟩
theorem SetRel.after {ob : Nat} {w w2 w3 : World} {L : List It} {x : It} {k : Nat} {v : Value} {X : Obj} (h : SetRel ob w w2 L x k v) (hg : (w2.alloc X).grownBy w3 v.ownBlock) : Holds w3 ob 1 (fun _ => v) 22 := by
  have hown := h.own
  have hob := hown.lt
  unfold Holds at hown ⊢
  rw [hg.block ob (by simp; omega) (fun e => by have := (h.row.lt ob e.symm).1; omega), Below.heap_alloc _ _ _ hob]
  exact hown
theorem SetRel.put {ob : Nat} {w w2 w3 : World} {L : List It} {x y : It} {k : Nat} {v v' : Value} {X : Obj} {K : List It} (h : SetRel ob w w2 L x k v) (hrow : Row w3 (ob + 1) 2 v' K.length (itCells K)) (hg : (w2.alloc X).grownBy w3 v.ownBlock) (_hy : y = y) :
    Below w.heap.size w (w3.setCell ⟨ob, 0, none⟩ v') ∧ Holds (w3.setCell ⟨ob, 0, none⟩ v') w.heap.size 2 (fun i => if i = 0 then .string x.1 else .string x.2) 24 ∧ Holds (w3.setCell ⟨ob, 0, none⟩ v') ob 1 (fun _ => v') 22 ∧
      Row (w3.setCell ⟨ob, 0, none⟩ v') (ob + 1) 2 v' K.length (itCells K) := by
  have hlt := h.lt
  have hb2 : Below w.heap.size w (w2.alloc X) := h.below.alloc h.below.size X
  have hob := h.own.lt
  have keep : ∀ c, c < w2.heap.size → c < ob + 1 → w3.heap[c]? = w2.heap[c]? := fun c hc hc2 =>
    (hg.block c (by simp; omega) (fun e => by have := (h.row.lt c e.symm).1; omega)).trans (Below.heap_alloc _ _ _ hc)
  have hbox := h.box
  have hown := h.own
  refine ⟨(hb2.grown hg (Nat.le_trans h.below.size (by simp)) (fun c hc => by have := (h.row.lt c hc).1; omega)).setCell (p := ⟨ob, 0, none⟩) (Nat.le_of_lt hlt) _, ?_, ?_, hrow.setOther (hrow.fresh (Nat.lt_succ_self _)) _⟩
  · refine Holds.other ?_ (a := ⟨ob, 0, none⟩) (by show w.heap.size ≠ ob; omega) v'
    have := hbox.lt
    unfold Holds at hbox ⊢; rw [keep _ this (by omega)]; exact hbox
  · have h4 : Holds w3 ob 1 (fun _ => v) 22 := by unfold Holds at hown ⊢; rw [keep _ hob (by omega)]; exact hown
    refine (h4.set 0 v').congr fun i hi => ?_
    have : i = 0 := by omega
    subst this; rfl
set_option maxHeartbeats 1000000 in
set_option maxRecDepth 100000 in
theorem refSet_is (L : List It) (A : Option Addr) (cap : Nat) (x : It) (T : List It) (n : Int) (w : World) (hl : L.length ≤ 1000000) (hm : Itms w A L) (h : setOf L x = (T, n)) :
    Calls Tryz.prog 21 #[.slice A L.length cap, .agg #[.string x.1, .string x.2]] w fun e w' => ∃ v, e = .returned (.tuple #[v, .int .i64 n]) ∧ Below w.heap.size w w' ∧ Row w' w.heap.size 2 v T.length (itCells T) := by
  have HM := Lib.hid hm
  clear hm
  unfold setOf at h
  have hb0 := alloc_below w (.cells #[.string x.1, .string x.2] 24)
  have HB0 := Lib.hid hb0
  have HX0 := Lib.hid (show Holds (w.alloc (.cells #[.string x.1, .string x.2] 24)) w.heap.size 2 (fun i => if i = 0 then .string x.1 else .string x.2) 24 from Holds.new w 2 (fun i => if i = 0 then .string x.1 else .string x.2) 24)
  clear hb0
  by_cases hk : rightItems L = true
  · have HK := Lib.hid hk
    by_cases hx : rightItems [x] = true
    · rw [if_pos ⟨hk, hx⟩] at h
      have HXR := Lib.hid hx
      have HRISE := Lib.hid (right_sorted hk)
      have hl60 := right_length hk
      clear hk hx
      have HSET := Lib.hid h
      clear h
      go_enter Tryz.func21, Tryz.ntmps21
      go_wp2_with fail
      refine (refRight_any L A cap _ (HM.out.below HB0.out) hl).mono ?_
      rintro e w1 ⟨rfl, hb1⟩
      rw [HK.out]
      have HB1 := Lib.hid (HB0.out.trans (hb1.mono HB0.out.size))
      have HX1 := Lib.hid (HX0.out.below hb1 HX0.out.lt)
      clear hb1
      have x0 : w1.cell? ⟨w.heap.size, 0, none⟩ = some (.string x.1) := HX1.out.cell 0 (by omega)
      have x1 : w1.cell? ⟨w.heap.size, 1, none⟩ = some (.string x.2) := HX1.out.cell 1 (by omega)
      go_wp2_with fail
      clear x0 x1
      refine (refRight_any [x] (some ⟨w1.heap.size, 0, none⟩) 1 _ (one_item x w1 24) (by simp)).mono ?_
      rintro e w2 ⟨rfl, hb2⟩
      rw [HXR.out]
      have HB2 := Lib.hid (HB1.out.trans ((alloc_below w1 (.cells #[.string x.1, .string x.2] 24)).mono HB1.out.size |>.trans (hb2.mono (Nat.le_trans HB1.out.size (by simp)))))
      have HX2 := Lib.hid ((HX1.out.alloc (.cells #[.string x.1, .string x.2] 24)).below hb2 (by have := HX1.out.lt; simp; omega))
      clear hb2
      go_wp2
      have hlt2 : w.heap.size < w2.heap.size := HX2.out.lt
      have HREL := Lib.hid (show SetRel w2.heap.size w (w2.alloc (.cells #[.slice none 0 0] 22)) L x 0 (.slice none 0 0) from
        ⟨HB2.out.alloc HB2.out.size _, hlt2, HX2.out.alloc _, Holds.new w2 1 (fun _ => .slice none 0 0) _, Row.nil _ _ _⟩)
      generalize hob : w2.heap.size = ob at HREL hlt2
      clear hob
      go_loopw [20] (fun i wr => ∃ (k : Nat) (v : Value), k ≤ L.length ∧ i = .int .i64 (k : Int) ∧ SetRel ob w wr L x k v) (fun i _ => L.length - (intOf i).toNat)
      case atStart => exact ⟨0, _, by omega, rfl, HREL.out⟩
      case round =>
        obtain ⟨k, v, hk, rfl, hr⟩ := hrel
        have HR := Lib.hid hr
        clear hr
        obtain ⟨pv, cv, rfl⟩ := HR.out.row.any
        by_cases hlt : k < L.length
        · obtain ⟨a, rfl, hal, c0, c1⟩ := HM.out.at_ hlt
          have d0 : wr.cell? (a.add (k * 2)) = some (.string (itAt L k).1) := (HR.out.below.cell (by rw [block_add]; exact hal)).trans c0
          have d2 : wr.cell? ⟨(a.add (k * 2)).block, (a.add (k * 2)).off + 1, none⟩ = some (.string (itAt L k).2) := (HR.out.below.cell (by show (a.add (k * 2)).block < _; rw [block_add]; exact hal)).trans c1
          have hLk : L[k]? = some (itAt L k) := by rw [itAt_of hlt, List.getElem?_eq_getElem hlt]
          clear c0 c1 hal
          generalize itAt L k = y at d0 d2 hLk
          have HLK := Lib.hid hLk
          clear hLk
          have b0 : wr.cell? ⟨w.heap.size, 0, none⟩ = some (.string x.1) := HR.out.box.cell 0 (by omega)
          have hbl : w.heap.size < wr.heap.size := HR.out.box.lt
          have q0 : wr.cell? ⟨ob, 0, none⟩ = some (.slice pv (others (L.take k) x).length cv) := HR.out.own.cell 0 (by omega)
          have hol : ob < wr.heap.size := HR.out.own.lt
          by_cases hyx : y.1 = x.1
          · have htk := others_take L k x y HLK.out
            rw [if_pos hyx, List.append_nil] at htk
            have HTK := Lib.hid htk
            have hyy : (y.1.toList == x.1.toList) = true := by rw [hyx]; simp
            clear hyx htk
            go_wp2
            go_roundw
            case rel =>
              have h1 := HR.out.alloc (.cells #[.string y.1, .string y.2] 24)
              exact ⟨k + 1, .slice pv (others (L.take k) x).length cv, by omega, by go_num, ⟨h1.below, h1.lt, h1.box, h1.own, by rw [HTK.out]; exact h1.row⟩⟩
            case measure => simp [intOf]; omega
          · have htk := others_take L k x y HLK.out
            rw [if_neg hyx] at htk
            have HTK := Lib.hid htk
            have hyy : (y.1.toList == x.1.toList) = false := by
              rw [beq_eq_false_iff_ne]; intro e; rw [ByteArray.toList_eq, ByteArray.toList_eq] at e; exact hyx (text_of e)
            clear hyx htk
            have HR2 := Lib.hid (HR.out.alloc (.cells #[.string y.1, .string y.2] 24))
            have hX2 := heap_alloc2_new wr (.cells #[.string y.1, .string y.2] 24) (.cells #[.string y.1, .string y.2] 24)
            have HX2' := Lib.hid hX2
            clear hX2
            go_wp2_with (first | (at_builtin; refine wpList_append_item rfl (.tmp 29) (.tmp 31) 22 rfl 24 Tryz.underlying22 _ 32 infoItem rfl (by decide) (ob + 1) (.slice pv (others (L.take k) x).length cv) (others (L.take k) x) rfl (HR2.out.row.alloc _) (by simp; omega) (by have := others_le (L.take k) x; have := List.length_take_le k L; omega) y (wr.heap.size + 1) rfl 24 HX2'.out ?_; intro v' w3 hrow3 hgrow3 hmove3; obtain ⟨p', cap', rfl⟩ := hrow3.out.any; have s0 := HR2.out.after hgrow3.out; have t0 := s0.cell 0 (by omega); have t1 := s0.free 0; clear s0))
            go_roundw
            case rel =>
              obtain ⟨f1, f2, f3, f4⟩ := HR2.out.put hrow3.out hgrow3.out (rfl : x = x)
              have h : SetRel ob w (w3.setCell ⟨ob, 0, none⟩ (.slice p' (others (L.take k) x ++ [y]).length cap')) L x (k + 1) (.slice p' (others (L.take k) x ++ [y]).length cap') := ⟨f1, HR.out.lt, f2, f3, by rw [HTK.out]; exact f4⟩
              rw [show (others (L.take k) x ++ [y]).length = (others (L.take k) x).length + 1 by simp] at h
              exact ⟨k + 1, _, by omega, by go_num, h⟩
            case measure => simp [intOf]; omega
        · have hkn : k = L.length := by omega
          obtain ⟨D, hD⟩ : ∃ D, others L x = D := ⟨_, rfl⟩
          have hDk : others (L.take k) x = D := by rw [hkn, List.take_length, hD]
          have hDle : D.length ≤ L.length := by rw [← hD]; exact others_le L x
          have HDS := Lib.hid (show D.Pairwise ltI by rw [← hD]; exact others_sorted HRISE.out x)
          have HDN := Lib.hid (show ∀ y ∈ D, y.1 ≠ x.1 by rw [← hD]; exact others_ne L x)
          have hset := HSET.out
          rw [hD] at hset
          have hrel := HR.out
          obtain ⟨r1, r2, r3, r4, r5⟩ := hrel
          rw [hDk] at r4 r5
          have R1 := Lib.hid r1
          have R3 := Lib.hid r3
          have R4 := Lib.hid r4
          have R5 := Lib.hid r5
          clear r1 r3 r4 r5 hDk hD hkn HR
          have q0 : wr.cell? ⟨ob, 0, none⟩ = some (.slice pv D.length cv) := R4.out.cell 0 (by omega)
          have b0 : wr.cell? ⟨w.heap.size, 0, none⟩ = some (.string x.1) := R3.out.cell 0 (by omega)
          have b1 : wr.cell? ⟨w.heap.size, 1, none⟩ = some (.string x.2) := R3.out.cell 1 (by omega)
          by_cases hfull : D.length = L.length ∧ 60 ≤ L.length
          · rw [if_pos hfull] at hset
            cases hset
            have e1 : ((D.length : Int) == (L.length : Int)) = true := by rw [beq_iff_eq]; omega
            have e2 : decide ((60 : Int) ≤ (L.length : Int)) = true := by simp; omega
            go_wp2
            refine bodyPost_ret (results_tmp2 rfl _ _ _) rfl ?_
            exact ⟨.slice none 0 0, rfl, R1.out, Row.nil _ _ _⟩
          · rw [if_neg hfull] at hset
            have hc : ((D.length : Int) == (L.length : Int)) = false ∨ (((D.length : Int) == (L.length : Int)) = true ∧ decide ((60 : Int) ≤ (L.length : Int)) = false) := by
              by_cases e : D.length = L.length
              · refine .inr ⟨by rw [beq_iff_eq]; omega, by simp; omega⟩
              · exact .inl (by rw [beq_eq_false_iff_ne]; omega)
            obtain ⟨hT, hn⟩ := Prod.mk.inj hset
            subst hn
            have HTT := Lib.hid hT
            clear hset hT hfull
            have hRel : SetRel ob w wr D x D.length (.slice pv D.length cv) := ⟨R1.out, r2, R3.out, R4.out, by
              have e : others (D.take D.length) x = D := by
                rw [List.take_length]; unfold others
                rw [List.filter_eq_self]
                intro y hy; simpa using HDN.out y hy
              rw [e]; exact R5.out⟩
            have HRL := Lib.hid hRel
            clear hRel
            rcases hc with hc | ⟨hc, hc2⟩
            all_goals
              go_wp2_with (first | (at_builtin; refine wpList_append_item rfl (.tmp 44) (.tmp 46) 22 rfl 24 Tryz.underlying22 _ 32 infoItem rfl (by decide) (ob + 1) (.slice pv D.length cv) D rfl (R5.out.alloc _) (by have := R4.out.lt; simp; omega) (by omega) x wr.heap.size rfl 24 (heap_alloc_new _ _) ?_; intro v' w3 hrow3 hgrow3 hmove3; obtain ⟨g, c3, hv3, _⟩ := hrow3.out.shape (by simp); subst hv3; have s0 := HRL.out.after hgrow3.out; have t0 := s0.cell 0 (by omega); have t1 := s0.free 0; clear s0))
              obtain ⟨f1, f2, f3, f4⟩ := HRL.out.put hrow3.out hgrow3.out (rfl : x = x)
              have hlen : (D ++ [x]).length = D.length + 1 := by simp
              have hge := (hrow3.out.lt g rfl).1
              have hq : (w3.setCell ⟨ob, 0, none⟩ (.slice (some ⟨g, 0, none⟩) (D ++ [x]).length c3)).cell? ⟨ob, 0, none⟩ = some (.slice (some ⟨g, 0, none⟩) (D ++ [x]).length c3) := f3.cell 0 (by omega)
              have key := sort_row (ob + 1) g c3 ob (D ++ [x]) _ f4 (by simp) (by simp; omega) hq (by omega)
              rw [hlen] at key f1 f2 f3 f4
              have F1 := Lib.hid f1
              have F3 := Lib.hid f3
              clear f1 f2 f3 f4 hq hlen
              refine key.mono ?_
              clear key
              rintro e w5 ⟨rfl, M, hperm, hrise, hrow5, hg5⟩
              have HMT := Lib.hid (show M = T by
                rw [← HTT.out]
                refine sorted_one (hperm.trans ((List.perm_append_singleton x D).trans (insIt_perm x D).symm)) (hrise ?_) (insIt_sorted x D HDS.out HDN.out)
                rw [List.pairwise_append]
                refine ⟨HDS.out.imp ?_, by simp, fun y hy z hz => ?_⟩
                · intro y z hyz e
                  unfold ltI at hyz; rw [e] at hyz; exact List.lt_irrefl _ hyz
                · rw [List.mem_singleton.1 hz]; exact HDN.out y hy)
              have HR5 := Lib.hid hrow5
              have hb5 : Below w.heap.size w w5 := F1.out.grown hg5 F1.out.size (fun c hc => by cases hc; omega)
              have hown5 : Holds w5 ob 1 (fun _ => .slice (some ⟨g, 0, none⟩) (D.length + 1) c3) 22 := by
                have h := F3.out
                have hl := h.lt
                unfold Holds at h ⊢
                rw [hg5.block ob hl (fun e => by cases e; omega)]; exact h
              have q5 := hown5.cell 0 (by omega)
              have HB5 := Lib.hid hb5
              have hlenT : T.length = D.length + 1 := by rw [← HTT.out, (insIt_perm x D).length_eq]; rfl
              have HLT := Lib.hid hlenT
              clear hrow5 hb5 hown5 hg5 hperm hrise hlenT
              go_wp2
              refine bodyPost_ret (results_tmp2 rfl _ _ _) rfl ?_
              refine ⟨_, rfl, HB5.out, ?_⟩
              rw [HLT.out, ← HMT.out]
              exact HR5.out.mono (by omega)
    · rw [if_neg (fun hh => hx hh.2)] at h
      cases h
      have HXR := Lib.hid (show rightItems [x] = false by simpa using hx)
      clear hk hx
      go_enter Tryz.func21, Tryz.ntmps21
      go_wp2_with fail
      refine (refRight_any L A cap _ (HM.out.below HB0.out) hl).mono ?_
      rintro e w1 ⟨rfl, hb1⟩
      rw [HK.out]
      have HB1 := Lib.hid (HB0.out.trans (hb1.mono HB0.out.size))
      have HX1 := Lib.hid (HX0.out.below hb1 HX0.out.lt)
      clear hb1
      have x0 : w1.cell? ⟨w.heap.size, 0, none⟩ = some (.string x.1) := HX1.out.cell 0 (by omega)
      have x1 : w1.cell? ⟨w.heap.size, 1, none⟩ = some (.string x.2) := HX1.out.cell 1 (by omega)
      go_wp2_with fail
      clear x0 x1
      refine (refRight_any [x] (some ⟨w1.heap.size, 0, none⟩) 1 _ (one_item x w1 24) (by simp)).mono ?_
      rintro e w2 ⟨rfl, hb2⟩
      rw [HXR.out]
      have HB2 := Lib.hid (HB1.out.trans ((alloc_below w1 (.cells #[.string x.1, .string x.2] 24)).mono HB1.out.size |>.trans (hb2.mono (Nat.le_trans HB1.out.size (by simp)))))
      clear hb2
      go_wp2
      refine bodyPost_ret (results_tmp2 rfl _ _ _) rfl ?_
      exact ⟨.slice none 0 0, rfl, HB2.out, Row.nil _ _ _⟩
  · rw [if_neg (fun hh => hk hh.1)] at h
    cases h
    have HK := Lib.hid (show rightItems L = false by simpa using hk)
    clear hk
    go_enter Tryz.func21, Tryz.ntmps21
    go_wp2_with fail
    refine (refRight_any L A cap _ (HM.out.below HB0.out) hl).mono ?_
    rintro e w1 ⟨rfl, hb1⟩
    rw [HK.out]
    have HB1 := Lib.hid (HB0.out.trans (hb1.mono HB0.out.size))
    have HX1 := Lib.hid (HX0.out.below hb1 HX0.out.lt)
    clear hb1
    go_wp2
    refine bodyPost_ret (results_tmp2 rfl _ _ _) rfl ?_
    exact ⟨.slice none 0 0, rfl, HB1.out, Row.nil _ _ _⟩
end Go.Proofs.YtpoibacokdjplaaGreatDoor
/- The document's Num. -/
namespace Go.Proofs.YtpoibacokdjplaaGreatDoor
open Go.RowKit

/-- The last k bytes. -/
def low (m : Nat) : Nat → List UInt8
  | 0 => []
  | k + 1 => UInt8.ofNat (m / 256 ^ k) :: low m k
theorem low_eight (m : Nat) : low m 8 = be8 m := by
  simp [be8, low, List.range, List.range.loop]
theorem low_length (m : Nat) : ∀ k, (low m k).length = k
  | 0 => rfl
  | k + 1 => by simp [low, low_length m k]
theorem txt_append (a b : List UInt8) : txt a ++ txt b = txt (a ++ b) := by
  rw [← txt_of (txt a ++ txt b)]
  congr 1
theorem conv1 (w : World) (b : UInt8) (x : Int) (hx : x = (b.toNat : Int)) :
    (convert 87 9 (.slice (some ⟨w.heap.size, 0, none⟩) 1 1)).run Tryz.prog (w.alloc (.cells #[.int .u8 x] 5)) = .ok (.string (txt [b])) (w.alloc (.cells #[.int .u8 x] 5)) := by
  subst hx
  have hh := Holds.new w 1 (fun _ => .int .u8 (b.toNat : Int)) 5
  have hf : ∀ i, i < 1 → (fun _ : Nat => Value.int .u8 (b.toNat : Int)) (0 + i) = .int .u8 ((([b] : List UInt8).getD i 0).toNat : Int) := fun i hi => by
    obtain rfl : i = 0 := by omega
    rfl
  exact run_conv_text hh 87 9 5 Tryz.underlying87 Tryz.underlying5 Tryz.underlying9 [b] 0 1 1 rfl (by omega) hf

set_option maxRecDepth 100000 in
theorem refNum_any (n : Int) (w : World) :
    Calls Tryz.prog 33 #[.int .i64 n] w fun e w' => e = .returned (.string (txt (num8 n))) ∧ Below w.heap.size w w' := by
  obtain ⟨m, hm⟩ : ∃ m : Nat, (n % 18446744073709551616) = m := ⟨(n % 18446744073709551616).toNat, by omega⟩
  have hw : IntKind.u64.wrap n = m := by rw [wrap_u64, hm]
  have e : num8 n = be8 m := by unfold num8; rw [hm]; rfl
  have hm64 : m < 18446744073709551616 := by omega
  rw [e]
  clear hm e
  go_enter Tryz.func33, Tryz.ntmps33
  go_wp2
  go_loopw [3, 4, 7] (fun s u i wr => ∃ k d : Nat, k ≤ 8 ∧ d = m / 256 ^ k ∧ i = .int .i64 (k : Int) ∧ u = .int .u64 (d : Int) ∧ s = .string (txt (low m k)) ∧ Below w.heap.size w wr) (fun _ _ i _ => 8 - (intOf i).toNat)
  case atStart =>
    exact ⟨0, m, by omega, by simp, rfl, rfl, rfl, Below.refl _ _⟩
  case round =>
    obtain ⟨k, d, hk, hd, rfl, rfl, rfl, hb⟩ := hrel
    have HB := Lib.hid hb
    have HD := Lib.hid hd
    have hl := low_length m k
    generalize hL : low m k = L at hl
    have HL := Lib.hid hL
    clear hb hd hL
    by_cases hlt : k < 8
    · have hcv : (convert 87 9 (.slice (some ⟨wr.heap.size, 0, none⟩) 1 1)).run Tryz.prog (wr.alloc (.cells #[.int .u8 ((d : Int) % 256)] 5)) = .ok (.string (txt [UInt8.ofNat d])) (wr.alloc (.cells #[.int .u8 ((d : Int) % 256)] 5)) := by
        refine conv1 wr (UInt8.ofNat d) _ ?_
        rw [UInt8.toNat_ofNat']; omega
      have hap : txt [UInt8.ofNat d] ++ txt L = txt (UInt8.ofNat d :: L) := txt_append _ _
      have hz1 : (txt [UInt8.ofNat d]).size = 1 := by rw [txt_size]; rfl
      have hz2 : (txt L).size = k := by rw [txt_size, hl]
      have hd64 : d < 18446744073709551616 := by
        have := HD.out; have := Nat.div_le_self m (256 ^ k); omega
      go_wp2
      go_roundw
      case rel =>
        refine ⟨k + 1, d / 256, by omega, ?_, by go_num, by go_num, ?_, HB.out.alloc HB.out.size _⟩
        · rw [HD.out, Nat.div_div_eq_div_mul, Nat.pow_succ]
        · rw [← HL.out, HD.out]; rfl
      case measure => simp [intOf]; omega
    · have hk8 : k = 8 := by omega
      have HK8 := Lib.hid hk8
      clear hk8
      go_wp2
      go_ret
      refine ⟨?_, HB.out⟩
      have h := HL.out
      rw [HK8.out, low_eight] at h
      rw [h]; rfl
end Go.Proofs.YtpoibacokdjplaaGreatDoor
/- The document's rotation (a closure without captures). -/
namespace Go.Proofs.YtpoibacokdjplaaGreatDoor
open Go.RowKit

theorem rotR_core (x : BitVec 32) (n : Nat) (h0 : 0 < n) (h1 : n < 32) (w : World) :
    Calls Tryz.prog 65 #[.int .u32 (W32 x), .int .i64 (n : Int)] w fun e w' => e = .returned (.int .u32 (W32 (ror x n))) ∧ ∃ m, w' = w.drewN m := by
  go_enter Tryz.func65, Tryz.ntmps65
  go_wp2
  go_quiet (fail)
  go_wp2
  go_ret
  refine ⟨?_, _, rfl⟩
  have fin : (W32 x / 2 ^ n + W32 x * 2 ^ (32 - n) % 4294967296) % (4294967296 : Int) = W32 (ror x n) := by
    rw [w_shr, w_shl, w_add, ror_add _ _ _ (by omega)]
  rw [← fin]
  rfl
theorem rotR_any (x : BitVec 32) (k : Int) (h0 : 0 < k) (h1 : k < 32) (w : World) :
    Calls Tryz.prog 65 #[.int .u32 (W32 x), .int .i64 k] w fun e w' => e = .returned (.int .u32 (W32 (ror x k.toNat))) ∧ ∃ m, w' = w.drewN m := by
  have h := rotR_core x k.toNat (by omega) (by omega) w
  rwa [show ((k.toNat : Nat) : Int) = k from by omega] at h
end Go.Proofs.YtpoibacokdjplaaGreatDoor
/- The words of a block, as the document reckons them. No program is walked here. -/
namespace Go.Proofs.YtpoibacokdjplaaGreatDoor
open Go.RowKit

theorem wext_stable (blk : Nat → Nat) (i m : Nat) : ∀ k, i < 16 + m → wext blk (m + k) i = wext blk m i
  | 0, _ => rfl
  | k + 1, h => by
    have e : wext blk (m + (k + 1)) i = wext blk (m + k) i := by
      show upd (wext blk (m + k)) (m + k + 16) _ i = _
      unfold upd; rw [if_neg (by omega)]
    rw [e, wext_stable blk i m k h]
/-- All the words. -/
def wall (blk : Nat → Nat) : Nat → BitVec 32 := wext blk 48
theorem wall_low (blk : Nat → Nat) (i : Nat) (h : i < 16) : wall blk i = wordOf blk i 4 := by
  unfold wall
  rw [show 48 = 0 + 48 from rfl, wext_stable blk i 0 48 (by omega)]
  show wfill blk 16 0 i = _
  unfold wfill; rw [if_pos h]
theorem wall_high (blk : Nat → Nat) (n : Nat) (h : n < 48) : wall blk (n + 16) = ((wall blk n + s0 (wall blk (n + 1))) + wall blk (n + 9)) + s1 (wall blk (n + 14)) := by
  have e : ∀ i, i < 16 + n → wall blk i = wext blk n i := fun i hi => by
    unfold wall; rw [show 48 = n + (48 - n) from by omega]; exact wext_stable blk i n _ hi
  have e2 : wall blk (n + 16) = wext blk (n + 1) (n + 16) := by
    unfold wall; rw [show 48 = (n + 1) + (47 - n) from by omega]; exact wext_stable blk (n + 16) (n + 1) _ (by omega)
  rw [e2, e n (by omega), e (n + 1) (by omega), e (n + 9) (by omega), e (n + 14) (by omega)]
  show upd (wext blk n) (n + 16) _ (n + 16) = _
  unfold upd; rw [if_pos rfl]
theorem wall_alt (blk : Nat → Nat) (t : Nat) (h : 16 ≤ t) (h2 : t < 64) : ((s1 (wall blk (t - 2)) + wall blk (t - 7)) + s0 (wall blk (t - 15))) + wall blk (t - 16) = wall blk t := by
  obtain ⟨n, rfl⟩ : ∃ n, t = n + 16 := ⟨t - 16, by omega⟩
  rw [wall_high blk n (by omega), show n + 16 - 2 = n + 14 from by omega, show n + 16 - 7 = n + 9 from by omega, show n + 16 - 15 = n + 1 from by omega, show n + 16 - 16 = n from by omega]
  generalize s1 (wall blk (n + 14)) = p; generalize s0 (wall blk (n + 1)) = q; generalize wall blk (n + 9) = r; generalize wall blk n = u
  ac_rfl
/-- The words up to place t; then noughts. -/
def wupto (blk : Nat → Nat) (t : Nat) : Nat → BitVec 32 := fun i => if i < t then wall blk i else 0
theorem wupto_next (blk : Nat → Nat) (t : Nat) : upd (wupto blk t) t (wall blk t) = wupto blk (t + 1) := by
  funext i; unfold upd wupto
  by_cases h : i = t
  · subst h; rw [if_pos rfl, if_pos (by omega)]
  · rw [if_neg h]
    by_cases h2 : i < t
    · rw [if_pos h2, if_pos (by omega)]
    · rw [if_neg h2, if_neg (by omega)]
theorem word_step (x : BitVec 32) (c : Nat) (h : c < 256) : x * 256 + BitVec.ofNat 32 c = (x <<< 8) ||| BitVec.ofNat 32 c := by
  have e : x * 256 = x <<< 8 := by
    apply BitVec.eq_of_toNat_eq
    rw [BitVec.toNat_mul, BitVec.toNat_shiftLeft, Nat.shiftLeft_eq]
    rfl
  rw [e]
  apply BitVec.add_eq_or_of_and_eq_zero
  ext i hi
  simp
  intro h1 h2
  have : c.testBit i = false := Nat.testBit_lt_two_pow (Nat.lt_of_lt_of_le h (by
    have : 2 ^ 8 ≤ 2 ^ i := Nat.pow_le_pow_right (by omega) (by omega)
    simpa using this))
  rw [← BitVec.getLsbD_eq_getElem, BitVec.getLsbD_ofNat, this]; simp
theorem rword_value (x : BitVec 32) (c : Nat) (h : c < 256) : (W32 x * 256 + (c : Int)) % (4294967296 : Int) = W32 ((x <<< 8) ||| BitVec.ofNat 32 c) := by
  rw [← word_step x c h, ← w_add, ← w_mul, W32_ofNat c (by omega)]
  show _ = (W32 x * 256 % 4294967296 + _) % 4294967296
  omega
theorem rword_value2 (x : BitVec 32) (c : Nat) (h : c < 256) : W32 x * 256 % (4294967296 : Int) + (c : Int) = W32 ((x <<< 8) ||| BitVec.ofNat 32 c) := by
  rw [← rword_value x c h]; omega
/-- A round, as the document writes it. -/
theorem rstep_ref (s : Nat → BitVec 32) (k w : BitVec 32) : ∀ i, i < 8 → rstep s k w i =
    (let one := (((s 7 + S1 (s 4)) + ch (s 4) (s 5) (s 6)) + k) + w
     let two := S0 (s 0) + maj (s 0) (s 1) (s 2)
     if i = 0 then one + two else if i = 4 then s 3 + one else s (i - 1)) := by
  intro i _
  have e : (s 7 + S1 (s 4)) + ((ch (s 4) (s 5) (s 6) + k) + w) = (((s 7 + S1 (s 4)) + ch (s 4) (s 5) (s 6)) + k) + w := by
    generalize s 7 + S1 (s 4) = p; generalize ch (s 4) (s 5) (s 6) = q
    ac_rfl
  unfold rstep
  simp only [e]
/-- The state behind the blocks of a text. -/
def blocks (M : List UInt8) : Nat → Nat → BitVec 32
  | 0 => iv
  | j + 1 => mixed (blocks M j) (fun i => (M.getD (64 * j + i) 0).toNat)
theorem blocks_feed (M : List UInt8) : ∀ j, 64 * j ≤ M.length → (feed rs0 (M.take (64 * j))).st = blocks M j
  | 0, _ => rfl
  | j + 1, h => by
    have e : M.take (64 * (j + 1)) = M.take (64 * j) ++ (M.drop (64 * j)).take 64 := by
      rw [show 64 * (j + 1) = 64 * j + 64 from by omega, List.take_add]
    have hl : ((M.drop (64 * j)).take 64).length = 64 := by rw [List.length_take, List.length_drop]; omega
    have ih := blocks_feed M j (by omega)
    have hs : (feed rs0 (M.take (64 * j))).size = 64 * j := by
      rw [feed_size, List.length_take]; show 0 + min (64 * j) M.length = _; omega
    rw [e, feed_append]
    rw [feed_piece _ _ (by intro e; rw [e] at hl; simp at hl) (by rw [hs, hl]; omega)]
    rw [hs, hl, if_pos (by omega), show 64 * j % 64 = 0 from by omega, ih]
    show mixed (blocks M j) _ = mixed (blocks M j) _
    apply mixed_congr
    intro i hi
    unfold lay
    rw [hl, if_pos (by omega)]
    congr 1
    rw [List.getD_eq_getElem?_getD, List.getD_eq_getElem?_getD, Nat.sub_zero, List.getElem?_take, if_pos hi, List.getElem?_drop]
/-- Four bytes of a word. -/
def quad (x : BitVec 32) : List UInt8 := [UInt8.ofNat (x.toNat / 2 ^ 24), UInt8.ofNat (x.toNat / 2 ^ 16), UInt8.ofNat (x.toNat / 2 ^ 8), UInt8.ofNat x.toNat]
theorem sumText_quad (st : Nat → BitVec 32) (j : Nat) (h : j < 8) : (sumText st).take (4 * (j + 1)) = (sumText st).take (4 * j) ++ quad (st j) := by
  unfold sumText
  rw [← List.map_take, ← List.map_take, List.take_range, List.take_range, show min (4 * (j + 1)) 32 = 4 * j + 4 from by omega, show min (4 * j) 32 = 4 * j from by omega, List.range_add, List.map_append]
  congr 1
  simp only [List.map_map]
  have e0 : (4 * j + 0) / 4 = j := by omega
  have e1 : (4 * j + 1) / 4 = j := by omega
  have e2 : (4 * j + 2) / 4 = j := by omega
  have e3 : (4 * j + 3) / 4 = j := by omega
  have m0 : (4 * j + 0) % 4 = 0 := by omega
  have m1 : (4 * j + 1) % 4 = 1 := by omega
  have m2 : (4 * j + 2) % 4 = 2 := by omega
  have m3 : (4 * j + 3) % 4 = 3 := by omega
  rw [show List.range 4 = [0, 1, 2, 3] from rfl]
  simp only [List.map_cons, List.map_nil, Function.comp, e0, e1, e2, e3, m0, m1, m2, m3, quad]
  simp
theorem run_conv4 {P : Program} (w : World) (src dst e e' : TypeId) (hs : P.underlying src = some (.slice e)) (he : P.underlying e = some (.int .u8)) (hd : P.underlying dst = some .string)
    (p q r s : UInt8) (a b c d : Int) (ha : a = (p.toNat : Int)) (hb : b = (q.toNat : Int)) (hc : c = (r.toNat : Int)) (hd' : d = (s.toNat : Int)) :
    (convert src dst (.slice (some ⟨w.heap.size, 0, none⟩) 4 4)).run P (w.alloc (.cells #[.int .u8 a, .int .u8 b, .int .u8 c, .int .u8 d] e')) = .ok (.string (txt [p, q, r, s])) (w.alloc (.cells #[.int .u8 a, .int .u8 b, .int .u8 c, .int .u8 d] e')) := by
  subst ha hb hc hd'
  have h := Holds.new w 4 (fun i => Value.int .u8 ((([p, q, r, s] : List UInt8).getD i 0).toNat : Int)) e'
  exact run_conv_text h src dst e hs he hd [p, q, r, s] 0 4 4 rfl (by omega) (fun i _ => by rw [Nat.zero_add])
theorem w_byte (x : BitVec 32) (k : Nat) : W32 x / 2 ^ k % (256 : Int) = ((UInt8.ofNat (x.toNat / 2 ^ k)).toNat : Int) := by
  rw [UInt8.toNat_ofNat']; unfold W32; simp
theorem w_byte0 (x : BitVec 32) : W32 x % (256 : Int) = ((UInt8.ofNat x.toNat).toNat : Int) := by
  rw [UInt8.toNat_ofNat']; unfold W32; simp
end Go.Proofs.YtpoibacokdjplaaGreatDoor
