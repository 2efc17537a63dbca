/- Parts of the proof, one behind the other: OrderLaw. -/
import Derived.Test.YtpoibacokdjplaaDoorM9
import Derived.Test.YtpoibacokdjplaaDoorM10
import Derived.Test.YtpoibacokdjplaaDoorM11
import Derived.Test.YtpoibacokdjplaaDoorM8
import Derived.OwnWalk
/- TrieOrder, the walk. -/
namespace Go.Proofs.YtpoibacokdjplaaDoor
open Go.RowKit

def cellInt (p : Value) (w : World) : Nat := match p with
  | .pointer (some a) => (match w.cell? a with
    | some (.int _ z) => (z + 1).toNat
    | _ => 0)
  | _ => 0
theorem cellInt_of {w : World} {b : Nat} {z : Int} {t : TypeId} (h : Holds w b 1 (fun _ => .int .i64 z) t) : cellInt (.pointer (some ⟨b, 0, none⟩)) w = (z + 1).toNat := by
  have := h.cell 0 (by omega)
  unfold cellInt
  simp only [this]
def marksOf (L : List It) (k : Nat) : List ByteArray := (L.take k).map (·.1)
theorem marks_next {L : List It} {k : Nat} {x : It} (h : L[k]? = some x) : marksOf L (k + 1) = marksOf L k ++ [x.1] := by
  unfold marksOf
  rw [List.take_add_one, h]; simp
theorem marks_length (L : List It) (k : Nat) : (marksOf L k).length ≤ L.length := by
  unfold marksOf
  rw [List.length_map, List.length_take]
  exact Nat.min_le_right _ _
theorem apart_next {L : List It} {k : Nat} {x : It} (h : L[k]? = some x) (hp : (L.take k).Pairwise fun x y => x.1 ≠ y.1) (hx : x.1 ∉ marksOf L k) : (L.take (k + 1)).Pairwise fun x y => x.1 ≠ y.1 := by
  rw [List.take_add_one, h, List.pairwise_append]
  refine ⟨hp, by simp, fun a ha b hb => ?_⟩
  simp at hb
  subst hb
  intro e
  exact hx (List.mem_map.2 ⟨a, ha, e⟩)
theorem kept_last {L : List It} {k : Nat} (hl : L.length ≤ 40) (hk : k < L.length) (h1 : (itAt L k).1.size = 16) (h2 : (itAt L k).2.size = 16) (hn : (L.drop (k + 1)).any (againI (itAt L k)) = false) : itAt L k ∈ madeOf L := by
  have he : L.take k ++ itAt L k :: L.drop (k + 1) = L := by rw [← drop_at hk, List.take_append_drop]
  have hg : goodI (itAt L k) = true := by unfold goodI; simp [h1, h2]
  have h := made_last (L := L.take k) (R := L.drop (k + 1)) (y := itAt L k) (by rw [he]; omega) hg fun x hx hgx e => by
    have h3 := (List.any_eq_false.1 hn) x hx
    unfold againI at h3
    unfold goodI at hgx
    simp at hgx
    simp [e, hgx.2] at h3
  rwa [he] at h
theorem row_some {w : World} {base n c : Nat} {A : Option Addr} {xs : List Value} (h : Row w base 2 (.slice A n c) n xs) (hn : 0 < n) : ∃ g, A = some ⟨g, 0, none⟩ ∧ base ≤ g := by
  obtain ⟨g, c', hv, hb, _⟩ := h.shape hn
  injection hv with e1 _ _
  exact ⟨g, e1, hb⟩
set_option maxHeartbeats 8000000 in
set_option maxRecDepth 100000 in
theorem trieOrder_any (L : List It) (A : Option Addr) (cap : Nat) (by' : Int) (w : World) (hk : HasK w) (hm : Itms w A L) (hcap : L.length ≤ cap) :
    Calls Tryd.prog 3 #[.slice A L.length cap, .int .i64 by'] w fun e w' => e = .returned (.bool true) ∧ Below w.heap.size w w' := by
  have HK := Lib.hid hk
  have HM := Lib.hid hm
  have HCAP := Lib.hid hcap
  clear hk hm hcap
  go_enter Tryd.func3, Tryd.ntmps3
  have hb0 := alloc_below w (.cells #[.slice A L.length cap] 22)
  have hp0 : (w.alloc (.cells #[.slice A L.length cap] 22)).cell? ⟨w.heap.size, 0, none⟩ = some (.slice A L.length cap) := cell_of_row _ w.heap.size 0 _ 22 (0, 0) (heap_alloc_new _ _)
  have HB0 := Lib.hid hb0
  have HP0 := Lib.hid hp0
  clear hb0
  go_wp2_with fail
  clear hp0
  generalize w.alloc (.cells #[.slice A L.length cap] 22) = w0 at HB0 HP0
  refine (held_any L A cap _ (HM.out.below HB0.out)).mono ?_
  rintro e w1 ⟨hb1, b, rfl, hq⟩
  have HB1 := Lib.hid (HB0.out.trans (hb1.mono HB0.out.size))
  have HP1 := Lib.hid ((hb1.cell (block_lt_of_cell HP0.out)).trans HP0.out)
  clear hb1
  cases b with
  | false =>
    go_wp2
    go_ret
    exact ⟨rfl, HB1.out⟩
  | true =>
    have HQ := Lib.hid (hq rfl)
    have hl40 : L.length ≤ 40 := (hq rfl).1
    clear hq
    go_wp2_with fail
    refine (rooted_any _ (HK.out.below HB1.out HK.out.lt)).mono ?_
    rintro e w2 ⟨rfl, hb2⟩
    have HB2 := Lib.hid (HB1.out.trans (hb2.mono HB1.out.size))
    have HP2 := Lib.hid ((hb2.cell (block_lt_of_cell HP1.out)).trans HP1.out)
    have hp2 := HP2.out
    clear hb2
    go_wp2_with fail
    clear hp2
    refine (made_any L A cap _ (HM.out.below HB2.out) (by omega)).mono ?_
    rintro e w3 ⟨MA, mc, rfl, hb3, hmi, hmc⟩
    have HB3 := Lib.hid (HB2.out.trans (hb3.mono HB2.out.size))
    have HP3 := Lib.hid ((hb3.cell (block_lt_of_cell HP2.out)).trans HP2.out)
    have HMI := Lib.hid hmi
    have HMC := Lib.hid hmc
    have hml : (madeOf L).length ≤ 60 := by have := made_few L L.length (by omega); rwa [List.take_length] at this
    clear hb3 hmi hmc
    have HSZ := Lib.hid (show ∀ x ∈ L, x.1.size ≤ 1000000 from fun x hx => by
      have h := List.all_eq_true.1 HQ.out.2 x hx
      unfold longItem at h
      simp at h
      omega)
    have hmm := @run_makeMap Tryd.prog
    go_wp2
    clear hmm
    have HSEEN := Lib.hid (Seen.made w3)
    have HB4 := Lib.hid (alloc_below w3 (.map #[] 0))
    have HP4 := Lib.hid ((HB4.out.cell (block_lt_of_cell HP3.out)).trans HP3.out)
    generalize w3.alloc (.map #[] 0) = w4 at HSEEN HB4 HP4
    go_loopw [7, 8] (fun t i wr => ∃ (k : Nat) (tw : Bool), k ≤ L.length ∧ t = .bool tw ∧ i = .int .i64 (k : Int) ∧ Below w3.heap.size w3 wr ∧ Seen wr w3.heap.size (marksOf L k) ∧ (tw = false → (L.take k).Pairwise fun x y => x.1 ≠ y.1)) (fun _ i _ => L.length - (intOf i).toNat)
    case atStart => exact ⟨0, false, by omega, rfl, rfl, HB4.out, HSEEN.out, fun _ => by simp⟩
    case round =>
      clear HSEEN HB4 HP4
      obtain ⟨k, tw, hk, rfl, rfl, hb, hse, hpw⟩ := hrel
      have HB := Lib.hid hb
      have HSE := Lib.hid hse
      have HPW := Lib.hid hpw
      have HPR := Lib.hid ((hb.cell (block_lt_of_cell HP3.out)).trans HP3.out)
      clear hb hse hpw
      have hpr := HPR.out
      by_cases hlt : k < L.length
      · have hmk := (HM.out.below HB3.out).below HB.out
        obtain ⟨a, rfl, hal, c0, c1⟩ := hmk.at_ hlt
        have hx : L[k]? = some (itAt L k) := by rw [List.getElem?_eq_getElem hlt, itAt_get (List.getElem?_eq_getElem hlt)]
        have hxs := HSZ.out _ (itAt_mem hlt)
        have HNX := Lib.hid (marks_next hx)
        have HAN := Lib.hid (apart_next hx)
        clear hmk c1 hx hal
        generalize itAt L k = x at c0 hxs HNX HAN
        obtain ⟨q, hlook, hq⟩ := HSE.out.look x.1 hxs
        have hki : (k : Int) < (L.length : Int) := by omega
        have HML := Lib.hid (marks_length L k)
        cases tw with
        | true =>
          clear hlook
          go_wp2_with (at_mapUpdate; refine wpList_seen rfl (.tmp 42) (.tmp 47) (.const (.bool true)) rfl w3.heap.size (marksOf L k) rfl HSE.out (by have := HML.out; omega) x.1 hxs rfl rfl ?_; intro w7 hs7 hg7)
          go_wp2
          go_roundw
          case rel =>
            exact ⟨k + 1, true, hlt, rfl, by go_num, HB.out.grown hg7.out HB.out.size (fun j hj => by cases hj; exact Nat.le_refl _), by rw [HNX.out]; exact hs7.out, fun h => by cases h⟩
          case measure => simp [intOf]; omega
        | false =>
          cases q with
          | true =>
            go_wp2_with (at_mapUpdate; refine wpList_seen rfl (.tmp 42) (.tmp 47) (.const (.bool true)) rfl w3.heap.size (marksOf L k) rfl HSE.out (by have := HML.out; omega) x.1 hxs rfl rfl ?_; intro w7 hs7 hg7)
            go_wp2
            go_roundw
            case rel =>
              exact ⟨k + 1, true, hlt, rfl, by go_num, HB.out.grown hg7.out HB.out.size (fun j hj => by cases hj; exact Nat.le_refl _), by rw [HNX.out]; exact hs7.out, fun h => by cases h⟩
            case measure => simp [intOf]; omega
          | false =>
            have HNO := Lib.hid (show x.1 ∉ marksOf L k from fun h => by have := hq h; cases this)
            go_wp2_with (at_mapUpdate; refine wpList_seen rfl (.tmp 42) (.tmp 47) (.const (.bool true)) rfl w3.heap.size (marksOf L k) rfl HSE.out (by have := HML.out; omega) x.1 hxs rfl rfl ?_; intro w7 hs7 hg7)
            go_wp2
            go_roundw
            case rel =>
              exact ⟨k + 1, false, hlt, rfl, by go_num, HB.out.grown hg7.out HB.out.size (fun j hj => by cases hj; exact Nat.le_refl _), by rw [HNX.out]; exact hs7.out, fun _ => HAN.out (HPW.out rfl) HNO.out⟩
            case measure => simp [intOf]; omega
      · have HPW2 := Lib.hid (show tw = false → L.Pairwise fun x y => x.1 ≠ y.1 from fun h => by
          have h2 := HPW.out h
          rwa [List.take_of_length_le (by omega)] at h2)
        have hki : ¬ (k : Int) < (L.length : Int) := by omega
        have HMB := Lib.hid (HMI.out.below HB.out)
        have HKB := Lib.hid ((HK.out.below HB3.out HK.out.lt).below HB.out (Nat.lt_of_lt_of_le HK.out.lt HB3.out.size))
        have HRM := Lib.hid (made_right L (by omega)).1
        go_wp2_with fail
        refine (tRight_any (madeOf L) MA mc _ (by omega) HMB.out).mono ?_
        rintro e w8 ⟨rfl, hb8⟩
        rw [HRM.out]
        have HB8 := Lib.hid (HB.out.trans (hb8.mono HB.out.size))
        have HP8 := Lib.hid ((hb8.cell (block_lt_of_cell HPR.out)).trans HPR.out)
        clear hb8 hpr HMB HKB
        have hp8 := HP8.out
        cases tw with
        | true =>
          generalize w8 = wz at HB8 HP8 hp8
          have HBZ := HB8
          go_wp2
          have HIB := Lib.hid (show Holds (wz.alloc (.cells #[.int .i64 ((L.length : Int) - 1)] 3)) wz.heap.size 1 (fun _ => .int .i64 ((L.length : Int) - 1)) 3 from Holds.new wz 1 (fun _ => .int .i64 ((L.length : Int) - 1)) 3)
          have HBI := Lib.hid (HBZ.out.alloc HBZ.out.size (.cells #[.int .i64 ((L.length : Int) - 1)] 3))
          go_loopw [16] (fun p wr => ∃ (ib : Nat) (z : Int), p = .pointer (some ⟨ib, 0, none⟩) ∧ w3.heap.size ≤ ib ∧ Holds wr ib 1 (fun _ => .int .i64 z) 3 ∧ -1 ≤ z ∧ z < (L.length : Int) ∧ Below w3.heap.size w3 wr) (fun p wr => cellInt p wr)
          case atStart => exact ⟨_, _, rfl, HBZ.out.size, HIB.out, by omega, by omega, HBI.out⟩
          case round =>
            clear HIB HBI
            obtain ⟨ib, z, rfl, hib, hh, hz1, hz2, hb⟩ := hrel
            have HB := Lib.hid hb
            have HH := Lib.hid hh
            have hpr := (hb.cell (block_lt_of_cell HP3.out)).trans HP3.out
            have HPR := Lib.hid hpr
            have hic := hh.cell 0 (by omega)
            have hif := hh.free 0
            clear hb hh
            by_cases hz : 0 ≤ z
            · obtain ⟨k, rfl⟩ : ∃ k : Nat, z = (k : Int) := ⟨z.toNat, by omega⟩
              have hlt : k < L.length := by omega
              have hmk := (HM.out.below HB3.out).below HB.out
              have HMK := Lib.hid hmk
              have hfrom := it_from A L.length cap (k + 1) (by omega)
              rw [show ((k + 1 : Nat) : Int) = (k : Int) + 1 by omega] at hfrom
              have hdr := hmk.drop (cap := cap) (r := k + 1) HCAP.out
              have hdl : (L.drop (k + 1)).length = L.length - (k + 1) := List.length_drop
              generalize partAt A cap (k + 1) = B at hfrom hdr
              generalize L.length - (k + 1) = sn at hfrom hdl
              generalize cap - (k + 1) = sc at hfrom
              have HDR := Lib.hid hdr
              have HDL := Lib.hid hdl
              have HKL := Lib.hid (fun h1 h2 hn => kept_last (L := L) (k := k) hl40 hlt h1 h2 hn)
              have HOC := Lib.hid (show Calls Tryd.prog 13 #[.slice B sn sc, .func (.func 14) #[] #[.pointer (some ⟨w.heap.size, 0, none⟩), .pointer (some ⟨ib, 0, none⟩)]] wr fun e w' => e = .returned (.bool ((L.drop (k + 1)).any (againI (itAt L k)))) ∧ Below wr.heap.size wr w' by
                have h := orderHas_any L (L.drop (k + 1)) A B cap sc k w.heap.size ib wr hlt (by omega) (by rw [List.length_drop]; omega) hmk hdr hpr hic
                rwa [hdl] at h)
              obtain ⟨a, rfl, hal, c0, c1⟩ := hmk.at_ hlt
              have d2 : wr.cell? ⟨(a.add (k * 2)).block, (a.add (k * 2)).off + 1, none⟩ = some (.string (itAt L k).2) := c1
              have hki : (k : Int) < (L.length : Int) := by omega
              clear hmk hdr hdl
              generalize hy : itAt L k = y at c0 c1 d2 HKL HOC
              have HY := Lib.hid hy
              clear hy
              by_cases h1 : y.1.size = 16
              · have h1i : ((y.1.size : Int) != 16) = false := by simp; omega
                by_cases h2 : y.2.size = 16
                · have h2i : ((y.2.size : Int) != 16) = false := by simp; omega
                  obtain ⟨q, hq⟩ : ∃ q, (L.drop (k + 1)).any (againI y) = q := ⟨_, rfl⟩
                  rw [hq] at HOC
                  have HQQ := Lib.hid (fun hn => HKL.out h1 h2 (hq.trans hn))
                  clear hq HKL h1 h2
                  go_wp2_with fail
                  refine HOC.out.mono ?_
                  rintro e w9 ⟨rfl, hb9⟩
                  have HB9 := Lib.hid (HB.out.trans (hb9.mono HB.out.size))
                  have hh9 := HH.out.below hb9 HH.out.lt
                  have hic9 := hh9.cell 0 (by omega)
                  have HH9 := Lib.hid hh9
                  have hp9 := (hb9.cell (block_lt_of_cell HPR.out)).trans HPR.out
                  have hal9 : a.block < wr.heap.size := hal
                  have c09 := (hb9.cell (by rw [block_add]; exact hal9)).trans c0
                  have d29 := (hb9.cell (p := ⟨(a.add (k * 2)).block, (a.add (k * 2)).off + 1, none⟩) (by show (a.add (k * 2)).block < _; rw [block_add]; exact hal9)).trans d2
                  clear hb9 hh9 c0 c1 d2 hic hif hpr hfrom
                  cases q with
                  | true =>
                    have n9 : Holds (w9.alloc (.cells #[.int .i64 (k : Int)] 3)) w9.heap.size 1 (fun _ => .int .i64 (k : Int)) 3 := Holds.new w9 1 (fun _ => .int .i64 (k : Int)) 3
                    have m0 := n9.cell 0 (by omega)
                    have m1 := n9.free 0
                    have HN9 := Lib.hid n9
                    have HA9 := Lib.hid (HB9.out.alloc HB9.out.size (.cells #[.int .i64 (k : Int)] 3))
                    clear n9
                    go_wp2
                    refine ⟨⟨w9.heap.size, (k : Int) - 1, rfl, HB9.out.size, Holds.new w9 1 (fun _ => .int .i64 ((k : Int) - 1)) 3, by omega, by omega, HB9.out.alloc HB9.out.size _⟩, ?_⟩
                    have e1 : cellInt (.pointer (some ⟨w9.heap.size, 0, none⟩)) (w9.alloc (.cells #[.int .i64 ((k : Int) - 1)] 3)) = ((k : Int) - 1 + 1).toNat := cellInt_of (Holds.new w9 1 (fun _ => .int .i64 ((k : Int) - 1)) 3)
                    rw [e1, cellInt_of HH.out]
                    omega
                  | false =>
                    have HMEM := Lib.hid (HQQ.out rfl)
                    go_wp2_with fail
                    refine (containsItem_in (madeOf L) MA mc y _ (by omega) ((HMI.out.below HB9.out)) HMEM.out).mono ?_
                    rintro e w10 ⟨rfl, hb10⟩
                    have HB10 := Lib.hid (HB9.out.trans (hb10.mono HB9.out.size))
                    have hic10 := (HH9.out.below hb10 HH9.out.lt).cell 0 (by omega)
                    clear hb10 c09 d29 hp9 hic9
                    have n9 : Holds (w10.alloc (.cells #[.int .i64 (k : Int)] 3)) w10.heap.size 1 (fun _ => .int .i64 (k : Int)) 3 := Holds.new w10 1 (fun _ => .int .i64 (k : Int)) 3
                    have m0 := n9.cell 0 (by omega)
                    have m1 := n9.free 0
                    have HN9 := Lib.hid n9
                    have HA9 := Lib.hid (HB10.out.alloc HB10.out.size (.cells #[.int .i64 (k : Int)] 3))
                    clear n9
                    go_wp2
                    refine ⟨⟨w10.heap.size, (k : Int) - 1, rfl, HB10.out.size, Holds.new w10 1 (fun _ => .int .i64 ((k : Int) - 1)) 3, by omega, by omega, HB10.out.alloc HB10.out.size _⟩, ?_⟩
                    have e1 : cellInt (.pointer (some ⟨w10.heap.size, 0, none⟩)) (w10.alloc (.cells #[.int .i64 ((k : Int) - 1)] 3)) = ((k : Int) - 1 + 1).toNat := cellInt_of (Holds.new w10 1 (fun _ => .int .i64 ((k : Int) - 1)) 3)
                    rw [e1, cellInt_of HH.out]
                    omega
                · have h2i : ((y.2.size : Int) != 16) = true := by simp; omega
                  clear HOC HKL h1 h2
                  have n9 : Holds (wr.alloc (.cells #[.int .i64 (k : Int)] 3)) wr.heap.size 1 (fun _ => .int .i64 (k : Int)) 3 := Holds.new wr 1 (fun _ => .int .i64 (k : Int)) 3
                  have m0 := n9.cell 0 (by omega)
                  have m1 := n9.free 0
                  have HN9 := Lib.hid n9
                  have HA9 := Lib.hid (HB.out.alloc HB.out.size (.cells #[.int .i64 (k : Int)] 3))
                  clear n9
                  go_wp2
                  refine ⟨⟨wr.heap.size, (k : Int) - 1, rfl, HB.out.size, Holds.new wr 1 (fun _ => .int .i64 ((k : Int) - 1)) 3, by omega, by omega, HB.out.alloc HB.out.size _⟩, ?_⟩
                  have e1 : cellInt (.pointer (some ⟨wr.heap.size, 0, none⟩)) (wr.alloc (.cells #[.int .i64 ((k : Int) - 1)] 3)) = ((k : Int) - 1 + 1).toNat := cellInt_of (Holds.new wr 1 (fun _ => .int .i64 ((k : Int) - 1)) 3)
                  rw [e1, cellInt_of HH.out]
                  omega
              · have h1i : ((y.1.size : Int) != 16) = true := by simp; omega
                clear HOC HKL h1
                have n9 : Holds (wr.alloc (.cells #[.int .i64 (k : Int)] 3)) wr.heap.size 1 (fun _ => .int .i64 (k : Int)) 3 := Holds.new wr 1 (fun _ => .int .i64 (k : Int)) 3
                have m0 := n9.cell 0 (by omega)
                have m1 := n9.free 0
                have HN9 := Lib.hid n9
                have HA9 := Lib.hid (HB.out.alloc HB.out.size (.cells #[.int .i64 (k : Int)] 3))
                clear n9
                go_wp2
                refine ⟨⟨wr.heap.size, (k : Int) - 1, rfl, HB.out.size, Holds.new wr 1 (fun _ => .int .i64 ((k : Int) - 1)) 3, by omega, by omega, HB.out.alloc HB.out.size _⟩, ?_⟩
                have e1 : cellInt (.pointer (some ⟨wr.heap.size, 0, none⟩)) (wr.alloc (.cells #[.int .i64 ((k : Int) - 1)] 3)) = ((k : Int) - 1 + 1).toNat := cellInt_of (Holds.new wr 1 (fun _ => .int .i64 ((k : Int) - 1)) 3)
                rw [e1, cellInt_of HH.out]
                omega
            · have hzi : ¬ (0 : Int) ≤ z := hz
              go_wp2
              go_ret
              exact ⟨rfl, HB3.out.trans (HB.out.mono HB3.out.size)⟩
        | false =>
          have HPD := Lib.hid (HPW2.out rfl)
          by_cases hn0 : 0 < L.length
          · have hn0i : (0 : Int) < (L.length : Int) := by omega
            go_wp2_with fail
            clear hp8
            refine (pick_any by' L.length _ (by omega) (by omega)).mono ?_
            rintro e w9 ⟨rfl, r, hr, rfl⟩
            have HRL := Lib.hid hr
            have hr1 : r ≤ L.length := Nat.le_of_lt hr
            have hto := it_to A L.length cap r (by have := HCAP.out; omega)
            have hfrom := it_from A L.length cap r hr1
            have hdr := fun u (hu : Itms u A L) => hu.drop (r := r) HCAP.out
            have hdl : (L.drop r).length = L.length - r := List.length_drop
            have htl : (L.take r).length = r := by rw [List.length_take]; omega
            generalize partAt A cap r = B at hfrom hdr
            obtain ⟨sn, hsn⟩ : ∃ sn, L.length - r = sn := ⟨_, rfl⟩
            obtain ⟨sc, hsc⟩ : ∃ sc, cap - r = sc := ⟨_, rfl⟩
            rw [hsn, hsc] at hfrom
            rw [hsn] at hdl
            have hs0 : 0 < sn := by omega
            have hsl : sn ≤ 40 := by omega
            have HSR := Lib.hid (show sn + r = L.length by omega)
            have HHT := Lib.hid hto
            have HHF := Lib.hid hfrom
            have HDL := Lib.hid hdl
            have HTL := Lib.hid htl
            have HM9 := Lib.hid ((HM.out.below HB3.out).below HB8.out)
            have HDR := Lib.hid (hdr _ HM9.out)
            have HTK := Lib.hid (show ∀ u : World, (u.cell? ⟨w.heap.size, 0, none⟩ = some (.slice A L.length cap) ∧ Below w9.heap.size w9 u) → Itms u A (L.take r) from fun u hu => (HM9.out.below hu.2).take r)
            have hpl9 : w.heap.size < w9.heap.size := block_lt_of_cell HP8.out
            have HS0 := Lib.hid (show w9.cell? ⟨w.heap.size, 0, none⟩ = some (.slice A L.length cap) ∧ Below w9.heap.size w9 w9.drew from ⟨HP8.out, (Below.refl _ _).drew⟩)
            have HKEEP := Lib.hid (show ∀ u v : World, (u.cell? ⟨w.heap.size, 0, none⟩ = some (.slice A L.length cap) ∧ Below w9.heap.size w9 u) → Below u.heap.size u v → (v.cell? ⟨w.heap.size, 0, none⟩ = some (.slice A L.length cap) ∧ Below w9.heap.size w9 v) from
              fun u v ⟨h0, hb⟩ hv => ⟨(hv.cell (p := ⟨w.heap.size, 0, none⟩) (Nat.lt_of_lt_of_le hpl9 hb.size)).trans h0, hb.trans (hv.mono hb.size)⟩)
            have HCG := Lib.hid (show ∀ (u v : World) (g : Nat), (u.cell? ⟨w.heap.size, 0, none⟩ = some (.slice A L.length cap) ∧ Below w9.heap.size w9 u) → w9.heap.size ≤ g → u.grownBy v (some g) → (v.cell? ⟨w.heap.size, 0, none⟩ = some (.slice A L.length cap) ∧ Below w9.heap.size w9 v) from
              fun u v g ⟨_, hb⟩ hge hg => by
                have hbv := hb.grown hg hb.size (fun j hj => by cases hj; exact hge)
                exact ⟨(hbv.cell (p := ⟨w.heap.size, 0, none⟩) hpl9).trans HP8.out, hbv⟩)
            have HZS := Lib.hid (show ∀ u : World, (u.cell? ⟨w.heap.size, 0, none⟩ = some (.slice A L.length cap) ∧ Below w9.heap.size w9 u) → w9.heap.size ≤ u.heap.size from fun u hu => hu.2.size)
            have HCL := Lib.hid (show ∀ u : World, (u.cell? ⟨w.heap.size, 0, none⟩ = some (.slice A L.length cap) ∧ Below w9.heap.size w9 u) → Calls Tryd.prog 9 #[.slice B sn sc] u fun e w' => ∃ A' c', e = .returned (.slice A' sn c') ∧ Below u.heap.size u w' ∧ Row w' w9.heap.size 2 (.slice A' sn c') sn (itCells (L.drop r)) from
              fun u hu => (clonePart_any (L.drop r) sn B sc u HDL.out (by omega) (HDR.out.below hu.2)).mono fun _ _ ⟨A', c', he, hb, hrow⟩ => ⟨A', c', he, hb, hrow.mono hu.2.size⟩)
            obtain ⟨i0, hi0, hz0, hz1, hz2⟩ := info_parts infoItem
            have HI0 := Lib.hid hi0
            clear hto hfrom hdr hdl htl hsn hsc hi0 hr
            have hto := HHT.out
            have hfrom := HHF.out
            go_wp2_with fail
            go_region_held3 (fun u => (u.cell? ⟨w.heap.size, 0, none⟩ = some (.slice A L.length cap) ∧ Below w9.heap.size w9 u))
              (first | exact HS0.out | assumption | (refine HKEEP.out _ _ ?_ (by assumption); first | exact HS0.out | assumption | exact ⟨by assumption, by assumption⟩))
              (first
                | (go_at_call 9; refine (HCL.out _ (by first | exact HS0.out | assumption)).mono ?_; rintro e wc ⟨A5, c5, rfl, hbc, hrc⟩; obtain ⟨g5, rfl, hg5⟩ := row_some hrc hs0)
                | (refine step_of_list rfl ?_; refine wpList_append_items rfl (.tmp 65) (.tmp 68) 22 rfl 28 Tryd.underlying22 i0 _ HI0.out hz0 hz1 hz2 rfl w9.heap.size sn (L.drop r) HDL.out ⟨g5, 0, none⟩ c5 rfl hrc (HZS.out _ (by assumption)) (by omega) (L.take r) r HTL.out A cap rfl (HTK.out _ (by assumption)) (by omega) ?_; intro vm wm hrm hgm; have HCm := HCG.out _ _ g5 (by assumption) hg5 hgm.out; refine then1 ?_))
            have HWM := Lib.hid HCm.2
            have hrow := hrm.out
            rw [HSR.out] at hrow
            obtain ⟨gm, cm, rfl, hgm0, -⟩ := hrow.shape (by omega)
            have HROW := Lib.hid hrow
            have hvm : sn + r = L.length := HSR.out
            clear hrm hgm HCm hrow hrc hbc hto hfrom HCL HCG HKEEP HS0 HTK HZS HHT HHF
            go_wp2_with fail
            refine (reverse_any (L.drop r ++ L.take r) w9.heap.size gm L.length cm _ (by rw [List.length_append, HDL.out, HTL.out, HSR.out]) (by omega) HROW.out).mono ?_
            rintro e w10 ⟨rfl, hrow2, hg2⟩
            have HW10 := Lib.hid (HWM.out.grown hg2 HWM.out.size (fun j hj => by cases hj; exact hgm0))
            have hpm : (L.drop r ++ L.take r).reverse.Perm L := (List.reverse_perm _).trans (List.perm_append_comm.trans (by rw [List.take_append_drop]))
            have hord := made_order (by omega) HPD.out hpm
            have hlen : ((L.drop r ++ L.take r).reverse).length = L.length := hpm.length_eq
            have HMD := Lib.hid (show Calls Tryd.prog 6 #[.slice (some ⟨gm, 0, none⟩) L.length cm] w10 fun e w' => ∃ A' c', e = .returned (.slice A' (madeOf L).length c') ∧ Below w10.heap.size w10 w' ∧ Itms w' A' (madeOf L) ∧ (madeOf L).length ≤ c' by
              have h := made_any (L.drop r ++ L.take r).reverse (some ⟨gm, 0, none⟩) cm w10 hrow2.items (by omega)
              rw [hlen, hord] at h
              exact h)
            clear hrow2 hg2 hpm hord hlen hvm HROW HWM
            go_wp2_with fail
            refine HMD.out.mono ?_
            rintro e w11 ⟨MB, mcb, rfl, hb11, hmb, hmcb⟩
            have HW11 := Lib.hid (HW10.out.trans (hb11.mono HW10.out.size))
            have HMB := Lib.hid hmb
            have HMCB := Lib.hid hmcb
            clear hb11 hmb hmcb HMD
            have hu : rootAns (madeOf L) = (rootOf (madeOf L), 0) := by unfold rootAns; rw [if_pos HRM.out]
            generalize rootOf (madeOf L) = u at hu
            have HU := Lib.hid hu
            clear hu
            have HK9 := Lib.hid ((HK.out.below HB3.out HK.out.lt).below HB8.out (Nat.lt_of_lt_of_le HK.out.lt HB3.out.size))
            have HA9 := Lib.hid (HMI.out.below HB8.out)
            go_wp2_with fail
            refine (tRoot_is (madeOf L) MA mc u 0 _ (HK9.out.below HW11.out HK9.out.lt) (by omega) HMC.out (HA9.out.below HW11.out) HU.out).mono ?_
            rintro e w12 ⟨rfl, hb12⟩
            have HW12 := Lib.hid (HW11.out.trans (hb12.mono HW11.out.size))
            have HMB12 := Lib.hid (HMB.out.below hb12)
            clear hb12
            rw [show errOf 0 = .nilIface from rfl]
            go_wp2_with fail
            refine (tRoot_is (madeOf L) MB mcb u 0 _ (HK9.out.below HW12.out HK9.out.lt) (by omega) HMCB.out HMB12.out HU.out).mono ?_
            rintro e w13 ⟨rfl, hb13⟩
            have HW13 := Lib.hid (HW12.out.trans (hb13.mono HW12.out.size))
            have HMB13 := Lib.hid (HMB12.out.below hb13)
            clear hb13
            rw [show errOf 0 = .nilIface from rfl]
            go_wp2_with fail
            refine (equalItems_same (madeOf L) MA MB mc mcb _ (by omega) (HA9.out.below HW13.out) HMB13.out).mono ?_
            rintro e w14 ⟨rfl, qd, rfl⟩
            have HWZ := Lib.hid (below_drew HW13.out qd)
            generalize w13.drewN qd = wz at HWZ
            have HBZ := Lib.hid (HB8.out.trans (HWZ.out.mono HB8.out.size))
            have hpz := (HWZ.out.cell (p := ⟨w.heap.size, 0, none⟩) hpl9).trans HP8.out
            clear HWZ HMB13 HMB12 HMB HW13 HW12 HW11 HW10 HA9 HK9 HU
            go_wp2
            have HIB := Lib.hid (show Holds (wz.alloc (.cells #[.int .i64 ((L.length : Int) - 1)] 3)) wz.heap.size 1 (fun _ => .int .i64 ((L.length : Int) - 1)) 3 from Holds.new wz 1 (fun _ => .int .i64 ((L.length : Int) - 1)) 3)
            have HBI := Lib.hid (HBZ.out.alloc HBZ.out.size (.cells #[.int .i64 ((L.length : Int) - 1)] 3))
            go_loopw [16] (fun p wr => ∃ (ib : Nat) (z : Int), p = .pointer (some ⟨ib, 0, none⟩) ∧ w3.heap.size ≤ ib ∧ Holds wr ib 1 (fun _ => .int .i64 z) 3 ∧ -1 ≤ z ∧ z < (L.length : Int) ∧ Below w3.heap.size w3 wr) (fun p wr => cellInt p wr)
            case atStart => exact ⟨_, _, rfl, HBZ.out.size, HIB.out, by omega, by omega, HBI.out⟩
            case round =>
              clear HIB HBI
              obtain ⟨ib, z, rfl, hib, hh, hz1, hz2, hb⟩ := hrel
              have HB := Lib.hid hb
              have HH := Lib.hid hh
              have hpr := (hb.cell (block_lt_of_cell HP3.out)).trans HP3.out
              have HPR := Lib.hid hpr
              have hic := hh.cell 0 (by omega)
              have hif := hh.free 0
              clear hb hh
              by_cases hz : 0 ≤ z
              · obtain ⟨k, rfl⟩ : ∃ k : Nat, z = (k : Int) := ⟨z.toNat, by omega⟩
                have hlt : k < L.length := by omega
                have hmk := (HM.out.below HB3.out).below HB.out
                have HMK := Lib.hid hmk
                have hfrom := it_from A L.length cap (k + 1) (by omega)
                rw [show ((k + 1 : Nat) : Int) = (k : Int) + 1 by omega] at hfrom
                have hdr := hmk.drop (cap := cap) (r := k + 1) HCAP.out
                have hdl : (L.drop (k + 1)).length = L.length - (k + 1) := List.length_drop
                generalize partAt A cap (k + 1) = B at hfrom hdr
                generalize L.length - (k + 1) = sn at hfrom hdl
                generalize cap - (k + 1) = sc at hfrom
                have HDR := Lib.hid hdr
                have HDL := Lib.hid hdl
                have HKL := Lib.hid (fun h1 h2 hn => kept_last (L := L) (k := k) hl40 hlt h1 h2 hn)
                have HOC := Lib.hid (show Calls Tryd.prog 13 #[.slice B sn sc, .func (.func 14) #[] #[.pointer (some ⟨w.heap.size, 0, none⟩), .pointer (some ⟨ib, 0, none⟩)]] wr fun e w' => e = .returned (.bool ((L.drop (k + 1)).any (againI (itAt L k)))) ∧ Below wr.heap.size wr w' by
                  have h := orderHas_any L (L.drop (k + 1)) A B cap sc k w.heap.size ib wr hlt (by omega) (by rw [List.length_drop]; omega) hmk hdr hpr hic
                  rwa [hdl] at h)
                obtain ⟨a, rfl, hal, c0, c1⟩ := hmk.at_ hlt
                have d2 : wr.cell? ⟨(a.add (k * 2)).block, (a.add (k * 2)).off + 1, none⟩ = some (.string (itAt L k).2) := c1
                have hki : (k : Int) < (L.length : Int) := by omega
                clear hmk hdr hdl
                generalize hy : itAt L k = y at c0 c1 d2 HKL HOC
                have HY := Lib.hid hy
                clear hy
                by_cases h1 : y.1.size = 16
                · have h1i : ((y.1.size : Int) != 16) = false := by simp; omega
                  by_cases h2 : y.2.size = 16
                  · have h2i : ((y.2.size : Int) != 16) = false := by simp; omega
                    obtain ⟨q, hq⟩ : ∃ q, (L.drop (k + 1)).any (againI y) = q := ⟨_, rfl⟩
                    rw [hq] at HOC
                    have HQQ := Lib.hid (fun hn => HKL.out h1 h2 (hq.trans hn))
                    clear hq HKL h1 h2
                    go_wp2_with fail
                    refine HOC.out.mono ?_
                    rintro e w9 ⟨rfl, hb9⟩
                    have HB9 := Lib.hid (HB.out.trans (hb9.mono HB.out.size))
                    have hh9 := HH.out.below hb9 HH.out.lt
                    have hic9 := hh9.cell 0 (by omega)
                    have HH9 := Lib.hid hh9
                    have hp9 := (hb9.cell (block_lt_of_cell HPR.out)).trans HPR.out
                    have hal9 : a.block < wr.heap.size := hal
                    have c09 := (hb9.cell (by rw [block_add]; exact hal9)).trans c0
                    have d29 := (hb9.cell (p := ⟨(a.add (k * 2)).block, (a.add (k * 2)).off + 1, none⟩) (by show (a.add (k * 2)).block < _; rw [block_add]; exact hal9)).trans d2
                    clear hb9 hh9 c0 c1 d2 hic hif hpr hfrom
                    cases q with
                    | true =>
                      have n9 : Holds (w9.alloc (.cells #[.int .i64 (k : Int)] 3)) w9.heap.size 1 (fun _ => .int .i64 (k : Int)) 3 := Holds.new w9 1 (fun _ => .int .i64 (k : Int)) 3
                      have m0 := n9.cell 0 (by omega)
                      have m1 := n9.free 0
                      have HN9 := Lib.hid n9
                      have HA9 := Lib.hid (HB9.out.alloc HB9.out.size (.cells #[.int .i64 (k : Int)] 3))
                      clear n9
                      go_wp2
                      refine ⟨⟨w9.heap.size, (k : Int) - 1, rfl, HB9.out.size, Holds.new w9 1 (fun _ => .int .i64 ((k : Int) - 1)) 3, by omega, by omega, HB9.out.alloc HB9.out.size _⟩, ?_⟩
                      have e1 : cellInt (.pointer (some ⟨w9.heap.size, 0, none⟩)) (w9.alloc (.cells #[.int .i64 ((k : Int) - 1)] 3)) = ((k : Int) - 1 + 1).toNat := cellInt_of (Holds.new w9 1 (fun _ => .int .i64 ((k : Int) - 1)) 3)
                      rw [e1, cellInt_of HH.out]
                      omega
                    | false =>
                      have HMEM := Lib.hid (HQQ.out rfl)
                      go_wp2_with fail
                      refine (containsItem_in (madeOf L) MA mc y _ (by omega) ((HMI.out.below HB9.out)) HMEM.out).mono ?_
                      rintro e w10 ⟨rfl, hb10⟩
                      have HB10 := Lib.hid (HB9.out.trans (hb10.mono HB9.out.size))
                      have hic10 := (HH9.out.below hb10 HH9.out.lt).cell 0 (by omega)
                      clear hb10 c09 d29 hp9 hic9
                      have n9 : Holds (w10.alloc (.cells #[.int .i64 (k : Int)] 3)) w10.heap.size 1 (fun _ => .int .i64 (k : Int)) 3 := Holds.new w10 1 (fun _ => .int .i64 (k : Int)) 3
                      have m0 := n9.cell 0 (by omega)
                      have m1 := n9.free 0
                      have HN9 := Lib.hid n9
                      have HA9 := Lib.hid (HB10.out.alloc HB10.out.size (.cells #[.int .i64 (k : Int)] 3))
                      clear n9
                      go_wp2
                      refine ⟨⟨w10.heap.size, (k : Int) - 1, rfl, HB10.out.size, Holds.new w10 1 (fun _ => .int .i64 ((k : Int) - 1)) 3, by omega, by omega, HB10.out.alloc HB10.out.size _⟩, ?_⟩
                      have e1 : cellInt (.pointer (some ⟨w10.heap.size, 0, none⟩)) (w10.alloc (.cells #[.int .i64 ((k : Int) - 1)] 3)) = ((k : Int) - 1 + 1).toNat := cellInt_of (Holds.new w10 1 (fun _ => .int .i64 ((k : Int) - 1)) 3)
                      rw [e1, cellInt_of HH.out]
                      omega
                  · have h2i : ((y.2.size : Int) != 16) = true := by simp; omega
                    clear HOC HKL h1 h2
                    have n9 : Holds (wr.alloc (.cells #[.int .i64 (k : Int)] 3)) wr.heap.size 1 (fun _ => .int .i64 (k : Int)) 3 := Holds.new wr 1 (fun _ => .int .i64 (k : Int)) 3
                    have m0 := n9.cell 0 (by omega)
                    have m1 := n9.free 0
                    have HN9 := Lib.hid n9
                    have HA9 := Lib.hid (HB.out.alloc HB.out.size (.cells #[.int .i64 (k : Int)] 3))
                    clear n9
                    go_wp2
                    refine ⟨⟨wr.heap.size, (k : Int) - 1, rfl, HB.out.size, Holds.new wr 1 (fun _ => .int .i64 ((k : Int) - 1)) 3, by omega, by omega, HB.out.alloc HB.out.size _⟩, ?_⟩
                    have e1 : cellInt (.pointer (some ⟨wr.heap.size, 0, none⟩)) (wr.alloc (.cells #[.int .i64 ((k : Int) - 1)] 3)) = ((k : Int) - 1 + 1).toNat := cellInt_of (Holds.new wr 1 (fun _ => .int .i64 ((k : Int) - 1)) 3)
                    rw [e1, cellInt_of HH.out]
                    omega
                · have h1i : ((y.1.size : Int) != 16) = true := by simp; omega
                  clear HOC HKL h1
                  have n9 : Holds (wr.alloc (.cells #[.int .i64 (k : Int)] 3)) wr.heap.size 1 (fun _ => .int .i64 (k : Int)) 3 := Holds.new wr 1 (fun _ => .int .i64 (k : Int)) 3
                  have m0 := n9.cell 0 (by omega)
                  have m1 := n9.free 0
                  have HN9 := Lib.hid n9
                  have HA9 := Lib.hid (HB.out.alloc HB.out.size (.cells #[.int .i64 (k : Int)] 3))
                  clear n9
                  go_wp2
                  refine ⟨⟨wr.heap.size, (k : Int) - 1, rfl, HB.out.size, Holds.new wr 1 (fun _ => .int .i64 ((k : Int) - 1)) 3, by omega, by omega, HB.out.alloc HB.out.size _⟩, ?_⟩
                  have e1 : cellInt (.pointer (some ⟨wr.heap.size, 0, none⟩)) (wr.alloc (.cells #[.int .i64 ((k : Int) - 1)] 3)) = ((k : Int) - 1 + 1).toNat := cellInt_of (Holds.new wr 1 (fun _ => .int .i64 ((k : Int) - 1)) 3)
                  rw [e1, cellInt_of HH.out]
                  omega
              · have hzi : ¬ (0 : Int) ≤ z := hz
                go_wp2
                go_ret
                exact ⟨rfl, HB3.out.trans (HB.out.mono HB3.out.size)⟩
          · have hn0i : ¬ (0 : Int) < (L.length : Int) := by omega
            generalize w8 = wz at HB8 HP8 hp8
            have HBZ := HB8
            go_wp2
            have HIB := Lib.hid (show Holds (wz.alloc (.cells #[.int .i64 ((L.length : Int) - 1)] 3)) wz.heap.size 1 (fun _ => .int .i64 ((L.length : Int) - 1)) 3 from Holds.new wz 1 (fun _ => .int .i64 ((L.length : Int) - 1)) 3)
            have HBI := Lib.hid (HBZ.out.alloc HBZ.out.size (.cells #[.int .i64 ((L.length : Int) - 1)] 3))
            go_loopw [16] (fun p wr => ∃ (ib : Nat) (z : Int), p = .pointer (some ⟨ib, 0, none⟩) ∧ w3.heap.size ≤ ib ∧ Holds wr ib 1 (fun _ => .int .i64 z) 3 ∧ -1 ≤ z ∧ z < (L.length : Int) ∧ Below w3.heap.size w3 wr) (fun p wr => cellInt p wr)
            case atStart => exact ⟨_, _, rfl, HBZ.out.size, HIB.out, by omega, by omega, HBI.out⟩
            case round =>
              clear HIB HBI
              obtain ⟨ib, z, rfl, hib, hh, hz1, hz2, hb⟩ := hrel
              have HB := Lib.hid hb
              have HH := Lib.hid hh
              have hpr := (hb.cell (block_lt_of_cell HP3.out)).trans HP3.out
              have HPR := Lib.hid hpr
              have hic := hh.cell 0 (by omega)
              have hif := hh.free 0
              clear hb hh
              by_cases hz : 0 ≤ z
              · exact absurd hz (by omega)
              · have hzi : ¬ (0 : Int) ≤ z := hz
                go_wp2
                go_ret
                exact ⟨rfl, HB3.out.trans (HB.out.mono HB3.out.size)⟩
end Go.Proofs.YtpoibacokdjplaaDoor
