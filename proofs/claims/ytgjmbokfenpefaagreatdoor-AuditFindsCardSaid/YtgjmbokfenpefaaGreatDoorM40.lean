/- Parts of the proof, one behind the other: New, RCl, RAu, RDirP, RDirV. -/
import Derived.WalkKit
import Derived.Lib.Hide
import Derived.WalkLawsBesides
import Derived.Deep.QuietTactic
import Derived.Deep.WholeRow
import Derived.ArgAppend
import Derived.Laws.AppendOwnNone
import Derived.Laws.CopyRow
import Derived.Deep.RegionLaw
import Derived.Laws.BytesString
import Derived.Laws.IdiomStrings
import Derived.Laws.BitsAllLaws
import Derived.Test.YtgjmbokfenpefaaGreatDoorProg
import Derived.Outline
import Derived.BigQuiet
import Derived.Laws.CopyOwn
import Derived.RegionTactic
import Derived.StillTail
import Derived.Deep.Quiet
import Derived.StringKeys
import Derived.Maps.Own
import Derived.Maps.Views
import Derived.Maps.OwnSet
import Derived.Maps.OwnOps
import Derived.Maps.RangeWalk
import Derived.Sort.KeysCollected
import Derived.Deep.RegionHeld3
import Derived.Deep.DeepCutAuto
import Derived.Laws.ResultCell
import Derived.IntWalk
import Derived.Sort.Walk0
import Derived.Tactics
import Derived.Orders
import Derived.LaidEql
import Derived.Stop.Asserts
import Derived.RowKitTokens
import Derived.OrdersHeld
import Derived.Sort.LotA
import Derived.Lib.SortBridge
import Derived.Shelf.Strings.Repeat
import Derived.KernelRfl
import Derived.Laws.StructEq
import Derived.WideKeyEntry
import Derived.Test.YtgjmbokfenpefaaGreatDoorM1
import Derived.Test.YtgjmbokfenpefaaGreatDoorM2
import Derived.Test.YtgjmbokfenpefaaGreatDoorM3
import Derived.Test.YtgjmbokfenpefaaGreatDoorM4
import Derived.Test.YtgjmbokfenpefaaGreatDoorM5
import Derived.Test.YtgjmbokfenpefaaGreatDoorM6
import Derived.Test.YtgjmbokfenpefaaGreatDoorM7
import Derived.Test.YtgjmbokfenpefaaGreatDoorM8
import Derived.Test.YtgjmbokfenpefaaGreatDoorM15
import Derived.Test.YtgjmbokfenpefaaGreatDoorM16
import Derived.Test.YtgjmbokfenpefaaGreatDoorM33
import Derived.Test.YtgjmbokfenpefaaGreatDoorM34
import Derived.Test.YtgjmbokfenpefaaGreatDoorM35
import Derived.Test.YtgjmbokfenpefaaGreatDoorM36
import Derived.Test.YtgjmbokfenpefaaGreatDoorM37
import Derived.Test.YtgjmbokfenpefaaGreatDoorM38
import Derived.Test.YtgjmbokfenpefaaGreatDoorM39
/- The document's numbers of rounds: New. -/
namespace Go.Proofs.YtgjmbokfenpefaaGreatDoor
open Go.RowKit

theorem zeroR (w : World) : (zeroValue 97).run Tryz.prog w = .ok (.agg (arr 72 fun _ => .int .u32 0)) w := by kernel_rfl
set_option maxRecDepth 100000 in
theorem new_any (w : World) :
    Calls Tryz.prog 7 #[] w fun e w' => ∃ b, e = .returned (.pointer (some ⟨b, 0, none⟩)) ∧ w.heap.size ≤ b ∧ Below w.heap.size w w' ∧ Holds w' b 72 refCells 97 := by
  go_enter Tryz.func7, Tryz.ntmps7
  have hzR := zeroR
  go_wp2_with (go_at_call 30; refine (primes_any _).mono ?_; rintro e w1 ⟨v1, rfl, hb1, hr1⟩; obtain ⟨q, cap, rfl⟩ := hr1.any; have HB1 := Lib.hid hb1; have HR1 := Lib.hid hr1; clear hb1 hr1)
  clear hzR
  go_loopw [8] (fun i wr => ∃ n : Nat, n ≤ 64 ∧ i = .int .i64 (n : Int) ∧ NewRel w.heap.size w wr (.slice q 64 cap) n) (fun i _ => 64 - (intOf i).toNat)
  case atStart =>
    refine ⟨0, by omega, rfl, ?_, ?_, ?_⟩
    · exact ((Below.refl _ _).alloc (Nat.le_refl _) _).trans (HB1.out.mono (by simp))
    · refine ((Holds.new w 72 (fun _ => .int .u32 0) 97).below HB1.out (by simp)).congr fun j hj => ?_
      unfold partR; split <;> rw [if_neg (by omega)]
    · have h := HR1.out; simpa using h
  case round =>
    obtain ⟨n, hn, rfl, hr⟩ := hrel
    have HR := Lib.hid hr
    clear hr
    by_cases hlt : n < 64
    · obtain ⟨g, cap', hv, hg1, hg2, _, hcell, _⟩ := HR.out.row.shape (by omega)
      injection hv with e1 e2 e3
      subst e1
      have hc := hcell n _ (i64s_get (pl 310) n (by rw [pl_310]; exact hlt))
      have hp := pl_pos 310 n (by rw [pl_310]; exact hlt)
      have hkv := k_val n hlt
      have hlow := h_val n
      clear hcell e3
      generalize (pl 310).getD n 0 = p at hc hp hkv hlow
      have HK := Lib.hid hkv
      have HL := Lib.hid hlow
      have hN : w.heap.size < wr.heap.size := HR.out.own.lt
      clear hkv hlow
      by_cases h8 : n < 8
      · go_wp2
        refine wp_region_head_tail (fun w' => ∃ z : Later wr.heap.size wr, w' = z.at') 8 (by kernel_rfl) (by kernel_rfl) ⟨⟨wr.drew, (Below.refl _ _).drew⟩, rfl⟩ ?_
        simp only [List.take_succ_cons, List.take_zero, List.drop_succ_cons, List.drop_zero]
        repeat (first | go_big_quiet_step ((go_at_call 31; refine later_of (root_any p 3 _ (by decide)))) | quiet_step ((go_at_call 31; refine later_of (root_any p 3 _ (by decide)))))
        refine wpQuiet_nil ?_
        rintro w4 ⟨⟨w4, hb4⟩, rfl⟩
        have hown4 := HR.out.own.below hb4 hN
        have hcell4 := hown4.cell (8 + n) (by omega)
        have hfree4 := hown4.free (8 + n)
        rw [show partR n (8 + n) = .int .u32 0 by unfold partR; rw [if_neg (by omega), if_neg (by omega)]] at hcell4
        have HOWN4 := Lib.hid hown4
        have HB4 := Lib.hid hb4
        clear hown4 hb4
        go_wp2
        have hN5 : w.heap.size < (w4.setCell ⟨w.heap.size, 8 + n, none⟩ (.int .u32 ((rootL p 3 : Nat) : Int))).heap.size := by have := HB4.out.size; simp [World.setCell]; omega
        have hown5 := HOWN4.out.set (8 + n) (.int .u32 ((rootL p 3 : Nat) : Int))
        have hb5 : Below w.heap.size w (w4.setCell ⟨w.heap.size, 8 + n, none⟩ (.int .u32 ((rootL p 3 : Nat) : Int))) := (HR.out.below.trans (HB4.out.mono (Nat.le_of_lt hN))).setCell (Nat.le_refl _) _
        have hrow5 : Row (w4.setCell ⟨w.heap.size, 8 + n, none⟩ (.int .u32 ((rootL p 3 : Nat) : Int))) (w.heap.size + 1) 1 (.slice (some ⟨g, 0, none⟩) 64 cap) 64 (i64s (pl 310)) := (HR.out.row.belowAll HB4.out).setOther (HR.out.row.fresh (Nat.lt_succ_self _)) _
        have HOWN5 := Lib.hid hown5
        have HB5 := Lib.hid hb5
        have HROW5 := Lib.hid hrow5
        clear hown5 hb5 hrow5 hcell4 hfree4
        generalize hw5 : w4.setCell ⟨w.heap.size, 8 + n, none⟩ (.int .u32 ((rootL p 3 : Nat) : Int)) = w5 at HOWN5 HB5 HROW5 hN5
        clear hw5
        refine wp_region_head_tail (fun w' => ∃ z : Later w5.heap.size w5, w' = z.at') 8 (by kernel_rfl) (by kernel_rfl) ⟨⟨w5.drew, (Below.refl _ _).drew⟩, rfl⟩ ?_
        simp only [List.take_succ_cons, List.take_zero, List.drop_succ_cons, List.drop_zero]
        repeat (first | go_big_quiet_step ((go_at_call 31; refine later_of (root_any p 2 _ (by decide)))) | quiet_step ((go_at_call 31; refine later_of (root_any p 2 _ (by decide)))))
        refine wpQuiet_nil ?_
        rintro w6 ⟨⟨w6, hb6⟩, rfl⟩
        have hown6 := HOWN5.out.below hb6 hN5
        have hcell6 := hown6.cell n (by omega)
        have hfree6 := hown6.free n
        rw [show upd (partR n) (8 + n) (.int .u32 ((rootL p 3 : Nat) : Int)) n = .int .u32 0 by unfold upd partR; rw [if_neg (by omega), if_pos (by omega), if_neg (by omega)]] at hcell6
        have HOWN6 := Lib.hid hown6
        have HB6 := Lib.hid hb6
        clear hown6 hb6
        go_wp2
        go_roundw
        case rel =>
          refine ⟨n + 1, by omega, by go_num, ?_, ?_, ?_⟩
          · exact (HB5.out.trans (HB6.out.mono (Nat.le_of_lt hN5))).setCell (Nat.le_refl _) _
          · refine (HOWN6.out.set n _).congr fun j hj => ?_
            rw [HK.out, HL.out h8]
            unfold upd partR
            by_cases hj8 : j < 8
            · rw [if_pos hj8, if_pos hj8]
              by_cases hjn : j = n
              · subst hjn; rw [if_pos rfl, if_pos (by omega)]
              · rw [if_neg hjn, if_neg (by omega)]
                by_cases hjl : j < n
                · rw [if_pos hjl, if_pos (by omega)]
                · rw [if_neg hjl, if_neg (by omega)]
            · rw [if_neg (by omega), if_neg hj8, if_neg hj8]
              by_cases hjn : j = 8 + n
              · subst hjn; rw [if_pos rfl, if_pos (by omega), show 8 + n - 8 = n by omega]
              · rw [if_neg hjn]
                by_cases hjl : j - 8 < n
                · rw [if_pos hjl, if_pos (by omega)]
                · rw [if_neg hjl, if_neg (by omega)]
          · exact (HROW5.out.belowAll HB6.out).setOther (HROW5.out.fresh (Nat.lt_succ_self _)) _
        case measure => simp [intOf]; omega
      · go_wp2
        refine wp_region_head_tail (fun w' => ∃ z : Later wr.heap.size wr, w' = z.at') 8 (by kernel_rfl) (by kernel_rfl) ⟨⟨wr.drew, (Below.refl _ _).drew⟩, rfl⟩ ?_
        simp only [List.take_succ_cons, List.take_zero, List.drop_succ_cons, List.drop_zero]
        repeat (first | go_big_quiet_step ((go_at_call 31; refine later_of (root_any p 3 _ (by decide)))) | quiet_step ((go_at_call 31; refine later_of (root_any p 3 _ (by decide)))))
        refine wpQuiet_nil ?_
        rintro w4 ⟨⟨w4, hb4⟩, rfl⟩
        have hown4 := HR.out.own.below hb4 hN
        have hcell4 := hown4.cell (8 + n) (by omega)
        have hfree4 := hown4.free (8 + n)
        rw [show partR n (8 + n) = .int .u32 0 by unfold partR; rw [if_neg (by omega), if_neg (by omega)]] at hcell4
        have HOWN4 := Lib.hid hown4
        have HB4 := Lib.hid hb4
        clear hown4 hb4
        go_wp2
        go_roundw
        case rel =>
          refine ⟨n + 1, by omega, by go_num, ?_, ?_, ?_⟩
          · exact (HR.out.below.trans (HB4.out.mono (Nat.le_of_lt hN))).setCell (Nat.le_refl _) _
          · refine (HOWN4.out.set (8 + n) _).congr fun j hj => ?_
            rw [HK.out]
            unfold upd partR
            by_cases hj8 : j < 8
            · rw [if_neg (by omega), if_pos hj8, if_pos hj8, if_pos (by omega), if_pos (by omega)]
            · rw [if_neg hj8, if_neg hj8]
              by_cases hjn : j = 8 + n
              · subst hjn; rw [if_pos rfl, if_pos (by omega), show 8 + n - 8 = n by omega]
              · rw [if_neg hjn]
                by_cases hjl : j - 8 < n
                · rw [if_pos hjl, if_pos (by omega)]
                · rw [if_neg hjl, if_neg (by omega)]
          · exact (HR.out.row.belowAll HB4.out).setOther (HR.out.row.fresh (Nat.lt_succ_self _)) _
        case measure => simp [intOf]; omega
    · have h64 : n = 64 := by omega
      have H64 := Lib.hid h64
      clear h64
      go_wp2
      go_ret
      refine ⟨w.heap.size, rfl, Nat.le_refl _, HR.out.below, HR.out.own.congr fun j hj => ?_⟩
      have := H64.out
      unfold partR refCells
      by_cases hj8 : j < 8
      · rw [if_pos hj8, if_pos hj8, if_pos (by omega)]
      · rw [if_neg hj8, if_neg hj8, if_pos (by omega)]
end Go.Proofs.YtgjmbokfenpefaaGreatDoor
/- The document's client in memory: NewClient, See. -/
namespace Go.Proofs.YtgjmbokfenpefaaGreatDoor
open Go.RowKit

theorem refNewClient_t (rb : Nat) (pub : ByteArray) (w : World) (h16 : pub.size = 16) :
    Calls Tryz.prog 41 #[.pointer (some ⟨rb, 0, none⟩), .string pub] w fun e w' => ∃ p : Nat, e = .returned (.tuple #[.pointer (some ⟨p, 0, none⟩), .int .i64 0]) ∧ Below w.heap.size w w' ∧ RCl (fun k => k = p) w' p rb ⟨pub, []⟩ ∧ w.heap.size ≤ p := by
  have HB := Lib.hid (alloc_below w (.cells #[.pointer (some ⟨rb, 0, none⟩), .string pub, .slice none 0 0] 132))
  have HN := Lib.hid (show Holds (w.alloc (.cells #[.pointer (some ⟨rb, 0, none⟩), .string pub, .slice none 0 0] 132)) w.heap.size 3 (clF rb pub (.slice none 0 0)) 132 from Holds.new w 3 (clF rb pub (.slice none 0 0)) 132)
  go_enter Tryz.func41, Tryz.ntmps41
  go_wp2_with fail
  refine (isMark_t pub _ h16).mono ?_
  rintro e w1 ⟨rfl, rfl⟩
  go_wp2
  refine bodyPost_ret (results_tmp2 rfl _ _ _) rfl ?_
  refine ⟨w1.heap.size, rfl, HB.out, ⟨.slice none 0 0, HN.out, ?_, rfl, (fun k hk => by cases hk), fun k hk => ?_⟩, Nat.le_refl _⟩
  · exact Row.nil _ _ _
  · subst hk; exact HN.out.lt
end Go.Proofs.YtgjmbokfenpefaaGreatDoor
/- The document's auditor in memory: NewAuditor. -/
namespace Go.Proofs.YtgjmbokfenpefaaGreatDoor
open Go.RowKit

theorem refNewAuditor_t (rb : Nat) (pub : ByteArray) (w : World) (h16 : pub.size = 16) :
    Calls Tryz.prog 10 #[.pointer (some ⟨rb, 0, none⟩), .string pub] w fun e w' => ∃ (p : Nat) (F : Nat → Prop), e = .returned (.tuple #[.pointer (some ⟨p, 0, none⟩), .int .i64 0]) ∧ Below w.heap.size w w' ∧ RAu F w' p rb ⟨pub, []⟩ ∧ ∀ k, F k → w.heap.size ≤ k := by
  go_enter Tryz.func10, Tryz.ntmps10
  go_wp2_with fail
  refine (isMark_t pub _ h16).mono ?_
  rintro e w2 ⟨rfl, rfl⟩
  have hmm := @run_makeMap Tryz.prog
  go_wp2
  clear hmm
  refine bodyPost_ret (results_tmp2 rfl _ _ _) rfl ?_
  obtain ⟨w3, h3⟩ : ∃ w3, w2.alloc (.map #[] 0) = w3 := ⟨_, rfl⟩
  rw [h3]
  have z3 : w3.heap.size = w2.heap.size + 1 := by rw [← h3]; simp
  have b3 : Below w2.heap.size w2 w3 := by rw [← h3]; exact alloc_below _ _
  have m3 : MapIs kC w3 w2.heap.size [] := by rw [← h3]; exact MapIs.made kC w2
  clear h3
  have b4 := alloc_below w3 (.cells #[.pointer (some ⟨rb, 0, none⟩), .string pub, .map (some w2.heap.size)] 110)
  refine ⟨w3.heap.size, fun k => w2.heap.size ≤ k ∧ k < w3.heap.size + 1, (by rw [z3]; rfl), b3.trans (b4.mono (by omega)), ⟨w2.heap.size, [], fun _ _ => False, ?_⟩, fun k hk => hk.1⟩
  exact {
    own := Holds.new w3 3 (auF rb w2.heap.size pub) 110
    map := m3.block (b4.block _ (by omega))
    all := fun s => rfl
    cl := fun s c hc => by simp [look_nil] at hc
    inF := fun s k _ hk => hk.elim
    apart := fun s t k _ _ _ hk => hk.elim
    fp := ⟨by omega, by omega⟩
    fb := ⟨by omega, by omega⟩
    pb := by omega
    lt := fun k hk => by rw [World.size_alloc]; exact hk.2 }
end Go.Proofs.YtgjmbokfenpefaaGreatDoor
/- The document's Put. -/
namespace Go.Proofs.YtgjmbokfenpefaaGreatDoor
open Go.RowKit Go.Maps

def truesOf (S : List ByteArray) : List (ByteArray × Bool) := S.map fun s => (s, true)
theorem truesOf_keys (S : List ByteArray) : keysL (truesOf S) = S := by
  unfold keysL truesOf
  rw [List.map_map]
  exact List.map_id S
theorem truesOf_snoc (S : List ByteArray) (s : ByteArray) : truesOf (S ++ [s]) = truesOf S ++ [(s, true)] := by simp [truesOf]
theorem truesOf_look (S : List ByteArray) (t : ByteArray) (x : Bool) : look (truesOf S) t = some x → x = true := fun h => by
  have := look_mem h
  unfold truesOf at this
  obtain ⟨s, _, e⟩ := List.mem_map.1 this
  cases e; rfl
theorem truesOf_same {S T : List ByteArray} (h : S.Perm T) : SameSay (truesOf S) (truesOf T) := fun t => by
  have e : ∀ {S : List ByteArray}, (look (truesOf S) t).isSome = true ↔ t ∈ S := fun {S} => by rw [look_isSome, truesOf_keys]
  cases h1 : look (truesOf S) t with
  | none =>
    symm
    rw [look_none, truesOf_keys]
    rw [look_none, truesOf_keys] at h1
    exact fun h' => h1 (h.mem_iff.2 h')
  | some x =>
    have hx := truesOf_look S t x h1
    have hm : (look (truesOf T) t).isSome = true := e.2 (h.mem_iff.1 (e.1 (by rw [h1]; rfl)))
    obtain ⟨y, hy⟩ := Option.isSome_iff_exists.1 hm
    rw [hy, hx, truesOf_look T t y hy]
theorem ups_len_le {α : Type} (L : List (ByteArray × α)) (s : ByteArray) (x : α) : (ups L s x).length ≤ L.length + 1 := by rw [ups_length]; split <;> omega
theorem upsAll_len {α : Type} (L P : List (ByteArray × α)) : (upsAll L P).length ≤ L.length + P.length := by
  induction P generalizing L with
  | nil => exact Nat.le_refl _
  | cons p P ih =>
    have h1 := ih (ups L p.1 p.2)
    have h2 := ups_len_le L p.1 p.2
    rw [show upsAll L (p :: P) = upsAll (ups L p.1 p.2) P from rfl, List.length_cons]
    omega
theorem allNames_eq (d : Dst) (name : ByteArray) : allNames d name = upsAll (upsAll [(name, true)] (truesOf (keysL d.vals))) (truesOf (keysL d.wait)) := by
  unfold allNames truesOf keysL
  rw [List.map_map, List.map_map]
  rfl
set_option maxRecDepth 100000 in
set_option maxHeartbeats 1000000 in
theorem refDirPut_is (F : Nat → Prop) (p rb : Nat) (d d' : Dst) (name value : ByteArray) (n : Int) (w : World) (hd : RDir F w p rb d) (hv : d.vals.length ≤ 100000) (hw : d.wait.length ≤ 100000) (hn : name.size ≤ 1000000) (h : putAns d name value = (d', n)) :
    Calls Tryz.prog 35 #[.pointer (some ⟨p, 0, none⟩), .string name, .string value] w fun e w' => e = .returned (.int .i64 n) ∧ Off F w w' ∧ RDir F w' p rb d' := by
  obtain ⟨bb, g, m1, m2, m3, v, M, hd⟩ := hd
  have HD := Lib.hid hd
  have HN := Lib.hid hn
  clear hd hn
  unfold putAns at h
  by_cases hok : nameOk name.data.toList = true
  · rw [if_pos hok] at h
    by_cases hval : 1 ≤ value.size ∧ value.size ≤ 24
    · rw [if_pos hval] at h
      have HOK := Lib.hid hok
      have HVAL := Lib.hid (show (decide ((1 : Int) ≤ (value.size : Int)) && decide ((value.size : Int) ≤ 24)) = true by rw [decide_eq_true (by omega), decide_eq_true (by omega)]; rfl)
      have HVS := Lib.hid (show value.size ≤ 24 from hval.2)
      clear hok hval
      have HH := Lib.hid h
      clear h
      have hmm := @run_makeMap Tryz.prog
      obtain ⟨w1, hins, hm1, hg1⟩ := (MapIs.made kB w).put (by simp) HN.out (y := true) trivial
      have hins' : (Instr.mapUpdate 166 (.map (some w.heap.size)) (.string name) (.bool true)).run Tryz.prog (w.alloc (.map #[] 0)) = .ok () w1 := hins
      have HB1 := Lib.hid (show Below w.heap.size w w1 from (alloc_below w (.map #[] 0)).grown hg1 (by simp) (fun k hk => by cases hk; exact Nat.le_refl _))
      have HM1 := Lib.hid hm1
      have c4 : w1.cell? ⟨p, 4, none⟩ = some (.map (some m2)) := (HB1.out.cell (HD.out.own.lt)).trans (HD.out.own.cell 4 (by omega))
      have HMV := Lib.hid (HD.out.vals.block (HB1.out.block _ HD.out.vals.lt))
      clear hins hm1 hg1
      go_enter Tryz.func35, Tryz.ntmps35
      go_wp2_with fail
      refine (refName_any name _ HN.out).mono ?_
      rintro e w ⟨rfl, rfl⟩
      rw [HOK.out]
      go_wp2_with fail
      refine (in_any _ _ _ _).mono ?_
      rintro e w ⟨rfl, rfl⟩
      rw [HVAL.out]
      go_wp2_with (first | (at_range; refine wpList_mapRange kS rfl (.tmp 23) rfl m2 d.vals rfl HMV.out ?_; intro w2 hrg2 hg2 hs2))
      go_frame
      have HNE := Lib.hid (show m2 < w.heap.size from HD.out.vals.lt)
      have HB2 := Lib.hid (HB1.out.trans ((grownBy.below hg2.out (Nat.le_refl _) (fun k hk => by cases hk)).mono HB1.out.size))
      have HM2 := Lib.hid (HM1.out.block ((hg2.out.block _ HM1.out.lt (by simp))))
      have HZ1 := Lib.hid (show w.heap.size < w1.heap.size from HM1.out.lt)
      clear hins' hmm c4 hs2 hg2
      generalize w1.heap.size = r1 at hrg2 HZ1
      clear HMV HM1 HB1
      go_loopw [8] (fun _ wr => ∃ S cnt, Rng kS wr m2 r1 d.vals S cnt ∧ MapIs kB wr w.heap.size (upsAll [(name, true)] (truesOf S)) ∧ Below w.heap.size w wr) (fun _ wr => wr.rangeLeft m2 r1)
      case atStart => exact ⟨[], _, hrg2.out, HM2.out, HB2.out⟩
      case round =>
        clear hrg2 HM2 HB2
        obtain ⟨S, cnt, hr, hm, hb⟩ := hrel
        have HR := Lib.hid hr
        have HM := Lib.hid hm
        have HB := Lib.hid hb
        clear hr hm hb
        go_wp2_with (first | (at_next; refine wpList_mapNext kS rfl (.tmp 24) rfl m2 r1 d.vals S cnt rfl HR.out ?_ ?_))
        · intro hperm
          have hmA := SameSay.map (upsAll_same (by rw [truesOf_keys]; exact HR.out.came.1) (by rw [truesOf_keys]; exact HR.out.keys) (truesOf_same hperm)) (upsAll_nodup (by simp [keysL]) _) HM.out
          obtain ⟨V, hV⟩ : ∃ V, upsAll [(name, true)] (truesOf (keysL d.vals)) = V := ⟨_, rfl⟩
          rw [hV] at hmA
          have HVE := Lib.hid hV
          have HLV := Lib.hid (show V.length ≤ 200000 by
            rw [← hV]
            have h1 := upsAll_len [(name, true)] (truesOf (keysL d.vals))
            rw [show (truesOf (keysL d.vals)).length = d.vals.length by simp [truesOf, keysL], List.length_singleton] at h1
            omega)
          have HMA := Lib.hid hmA
          clear hmA hV HM hperm
          have HMW := Lib.hid (HD.out.wait.block (HB.out.block _ HD.out.wait.lt))
          have c3 : wr.cell? ⟨p, 3, none⟩ = some (.map (some m1)) := (HB.out.cell (HD.out.own.lt)).trans (HD.out.own.cell 3 (by omega))
          go_wp2_with (first | (at_range; refine wpList_mapRange kS rfl (.tmp 34) rfl m1 d.wait rfl HMW.out ?_; intro w5 hrg5 hg5 hs5))
          go_frame
          have HN1 := Lib.hid (show m1 < w.heap.size from HD.out.wait.lt)
          have HB5 := Lib.hid (HB.out.trans ((grownBy.below hg5.out (Nat.le_refl _) (fun k hk => by cases hk)).mono HB.out.size))
          have HM5 := Lib.hid (HMA.out.block ((hg5.out.block _ HMA.out.lt (by simp))))
          have HZ5 := Lib.hid (show w.heap.size < wr.heap.size from HMA.out.lt)
          clear c3 hs5 hg5
          generalize wr.heap.size = r2 at hrg5 HZ5
          clear HMW HMA HB HR
          go_loopw [9] (fun _ wr => ∃ S cnt, Rng kS wr m1 r2 d.wait S cnt ∧ MapIs kB wr w.heap.size (upsAll V (truesOf S)) ∧ Below w.heap.size w wr) (fun _ wr => wr.rangeLeft m1 r2)
          case atStart => exact ⟨[], _, hrg5.out, HM5.out, HB5.out⟩
          case round =>
            clear hrg5 HM5 HB5
            obtain ⟨S, cnt, hr, hm, hb⟩ := hrel
            have HR := Lib.hid hr
            have HM := Lib.hid hm
            have HB := Lib.hid hb
            clear hr hm hb
            go_wp2_with (first | (at_next; refine wpList_mapNext kS rfl (.tmp 35) rfl m1 r2 d.wait S cnt rfl HR.out ?_ ?_))
            · intro hperm
              have hmA := SameSay.map (upsAll_same (by rw [truesOf_keys]; exact HR.out.came.1) (by rw [truesOf_keys]; exact HR.out.keys) (truesOf_same hperm)) (upsAll_nodup (by rw [← HVE.out]; exact upsAll_nodup (by simp [keysL]) _) _) HM.out
              rw [← HVE.out, ← allNames_eq] at hmA
              have HMA := Lib.hid hmA
              clear hmA HM hperm
              have HDR := Lib.hid (HD.out.same (same_of_below HB.out HD.out.lt))
              obtain ⟨q, hq⟩ : ∃ q : Nat, (allNames d name).length = q := ⟨_, rfl⟩
              have hlen : ∀ ty, (Builtin.len_ #[166] ty #[.map (some w.heap.size)]).run Tryz.prog wr = .ok (.int .i64 (q : Int)) wr := fun ty => by rw [← hq]; exact HMA.out.len ty
              have hh := HH.out
              rw [hq] at hh
              clear hq HMA HVE HLV HR
              by_cases hq : q ≤ 60
              · rw [if_pos hq] at hh
                obtain ⟨rfl, rfl⟩ := Prod.mk.inj hh
                have hqi : ¬ (60 : Int) < (q : Int) := by omega
                have c3 : wr.cell? ⟨p, 3, none⟩ = some (.map (some m1)) := HDR.out.own.cell 3 (by omega)
                clear hh hq
                go_wp2_with (first | (at_mapUpdate; refine wpList_mapPut kS rfl (.tmp 48) (.tmp 49) (.tmp 50) rfl m1 d.wait rfl HDR.out.wait (by omega) name HN.out rfl value (show value.size ≤ maxLen by have := HVS.out; unfold maxLen; omega) rfl ?_; intro w7 hm7 hg7))
                go_wp2
                go_ret
                refine ⟨rfl, (Off.of_below HB.out).trans (Off.of_grown hg7.out (F := F) (fun k hk => by cases hk; exact HD.out.f1)) (fun _ _ h => h), bb, g, m1, m2, m3, v, M, HDR.out.put1 hg7.out hm7.out⟩
              · rw [if_neg hq] at hh
                obtain ⟨rfl, rfl⟩ := Prod.mk.inj hh
                have hqi : (60 : Int) < (q : Int) := by omega
                clear hh hq
                go_wp2
                go_ret
                exact ⟨rfl, Off.of_below HB.out, bb, g, m1, m2, m3, v, M, HDR.out⟩
            · intro s x w3 cnt' hlk hns hgood HR3 HC3 HG3 HS3 hen
              have hen' : (Instr.entry (.pointer (some ⟨r2, 0, none⟩))).run Tryz.prog w3 = .ok (.tuple #[.string s, .string x]) w3 := hen
              have HSS := Lib.hid (show s.size ≤ 1000000 from HR.out.short _ (look_mem hlk))
              have HM3 := Lib.hid (HM.out.block (HG3.out.block _ HM.out.lt (by intro e; cases e; exact absurd HZ5.out (Nat.lt_irrefl _))))
              have HL := Lib.hid (show (upsAll V (truesOf S)).length ≤ 1000000 by
                have h1 := upsAll_len V (truesOf S)
                have h2 := HR.out.room
                have h3 := HLV.out
                rw [show (truesOf S).length = S.length from List.length_map _] at h1
                omega)
              clear hen hgood HS3
              go_wp2_with (first | (at_mapUpdate; refine wpList_mapPut kB rfl (.tmp 40) (.tmp 41) (.const (.bool true)) rfl w.heap.size (upsAll V (truesOf S)) rfl HM3.out HL.out s HSS.out rfl true trivial rfl ?_; intro w4 hm4 hg4))
              have HR4 := Lib.hid (HR3.out.block (hg4.out.block _ HR3.out.map.lt (by intro e; cases e; exact absurd HN1.out (Nat.lt_irrefl _))) (hg4.out.block _ HR3.out.lt (by intro e; cases e; exact absurd HZ5.out (Nat.lt_irrefl _))))
              go_frame
              go_roundw
              case rel =>
                refine ⟨S ++ [s], cnt', HR4.out, ?_, ?_⟩
                · rw [truesOf_snoc, upsAll_snoc]; exact hm4.out
                · exact (HB.out.grown HG3.out HB.out.size (fun k hk => by cases hk; exact Nat.le_of_lt HZ5.out)).grown hg4.out (Nat.le_trans HB.out.size HG3.out.size) (fun k hk => by cases hk; exact Nat.le_refl _)
              case measure => rw [HR4.out.left_eq, HR.out.left_eq]; exact HC3.out
        · intro s x w3 cnt' hlk hns hgood HR3 HC3 HG3 HS3 hen
          have hen' : (Instr.entry (.pointer (some ⟨r1, 0, none⟩))).run Tryz.prog w3 = .ok (.tuple #[.string s, .string x]) w3 := hen
          have HSS := Lib.hid (show s.size ≤ 1000000 from HR.out.short _ (look_mem hlk))
          have HM3 := Lib.hid (HM.out.block (HG3.out.block _ HM.out.lt (by intro e; cases e; have := HZ1.out; omega)))
          have HL := Lib.hid (show (upsAll [(name, true)] (truesOf S)).length ≤ 1000000 by
            have h1 := upsAll_len [(name, true)] (truesOf S)
            have h2 := HR.out.room
            rw [show (truesOf S).length = S.length from List.length_map _, List.length_singleton] at h1
            omega)
          clear hen hgood HS3
          go_wp2_with (first | (at_mapUpdate; go_loud (refine wpList_mapPut kB rfl (.tmp 29) (.tmp 30) (.const (.bool true)) rfl w.heap.size (upsAll [(name, true)] (truesOf S)) rfl HM3.out HL.out s HSS.out rfl true trivial rfl ?_; intro w4 hm4 hg4)))
          have HR4 := Lib.hid (HR3.out.block (hg4.out.block _ HR3.out.map.lt (by intro e; cases e; exact absurd HNE.out (Nat.lt_irrefl _))) (hg4.out.block _ HR3.out.lt (by intro e; cases e; exact absurd HZ1.out (Nat.lt_irrefl _))))
          go_frame
          go_roundw
          case rel =>
            refine ⟨S ++ [s], cnt', HR4.out, ?_, ?_⟩
            · rw [truesOf_snoc, upsAll_snoc]; exact hm4.out
            · exact (HB.out.grown HG3.out HB.out.size (fun k hk => by cases hk; exact Nat.le_of_lt HZ1.out)).grown hg4.out (Nat.le_trans HB.out.size HG3.out.size) (fun k hk => by cases hk; exact Nat.le_refl _)
          case measure => rw [HR4.out.left_eq, HR.out.left_eq]; exact HC3.out
    · rw [if_neg hval] at h
      obtain ⟨rfl, rfl⟩ := Prod.mk.inj h
      have HOK := Lib.hid hok
      have HVAL := Lib.hid (show (decide ((1 : Int) ≤ (value.size : Int)) && decide ((value.size : Int) ≤ 24)) = false by
        rw [Bool.and_eq_false_iff, decide_eq_false_iff_not, decide_eq_false_iff_not]
        omega)
      clear hok hval h
      go_enter Tryz.func35, Tryz.ntmps35
      go_wp2_with fail
      refine (refName_any name _ HN.out).mono ?_
      rintro e w ⟨rfl, rfl⟩
      rw [HOK.out]
      go_wp2_with fail
      refine (in_any _ _ _ _).mono ?_
      rintro e w ⟨rfl, rfl⟩
      rw [HVAL.out]
      go_wp2
      go_ret
      exact ⟨rfl, Off.refl _ _, bb, g, m1, m2, m3, v, M, HD.out⟩
  · rw [if_neg hok] at h
    obtain ⟨rfl, rfl⟩ := Prod.mk.inj h
    have HOK := Lib.hid (show nameOk name.data.toList = false by simpa using hok)
    clear hok h
    go_enter Tryz.func35, Tryz.ntmps35
    go_wp2_with fail
    refine (refName_any name _ HN.out).mono ?_
    rintro e w ⟨rfl, rfl⟩
    rw [HOK.out]
    go_wp2
    go_ret
    exact ⟨rfl, Off.refl _ _, bb, g, m1, m2, m3, v, M, HD.out⟩
end Go.Proofs.YtgjmbokfenpefaaGreatDoor
/- For the document's Publish: what a directory's memory becomes, and heads put behind one another. -/
namespace Go.Proofs.YtgjmbokfenpefaaGreatDoor
open Go.RowKit Go.Maps

def valsFor (d : Dst) (S : List ByteArray) : List (ByteArray × ByteArray) := S.map fun s => (s, (look d.wait s).getD ⟨#[]⟩)
def sinceFor (n : Int) (S : List ByteArray) : List (ByteArray × Int) := S.map fun s => (s, n)
theorem valsFor_snoc (d : Dst) (S : List ByteArray) (s : ByteArray) : valsFor d (S ++ [s]) = valsFor d S ++ [(s, (look d.wait s).getD ⟨#[]⟩)] := by simp [valsFor]
theorem sinceFor_snoc (n : Int) (S : List ByteArray) (s : ByteArray) : sinceFor n (S ++ [s]) = sinceFor n S ++ [(s, n)] := by simp [sinceFor]
theorem valsFor_keys (d : Dst) (S : List ByteArray) : keysL (valsFor d S) = S := by
  unfold keysL valsFor
  rw [List.map_map]
  exact List.map_id S
theorem sinceFor_keys (n : Int) (S : List ByteArray) : keysL (sinceFor n S) = S := by
  unfold keysL sinceFor
  rw [List.map_map]
  exact List.map_id S
theorem sameSay_of_mem {α : Type} {P Q : List (ByteArray × α)} (_hP : (keysL P).Nodup) (hQ : (keysL Q).Nodup) (h : P.Perm Q) : SameSay P Q := fun s => by
  cases e : look P s with
  | none =>
    symm
    rw [look_none] at e ⊢
    exact fun hm => e ((h.map Prod.fst).mem_iff.2 hm)
  | some x => symm; exact look_of_mem hQ (h.mem_iff.1 (look_mem e))
theorem valsFor_perm {d : Dst} {S : List ByteArray} (hk : (keysL d.wait).Nodup) (h : S.Perm (keysL d.wait)) : (valsFor d S).Perm d.wait := by
  refine (h.map _).trans ?_
  unfold keysL
  rw [List.map_map]
  refine List.Perm.of_eq ((List.map_congr_left fun p hp => ?_).trans (List.map_id d.wait))
  show (p.1, (look d.wait p.1).getD ⟨#[]⟩) = p
  rw [look_of_mem hk (s := p.1) (x := p.2) hp]; rfl
theorem sinceFor_perm {d : Dst} {n : Int} {S : List ByteArray} (h : S.Perm (keysL d.wait)) : (sinceFor n S).Perm (d.wait.map fun p => (p.1, n)) := by
  refine (h.map _).trans ?_
  unfold keysL
  rw [List.map_map]
  exact List.Perm.refl _
/-- The directory when those of S have been taken over. -/
def midDst (d : Dst) (n : Int) (S : List ByteArray) : Dst := { d with vals := upsAll d.vals (valsFor d S), since := upsAll d.since (sinceFor n S) }
/-- What two of the maps say may be written otherwise. -/
theorem RDirM.resay {F : Nat → Prop} {w : World} {p rb : Nat} {d : Dst} {bb g m1 m2 m3 : Nat} {v : Value} {M : List SgM} (h : RDirM F w p rb d bb g m1 m2 m3 v M) {V : List (ByteArray × ByteArray)} {S : List (ByteArray × Int)} (hv : SameSay d.vals V) (hV : (keysL V).Nodup) (hs : SameSay d.since S) (hS : (keysL S).Nodup) :
    RDirM F w p rb { d with vals := V, since := S } bb g m1 m2 m3 v M :=
  { own := h.own, box := h.box, wait := h.wait, vals := hv.map hV h.vals, since := hs.map hS h.since, row := h.row, eps := h.eps, sgs := h.sgs, fp := h.fp, fb := h.fb, fg := h.fg, f1 := h.f1, f2 := h.f2, f3 := h.f3, fv := h.fv, n12 := h.n12, n13 := h.n13, n23 := h.n23, lb := h.lb, lg := h.lg, out := h.out, lt := h.lt }
theorem midDst_settled {F : Nat → Prop} {w : World} {p rb : Nat} {d : Dst} {bb g m1 m2 m3 : Nat} {v : Value} {M : List SgM} {S : List ByteArray} {n : Int} (h : RDirM F w p rb (midDst d n S) bb g m1 m2 m3 v M) (hp : S.Perm (keysL d.wait)) (hS : S.Nodup) (hn : n = (d.eps.length : Int) + 1) (hv : (keysL d.vals).Nodup) (hs : (keysL d.since).Nodup) :
    RDirM F w p rb { settled d with wait := d.wait } bb g m1 m2 m3 v M := by
  have hk : (keysL d.wait).Nodup := hp.nodup_iff.1 hS
  have hk2 : (keysL (d.wait.map fun p => (p.1, n))).Nodup := by
    have e : keysL (d.wait.map fun p => (p.1, n)) = keysL d.wait := by unfold keysL; rw [List.map_map]; rfl
    rw [e]; exact hk
  subst hn
  exact h.resay (V := upsAll d.vals d.wait) (S := upsAll d.since (d.wait.map fun p => (p.1, (d.eps.length : Int) + 1)))
    (upsAll_same (by rw [valsFor_keys]; exact hS) hk (sameSay_of_mem (by rw [valsFor_keys]; exact hS) hk (valsFor_perm hk hp))) (upsAll_nodup hv _)
    (upsAll_same (by rw [sinceFor_keys]; exact hS) hk2 (sameSay_of_mem (by rw [sinceFor_keys]; exact hS) hk2 (sinceFor_perm hp))) (upsAll_nodup hs _)
end Go.Proofs.YtgjmbokfenpefaaGreatDoor
