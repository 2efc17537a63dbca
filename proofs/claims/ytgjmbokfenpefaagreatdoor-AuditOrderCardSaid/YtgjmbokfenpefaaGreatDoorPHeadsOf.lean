/- The program's auditor: headsOf, parting. -/
import Derived.WalkKit
import Derived.Lib.Hide
import Derived.WalkLawsBesides
import Derived.Deep.QuietTactic
import Derived.Deep.WholeRow
import Derived.ArgAppend
import Derived.Laws.AppendOwnNone
import Derived.Laws.CopyRow
import Derived.Deep.RegionLaw
import Derived.Laws.BytesString
import Derived.Laws.IdiomStrings
import Derived.Test.YtgjmbokfenpefaaGreatDoorProg
import Derived.StringKeys
import Derived.Maps.Own
import Derived.Maps.Views
import Derived.Maps.OwnSet
import Derived.Maps.OwnOps
import Derived.Maps.RangeWalk
import Derived.Sort.KeysCollected
import Derived.Laws.BitsAllLaws
import Derived.Outline
import Derived.BigQuiet
import Derived.Laws.CopyOwn
import Derived.RegionTactic
import Derived.StillTail
import Derived.Deep.Quiet
import Derived.Deep.RegionHeld3
import Derived.Deep.DeepCutAuto
import Derived.Laws.ResultCell
import Derived.IntWalk
import Derived.Sort.Walk0
import Derived.Tactics
import Derived.Orders
import Derived.LaidEql
import Derived.Stop.Asserts
import Derived.RowKitTokens
import Derived.OrdersHeld
import Derived.Sort.LotA
import Derived.Lib.SortBridge
import Derived.Deep.AppendSrc
import Derived.Shelf.SlSortFuncK.WholeK
import Derived.Ground.GgsProg
import Derived.Shelf.GgSortFunc.Tiny
import Derived.Shelf.Strings.Repeat
import Derived.KernelRfl
import Derived.Laws.StructEq
import Derived.WideKeyEntry
import Derived.Deep.CutRange
import Derived.Test.YtgjmbokfenpefaaGreatDoorM1
import Derived.Test.YtgjmbokfenpefaaGreatDoorM2
import Derived.Test.YtgjmbokfenpefaaGreatDoorM3
import Derived.Test.YtgjmbokfenpefaaGreatDoorM4
import Derived.Test.YtgjmbokfenpefaaGreatDoorM5
import Derived.Test.YtgjmbokfenpefaaGreatDoorM6
import Derived.Test.YtgjmbokfenpefaaGreatDoorM7
import Derived.Test.YtgjmbokfenpefaaGreatDoorM8
import Derived.Test.YtgjmbokfenpefaaGreatDoorM9
import Derived.Test.YtgjmbokfenpefaaGreatDoorM12
import Derived.Test.YtgjmbokfenpefaaGreatDoorPAu
import Derived.Test.YtgjmbokfenpefaaGreatDoorForkU
import Derived.Test.YtgjmbokfenpefaaGreatDoorPLast
namespace Go.Proofs.YtgjmbokfenpefaaGreatDoor
open Go.RowKit

theorem infoHds : (Tryz.prog.info? 129).map (fun i => (i.zero, i.size, i.bytes)) = some (some (.slice none 0 0), 1, 24) := by kernel_rfl
/-- Lists of heads lie at B. -/
def Hss (w : World) (B : Option Addr) (LL : List (List Hd)) : Prop := ∀ (i : Nat) L, LL[i]? = some L → ∃ b A c, B = some b ∧ b.block < w.heap.size ∧ w.cell? (b.add i) = some (.slice A L.length c) ∧ Hds w A L
theorem Hss.below {w w' : World} {B : Option Addr} {LL : List (List Hd)} (h : Hss w B LL) (hb : Below w.heap.size w w') : Hss w' B LL := fun i L hi => by
  obtain ⟨b, A, c, e, hl, h1, h2⟩ := h i L hi
  exact ⟨b, A, c, e, Nat.lt_of_lt_of_le hl hb.size, (hb.cell (by rw [block_add]; exact hl)).trans h1, h2.below hb⟩
theorem Hds.grown {w w' : World} {A : Option Addr} {L : List Hd} {ob : Option Nat} (h : Hds w A L) (hg : w.grownBy w' ob) (hn : ∀ a, A = some a → 0 < L.length → ob ≠ some a.block) : Hds w' A L := fun i x hi => by
  obtain ⟨a, ha, hl, c0, c1, c2⟩ := h i x hi
  have hb : w'.heap[a.block]? = w.heap[a.block]? := hg.block _ hl (fun e => hn a ha (by have := (List.getElem?_eq_some_iff.1 hi).1; omega) e.symm)
  exact ⟨a, ha, Nat.lt_of_lt_of_le hl hg.size, (World.cell?_of_block (w := w) (a := a.add (i * 3)) (by rw [block_add]; exact hb)).trans c0, (World.cell?_of_block (w := w) (a := (a.add (i * 3)).add 1) (by rw [block_add, block_add]; exact hb)).trans c1, (World.cell?_of_block (w := w) (a := (a.add (i * 3)).add 2) (by rw [block_add, block_add]; exact hb)).trans c2⟩
/-- Lists of heads, while they are gathered. -/
structure HsRel (w wr : World) (LL : List (List Hd)) (k : Nat) (v : Value) (xs : List Value) : Prop where
  below : Below w.heap.size w wr
  row : Row wr w.heap.size 1 v k xs
  len : xs.length = k
  at_ : ∀ i L, i < k → LL[i]? = some L → ∃ A c, xs[i]? = some (.slice A L.length c) ∧ Hds wr A L ∧ ∀ g, A = some g → 0 < L.length → v.ownBlock ≠ some g.block
theorem HsRel.start (w : World) (LL : List (List Hd)) : HsRel w w LL 0 (.slice none 0 0) [] := ⟨Below.refl _ _, Row.nil _ _ _, rfl, fun i L h => by omega⟩
theorem HsRel.more {w wr w1 w3 : World} {LL : List (List Hd)} {k : Nat} {v v' : Value} {xs : List Value} {L : List Hd} {A : Option Addr} {c : Nat} (h : HsRel w wr LL k v xs) (hL : LL[k]? = some L) (hb : Below wr.heap.size wr w1) (hh : Hds w1 A L)
    (hn : ∀ a, A = some a → 0 < L.length → wr.heap.size ≤ a.block) (hrow : Row w3 w.heap.size 1 v' (k + 1) (xs ++ [.slice A L.length c])) (hg : w1.grownBy w3 v.ownBlock) (hm : Moved w1 v v') : HsRel w w3 LL (k + 1) v' (xs ++ [.slice A L.length c]) := by
  have hv : ∀ g, v.ownBlock = some g → w.heap.size ≤ g ∧ g < wr.heap.size := h.row.lt
  have hnew : ∀ g : Addr, g.block < w1.heap.size → v.ownBlock ≠ some g.block → v'.ownBlock ≠ some g.block := fun g hgl hne e => by
    rcases hm with h1 | h1
    · rw [h1] at e; exact hne e
    · have := h1 _ e; omega
  refine ⟨(h.below.trans (hb.mono h.below.size)).grown hg (Nat.le_trans h.below.size hb.size) (fun c hc => (hv c hc).1), hrow, by rw [List.length_append, h.len]; rfl, fun i M hi hM => ?_⟩
  by_cases hik : i < k
  · obtain ⟨B, d, h1, h2, h3⟩ := h.at_ i M hik hM
    have h4 : Hds w1 B M := h2.below hb
    exact ⟨B, d, by rw [List.getElem?_append_left (by rw [h.len]; exact hik)]; exact h1, h4.grown hg h3, fun g hg1 hl => hnew g (h4.lt g hg1 hl) (h3 g hg1 hl)⟩
  · obtain rfl : i = k := by omega
    rw [hL] at hM
    obtain rfl := Option.some.inj hM
    have h5 : ∀ a, A = some a → 0 < L.length → v.ownBlock ≠ some a.block := fun a ha hl e => by have h1 := (hv _ e).2; have h2 := hn a ha hl; omega
    exact ⟨A, c, by rw [List.getElem?_append_right (by rw [h.len]; exact Nat.le_refl _), h.len, Nat.sub_self]; rfl, hh.grown hg h5, fun g hg1 hl => hnew g (hh.lt g hg1 hl) (h5 g hg1 hl)⟩
theorem HsRel.done {w wr : World} {LL : List (List Hd)} {k : Nat} {A : Option Addr} {c : Nat} {xs : List Value} (h : HsRel w wr LL k (.slice A k c) xs) (hk : k = LL.length) : Hss wr A LL := fun i L hi => by
  have hil : i < k := by rw [hk]; exact (List.getElem?_eq_some_iff.1 hi).1
  obtain ⟨B, d, h1, h2, _⟩ := h.at_ i L hil hi
  obtain ⟨g, cap, e, _, hgl, _, hc, _⟩ := h.row.shape (by omega)
  injection e with e _ _
  refine ⟨⟨g, 0, none⟩, B, d, e, hgl, ?_, h2⟩
  rw [add_none, Nat.zero_add]
  exact hc i _ h1

set_option maxHeartbeats 1000000 in
set_option maxRecDepth 100000 in
theorem pHeadsOf_is (F : Nat → Prop) (p : Nat) (a : Au) (b : Nat) (W : List (ByteArray × Option Nat)) (G : ByteArray → Nat → Prop) (N : Nat) (S : List ByteArray) (A : Option Addr) (cap : Nat) (w : World) (ha : PAuM F w p a b W G) (hok : AuOk a N) (hN : N ≤ 1000) (hs : Strs w A S) (hall : ∀ s ∈ S, (look a.who s).isSome = true) (hsl : S.length ≤ 100000) :
    Calls Tryz.prog 46 #[.pointer (some ⟨p, 0, none⟩), .slice A S.length cap] w fun e w' => ∃ B cap', e = .returned (.slice B S.length cap') ∧ Below w.heap.size w w' ∧ Hss w' B (S.map fun s => (auCl a s).heads) := by
  have HA := Lib.hid ha
  have HOK := Lib.hid hok
  have HN := Lib.hid hN
  have HST := Lib.hid hs
  have HAL := Lib.hid hall
  have HSL := Lib.hid hsl
  clear ha hok hN hs hall hsl
  obtain ⟨LL, hLL⟩ : ∃ LL, (S.map fun s => (auCl a s).heads) = LL := ⟨_, rfl⟩
  rw [hLL]
  have HLL := Lib.hid hLL
  clear hLL
  go_enter Tryz.func46, Tryz.ntmps46
  go_wp2
  go_loopw [5, 10] (fun l i wr => ∃ (k : Nat) (xs : List Value), k ≤ S.length ∧ i = .int .i64 (k : Int) ∧ Hid (HsRel w wr LL k l xs)) (fun _ i _ => S.length - (intOf i).toNat)
  case atStart => exact ⟨0, [], by omega, rfl, Lib.hid (HsRel.start w LL)⟩
  case round =>
    obtain ⟨k, xs, hk, rfl, HR⟩ := hrel
    have hsl := HSL.out
    by_cases hlt : k < S.length
    · obtain ⟨s, hsk⟩ : ∃ s, S[k]? = some s := ⟨_, List.getElem?_eq_getElem hlt⟩
      have HB := Lib.hid HR.out.below
      obtain ⟨c, hc⟩ := Option.isSome_iff_exists.1 (HAL.out s (List.mem_of_getElem? hsk))
      obtain ⟨q, hq, hcl⟩ := HA.out.cl s c hc
      have HCL := Lib.hid (hcl.below HB.out)
      have HSS := Lib.hid (show s.size ≤ 1000000 from HOK.out.short (s, c) (look_mem hc))
      have HLK := Lib.hid (show LL[k]? = some c.heads from by rw [← HLL.out, List.getElem?_map, hsk]; show some (auCl a s).heads = _; unfold auCl; rw [hc]; rfl)
      have HHL := Lib.hid (show c.heads.length ≤ 1000 from by have := (HOK.out.mine s c hc).2; have := HN.out; omega)
      have g1 : wr.cell? ⟨p, 1, none⟩ = some (.map (some b)) := (HB.out.cell (p := ⟨p, 1, none⟩) HA.out.own.lt).trans (HA.out.own.cell 1 (by omega))
      have hlk : (Instr.lookup 113 (.map (some b)) (.string s) false).run Tryz.prog wr = .ok (.pointer (some ⟨q, 0, none⟩)) wr := by
        have := (HA.out.map.block (HB.out.block _ HA.out.map.lt)).look1 HSS.out
        rw [hq] at this
        exact this
      obtain ⟨x, rfl, hxl, c0⟩ := (HST.out.below HB.out) k s hsk
      have hki : (k : Int) < (S.length : Int) := by omega
      have hk0 : (0 : Int) ≤ (k : Int) := by omega
      clear hsk hc hq hcl hxl
      go_wp2_with fail
      clear c0 hlk g1
      refine (pHeads_new (G s) q c _ HCL.out (by have := HHL.out; omega)).mono ?_
      rintro e w4 ⟨Ah, ch, rfl, hb4, hh4, hn4⟩
      have HB4 := Lib.hid hb4
      have HH4 := Lib.hid hh4
      have HN4 := Lib.hid hn4
      have HX4 := Lib.hid (HR.out.row.belowAll hb4)
      have HZ4 := Lib.hid (show w.heap.size ≤ w4.heap.size from Nat.le_trans HB.out.size hb4.size)
      clear hb4 hh4 hn4
      go_wp2_with (at_builtin; refine wpList_append_one2 rfl (.tmp 14) (.tmp 22) 137 rfl 129 Tryz.underlying137 _ 24 infoHds rfl (by decide) w.heap.size _ k xs rfl HX4.out HZ4.out (by omega) _ rfl rfl 129 ?_; intro v' w5 hrow5 hg5 hm5)
      have HP := Lib.hid (HR.out.more HLK.out HB4.out HH4.out HN4.out hrow5.out hg5.out hm5.out)
      clear hrow5 hg5 hm5
      go_roundw
      case rel => exact ⟨k + 1, _, by omega, by go_num, HP⟩
      case measure => simp [intOf]; omega
    · obtain rfl : k = S.length := by omega
      clear hlt
      obtain ⟨pv, cv, rfl⟩ := HR.out.row.any
      go_wp2
      go_ret
      exact ⟨pv, cv, rfl, HR.out.below, HR.out.done (by rw [← HLL.out, List.length_map])⟩
set_option maxRecDepth 100000 in
theorem pParting_any (L M : List Hd) (A B : Option Addr) (cap cap' : Nat) (w : World) (hl : L.length ≤ 1000000) (hl' : M.length ≤ 1000000) (ha : Hds w A L) (hb : Hds w B M) (he : EpsOk L) :
    Calls Tryz.prog 47 #[.slice A L.length cap, .slice B M.length cap'] w fun e w' => e = .returned (.int .i64 (partNo L M)) ∧ Below w.heap.size w w' := by
  have HA := Lib.hid ha
  have HE := Lib.hid he
  have HS := Lib.hid (partsAns_spec L M)
  obtain ⟨m, hm1, hm2, hm3⟩ : ∃ m : Nat, m ≤ L.length ∧ m ≤ M.length ∧ Hid (m = min L.length M.length) := ⟨min L.length M.length, by omega, by omega, Lib.hid rfl⟩
  have hmin : min (L.length : Int) (M.length : Int) = (m : Int) := by have := hm3.out; omega
  have HPN := Lib.hid (show partNo L M = if partsAns L M = m then 0 else (partsAns L M : Int) + 1 from by unfold partNo; rw [hm3.out])
  go_enter Tryz.func47, Tryz.ntmps47
  go_wp2_with fail
  refine (pParts_any L M A B cap cap' _ hl hl' ha hb).mono ?_
  rintro e w1 ⟨rfl, hb1⟩
  have HB1 := Lib.hid hb1
  clear ha hb he hb1
  obtain ⟨k, hk⟩ : ∃ k, partsAns L M = k := ⟨_, rfl⟩
  rw [hk] at HS HPN ⊢
  clear hk
  by_cases hkm : k = m
  · have hkm' : ((k : Int) == (m : Int)) = true := by simp [hkm]
    have HPZ := Lib.hid (show partNo L M = 0 from by rw [HPN.out, if_pos hkm])
    clear hkm
    go_wp2
    go_ret
    exact ⟨by rw [HPZ.out]; rfl, HB1.out⟩
  · have hkm' : ((k : Int) == (m : Int)) = false := by simp; omega
    have HPZ := Lib.hid (show partNo L M = (k : Int) + 1 from by rw [HPN.out, if_neg hkm])
    have hkl : k < L.length := by have := HS.out.1; have := HS.out.2.1; have := hm3.out; omega
    obtain ⟨g, rfl, hgl, c0, -, -⟩ := (HA.out.below HB1.out).at_ hkl
    have HEP := Lib.hid (show (hdAt L k).epoch = (k : Int) + 1 from HE.out k _ (by rw [hdAt_of hkl]; exact List.getElem?_eq_getElem hkl))
    have hk0 : (0 : Int) ≤ (k : Int) := by omega
    have hk1 : (k : Int) < (L.length : Int) := by omega
    clear hkm
    go_wp2
    go_ret
    exact ⟨by rw [HPZ.out, ← HEP.out]; rfl, HB1.out⟩
end Go.Proofs.YtgjmbokfenpefaaGreatDoor
