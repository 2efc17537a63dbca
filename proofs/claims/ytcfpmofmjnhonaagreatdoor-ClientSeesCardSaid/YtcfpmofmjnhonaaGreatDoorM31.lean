/- Parts of the proof, one behind the other: ActApp, PCl, PHead, VLeaf, VPlain, ItemEq, ItemHas. -/
import Derived.Test.YtcfpmofmjnhonaaGreatDoorM25
import Derived.Test.YtcfpmofmjnhonaaGreatDoorM27
import Derived.Deep.AppendSrc
import Derived.Test.YtcfpmofmjnhonaaGreatDoorM17
import Derived.Test.YtcfpmofmjnhonaaGreatDoorM18
import Derived.Test.YtcfpmofmjnhonaaGreatDoorM12
import Derived.Test.YtcfpmofmjnhonaaGreatDoorM21
import Derived.IntWalk
import Derived.Test.YtcfpmofmjnhonaaGreatDoorM15
import Derived.Laws.StructEq
import Derived.Test.YtcfpmofmjnhonaaGreatDoorM19
/- append onto a row of acts (a number and two texts each): many, that lie somewhere; slices.Clone of acts. -/
namespace Go.Proofs.YtcfpmofmjnhonaaGreatDoor
open Go.RowKit

theorem Hds.cells {w : World} {A : Option Addr} {L : List Hd} (h : Hds w A L) (hn : 0 < L.length) : ∃ a, A = some a ∧ ∀ j u, (hdCells L)[j]? = some u → w.cell? (a.add j) = some u := by
  obtain ⟨a, ha, _⟩ := h 0 _ (List.getElem?_eq_getElem hn)
  subst ha
  refine ⟨a, rfl, fun j u hj => ?_⟩
  have hjl : j < L.length * 3 := by
    have := (List.getElem?_eq_some_iff.1 hj).1
    rwa [hdCells_length] at this
  have hi : j / 3 < L.length := by omega
  obtain ⟨x, hx⟩ : ∃ x, L[j / 3]? = some x := ⟨_, List.getElem?_eq_getElem hi⟩
  obtain ⟨a', ha', _, c0, c1, c2⟩ := h (j / 3) x hx
  obtain rfl := Option.some.inj ha'
  have hg := hdCells_get L (j / 3) x (j % 3) hx (by omega)
  rw [show j / 3 * 3 + j % 3 = j by omega, hj] at hg
  rcases (show j % 3 = 0 ∨ j % 3 = 1 ∨ j % 3 = 2 by omega) with e | e | e
  · rw [e] at hg
    obtain rfl := Option.some.inj hg
    rw [show a.add j = a.add (j / 3 * 3) by congr 1; omega]; exact c0
  · rw [e] at hg
    obtain rfl := Option.some.inj hg
    rw [show a.add j = (a.add (j / 3 * 3)).add 1 by rw [add_add']; congr 1; omega]; exact c1
  · rw [e] at hg
    obtain rfl := Option.some.inj hg
    rw [show a.add j = (a.add (j / 3 * 3)).add 2 by rw [add_add']; congr 1; omega]; exact c2
theorem hdCells_one' (L : List Hd) : ∀ u ∈ hdCells L, u.oneCell' = true := by
  intro u hu
  unfold hdCells at hu
  simp only [List.mem_flatMap] at hu
  obtain ⟨x, _, hx⟩ := hu
  simp [Hd.cells] at hx
  rcases hx with rfl | rfl | rfl <;> rfl
theorem grown_refl (w : World) (g : Option Nat) : w.grownBy w g := ⟨rfl, rfl, rfl, Nat.le_refl _, fun _ _ _ => rfl⟩
theorem wpList_append_hds {P : Program} {ops : Array Oper} {rest : List Oper} {o : Oper} {a : Act} {w : World} {Q : Exit → Act → World → Prop} (hgd : o.guard = none) (s x : Operand) (T : TypeId)
    (ho : o.op = .call { callee := .builtin .append, args := #[s, x], argTypes := #[T, T] }) (e : TypeId) (ht : P.underlying T = some (.slice e)) (i : TypeInfo) (z : Value) (hi : P.info? e = some i) (hz : i.zero = some z) (hsz : i.size = 3) (hby : i.bytes = 40) (hzc : z.cells.size = 3)
    (base n : Nat) (M : List Hd) (v : Value) (hd : a.eval s = v) (hrow : Row w base 3 v n (hdCells M)) (hbase : base ≤ w.heap.size) (hn : n ≤ 1000000)
    (K : List Hd) (k : Nat) (hk : K.length = k) (A : Option Addr) (cap : Nat) (hs : a.eval x = .slice A k cap) (hm : Hds w A K) (hkl : k ≤ 1000000)
    (hK : ∀ v' w', Hid (Row w' base 3 v' (n + k) (hdCells (M ++ K))) → Hid (w.grownBy w' v.ownBlock) → wpList P ops Q rest (a.put o.dst v') w') : wpList P ops Q (o :: rest) a w := by
  by_cases h0 : k = 0
  · subst h0
    obtain rfl := List.eq_nil_of_length_eq_zero hk
    have hsrc : ∃ news, Src P i.size T (.slice A 0 cap) 0 news w := by
      cases A with
      | none => exact ⟨[], Src.ofNil w ht cap⟩
      | some x => exact ⟨[], Src.ofSlice w ht x 0 cap [] (by simp) (fun j u h => by simp at h) (fun u h => by cases h)⟩
    obtain ⟨news, hsrc⟩ := hsrc
    have hnl : news = [] := List.eq_nil_of_length_eq_zero (by simpa using hsrc.newsLen)
    subst hnl
    have hk1 : ∃ e', P.underlying T = some (.slice e') := ⟨e, ht⟩
    have hst : ∀ a : Addr, (storeCells a []).run P w = .ok () w := fun a => by simp [storeCells]
    have hrun : (Builtin.append_ #[T, T] o.type #[v, .slice A 0 cap]).run P w = .ok v w := by
      rcases hrow.2 with ⟨rfl, rfl⟩ | ⟨g, c0, rfl, _, _, hnc, _⟩
      · simp [Builtin.append_, run_underlying ht, sizeOf, typeInfo, hi, hsrc.len, hsrc.cells]
      · simp [Builtin.append_, run_underlying ht, sizeOf, typeInfo, hi, hsrc.len, hsrc.cells, hst, hnc]
    refine wpList_plain hgd fun K hK' => ?_
    unfold Oper.wp
    simp [execOp, ho, resolve, invoke, builtin, hd, hs, hrun, Result.andThen]
    exact hK' _ _ (hK _ _ (Lib.hid (by rw [List.append_nil]; exact hrow)) (Lib.hid (grown_refl _ _)))
  · obtain ⟨x, rfl, hc⟩ := hm.cells (by omega)
    refine wpList_append_row2 hgd s _ T ho e i z 3 40 ht hi hz hsz hby hzc (by decide) base _ n (hdCells M) hd hrow hbase x k cap (hdCells K) hs (by rw [hdCells_length, hk]) hc (hdCells_one' K) (by unfold maxLen; omega) (by omega) ?_
    intro v' w' hr hg _
    refine hK v' w' (Lib.hid ?_) hg
    rw [hdCells_append]
    exact hr.out
theorem infoActK : (Tryz.prog.info? 92).map (fun i => (i.zero, i.size, i.bytes)) = some (some (.agg #[.int .i64 0, .string ⟨#[]⟩, .string ⟨#[]⟩]), 3, 40) := by kernel_rfl
theorem cloneActs_any (L : List Hd) (A : Option Addr) (cap : Nat) (w : World) (hl : L.length ≤ 1000000) (hm : Hds w A L) :
    Calls Tryz.prog 37 #[.slice A L.length cap] w fun e w' => ∃ v, e = .returned v ∧ Below w.heap.size w w' ∧ Row w' w.heap.size 3 v L.length (hdCells L) := by
  have HM := Lib.hid hm
  clear hm
  cases A with
  | none =>
    obtain rfl : L = [] := by
      match L, HM with
      | [], _ => rfl
      | x :: r, HM =>
        obtain ⟨a, h, _⟩ := HM.out.at_ (show 0 < (x :: r).length by simp)
        cases h
    have hnil : ∀ u : World, (binOp .eql 73 (.slice none 0 cap) (.slice none 0 0)).run Tryz.prog u = .ok (.bool true) u := fun u => by kernel_rfl
    go_enter Tryz.func37, Tryz.ntmps37
    go_wp2
    go_ret
    exact ⟨_, rfl, Below.refl _ _, Row.nil _ _ _⟩
  | some x =>
    have hnil : ∀ u : World, (binOp .eql 73 (.slice (some x) L.length cap) (.slice none 0 0)).run Tryz.prog u = .ok (.bool false) u := fun u => by kernel_rfl
    obtain ⟨i0, hi0, hz0, hz1, hz2⟩ := info_parts infoActK
    have hb0 : Below w.heap.size w (w.alloc (.cells #[] 92)) := alloc_below w _
    go_enter Tryz.func37, Tryz.ntmps37
    go_wp2_with (at_builtin; refine wpList_append_hds rfl (.tmp 5) (.tmp 6) 73 rfl 92 Tryz.underlying73 i0 _ hi0 hz0 hz1 hz2 rfl w.heap.size 0 [] _ rfl ⟨rfl, .inr ⟨w.heap.size, 0, rfl, Nat.le_refl _, by simp, Nat.le_refl 0, (fun j u h => by cases h), fun j h => by omega⟩⟩ (by simp) (by omega) L L.length rfl (some x) cap rfl (HM.out.below hb0) hl ?_; intro v' w7 hr7 hg7)
    go_wp2
    go_ret
    refine ⟨_, rfl, hb0.grown hg7.out hb0.size (fun k e => by cases e; exact Nat.le_refl _), ?_⟩
    have h := hr7.out
    rw [Nat.zero_add, List.nil_append] at h
    exact h
end Go.Proofs.YtcfpmofmjnhonaaGreatDoor
/- The program's client in memory: New, Heads. -/
namespace Go.Proofs.YtcfpmofmjnhonaaGreatDoor
open Go.RowKit

def pcF (pub : ByteArray) (v : Value) : Nat → Value := fun i => if i = 0 then .string pub else v
/-- The program's client at block p. -/
structure PClM (F : Nat → Prop) (w : World) (p : Nat) (c : Cl) (v : Value) : Prop where
  own : Holds w p 2 (pcF c.pub v) 175
  row : Row w (p + 1) 3 v c.heads.length (hdCells c.heads)
  fp : F p
  fv : ∀ k, v.ownBlock = some k → F k
  lt : ∀ k, F k → k < w.heap.size
def PCl (F : Nat → Prop) (w : World) (p : Nat) (c : Cl) : Prop := ∃ v, PClM F w p c v
theorem PClM.same {F : Nat → Prop} {w w' : World} {p : Nat} {c : Cl} {v : Value} (h : PClM F w p c v) (hs : Same F w w') : PClM F w' p c v where
  own := by have := h.own; unfold Holds at this ⊢; rw [hs.block p h.fp]; exact this
  row := h.row.kept (fun k hk => hs.block k (h.fv k hk)) hs.size
  fp := h.fp
  fv := h.fv
  lt k hk := Nat.lt_of_lt_of_le (h.lt k hk) hs.size
theorem PCl.same {F : Nat → Prop} {w w' : World} {p : Nat} {c : Cl} (h : PCl F w p c) (hs : Same F w w') : PCl F w' p c := by
  obtain ⟨v, h⟩ := h
  exact ⟨v, h.same hs⟩
theorem PCl.lt {F : Nat → Prop} {w : World} {p : Nat} {c : Cl} (h : PCl F w p c) : ∀ k, F k → k < w.heap.size := by
  obtain ⟨v, h⟩ := h
  exact h.lt
theorem PCl.below {F : Nat → Prop} {w w' : World} {p : Nat} {c : Cl} (h : PCl F w p c) (hb : Below w.heap.size w w') : PCl F w' p c := h.same (same_of_below hb h.lt)
theorem pNewClient_t (pub : ByteArray) (w : World) (h16 : pub.size = 16) :
    Calls Tryz.prog 32 #[.string pub] w fun e w' => ∃ (p : Nat) (F : Nat → Prop), e = .returned (.tuple #[.pointer (some ⟨p, 0, none⟩), .nilIface]) ∧ Below w.heap.size w w' ∧ PCl F w' p ⟨pub, []⟩ ∧ ∀ k, F k → w.heap.size ≤ k := by
  have HB := Lib.hid (alloc_below w (.cells #[.string pub, .slice none 0 0] 175))
  have HN := Lib.hid (show Holds (w.alloc (.cells #[.string pub, .slice none 0 0] 175)) w.heap.size 2 (pcF pub (.slice none 0 0)) 175 from Holds.new w 2 (pcF pub (.slice none 0 0)) 175)
  have h1 : ((pub.size : Int) != 16) = false := by simp; omega
  clear h16
  go_enter Tryz.func32, Tryz.ntmps32
  go_wp2
  refine bodyPost_ret (results_tmp2 rfl _ _ _) rfl ?_
  refine ⟨w.heap.size, fun k => k = w.heap.size, rfl, HB.out, ⟨.slice none 0 0, HN.out, Row.nil _ _ _, rfl, (fun k hk => by cases hk), fun k hk => ?_⟩, fun k hk => by rw [hk]; exact Nat.le_refl _⟩
  rw [hk]; exact HN.out.lt
theorem cloneHeads_any (L : List Hd) (A : Option Addr) (cap : Nat) (w : World) (hl : L.length ≤ 1000000) (hm : Hds w A L) :
    Calls Tryz.prog 94 #[.slice A L.length cap] w fun e w' => ∃ v, e = .returned v ∧ Below w.heap.size w w' ∧ Row w' w.heap.size 3 v L.length (hdCells L) := by
  have HM := Lib.hid hm
  clear hm
  cases A with
  | none =>
    obtain rfl : L = [] := by
      match L, HM with
      | [], _ => rfl
      | x :: r, HM =>
        obtain ⟨a, h, _⟩ := HM.out.at_ (show 0 < (x :: r).length by simp)
        cases h
    have hnil : ∀ u : World, (binOp .eql 84 (.slice none 0 cap) (.slice none 0 0)).run Tryz.prog u = .ok (.bool true) u := fun u => by kernel_rfl
    go_enter Tryz.func94, Tryz.ntmps94
    go_wp2
    go_ret
    exact ⟨_, rfl, Below.refl _ _, Row.nil _ _ _⟩
  | some x =>
    have hnil : ∀ u : World, (binOp .eql 84 (.slice (some x) L.length cap) (.slice none 0 0)).run Tryz.prog u = .ok (.bool false) u := fun u => by kernel_rfl
    obtain ⟨i0, hi0, hz0, hz1, hz2⟩ := info_parts infoHd
    have hb0 : Below w.heap.size w (w.alloc (.cells #[] 49)) := alloc_below w _
    go_enter Tryz.func94, Tryz.ntmps94
    go_wp2_with (at_builtin; refine wpList_append_hds rfl (.tmp 5) (.tmp 6) 84 rfl 49 Tryz.underlying84 i0 _ hi0 hz0 hz1 hz2 rfl w.heap.size 0 [] _ rfl ⟨rfl, .inr ⟨w.heap.size, 0, rfl, Nat.le_refl _, by simp, Nat.le_refl 0, (fun j u h => by cases h), fun j h => by omega⟩⟩ (by simp) (by omega) L L.length rfl (some x) cap rfl (HM.out.below hb0) hl ?_; intro v' w7 hr7 hg7)
    go_wp2
    go_ret
    refine ⟨_, rfl, hb0.grown hg7.out hb0.size (fun k e => by cases e; exact Nat.le_refl _), ?_⟩
    have h := hr7.out
    rw [Nat.zero_add, List.nil_append] at h
    exact h
theorem pHeads_any (F : Nat → Prop) (p : Nat) (c : Cl) (w : World) (hc : PCl F w p c) (hl : c.heads.length ≤ 1000000) :
    Calls Tryz.prog 46 #[.pointer (some ⟨p, 0, none⟩)] w fun e w' => ∃ A cap, e = .returned (.slice A c.heads.length cap) ∧ Below w.heap.size w w' ∧ Hds w' A c.heads := by
  obtain ⟨v, hc⟩ := hc
  obtain ⟨-, A, cap, hv, hh⟩ := hc.row.hds
  have h1 : w.cell? ⟨p, 1, none⟩ = some v := hc.own.cell 1 (by omega)
  rw [hv] at h1
  have HH := Lib.hid hh
  have HL := Lib.hid hl
  clear hc hv hh hl
  go_enter Tryz.func46, Tryz.ntmps46
  go_wp2_with fail
  refine (cloneHeads_any c.heads A cap _ HL.out HH.out).mono ?_
  rintro e w1 ⟨v', rfl, hb1, hr1⟩
  obtain ⟨-, B, cb, rfl, hhb⟩ := hr1.hds
  have HB := Lib.hid hb1
  have HHB := Lib.hid hhb
  clear hb1 hr1 hhb h1
  go_wp2
  go_ret
  exact ⟨B, cb, rfl, HB.out, HHB.out⟩
end Go.Proofs.YtcfpmofmjnhonaaGreatDoor
/- The program's Right and Mark of heads. -/
namespace Go.Proofs.YtcfpmofmjnhonaaGreatDoor
open Go.RowKit

theorem pcIsMark_any (s : ByteArray) (w : World) : Calls Tryz.prog 190 #[.string s] w fun e w' => e = .returned (.bool (decide (s.size = 16))) ∧ w' = w := by
  by_cases h : s.size = 16
  · rw [decide_eq_true h]
    have hi : ((s.size : Int) == 16) = true := by rw [beq_iff_eq]; omega
    go_enter Tryz.func190, Tryz.ntmps190
    go_wp2
    go_ret
    exact ⟨rfl, rfl⟩
  · rw [decide_eq_false h]
    have hi : ((s.size : Int) == 16) = false := by rw [beq_eq_false_iff_ne]; omega
    go_enter Tryz.func190, Tryz.ntmps190
    go_wp2
    go_ret
    exact ⟨rfl, rfl⟩
set_option maxRecDepth 100000 in
theorem pHdRight_any (h : Hd) (w : World) :
    Calls Tryz.prog 138 #[.agg #[.int .i64 h.epoch, .string h.root, .string h.prev]] w fun e w' => e = .returned (.bool (rightHead h)) ∧ Below w.heap.size w w' := by
  have HBW := Lib.hid (alloc_below w (.cells #[.int .i64 h.epoch, .string h.root, .string h.prev] 49))
  obtain ⟨T, hT⟩ : ∃ T, rightHead h = T := ⟨_, rfl⟩
  rw [hT]
  have HT := Lib.hid hT
  clear hT
  by_cases h1 : 1 ≤ h.epoch
  · have h1' : 0 < h.epoch := by omega
    obtain ⟨E, hE⟩ : ∃ E, decide (h.root.size = 16) = E := ⟨_, rfl⟩
    obtain ⟨G, hG⟩ : ∃ G, decide (h.prev.size = 16) = G := ⟨_, rfl⟩
    have hF : T = (E && G) := by rw [← HT.out, ← hE, ← hG]; unfold rightHead; rw [decide_eq_true h1']; rfl
    subst hF
    have HE := Lib.hid hE
    have HG := Lib.hid hG
    clear hE hG h1'
    cases E
    · go_enter Tryz.func138, Tryz.ntmps138
      go_wp2_with fail
      refine (pcIsMark_any _ _).mono ?_
      rintro e w1 ⟨rfl, rfl⟩
      rw [HE.out]
      go_wp2
      go_ret
      exact ⟨rfl, HBW.out⟩
    · go_enter Tryz.func138, Tryz.ntmps138
      go_wp2_with fail
      refine (pcIsMark_any _ _).mono ?_
      rintro e w1 ⟨rfl, rfl⟩
      rw [HE.out]
      go_wp2_with fail
      refine (pcIsMark_any _ _).mono ?_
      rintro e w1 ⟨rfl, rfl⟩
      rw [HG.out]
      go_wp2
      go_ret
      exact ⟨rfl, HBW.out⟩
  · have hF : T = false := by rw [← HT.out]; unfold rightHead; rw [decide_eq_false (show ¬ 0 < h.epoch by omega)]; simp
    subst hF
    go_enter Tryz.func138, Tryz.ntmps138
    go_wp2
    go_ret
    exact ⟨rfl, HBW.out⟩
set_option maxRecDepth 100000 in
theorem pHdMark_is (h : Hd) (s : ByteArray) (n : Int) (w : World) (hk : HasK w) (hh : headMarkAns h = (s, n)) :
    Calls Tryz.prog 119 #[.agg #[.int .i64 h.epoch, .string h.root, .string h.prev]] w fun e w' => e = .returned (.tuple #[.string s, errOf n]) ∧ Below w.heap.size w w' := by
  have HB0 := Lib.hid (alloc_below w (.cells #[.int .i64 h.epoch, .string h.root, .string h.prev] 49))
  have HH0 := Lib.hid (show Holds (w.alloc (.cells #[.int .i64 h.epoch, .string h.root, .string h.prev] 49)) w.heap.size 3 (hdF h) 49 from Holds.new w 3 (hdF h) 49)
  have HR := Lib.hid (hk.below HB0.out hk.lt)
  clear hk
  have HLD0 := Lib.hid (show (w.alloc (.cells #[.int .i64 h.epoch, .string h.root, .string h.prev] 49)).cell? ⟨w.heap.size, 0, none⟩ = some (.int .i64 h.epoch) ∧ (w.alloc (.cells #[.int .i64 h.epoch, .string h.root, .string h.prev] 49)).cell? ⟨w.heap.size, 1, none⟩ = some (.string h.root) ∧ (w.alloc (.cells #[.int .i64 h.epoch, .string h.root, .string h.prev] 49)).cell? ⟨w.heap.size, 2, none⟩ = some (.string h.prev) from ⟨HH0.out.cell 0 (by omega), HH0.out.cell 1 (by omega), HH0.out.cell 2 (by omega)⟩)
  unfold headMarkAns at hh
  by_cases hk : rightHead h = true
  · rw [if_pos hk] at hh
    obtain ⟨rfl, rfl⟩ := Prod.mk.inj hh
    have HK := Lib.hid hk
    have HE0 := Lib.hid (show errOf 0 = Value.nilIface from rfl)
    clear hh hk
    rw [HE0.out]
    go_enter Tryz.func119, Tryz.ntmps119
    go_wp2_with fail
    refine (pHdRight_any h _).mono ?_
    rintro e w1 ⟨rfl, hb1⟩
    rw [HK.out]
    have HB1 := Lib.hid (HB0.out.trans (hb1.mono HB0.out.size))
    have HH1 := Lib.hid (HH0.out.below hb1 HH0.out.lt)
    have HR1 := Lib.hid (HR.out.below hb1 HR.out.lt)
    clear hb1
    have HN1 := Lib.hid HH1.out.lt
    have HC1 := Lib.hid (show w1.cell? ⟨w.heap.size, 0, none⟩ = some (.int .i64 h.epoch) ∧ w1.cell? ⟨w.heap.size, 1, none⟩ = some (.string h.root) ∧ w1.cell? ⟨w.heap.size, 2, none⟩ = some (.string h.prev) from ⟨HH1.out.cell 0 (by omega), HH1.out.cell 1 (by omega), HH1.out.cell 2 (by omega)⟩)
    go_wp2
    have HS0 := Lib.hid (show w1.cell? ⟨w.heap.size, 0, none⟩ = some (.int .i64 h.epoch) ∧ w1.cell? ⟨w.heap.size, 1, none⟩ = some (.string h.root) ∧ w1.cell? ⟨w.heap.size, 2, none⟩ = some (.string h.prev) ∧ Below w1.heap.size w1 w1.drew from ⟨HC1.out.1, HC1.out.2.1, HC1.out.2.2, (Below.refl _ _).drew⟩)
    have HKEEP := Lib.hid (show ∀ u v : World, (u.cell? ⟨w.heap.size, 0, none⟩ = some (.int .i64 h.epoch) ∧ u.cell? ⟨w.heap.size, 1, none⟩ = some (.string h.root) ∧ u.cell? ⟨w.heap.size, 2, none⟩ = some (.string h.prev) ∧ Below w1.heap.size w1 u) → Below u.heap.size u v → (v.cell? ⟨w.heap.size, 0, none⟩ = some (.int .i64 h.epoch) ∧ v.cell? ⟨w.heap.size, 1, none⟩ = some (.string h.root) ∧ v.cell? ⟨w.heap.size, 2, none⟩ = some (.string h.prev) ∧ Below w1.heap.size w1 v) from
      fun u v ⟨h0, h1, h2, hb⟩ hv => ⟨(hv.cell (Nat.lt_of_lt_of_le HN1.out hb.size)).trans h0, (hv.cell (Nat.lt_of_lt_of_le HN1.out hb.size)).trans h1, (hv.cell (Nat.lt_of_lt_of_le HN1.out hb.size)).trans h2, hb.trans (hv.mono hb.size)⟩)
    have HHOLD := Lib.hid (show ∀ u : World, (u.cell? ⟨w.heap.size, 0, none⟩ = some (.int .i64 h.epoch) ∧ u.cell? ⟨w.heap.size, 1, none⟩ = some (.string h.root) ∧ u.cell? ⟨w.heap.size, 2, none⟩ = some (.string h.prev) ∧ Below w1.heap.size w1 u) → HasK u from fun u hu => HR1.out.below hu.2.2.2 HR1.out.lt)
    have HTOT := Lib.hid (show total [txt (num8 h.epoch), h.root, h.prev] ≤ 1073741800 by obtain ⟨_, h2, h3⟩ := rightHead_facts HK.out; simp [total, num_size]; omega)
    go_region_held3 (fun w' => w'.cell? ⟨w.heap.size, 0, none⟩ = some (.int .i64 h.epoch) ∧ w'.cell? ⟨w.heap.size, 1, none⟩ = some (.string h.root) ∧ w'.cell? ⟨w.heap.size, 2, none⟩ = some (.string h.prev) ∧ Below w1.heap.size w1 w')
      (first | exact HS0.out | (refine HKEEP.out _ _ ?_ (by assumption); first | exact HS0.out | assumption | exact ⟨by assumption, by assumption, by assumption, by assumption⟩) | (refine HKEEP.out _ _ ?_ (alloc_below _ _); first | exact HS0.out | assumption | exact ⟨by assumption, by assumption, by assumption, by assumption⟩))
      (first | (go_at_call 104; refine (num_any h.epoch _).mono ?_; rintro e w2 ⟨rfl, hb2⟩) | (go_at_call 55; refine (mark_any 104 [txt (num8 h.epoch), h.root, h.prev] (some ⟨_, 0, none⟩) 3 _ (HHOLD.out _ (by assumption)) HTOT.out (by simp) (strs_new _ [txt (num8 h.epoch), h.root, h.prev] 9)).mono ?_; rintro e w2 ⟨rfl, hb2⟩))
    rename_i hheld
    have HB2 := Lib.hid (HB1.out.trans (hheld.2.2.2.mono HB1.out.size))
    clear hheld
    go_wp2
    refine bodyPost_ret (results_tmp2 rfl _ _ _) rfl ?_
    exact ⟨rfl, HB2.out⟩
  · rw [if_neg hk] at hh
    obtain ⟨rfl, rfl⟩ := Prod.mk.inj hh
    have HK := Lib.hid (show rightHead h = false by simpa using hk)
    clear hh hk
    go_enter Tryz.func119, Tryz.ntmps119
    go_wp2_with fail
    refine (pHdRight_any h _).mono ?_
    rintro e w1 ⟨rfl, hb1⟩
    rw [HK.out]
    have HB1 := Lib.hid (HB0.out.trans (hb1.mono HB0.out.size))
    clear hb1
    go_wp2
    refine bodyPost_ret (results_tmp2 rfl _ _ _) rfl ?_
    exact ⟨rfl, HB1.out⟩
end Go.Proofs.YtcfpmofmjnhonaaGreatDoor
/- The program's seal: a key's leaf, two marks joined, which number is a key's, and the way up along a path. -/
namespace Go.Proofs.YtcfpmofmjnhonaaGreatDoor
open Go.RowKit

def sLeaf (k : Int) (p : ByteArray) : ByteArray := markOf 116 [txt (num8 k), p]
def twoM (a b : ByteArray) : ByteArray := markOf 117 [a, b]
theorem sLeaf_size (k : Int) (p : ByteArray) : (sLeaf k p).size = 16 := markOf_len _ _
theorem twoM_size (a b : ByteArray) : (twoM a b).size = 16 := markOf_len _ _

set_option maxRecDepth 100000 in
theorem vLeaf_any (k : Int) (p : ByteArray) (w : World) (hk : HasK w) (hs : p.size = 16) :
    Calls Tryz.prog 149 #[.int .i64 k, .string p] w fun e w' => e = .returned (.string (sLeaf k p)) ∧ Below w.heap.size w w' := by
  have HK := Lib.hid hk
  have HS := Lib.hid hs
  clear hk hs
  go_enter Tryz.func149, Tryz.ntmps149
  go_wp2_with fail
  refine (num_any k _).mono ?_
  rintro e w1 ⟨rfl, hb1⟩
  have HB1 := Lib.hid hb1
  clear hb1
  go_wp2_with fail
  refine (mark_any 116 [txt (num8 k), p] (some ⟨w1.heap.size, 0, none⟩) 2 _ (HK.out.below (HB1.out.trans ((alloc_below w1 _).mono HB1.out.size)) HK.out.lt) (by have := HS.out; simp [total, num_size]; omega) (by simp) (strs_new w1 [txt (num8 k), p] 9)).mono ?_
  rintro e w3 ⟨rfl, hb3⟩
  have HB3 := Lib.hid ((HB1.out.trans ((alloc_below w1 (.cells #[.string (txt (num8 k)), .string p] 9)).mono HB1.out.size)).trans (hb3.mono (Nat.le_trans HB1.out.size (by simp))))
  clear hb3
  go_wp2
  go_ret
  exact ⟨rfl, HB3.out⟩
set_option maxRecDepth 100000 in
theorem vJoin_any (a b : ByteArray) (w : World) (hk : HasK w) (ha : a.size = 16) (hb : b.size = 16) :
    Calls Tryz.prog 151 #[.string a, .string b] w fun e w' => e = .returned (.string (twoM a b)) ∧ Below w.heap.size w w' := by
  have HK := Lib.hid hk
  have HA := Lib.hid ha
  have HB := Lib.hid hb
  clear hk ha hb
  go_enter Tryz.func151, Tryz.ntmps151
  go_wp2_with fail
  refine (mark_any 117 [a, b] (some ⟨w.heap.size, 0, none⟩) 2 _ (HK.out.below (alloc_below w _) HK.out.lt) (by have := HA.out; have := HB.out; simp [total]; omega) (by simp) (strs_new w [a, b] 9)).mono ?_
  rintro e w3 ⟨rfl, hb3⟩
  have HB3 := Lib.hid ((alloc_below w (.cells #[.string a, .string b] 9)).trans (hb3.mono (by simp)))
  clear hb3
  go_wp2
  go_ret
  exact ⟨rfl, HB3.out⟩
theorem vKey_any (k : Int) (w : World) :
    Calls Tryz.prog 175 #[.int .i64 k] w fun e w' => e = .returned (.bool (decide (0 ≤ k ∧ k ≤ 7))) ∧ w' = w := by
  by_cases h0 : 0 ≤ k
  · by_cases h8 : k < 8
    · rw [decide_eq_true (show 0 ≤ k ∧ k ≤ 7 from ⟨h0, by omega⟩)]
      go_enter Tryz.func175, Tryz.ntmps175
      go_wp2
      go_ret
      exact ⟨rfl, rfl⟩
    · rw [decide_eq_false (show ¬ (0 ≤ k ∧ k ≤ 7) from fun h => h8 (by omega))]
      go_enter Tryz.func175, Tryz.ntmps175
      go_wp2
      go_ret
      exact ⟨rfl, rfl⟩
  · rw [decide_eq_false (show ¬ (0 ≤ k ∧ k ≤ 7) from fun h => h0 h.1)]
    go_enter Tryz.func175, Tryz.ntmps175
    go_wp2
    go_ret
    exact ⟨rfl, rfl⟩

/-- Along the path from its place i on, the key's bits from there on. -/
theorem upFrom_step {P : List ByteArray} {i : Nat} {p t : ByteArray} (h : P[i]? = some p) (k : Nat) : upFrom (P.drop i) t (k / 2 ^ i) = upFrom (P.drop (i + 1)) (if k / 2 ^ i % 2 = 1 then twoM p t else twoM t p) (k / 2 ^ (i + 1)) := by
  have hi : i < P.length := (List.getElem?_eq_some_iff.1 h).1
  rw [List.getElem?_eq_getElem hi] at h
  rw [List.drop_eq_getElem_cons hi, Option.some.inj h, upFrom, Nat.pow_succ, Nat.div_div_eq_div_mul]
  rfl
theorem keyBit (k i : Nat) (hk : k ≤ 7) (hi : i < 3) : bits BinOp.and IntKind.i64 ((k : Int) / 2 ^ i) 1 = ((k / 2 ^ i % 2 : Nat) : Int) := by
  rcases (by omega : k = 0 ∨ k = 1 ∨ k = 2 ∨ k = 3 ∨ k = 4 ∨ k = 5 ∨ k = 6 ∨ k = 7) with rfl | rfl | rfl | rfl | rfl | rfl | rfl | rfl <;>
    rcases (by omega : i = 0 ∨ i = 1 ∨ i = 2) with rfl | rfl | rfl <;> decide +kernel
set_option maxRecDepth 100000 in
theorem vClimb_any (k : Nat) (s : ByteArray) (P : List ByteArray) (A : Option Addr) (cap : Nat) (w : World) (hk : HasK w) (hk7 : k ≤ 7) (hs : s.size = 16) (h3 : P.length = 3) (hP : marksOk P = true) (hm : Strs w A P) :
    Calls Tryz.prog 189 #[.int .i64 (k : Int), .string s, .slice A P.length cap] w fun e w' => e = .returned (.string (upFrom P (sLeaf (k : Int) s) k)) ∧ Below w.heap.size w w' := by
  have HK := Lib.hid hk
  have HM := Lib.hid hm
  have HP := Lib.hid hP
  have H3 := Lib.hid h3
  obtain ⟨T, hT⟩ : ∃ T, upFrom P (sLeaf (k : Int) s) k = T := ⟨_, rfl⟩
  rw [hT]
  have HT := Lib.hid (show upFrom (P.drop 0) (sLeaf (k : Int) s) (k / 2 ^ 0) = T by rw [Nat.pow_zero, Nat.div_one]; exact hT)
  clear hk hm hP hT
  go_enter Tryz.func189, Tryz.ntmps189
  go_wp2_with fail
  refine (vLeaf_any (k : Int) s _ HK.out hs).mono ?_
  rintro e w1 ⟨rfl, hb1⟩
  have HB1 := Lib.hid hb1
  clear hb1 h3 hs
  go_wp2
  go_loopw [7, 15] (fun tv iv wr => ∃ (i : Nat) (t : ByteArray), i ≤ P.length ∧ iv = .int .i64 (i : Int) ∧ tv = .string t ∧ Hid (t.size = 16 ∧ upFrom (P.drop i) t (k / 2 ^ i) = T ∧ Below w.heap.size w wr)) (fun _ iv _ => P.length - (intOf iv).toNat)
  case atStart => exact ⟨0, _, Nat.zero_le _, rfl, rfl, Lib.hid ⟨sLeaf_size _ _, HT.out, HB1.out⟩⟩
  case round =>
    obtain ⟨i, t, hi, rfl, rfl, HU⟩ := hrel
    by_cases hlt : i < P.length
    · obtain ⟨p, hp⟩ : ∃ p, P[i]? = some p := ⟨_, List.getElem?_eq_getElem hlt⟩
      obtain ⟨a, rfl, _, c0⟩ := HM.out.below HU.out.2.2 i p hp
      have HPS := Lib.hid (marksOk_get HP.out hp)
      have HNX := Lib.hid (show upFrom (P.drop (i + 1)) (if k / 2 ^ i % 2 = 1 then twoM p t else twoM t p) (k / 2 ^ (i + 1)) = T from (upFrom_step hp k).symm.trans HU.out.2.1)
      have hi3 : i < 3 := by have := H3.out; omega
      have hib : i ≤ 3 := by omega
      have hbt := keyBit k i hk7 hi3
      have HKW := Lib.hid (HK.out.below HU.out.2.2 HK.out.lt)
      clear hp hi3
      generalize k / 2 ^ i = q at hbt HNX
      by_cases hodd : q % 2 = 1
      · rw [if_pos hodd] at HNX
        replace hbt : bits BinOp.and IntKind.i64 ((k : Int) / 2 ^ i) 1 = 1 := by rw [hbt, hodd]; rfl
        clear hodd
        go_wp2_with fail
        refine (vJoin_any p t _ HKW.out HPS.out HU.out.1).mono ?_
        rintro e w5 ⟨rfl, hb5⟩
        have HB5 := Lib.hid (HU.out.2.2.trans (hb5.mono HU.out.2.2.size))
        clear hb5 hbt
        go_wp2
        go_roundw
        case rel => exact ⟨i + 1, _, by omega, by go_num, rfl, Lib.hid ⟨twoM_size _ _, HNX.out, HB5.out⟩⟩
        case measure => simp [intOf]; omega
      · rw [if_neg hodd] at HNX
        replace hbt : bits BinOp.and IntKind.i64 ((k : Int) / 2 ^ i) 1 = 0 := by rw [hbt, show q % 2 = 0 by omega]; rfl
        clear hodd
        go_wp2_with fail
        refine (vJoin_any t p _ HKW.out HU.out.1 HPS.out).mono ?_
        rintro e w5 ⟨rfl, hb5⟩
        have HB5 := Lib.hid (HU.out.2.2.trans (hb5.mono HU.out.2.2.size))
        clear hb5 hbt
        go_wp2
        go_roundw
        case rel => exact ⟨i + 1, _, by omega, by go_num, rfl, Lib.hid ⟨twoM_size _ _, HNX.out, HB5.out⟩⟩
        case measure => simp [intOf]; omega
    · obtain rfl : i = P.length := by omega
      have HE := Lib.hid (show t = T by have := HU.out.2.1; rwa [List.drop_of_length_le (Nat.le_refl _), upFrom] at this)
      have HBF := Lib.hid HU.out.2.2
      go_wp2
      go_ret
      exact ⟨by rw [HE.out]; rfl, HBF.out⟩
end Go.Proofs.YtcfpmofmjnhonaaGreatDoor
/- A box's rows, one above the other, as plain lists; and how they lie in the document's one list. -/
namespace Go.Proofs.YtcfpmofmjnhonaaGreatDoor
open Go.RowKit

def upRow (P : List ByteArray) : List ByteArray := (List.range (P.length / 2)).map fun j : Nat => twoM (P.getD (2 * j) ⟨#[]⟩) (P.getD (2 * j + 1) ⟨#[]⟩)
def lvl (seed : ByteArray) : Nat → List ByteArray
  | 0 => rows0 seed 8
  | t + 1 => upRow (lvl seed t)
theorem upRow_length (P : List ByteArray) : (upRow P).length = P.length / 2 := by simp [upRow]
theorem upRow_getD (P : List ByteArray) (j : Nat) (h : j < P.length / 2) : (upRow P).getD j ⟨#[]⟩ = twoM (P.getD (2 * j) ⟨#[]⟩) (P.getD (2 * j + 1) ⟨#[]⟩) := by
  unfold upRow
  rw [List.getD_eq_getElem?_getD, List.getElem?_map, List.getElem?_range h]; rfl
theorem upRow_size (P : List ByteArray) : ∀ p ∈ upRow P, p.size = 16 := by
  intro p hp
  unfold upRow at hp
  obtain ⟨c, _, rfl⟩ := List.mem_map.1 hp
  exact twoM_size _ _
theorem lvl_size (seed : ByteArray) : ∀ t, ∀ p ∈ lvl seed t, p.size = 16
  | 0 => rows0_size seed 8
  | _ + 1 => upRow_size _
theorem lvl0_length (seed : ByteArray) : (lvl seed 0).length = 8 := rows0_length seed 8
theorem lvl1_length (seed : ByteArray) : (lvl seed 1).length = 4 := by rw [lvl, upRow_length, lvl0_length]
theorem lvl2_length (seed : ByteArray) : (lvl seed 2).length = 2 := by rw [lvl, upRow_length, lvl1_length]
theorem lvl3_length (seed : ByteArray) : (lvl seed 3).length = 1 := by rw [lvl, upRow_length, lvl2_length]
theorem lvl_length (seed : ByteArray) (t : Nat) (h : t ≤ 3) : (lvl seed t).length = rowLen t := by
  rcases (by omega : t = 0 ∨ t = 1 ∨ t = 2 ∨ t = 3) with rfl | rfl | rfl | rfl
  · exact lvl0_length _
  · exact lvl1_length _
  · exact lvl2_length _
  · exact lvl3_length _
theorem rowsUpto_pre (seed : ByteArray) (j i : Nat) (hi : i < 8 + j) : ∀ d, (rowsUpto seed (j + d)).getD i ⟨#[]⟩ = (rowsUpto seed j).getD i ⟨#[]⟩
  | 0 => rfl
  | d + 1 => by
    rw [← rowsUpto_pre seed j i hi d]
    show (rowsUpto seed (j + d + 1)).getD i ⟨#[]⟩ = _
    rw [rowsUpto, List.getD_eq_getElem?_getD, List.getElem?_append_left (by rw [rowsUpto_length]; omega), List.getD_eq_getElem?_getD]
theorem rowsOf_low (seed : ByteArray) (i : Nat) (hi : i < 8) : (rowsOf seed).getD i ⟨#[]⟩ = (lvl seed 0).getD i ⟨#[]⟩ := rowsUpto_pre seed 0 i (by omega) 7
theorem rowsOf_up (seed : ByteArray) (j : Nat) (hj : j < 7) : (rowsOf seed).getD (8 + j) ⟨#[]⟩ = twoM ((rowsOf seed).getD (2 * j) ⟨#[]⟩) ((rowsOf seed).getD (2 * j + 1) ⟨#[]⟩) := by
  have h1 := rowsUpto_pre seed (j + 1) (8 + j) (by omega) (7 - (j + 1))
  have h2 := rowsUpto_pre seed j (2 * j) (by omega) (7 - j)
  have h3 := rowsUpto_pre seed j (2 * j + 1) (by omega) (7 - j)
  rw [show j + 1 + (7 - (j + 1)) = 7 by omega] at h1
  rw [show j + (7 - j) = 7 by omega] at h2 h3
  show (rowsUpto seed 7).getD (8 + j) ⟨#[]⟩ = twoM ((rowsUpto seed 7).getD (2 * j) ⟨#[]⟩) ((rowsUpto seed 7).getD (2 * j + 1) ⟨#[]⟩)
  rw [h1, h2, h3, rowsUpto, List.getD_eq_getElem?_getD, List.getElem?_append_right (by rw [rowsUpto_length]; omega), rowsUpto_length, Nat.sub_self]
  rfl
theorem lvl_next (seed : ByteArray) (t b c : Nat) (hl : (lvl seed t).length = 2 * c) (h : ∀ j, j < 2 * c → (lvl seed t).getD j ⟨#[]⟩ = (rowsOf seed).getD (2 * b + j) ⟨#[]⟩) (hb : b + c ≤ 7) (j : Nat) (hj : j < c) :
    (lvl seed (t + 1)).getD j ⟨#[]⟩ = (rowsOf seed).getD (8 + b + j) ⟨#[]⟩ := by
  rw [lvl, upRow_getD _ _ (by rw [hl]; omega), h _ (by omega), h _ (by omega), Nat.add_assoc 8 b j, rowsOf_up seed (b + j) (by omega), Nat.mul_add, ← Nat.add_assoc]
theorem lvl0_get (seed : ByteArray) (j : Nat) (hj : j < 8) : (lvl seed 0).getD j ⟨#[]⟩ = (rowsOf seed).getD j ⟨#[]⟩ := (rowsOf_low seed j hj).symm
theorem lvl1_get (seed : ByteArray) (j : Nat) (hj : j < 4) : (lvl seed 1).getD j ⟨#[]⟩ = (rowsOf seed).getD (8 + j) ⟨#[]⟩ :=
  lvl_next seed 0 0 4 (lvl0_length seed) (fun j hj => by rw [lvl0_get seed j hj, Nat.mul_zero, Nat.zero_add]) (by omega) j hj
theorem lvl2_get (seed : ByteArray) (j : Nat) (hj : j < 2) : (lvl seed 2).getD j ⟨#[]⟩ = (rowsOf seed).getD (12 + j) ⟨#[]⟩ :=
  lvl_next seed 1 4 2 (lvl1_length seed) (fun j hj => lvl1_get seed j hj) (by omega) j hj
theorem lvl3_get (seed : ByteArray) : (lvl seed 3).getD 0 ⟨#[]⟩ = boxPub seed :=
  lvl_next seed 2 6 1 (lvl2_length seed) (fun j hj => lvl2_get seed j hj) (by omega) 0 (by omega)
theorem lvl_get (seed : ByteArray) (t j : Nat) (ht : t < 3) (hj : j < rowLen t) : (lvl seed t).getD j ⟨#[]⟩ = (rowsOf seed).getD (rowBase t + j) ⟨#[]⟩ := by
  rcases (by omega : t = 0 ∨ t = 1 ∨ t = 2) with rfl | rfl | rfl
  · rw [lvl0_get seed j hj]; congr 1; exact (Nat.zero_add j).symm
  · exact lvl1_get seed j hj
  · exact lvl2_get seed j hj
theorem getD_get {P : List ByteArray} {i : Nat} (h : i < P.length) : P[i]? = some (P.getD i ⟨#[]⟩) := by
  rw [List.getD_eq_getElem?_getD, List.getElem?_eq_getElem h]; rfl
/-- The other one of the two. -/
theorem sib_lt (k t : Nat) (hk : k ≤ 7) (ht : t < 3) : sib (k / 2 ^ t) < rowLen t := by
  rcases (by omega : k = 0 ∨ k = 1 ∨ k = 2 ∨ k = 3 ∨ k = 4 ∨ k = 5 ∨ k = 6 ∨ k = 7) with rfl | rfl | rfl | rfl | rfl | rfl | rfl | rfl <;>
    rcases (by omega : t = 0 ∨ t = 1 ∨ t = 2) with rfl | rfl | rfl <;> decide
theorem sib_xor (k t : Nat) (hk : k ≤ 7) (ht : t < 3) : bits BinOp.xor IntKind.i64 ((k : Int) / 2 ^ t) 1 = ((sib (k / 2 ^ t) : Nat) : Int) := by
  rcases (by omega : k = 0 ∨ k = 1 ∨ k = 2 ∨ k = 3 ∨ k = 4 ∨ k = 5 ∨ k = 6 ∨ k = 7) with rfl | rfl | rfl | rfl | rfl | rfl | rfl | rfl <;>
    rcases (by omega : t = 0 ∨ t = 1 ∨ t = 2) with rfl | rfl | rfl <;> decide +kernel
end Go.Proofs.YtcfpmofmjnhonaaGreatDoor
/- Items compared: one with one, and slices.Equal of the same items. -/
namespace Go.Proofs.YtcfpmofmjnhonaaGreatDoor
open Go.RowKit

theorem stoodI : Tryz.prog.stoodInHeld 61 = false := by kernel_rfl
theorem itemFields : Tryz.prog.underlying 61 = some (.struct (Tryz.prog.fieldsOf 61)) := by kernel_rfl
theorem textI_ne {a b : ByteArray} (h : ¬ a = b) : (a.toList == b.toList) = false := by
  rw [beq_eq_false_iff_ne]
  intro e
  rw [ByteArray.toList_eq, ByteArray.toList_eq] at e
  exact h (text_of e)
set_option maxHeartbeats 1000000 in
theorem run_neq_items (a b : It) (w : World) :
    (binOp .neq 61 (.agg #[.string a.1, .string a.2]) (.agg #[.string b.1, .string b.2])).run Tryz.prog w = .ok (.bool (!decide (a = b))) w := by
  rw [run_neq_struct, run_equalIn_agg _ 9999 _ _ _ itemFields stoodI]
  by_cases h2 : a.1 = b.1
  · by_cases h3 : a.2 = b.2
    · have e : decide (a = b) = true := by simp [Prod.ext_iff, h2, h3]
      rw [e, h2, h3]
      go_simp
    · have e : decide (a = b) = false := by simp [Prod.ext_iff, h3]
      have e3 := textI_ne h3
      rw [e, h2]
      go_simp
  · have e : decide (a = b) = false := by simp [Prod.ext_iff, h2]
    have e3 := textI_ne h2
    rw [e]
    go_simp
end Go.Proofs.YtcfpmofmjnhonaaGreatDoor
/- slices.Contains of items: what is among them is found. -/
namespace Go.Proofs.YtcfpmofmjnhonaaGreatDoor
open Go.RowKit

set_option maxHeartbeats 1000000 in
theorem run_eql_items (a b : It) (w : World) :
    (binOp .eql 61 (.agg #[.string a.1, .string a.2]) (.agg #[.string b.1, .string b.2])).run Tryz.prog w = .ok (.bool (decide (a = b))) w := by
  rw [run_eql_struct, run_equalIn_agg _ 9999 _ _ _ itemFields stoodI]
  by_cases h2 : a.1 = b.1
  · by_cases h3 : a.2 = b.2
    · have e : decide (a = b) = true := by simp [Prod.ext_iff, h2, h3]
      rw [e, h2, h3]
      go_simp
    · have e : decide (a = b) = false := by simp [Prod.ext_iff, h3]
      have e3 := textI_ne h3
      rw [e, h2]
      go_simp
  · have e : decide (a = b) = false := by simp [Prod.ext_iff, h2]
    have e3 := textI_ne h2
    rw [e]
    go_simp
end Go.Proofs.YtcfpmofmjnhonaaGreatDoor
