/- Parts of the proof, one behind the other: DFresh, Append, DDim, Pub, Over, MapC, Chunk. -/
import Derived.WalkKit
import Derived.Lib.Hide
import Derived.WalkLawsBesides
import Derived.Deep.QuietTactic
import Derived.Deep.WholeRow
import Derived.ArgAppend
import Derived.Laws.AppendOwnNone
import Derived.Laws.CopyRow
import Derived.Deep.RegionLaw
import Derived.Laws.BytesString
import Derived.Laws.IdiomStrings
import Derived.Test.YtgjmbokfenpefaaGreatDoorProg
import Derived.StringKeys
import Derived.Maps.Own
import Derived.Maps.Views
import Derived.Maps.OwnSet
import Derived.Maps.OwnOps
import Derived.Maps.RangeWalk
import Derived.Sort.KeysCollected
import Derived.Laws.BitsAllLaws
import Derived.Outline
import Derived.BigQuiet
import Derived.Laws.CopyOwn
import Derived.RegionTactic
import Derived.StillTail
import Derived.Deep.Quiet
import Derived.Deep.RegionHeld3
import Derived.Deep.DeepCutAuto
import Derived.Laws.ResultCell
import Derived.IntWalk
import Derived.Sort.Walk0
import Derived.Tactics
import Derived.Orders
import Derived.LaidEql
import Derived.Stop.Asserts
import Derived.RowKitTokens
import Derived.OrdersHeld
import Derived.Sort.LotA
import Derived.Lib.SortBridge
import Derived.Deep.AppendSrc
import Derived.Shelf.SlSortFuncK.WholeK
import Derived.Ground.GgsProg
import Derived.Shelf.GgSortFunc.Tiny
import Derived.Shelf.Strings.Repeat
import Derived.KernelRfl
import Derived.WideKeyEntry
import Derived.Deep.CutRange
import Derived.RangeFuncNested
import Derived.RangeFuncBound
import Derived.RangeFuncCalls
import Derived.RangeFuncLeaves
import Derived.Shelf.Abstract
import Derived.Shelf.RegionOpen
import Derived.OwnWalkIn
import Derived.TacticsInMore
import Derived.LoopNIn
import Derived.LoopIn
import Derived.Test.YtgjmbokfenpefaaGreatDoorM1
import Derived.Test.YtgjmbokfenpefaaGreatDoorM2
import Derived.Test.YtgjmbokfenpefaaGreatDoorM3
import Derived.Test.YtgjmbokfenpefaaGreatDoorM4
import Derived.Test.YtgjmbokfenpefaaGreatDoorM5
import Derived.Test.YtgjmbokfenpefaaGreatDoorM6
import Derived.Test.YtgjmbokfenpefaaGreatDoorM7
import Derived.Test.YtgjmbokfenpefaaGreatDoorM8
import Derived.Test.YtgjmbokfenpefaaGreatDoorM12
import Derived.Test.YtgjmbokfenpefaaGreatDoorM17
import Derived.Test.YtgjmbokfenpefaaGreatDoorM18
/- What a directory tells is proved, and believed, where no two names lie at one place; its epochs are a chain that a client sees step by step. -/
namespace Go.Proofs.YtgjmbokfenpefaaGreatDoor
open Go.RowKit

theorem items_mem {d : Dst} {y : It} : y ∈ itemsOf d ↔ ∃ p ∈ d.vals, itemOf d p = y := by
  rw [show (y ∈ itemsOf d ↔ y ∈ itemsRaw d) from (sortIts_perm (itemsRaw d)).mem_iff]
  exact List.mem_map
/-- The items are right. -/
theorem items_right {d : Dst} (h : DOk d) (hp : Parted (keysL d.vals)) : rightItems (itemsOf d) = true := by
  have hd : (itemsRaw d).Pairwise fun x y => x.1 ≠ y.1 := by
    unfold itemsRaw
    rw [List.pairwise_map]
    have hk := h.vk
    unfold keysL at hk
    rw [List.Nodup, List.pairwise_map] at hk
    refine List.Pairwise.imp_of_mem (fun {a b} ha hb hab e => hab ?_) hk
    exact hp a.1 (List.mem_map_of_mem ha) b.1 (List.mem_map_of_mem hb) (h.vn a ha).1 (h.vn b hb).1 e
  have hs := sortIts_sorted (itemsRaw d)
  have hd' : (itemsOf d).Pairwise fun x y => x.1 ≠ y.1 := ((sortIts_perm (itemsRaw d)).symm.pairwise_iff (fun h e => h e.symm)).1 hd
  refine right_of ((hs.and hd').imp fun hxy => ?_) (fun x hx => ?_) ?_
  · rename_i x y
    by_cases e : ltI x y
    · exact e
    · exact absurd (ltI_total e hxy.2) hxy.1
  · obtain ⟨p, hp, rfl⟩ := items_mem.1 hx
    exact item_good h hp
  · rw [show (itemsOf d).length = (itemsRaw d).length from (sortIts_perm (itemsRaw d)).length_eq]
    unfold itemsRaw
    rw [List.length_map]
    exact h.vals60
/-- What is asked of a name is proved. -/
theorem told_right {d : Dst} (h : DOk d) {name : ByteArray} (hp : Parted (name :: keysL d.vals)) (hn : nameOk name.data.toList = true) :
    (proveAns (itemsOf d) (ofAns name).1).2.2 = 0 ∧
    verifyAns (rootOf (itemsOf d)) (ofAns name).1 (proveAns (itemsOf d) (ofAns name).1).1 (proveAns (itemsOf d) (ofAns name).1).2.1 =
      match look d.vals name with | some v => ((commitAns (openOf d name) v).1, true, 0) | none => (⟨#[]⟩, false, 0) := by
  have hr := items_right h (hp.mono fun s hs => List.mem_cons_of_mem _ hs)
  have h16 := of_ok hn
  obtain ⟨P, x, hpr⟩ : ∃ P x, proveAns (itemsOf d) (ofAns name).1 = (P, x, 0) := by
    unfold proveAns
    rw [if_pos ⟨hr, h16⟩]
    exact ⟨_, _, rfl⟩
  rw [hpr]
  refine ⟨rfl, ?_⟩
  rcases verified hr h16 hpr with ⟨y, hy, hix, hv⟩ | ⟨hno, hv⟩
  · obtain ⟨p, hpm, rfl⟩ := items_mem.1 hy
    have hsame : p.1 = name := hp p.1 (List.mem_cons_of_mem _ (List.mem_map_of_mem hpm)) name (List.mem_cons_self ..) (h.vn p hpm).1 hn hix
    obtain ⟨s, v⟩ := p
    have hsame : s = name := hsame
    subst hsame
    rw [look_of_mem h.vk hpm]
    exact hv
  · cases e : look d.vals name with
    | none => exact hv
    | some v =>
      exact absurd rfl (hno (itemOf d (name, v)) (items_mem.2 ⟨(name, v), look_mem e, rfl⟩))
/-- Whoever has seen the last epoch believes it. -/
theorem ask_found {d : Dst} (h : DOk d) {name : ByteArray} (hp : Parted (name :: keysL d.vals)) (hn : nameOk name.data.toList = true) {c : Cl} (hs : (seeAns c (lastSgn d)).2 = 0) (hroot : (lastSgn d).head.root = rootOf (itemsOf d)) :
    askAns c name (foundAns d name (ofAns name).1) = ((seeAns c (lastSgn d)).1, (look d.vals name).getD ⟨#[]⟩, (look d.vals name).isSome, 0) := by
  obtain ⟨h1, h2⟩ := told_right h hp hn
  unfold askAns foundAns
  rw [if_pos hn, if_pos hs]
  show (if (verifyAns (lastSgn d).head.root _ _ _).2.2 = 0 then _ else _) = _
  rw [hroot]
  show (if (verifyAns (rootOf (itemsOf d)) (ofAns name).1 (proveAns (itemsOf d) (ofAns name).1).1 (proveAns (itemsOf d) (ofAns name).1).2.1).2.2 = 0 then _ else _) = _
  rw [h2]
  cases e : look d.vals name with
  | none =>
    simp only []
    rw [if_pos trivial, if_pos (by exact ⟨trivial, rfl, rfl⟩)]
    rfl
  | some v =>
    have hv : 1 ≤ v.size ∧ v.size ≤ 24 := (h.vn _ (look_mem e)).2
    simp only []
    rw [if_pos trivial, if_neg (by rintro ⟨h0, _⟩; cases h0), if_pos]
    · rfl
    · refine ⟨trivial, ?_⟩
      show commitAns (openOf d name) v = ((commitAns (openOf d name) v).1, 0)
      rw [commit_ok (open_size d name) hv.1 hv.2]

def headsOf (d : Dst) : List Hd := d.eps.map (·.head)
/-- Its epochs are a chain, each sealed in its turn. -/
structure Chained (d : Dst) : Prop where
  link : ∀ (i : Nat) s, d.eps[i]? = some s → s = signOf d.secret i s.head ∧ s.head.epoch = (i : Int) + 1 ∧ rightHead s.head = true ∧ nextAns ((headsOf d).take i) s.head.root = (s.head, 0)
theorem newDst_chained (secret : ByteArray) : Chained (newDst secret) := ⟨fun i s h => by simp [newDst] at h⟩
theorem none16_size : none16.size = 16 := rfl
theorem next_right {L : List Hd} {root : ByteArray} (hl : L.length ≤ 8) (h16 : root.size = 16) (hlast : ∀ h, L.getLast? = some h → rightHead h = true ∧ h.epoch = (L.length : Int)) :
    ∃ h, nextAns L root = (h, 0) ∧ rightHead h = true ∧ h.epoch = (L.length : Int) + 1 ∧ h.root = root := by
  unfold nextAns nextHd
  cases e : L.getLast? with
  | none =>
    have hL : L = [] := List.getLast?_eq_none_iff.1 e
    subst hL
    have hr : rightHead (firstHd root) = true := by unfold rightHead firstHd; simp [h16, none16_size]
    exact ⟨firstHd root, by simp only []; rw [if_pos hr], hr, rfl, rfl⟩
  | some h =>
    obtain ⟨hr, he⟩ := hlast h e
    have hw : wrap64 (h.epoch + 1) = (L.length : Int) + 1 := by rw [he]; unfold wrap64; omega
    have hr2 : rightHead (afterHd h root) = true := by
      unfold rightHead afterHd
      simp only []
      rw [hw]
      simp [h16, headMark, markOf_len]
      try omega
    refine ⟨afterHd h root, ?_, hr2, hw, rfl⟩
    simp only []
    rw [if_pos hr]
    simp only []
    rw [if_pos hr2]
theorem headsOf_get {d : Dst} {i : Nat} {s : Sgn} (h : d.eps[i]? = some s) : (headsOf d)[i]? = some s.head := by unfold headsOf; rw [List.getElem?_map, h]; rfl
theorem put_chained {d : Dst} (h : Chained d) (name value : ByteArray) : Chained (putAns d name value).1 := by
  unfold putAns
  repeat' split
  all_goals first | exact h | exact ⟨h.link⟩
/-- One more epoch of a root is the next of the chain. -/
theorem push_linked {d : Dst} (hc : Chained d) (he : d.eps.length < 8) {root : ByteArray} (h16 : root.size = 16) :
    Chained { settled d with eps := d.eps ++ [sgnOf d root] } ∧ (sgnOf d root).head.root = root := by
  have hlen : (headsOf d).length = d.eps.length := by unfold headsOf; simp
  obtain ⟨hd, hn, hrt, hep, hdr⟩ := next_right (L := headsOf d) (root := root) (by rw [hlen]; omega) h16 (fun x hx => by
    rw [List.getLast?_eq_getElem?, hlen] at hx
    have hi : d.eps.length - 1 < d.eps.length := by
      have := (List.getElem?_eq_some_iff.1 hx).1
      rw [hlen] at this
      omega
    obtain ⟨s, hs⟩ : ∃ s, d.eps[d.eps.length - 1]? = some s := ⟨_, List.getElem?_eq_getElem hi⟩
    rw [headsOf_get hs] at hx
    obtain rfl := Option.some.inj hx
    obtain ⟨_, h2, h3, _⟩ := hc.link _ _ hs
    exact ⟨h3, by rw [h2, hlen]; omega⟩)
  have hsg : sgnOf d root = signOf d.secret d.eps.length hd := by
    unfold sgnOf
    rw [show d.eps.map (·.head) = headsOf d from rfl, hn]
  refine ⟨⟨fun i s hs => ?_⟩, ?_⟩
  · have hs : (d.eps ++ [sgnOf d root])[i]? = some s := hs
    show s = signOf d.secret i s.head ∧ s.head.epoch = (i : Int) + 1 ∧ rightHead s.head = true ∧ nextAns (((d.eps ++ [sgnOf d root]).map (·.head)).take i) s.head.root = (s.head, 0)
    rw [List.map_append]
    by_cases hi : i < d.eps.length
    · rw [List.getElem?_append_left hi] at hs
      rw [List.take_append_of_le_length (by rw [List.length_map]; omega)]
      exact hc.link i s hs
    · have hi2 : i = d.eps.length := by
        have := (List.getElem?_eq_some_iff.1 hs).1
        simp at this
        omega
      subst hi2
      rw [List.getElem?_append_right (Nat.le_refl _), Nat.sub_self] at hs
      obtain rfl : sgnOf d root = s := by simpa using hs
      rw [List.take_append_of_le_length (by rw [List.length_map]; omega), List.take_of_length_le (by rw [List.length_map]; omega), hsg]
      exact ⟨rfl, by show hd.epoch = _; rw [hep, hlen], hrt, by show nextAns (headsOf d) hd.root = (hd, 0); rw [hdr]; exact hn⟩
  · rw [hsg]
    exact hdr
/-- One more epoch is the next of the chain, where no two names lie at one place. -/
theorem publish_chained {d : Dst} (h : DOk d) (hc : Chained d) (he : d.eps.length < 8) (hp : Parted (keysL (settled d).vals)) :
    publishAns d = ({ settled d with eps := d.eps ++ [nextSgn d] }, nextSgn d, 0) ∧ Chained { settled d with eps := d.eps ++ [nextSgn d] } ∧ (nextSgn d).head.root = rootOf (itemsOf (settled d)) := by
  have hok : DOk { settled d with eps := d.eps ++ [nextSgn d] } := by have := publishAns_ok h; unfold publishAns at this; rwa [if_pos he] at this
  have hr := items_right (d := { settled d with eps := d.eps ++ [nextSgn d] }) hok hp
  have hroot : (rootAns (itemsOf (settled d))).1 = rootOf (itemsOf (settled d)) := by unfold rootAns; rw [if_pos (show rightItems (itemsOf (settled d)) = true from hr)]
  have hsg : nextSgn d = sgnOf d (rootOf (itemsOf (settled d))) := by rw [← hroot]; rfl
  refine ⟨by unfold publishAns; rw [if_pos he], ?_⟩
  rw [hsg]
  exact push_linked hc he (nodeOf_size _ _ _)
theorem dirSeed_size (s : ByteArray) : (dirSeed s).size = 16 := markOf_len _ _
/-- Its own epoch is what a client may see. -/
theorem ep_fits {d : Dst} (h : DOk d) (hc : Chained d) {i : Nat} {s : Sgn} (hs : d.eps[i]? = some s) : rightHead s.head = true ∧ s.key = s.head.epoch - 1 ∧ sealOk (dirPub d.secret) (headMark s.head) s.key s.sig s.path = true := by
  obtain ⟨h1, h2, h3, _⟩ := hc.link i s hs
  have hi : i < 8 := by have := (List.getElem?_eq_some_iff.1 hs).1; have := h.few; omega
  have hm : (headMarkAns s.head).1 = headMark s.head := by unfold headMarkAns; rw [if_pos h3]
  have hk := sealAns_ok (seed := dirSeed d.secret) (key := (i : Int)) (m := headMark s.head) (dirSeed_size _) (by omega) (by omega) (markOf_len _ _)
  refine ⟨h3, ?_, ?_⟩
  · rw [h1]
    unfold signOf
    show (sealAns (dirSeed d.secret) (i : Int) (headMarkAns s.head).1).1 = s.head.epoch - 1
    rw [hm, hk.1, h2]
    omega
  · rw [h1]
    unfold signOf
    show sealOk (dirPub d.secret) (headMark s.head) (sealAns (dirSeed d.secret) (i : Int) (headMarkAns s.head).1).1 (sealAns (dirSeed d.secret) (i : Int) (headMarkAns s.head).1).2.1 (sealAns (dirSeed d.secret) (i : Int) (headMarkAns s.head).1).2.2.1 = true
    rw [hm]
    exact hk.2.2
theorem see_eps {d : Dst} (h : DOk d) (hc : Chained d) {i n : Nat} {s : Sgn} (hs : d.eps[i]? = some s) (hn : n ≤ d.eps.length) :
    seeAns ⟨dirPub d.secret, (headsOf d).take n⟩ s = if n < i then (⟨dirPub d.secret, (headsOf d).take n⟩, 10) else if n = i then (⟨dirPub d.secret, (headsOf d).take (n + 1)⟩, 0) else (⟨dirPub d.secret, (headsOf d).take n⟩, 0) := by
  obtain ⟨h1, h2, h3, h4⟩ := hc.link i s hs
  have hl : ((headsOf d).take n).length = n := by unfold headsOf; rw [List.length_take, List.length_map]; omega
  unfold seeAns
  rw [if_pos (ep_fits h hc hs)]
  simp only [hl, h2]
  by_cases c1 : n < i
  · rw [if_pos (by omega), if_pos c1]
  · rw [if_neg (by omega), if_neg c1]
    by_cases c2 : n = i
    · subst c2
      rw [if_neg (by omega), if_pos rfl, if_pos h4]
      congr 2
      rw [List.take_add_one, headsOf_get hs]
      rfl
    · rw [if_pos (by omega), if_neg c2, if_pos]
      rw [show ((i : Int) + 1 - 1).toNat = i by omega]
      refine hdAt_get ?_
      rw [List.getElem?_take_of_lt (by omega)]
      exact headsOf_get hs
end Go.Proofs.YtgjmbokfenpefaaGreatDoor
/- append onto a row of items: many, that lie somewhere. -/
namespace Go.Proofs.YtgjmbokfenpefaaGreatDoor
open Go.RowKit

theorem wpList_append_items {P : Program} {ops : Array Oper} {rest : List Oper} {o : Oper} {a : Act} {w : World} {Q : Exit → Act → World → Prop} (hgd : o.guard = none) (s x : Operand) (T : TypeId)
    (ho : o.op = .call { callee := .builtin .append, args := #[s, x], argTypes := #[T, T] }) (e : TypeId) (ht : P.underlying T = some (.slice e)) (i : TypeInfo) (z : Value) (hi : P.info? e = some i) (hz : i.zero = some z) (hsz : i.size = 2) (hby : i.bytes = 32) (hzc : z.cells.size = 2)
    (base n : Nat) (M : List It) (hml : M.length = n) (b0 : Addr) (c0 : Nat) (hd : a.eval s = .slice (some b0) n c0) (hrow : Row w base 2 (.slice (some b0) n c0) n (itCells M)) (hbase : base ≤ w.heap.size) (hn : n ≤ 1000000)
    (K : List It) (k : Nat) (hk : K.length = k) (A : Option Addr) (cap : Nat) (hs : a.eval x = .slice A k cap) (hm : Itms w A K) (hkl : k ≤ 1000000)
    (hK : ∀ v' w', Hid (Row w' base 2 v' (n + k) (itCells (M ++ K))) → Hid (w.grownBy w' (Value.slice (some b0) n c0).ownBlock) → wpList P ops Q rest (a.put o.dst v') w') : wpList P ops Q (o :: rest) a w := by
  by_cases h0 : k = 0
  · subst h0
    obtain rfl := List.eq_nil_of_length_eq_zero hk
    have hnc : n ≤ c0 := by
      obtain ⟨_, hr⟩ := hrow
      rcases hr with ⟨hr, _⟩ | ⟨g, cap', hv, _, _, hle, _⟩
      · cases hr
      · injection hv with _ _ e3
        omega
    have hsrc : ∃ news, Src P i.size T (.slice A 0 cap) 0 news w := by
      cases A with
      | none => exact ⟨[], Src.ofNil w ht cap⟩
      | some x => exact ⟨[], Src.ofSlice w ht x 0 cap [] (by simp) (fun j u h => by simp at h) (fun u h => by cases h)⟩
    obtain ⟨news, hsrc⟩ := hsrc
    have hnl : news = [] := List.eq_nil_of_length_eq_zero (by simpa using hsrc.newsLen)
    subst hnl
    have hk1 : ∃ e', P.underlying T = some (.slice e') := ⟨e, ht⟩
    have hrun : (Builtin.append_ #[T, T] o.type #[.slice (some b0) n c0, .slice A 0 cap]).run P w = .ok (.slice (some b0) n c0) w := by
      have hst : ∀ a : Addr, (storeCells a []).run P w = .ok () w := fun a => by simp [storeCells]
      simp [Builtin.append_, run_underlying ht, sizeOf, typeInfo, hi, hsrc.len, hsrc.cells, hst, hnc]
    refine wpList_plain hgd fun K hK' => ?_
    unfold Oper.wp
    simp [execOp, ho, resolve, invoke, builtin, hd, hs, hrun, Result.andThen]
    exact hK' _ _ (hK _ _ (Lib.hid (by rw [List.append_nil]; exact hrow)) (Lib.hid (grownBy_refl _ _)))
  · obtain ⟨x, rfl, hc⟩ := hm.cells (by omega)
    refine wpList_append_row2 hgd s _ T ho e i z 2 32 ht hi hz hsz hby hzc (by decide) base _ n (itCells M) hd hrow hbase x k cap (itCells K) hs (by rw [itCells_length, hk]) hc (itCells_one' K) (by unfold maxLen; omega) (by omega) ?_
    intro v' w' hr hg _
    refine hK v' w' (Lib.hid ?_) hg
    rw [itCells_append]
    exact hr.out
end Go.Proofs.YtgjmbokfenpefaaGreatDoor
/- How great what a directory tells may be, spoilt or not. -/
namespace Go.Proofs.YtgjmbokfenpefaaGreatDoor
open Go.RowKit

theorem noSgn_dim : SgnDim noSgn := ⟨by show (0 : Int) < _; decide, by show 0 ≤ 35; omega, by show 0 ≤ 3; omega, (fun p hp => by cases hp), by show 0 ≤ 16; omega⟩
theorem prove_dim (L : List It) (ix : ByteArray) : (proveAns L ix).1.length ≤ 128 ∧ (proveAns L ix).2.1.2.size ≤ 16 ∧ (proveAns L ix).2.1.1.size ≤ 16 := by
  by_cases h : rightItems L = true ∧ ix.size = 16
  · obtain ⟨P, x, hp⟩ : ∃ P x, proveAns L ix = (P, x, 0) := by
      unfold proveAns
      rw [if_pos h]
      exact ⟨_, _, rfl⟩
    obtain ⟨_, _, h3⟩ := asked h.1 h.2 hp
    rw [hp]
    refine ⟨by have := h3.few; simpa using this, ?_⟩
    rcases h3.leaf with e | ⟨hx, _⟩
    · show x.2.size ≤ 16 ∧ x.1.size ≤ 16
      rw [e]; exact ⟨by show 0 ≤ 16; omega, by show 0 ≤ 16; omega⟩
    · have := right_sizes h.1 x hx
      show x.2.size ≤ 16 ∧ x.1.size ≤ 16
      omega
  · unfold proveAns
    rw [if_neg h]
    exact ⟨by show 0 ≤ 128; omega, by show 0 ≤ 16; omega, by show 0 ≤ 16; omega⟩
theorem found_dim {d : Dst} (h : DOk d) (he : EpsDim d) (name : ByteArray) : AnsDim (lookupAns d name).1 := by
  have no : AnsDim noAnsw := ⟨noSgn_dim, by show 0 ≤ 128; omega, by show 0 ≤ 16; omega, by show 0 ≤ 16; omega, by show 0 ≤ 24; omega, by show 0 ≤ 16; omega⟩
  unfold lookupAns
  split
  · split
    · exact no
    · rename_i h0
      have hp := prove_dim (itemsOf d) (ofAns name).1
      refine ⟨?_, hp.1, hp.2.1, ?_, ?_, hp.2.2⟩
      · show SgnDim (lastSgn d)
        unfold lastSgn
        rw [List.getD_eq_getElem?_getD, List.getElem?_eq_getElem (show d.eps.length - 1 < d.eps.length by omega)]
        exact he _ (List.getElem_mem _)
      · show (if (look d.vals name).isSome then openOf d name else (⟨#[]⟩ : ByteArray)).size ≤ 16
        split
        · rw [open_size]; exact Nat.le_refl _
        · show 0 ≤ 16; omega
      · show ((look d.vals name).getD (⟨#[]⟩ : ByteArray)).size ≤ 24
        cases e : look d.vals name with
        | none => show 0 ≤ 24; omega
        | some v => exact (h.vn _ (look_mem e)).2.2
  · exact no
end Go.Proofs.YtgjmbokfenpefaaGreatDoor
/- What a program's directory answers: the document's, of items that are right whatever is put: where two names lie at one place it keeps them its own way. -/
namespace Go.Proofs.YtgjmbokfenpefaaGreatDoor
open Go.RowKit

theorem Pub.its_next (pa : Pub) (d : Dst) (E : List Sgn) : pa.its { settled d with eps := E } = pa.its (settled d) := pa.free (settled d) [] E
theorem Pub.next_good (pa : Pub) {d : Dst} (h : DOk d) (he : d.eps.length < 8) : rightItems (pa.its (settled d)) = true := by
  rw [← pa.its_next d (d.eps ++ [noSgn])]
  exact pa.good (pushed_ok h he noSgn)
theorem Pub.bad (pa : Pub) {d d' : Dst} {sg : Sgn} {n : Int} (h : pa.f d = (d', sg, n)) (hn : n ≠ 0) : d' = d ∧ sg = noSgn := by
  rcases pa.cases d with ⟨_, e⟩ | e <;> rw [e] at h
  · obtain ⟨_, h2⟩ := Prod.mk.inj h
    exact absurd (Prod.mk.inj h2).2.symm hn
  · obtain ⟨h1, h2⟩ := Prod.mk.inj h
    exact ⟨h1.symm, (Prod.mk.inj h2).1.symm⟩
theorem settled_right {d : Dst} (h : DOk d) (he : d.eps.length < 8) (hp : Parted (keysL (settled d).vals)) : rightItems (itemsOf (settled d)) = true :=
  items_right (d := { settled d with eps := d.eps ++ [noSgn] }) (pushed_ok h he noSgn) hp
theorem Pub.its_plain (pa : Pub) {d : Dst} (h : DOk d) (hp : Parted (keysL d.vals)) : pa.its d = itemsOf d := pa.right h (items_right h hp)
theorem Pub.next_plain (pa : Pub) {d : Dst} (h : DOk d) (he : d.eps.length < 8) (hp : Parted (keysL (settled d).vals)) : pa.its (settled d) = itemsOf (settled d) := by
  rw [← pa.its_next d (d.eps ++ [noSgn])]
  have hr : rightItems (itemsOf (settled d)) = true := settled_right h he hp
  exact pa.right (pushed_ok h he noSgn) hr
/-- Where no two names lie at one place it is the document's. -/
theorem Pub.f_plain (pa : Pub) {d : Dst} (h : DOk d) (hp : Parted (keysL (settled d).vals)) : pa.f d = publishAns d := by
  by_cases he : d.eps.length < 8
  · have hroot : (rootAns (itemsOf (settled d))).1 = rootOf (itemsOf (settled d)) := by unfold rootAns; rw [if_pos (settled_right h he hp)]
    have hsg : pa.sgn d = nextSgn d := by
      unfold Pub.sgn
      rw [pa.next_plain h he hp, ← hroot]
      rfl
    unfold Pub.f publishAns Pub.next
    rw [if_pos he, if_pos he, hsg]
  · unfold Pub.f publishAns
    rw [if_neg he, if_neg he]
theorem Pub.tells_plain (pa : Pub) {d : Dst} (h : DOk d) (hp : Parted (keysL d.vals)) (name : ByteArray) : pa.tells d name = lookupAns d name := by
  unfold Pub.tells lookupAns Pub.found foundAns
  rw [pa.its_plain h hp]
theorem Pub.sgn_dim (pa : Pub) (d : Dst) : SgnDim (pa.sgn d) := by
  unfold Pub.sgn sgnOf
  have h := next_dim (d.eps.map (·.head)) (rootOf (pa.its (settled d))) (by rw [show (rootOf (pa.its (settled d))).size = 16 from nodeOf_size _ _ _]; exact Nat.le_refl _)
  exact sign_dim _ _ _ h.1 h.2
theorem Pub.f_dim (pa : Pub) {d : Dst} (h : EpsDim d) : EpsDim (pa.f d).1 := by
  rcases pa.cases d with ⟨_, e⟩ | e <;> rw [e]
  · intro s hs
    rcases List.mem_append.1 hs with h1 | h1
    · exact h s h1
    · rw [List.mem_singleton.1 h1]; exact pa.sgn_dim d
  · exact h
/-- Whatever is there, its next epoch is the next of the chain. -/
theorem Pub.next_linked (pa : Pub) {d : Dst} (hc : Chained d) (he : d.eps.length < 8) : Chained (pa.next d) ∧ (pa.sgn d).head.root = rootOf (pa.its (settled d)) :=
  push_linked hc he (nodeOf_size _ _ _)
theorem Pub.linked (pa : Pub) {d : Dst} (hc : Chained d) : Chained (pa.f d).1 := by
  rcases pa.cases d with ⟨he, e⟩ | e <;> rw [e]
  · exact (pa.next_linked hc he).1
  · exact hc
end Go.Proofs.YtgjmbokfenpefaaGreatDoor
/- The items that a directory keeps where two names may lie at one place: of those the one that was put last, of one epoch the greatest. -/
namespace Go.Proofs.YtgjmbokfenpefaaGreatDoor
open Go.RowKit

instance (d : Dst) (q p : ByteArray) : Decidable (Beats d q p) := by unfold Beats; infer_instance
theorem over_mem {d : Dst} {y : It} : y ∈ overIts d ↔ ∃ p ∈ d.vals, (∀ q ∈ d.vals, ¬ Beats d q.1 p.1) ∧ itemOf d p = y := by
  rw [show (y ∈ overIts d ↔ y ∈ (topVals d).map (itemOf d)) from (sortIts_perm _).mem_iff, List.mem_map]
  constructor
  · rintro ⟨p, hp, e⟩
    obtain ⟨h1, h2⟩ := top_mem.1 hp
    exact ⟨p, h1, h2, e⟩
  · rintro ⟨p, h1, h2, e⟩
    exact ⟨p, top_mem.2 ⟨h1, h2⟩, e⟩
/-- Two rising lists of the same items are one list. -/
theorem its_one : ∀ {L M : List It}, L.Pairwise ltI → M.Pairwise ltI → (∀ f, f ∈ L ↔ f ∈ M) → L = M
  | [], [], _, _, _ => rfl
  | [], y :: M, _, _, h => by have := (h y).2 (List.mem_cons_self ..); cases this
  | x :: L, [], _, _, h => by have := (h x).1 (List.mem_cons_self ..); cases this
  | x :: L, y :: M, hL, hM, h => by
    obtain ⟨hx, hL'⟩ := List.pairwise_cons.1 hL
    obtain ⟨hy, hM'⟩ := List.pairwise_cons.1 hM
    have e : x = y := by
      rcases List.mem_cons.1 ((h x).1 (List.mem_cons_self ..)) with e | h1
      · exact e
      · rcases List.mem_cons.1 ((h y).2 (List.mem_cons_self ..)) with e | h2
        · exact e.symm
        · exact absurd (ltI_trans (hy x h1) (hx y h2)) (List.lt_irrefl _)
    subst e
    rw [its_one hL' hM' fun f => ?_]
    constructor
    · intro hf
      rcases List.mem_cons.1 ((h f).1 (List.mem_cons_of_mem _ hf)) with e | h1
      · subst e; exact absurd (hx f hf) (List.lt_irrefl _)
      · exact h1
    · intro hf
      rcases List.mem_cons.1 ((h f).2 (List.mem_cons_of_mem _ hf)) with e | h1
      · subst e; exact absurd (hy f hf) (List.lt_irrefl _)
      · exact h1
/-- One more is set, where there is room. -/
theorem set_ok {L : List It} {x : It} {N : List ByteArray} (hr : rightItems L = true) (hx : goodI x = true) (hs : ∀ y ∈ L, y.1 ∈ N) (hn : x.1 ∈ N) (hl : N.length ≤ 60) :
    setOf L x = (insIt x (others L x), 0) ∧ rightItems (insIt x (others L x)) = true ∧ (∀ y, y ∈ insIt x (others L x) ↔ y = x ∨ (y ∈ L ∧ y.1 ≠ x.1)) := by
  have hm : ∀ y, y ∈ insIt x (others L x) ↔ y = x ∨ (y ∈ L ∧ y.1 ≠ x.1) := fun y => by
    rw [(insIt_perm x (others L x)).mem_iff, List.mem_cons]
    unfold others
    rw [List.mem_filter]
    simp
  have hso := insIt_sorted x _ (others_sorted (right_sorted hr) x) (others_ne L x)
  have hlen : (insIt x (others L x)).length ≤ 60 := by
    have hnd : ((insIt x (others L x)).map (·.1)).Nodup := by
      rw [List.Nodup, List.pairwise_map]
      exact hso.imp fun hxy e => by
        rename_i a b
        have h1 : a.1.data.toList < b.1.data.toList := hxy
        rw [e] at h1
        exact List.lt_irrefl _ h1
    have h := nodup_le hnd (B := N) fun s h => by
      obtain ⟨y, hy, rfl⟩ := List.mem_map.1 h
      rcases (hm y).1 hy with rfl | ⟨hy, _⟩
      · exact hn
      · exact hs y hy
    rw [List.length_map] at h
    omega
  have hgood : ∀ y ∈ insIt x (others L x), goodI y = true := fun y hy => by
    rcases (hm y).1 hy with rfl | ⟨hy, _⟩
    · exact hx
    · have := right_sizes hr y hy
      unfold goodI
      rw [this.1, this.2]
      rfl
  refine ⟨?_, right_of hso hgood hlen, hm⟩
  unfold setOf
  have hp := (insIt_perm x (others L x)).length_eq
  rw [List.length_cons] at hp
  rw [if_pos ⟨hr, (right_one x).trans hx⟩, if_neg (by omega)]
/-- Items that are set one behind the other, each of a name. -/
def layOf (x : ByteArray → It) (S : List ByteArray) (L : List It) : List It := S.foldl (fun L s => (setOf L (x s)).1) L
theorem layOf_next {x : ByteArray → It} {S : List ByteArray} {L : List It} {k : Nat} {s : ByteArray} (h : S[k]? = some s) : layOf x (S.take (k + 1)) L = (setOf (layOf x (S.take k) L) (x s)).1 := by
  unfold layOf
  rw [List.take_add_one, h, List.foldl_append]
  rfl
theorem lay_fold {x : ByteArray → It} {N : List ByteArray} (hl : N.length ≤ 60) : ∀ (S : List ByteArray) (L : List It), (∀ s ∈ S, goodI (x s) = true ∧ (x s).1 ∈ N) → S.Pairwise (fun s t => s.data.toList < t.data.toList) → rightItems L = true → (∀ y ∈ L, y.1 ∈ N) →
    rightItems (layOf x S L) = true ∧ (∀ y ∈ layOf x S L, y.1 ∈ N) ∧ ∀ y, y ∈ layOf x S L ↔ (∃ s ∈ S, y = x s ∧ ∀ t ∈ S, s.data.toList < t.data.toList → (x t).1 ≠ (x s).1) ∨ (y ∈ L ∧ ∀ s ∈ S, (x s).1 ≠ y.1)
  | [], L, _, _, hr, hn => ⟨hr, hn, fun y => ⟨fun h => .inr ⟨h, fun s hs => by cases hs⟩, fun h => by
      rcases h with ⟨s, hs, _⟩ | h
      · cases hs
      · exact h.1⟩⟩
  | s :: S, L, hx, hp, hr, hn => by
    obtain ⟨p1, p2⟩ := List.pairwise_cons.1 hp
    obtain ⟨g1, g2⟩ := hx s (List.mem_cons_self ..)
    obtain ⟨e1, e2, e3⟩ := set_ok hr g1 hn g2 hl
    have hstep : layOf x (s :: S) L = layOf x S (insIt (x s) (others L (x s))) := by
      show layOf x S (setOf L (x s)).1 = _
      rw [e1]
    rw [hstep]
    obtain ⟨i1, i2, i3⟩ := lay_fold hl S (insIt (x s) (others L (x s))) (fun t ht => hx t (List.mem_cons_of_mem _ ht)) p2 e2 (fun y hy => by
      rcases (e3 y).1 hy with rfl | ⟨hy, _⟩
      · exact g2
      · exact hn y hy)
    refine ⟨i1, i2, fun y => ?_⟩
    rw [i3 y, e3 y]
    constructor
    · rintro (⟨t, ht, rfl, h⟩ | ⟨rfl | ⟨hy, hne⟩, h⟩)
      · refine .inl ⟨t, List.mem_cons_of_mem _ ht, rfl, fun u hu hlt => ?_⟩
        rcases List.mem_cons.1 hu with rfl | hu
        · exact absurd (List.lt_trans hlt (p1 t ht)) (List.lt_irrefl _)
        · exact h u hu hlt
      · refine .inl ⟨s, List.mem_cons_self .., rfl, fun u hu hlt => ?_⟩
        rcases List.mem_cons.1 hu with rfl | hu
        · exact absurd hlt (List.lt_irrefl _)
        · exact h u hu
      · refine .inr ⟨hy, fun u hu => ?_⟩
        rcases List.mem_cons.1 hu with rfl | hu
        · exact fun e => hne e.symm
        · exact h u hu
    · rintro (⟨t, ht, rfl, h⟩ | ⟨hy, h⟩)
      · rcases List.mem_cons.1 ht with rfl | ht
        · exact .inr ⟨.inl rfl, fun u hu => h u (List.mem_cons_of_mem _ hu) (p1 u hu)⟩
        · exact .inl ⟨t, ht, rfl, fun u hu hlt => h u (List.mem_cons_of_mem _ hu) hlt⟩
      · exact .inr ⟨.inr ⟨hy, fun e => h s (List.mem_cons_self ..) e.symm⟩, fun u hu => h u (List.mem_cons_of_mem _ hu)⟩
/-- What lies where a name does that waits, once it is published. -/
def freshIt (d : Dst) (s : ByteArray) : It := itemOf (settled d) (s, (look d.wait s).getD ⟨#[]⟩)
theorem since_le {d : Dst} (h : DOk d) (s : ByteArray) : sinceOf d s ≤ (d.eps.length : Int) := by
  unfold sinceOf
  cases e : look d.since s with
  | none => show (0 : Int) ≤ _; omega
  | some n => exact (h.epoch s n e).2
theorem since_fresh {d : Dst} (h : DOk d) {s : ByteArray} (hw : (look d.wait s).isSome = true) : sinceOf (settled d) s = (d.eps.length : Int) + 1 := by
  unfold sinceOf
  rw [(settled_look h s).2]
  cases e : look d.wait s with
  | none => rw [e] at hw; cases hw
  | some v => rfl
theorem since_old {d : Dst} (h : DOk d) {s : ByteArray} (hw : ¬ (look d.wait s).isSome = true) : sinceOf (settled d) s = sinceOf d s ∧ look (settled d).vals s = look d.vals s ∧ openOf (settled d) s = openOf d s := by
  have e : look d.wait s = none := by
    cases e : look d.wait s with
    | none => rfl
    | some v => rw [e] at hw; exact absurd rfl hw
  have h1 : look (settled d).since s = look d.since s := by rw [(settled_look h s).2, e]; rfl
  refine ⟨by unfold sinceOf; rw [h1], by rw [(settled_look h s).1, e]; rfl, ?_⟩
  unfold openOf
  rw [h1]
  rfl
theorem since_new {d : Dst} (h : DOk d) (s : ByteArray) : sinceOf (settled d) s ≤ (d.eps.length : Int) + 1 ∧ (sinceOf (settled d) s = (d.eps.length : Int) + 1 → (look d.wait s).isSome = true) := by
  by_cases hw : (look d.wait s).isSome = true
  · rw [since_fresh h hw]; exact ⟨Int.le_refl _, fun _ => hw⟩
  · rw [(since_old h hw).1]
    have := since_le h s
    exact ⟨by omega, fun e => by omega⟩
theorem vals_nodup {d : Dst} (h : DOk d) : (keysL (settled d).vals).Nodup := upsAll_nodup h.vk _
theorem settled_fresh {d : Dst} (h : DOk d) {s : ByteArray} (hw : (look d.wait s).isSome = true) : (s, (look d.wait s).getD ⟨#[]⟩) ∈ (settled d).vals := by
  refine look_mem ?_
  rw [(settled_look h s).1]
  cases e : look d.wait s with
  | none => rw [e] at hw; cases hw
  | some v => rfl
theorem settled_old {d : Dst} (h : DOk d) {p : ByteArray × ByteArray} (hw : ¬ (look d.wait p.1).isSome = true) : p ∈ (settled d).vals ↔ p ∈ d.vals := by
  obtain ⟨s, v⟩ := p
  have e := (since_old h (s := s) hw).2.1
  constructor
  · intro hp
    exact look_mem (e ▸ look_of_mem (vals_nodup h) hp)
  · intro hp
    exact look_mem (e.trans (look_of_mem h.vk hp))
theorem item_old {d : Dst} (h : DOk d) {p : ByteArray × ByteArray} (hw : ¬ (look d.wait p.1).isSome = true) : itemOf (settled d) p = itemOf d p := by
  unfold itemOf
  rw [(since_old h hw).2.2]
/-- What is kept behind an epoch is what was kept ahead of it, each name that waited set in its turn. -/
theorem over_settled {d : Dst} (h : DOk d) (h8 : d.eps.length < 8) {S : List ByteArray} (hS : Waits d S) : layOf (freshIt d) S (overIts d) = overIts (settled d) ∧
    ∀ k, rightItems (layOf (freshIt d) (S.take k) (overIts d)) = true ∧ ∀ s, S[k]? = some s → setOf (layOf (freshIt d) (S.take k) (overIts d)) (freshIt d s) = (layOf (freshIt d) (S.take (k + 1)) (overIts d), 0) := by
  have hok := pushed_ok h h8 noSgn
  have hN : (keysL (settled d).vals).length ≤ 60 := by rw [keysL_length]; exact hok.vals60
  have hNl : ((settled d).vals.map fun p => ixOf p.1).length ≤ 60 := by
    rw [List.length_map]
    rw [keysL_length] at hN
    exact hN
  have hx : ∀ s ∈ S, goodI (freshIt d s) = true ∧ (freshIt d s).1 ∈ (settled d).vals.map fun p => ixOf p.1 := fun s hs => by
    have hw := (hS.mem s).1 hs
    have hm := settled_fresh h hw
    exact ⟨item_good hok hm, List.mem_map.2 ⟨_, hm, rfl⟩⟩
  have hr := over_right h
  have hn : ∀ y ∈ overIts d, y.1 ∈ (settled d).vals.map fun p => ixOf p.1 := fun y hy => by
    obtain ⟨p, hp, _, rfl⟩ := over_mem.1 hy
    by_cases hw : (look d.wait p.1).isSome = true
    · exact List.mem_map.2 ⟨_, settled_fresh h hw, rfl⟩
    · exact List.mem_map.2 ⟨p, (settled_old h hw).2 hp, rfl⟩
  refine ⟨?_, fun k => ?_⟩
  · obtain ⟨f1, _, f3⟩ := lay_fold hNl S (overIts d) hx hS.rise hr hn
    have hor : rightItems (overIts { settled d with eps := d.eps ++ [noSgn] }) = true := over_right hok
    have hor : rightItems (overIts (settled d)) = true := hor
    refine its_one (right_sorted f1) (right_sorted hor) fun y => ?_
    rw [f3 y, show (y ∈ overIts (settled d) ↔ _) from over_mem]
    constructor
    · rintro (⟨s, hs, rfl, hb⟩ | ⟨hy, hb⟩)
      · have hw := (hS.mem s).1 hs
        refine ⟨_, settled_fresh h hw, fun q hq hbt => ?_, rfl⟩
        obtain ⟨b1, b2⟩ := hbt
        have e1 := since_fresh h hw
        have b2 : sinceOf (settled d) s < sinceOf (settled d) q.1 ∨ (sinceOf (settled d) s = sinceOf (settled d) q.1 ∧ s.data.toList < q.1.data.toList) := b2
        rw [e1] at b2
        have e2 := since_new h q.1
        rcases b2 with b2 | ⟨b2, b3⟩
        · omega
        · exact hb q.1 ((hS.mem q.1).2 (e2.2 b2.symm)) b3 b1
      · obtain ⟨p, hp, hnb, rfl⟩ := over_mem.1 hy
        have hw : ¬ (look d.wait p.1).isSome = true := fun hw => hb p.1 ((hS.mem p.1).2 hw) rfl
        refine ⟨p, (settled_old h hw).2 hp, fun q hq hbt => ?_, item_old h hw⟩
        have hwq : ¬ (look d.wait q.1).isSome = true := fun hwq => hb q.1 ((hS.mem q.1).2 hwq) hbt.1
        refine hnb q ((settled_old h hwq).1 hq) ?_
        unfold Beats at hbt ⊢
        rw [(since_old h hw).1, (since_old h hwq).1] at hbt
        exact hbt
    · rintro ⟨p, hp, hnb, rfl⟩
      by_cases hw : (look d.wait p.1).isSome = true
      · left
        refine ⟨p.1, (hS.mem p.1).2 hw, ?_, fun t ht hlt e => ?_⟩
        · have hm := look_of_mem (vals_nodup h) (settled_fresh h hw)
          have hm2 := look_of_mem (vals_nodup h) (show (p.1, p.2) ∈ (settled d).vals from hp)
          have e := Option.some.inj (hm.symm.trans hm2)
          unfold freshIt
          rw [e]
        · have hwt := (hS.mem t).1 ht
          exact hnb _ (settled_fresh h hwt) ⟨e, .inr ⟨by rw [since_fresh h hw, since_fresh h hwt], hlt⟩⟩
      · right
        refine ⟨over_mem.2 ⟨p, (settled_old h hw).1 hp, fun q hq hbt => ?_, (item_old h hw).symm⟩, fun s hs e => ?_⟩
        · by_cases hwq : (look d.wait q.1).isSome = true
          · refine hnb _ (settled_fresh h hwq) ⟨hbt.1, .inl ?_⟩
            show sinceOf (settled d) p.1 < sinceOf (settled d) q.1
            rw [since_fresh h hwq, (since_old h hw).1]
            have := since_le h p.1
            omega
          · refine hnb q ((settled_old h hwq).2 hq) ?_
            unfold Beats at hbt ⊢
            rw [(since_old h hw).1, (since_old h hwq).1]
            exact hbt
        · have hws := (hS.mem s).1 hs
          refine hnb _ (settled_fresh h hws) ⟨e, .inl ?_⟩
          show sinceOf (settled d) p.1 < sinceOf (settled d) s
          rw [since_fresh h hws, (since_old h hw).1]
          have := since_le h p.1
          omega
  · obtain ⟨f1, f2, _⟩ := lay_fold hNl (S.take k) (overIts d) (fun s hs => hx s (List.mem_of_mem_take hs)) (hS.rise.sublist (List.take_sublist k S)) hr hn
    refine ⟨f1, fun s hs => ?_⟩
    obtain ⟨g1, g2⟩ := hx s (List.mem_of_getElem? hs)
    rw [layOf_next hs, (set_ok f1 g1 f2 g2 hNl).1]
end Go.Proofs.YtgjmbokfenpefaaGreatDoor
/- clear of a map; the maps of the program's directory. -/
namespace Go.Proofs.YtgjmbokfenpefaaGreatDoor
open Go.RowKit Go.Maps Go.MapKept

theorem MapIs.cleared {α : Type} {K : MKind α} {w : World} {b : Nat} {L : List (ByteArray × α)} (h : MapIs K w b L) :
    ∃ w' : World, (∀ ty, (Builtin.clear_ #[K.M] ty #[.map (some b)]).run Tryz.prog w = .ok (.tuple #[]) w') ∧ MapIs K w' b [] ∧ w.grownBy w' (some b) ∧ w'.heap.size = w.heap.size := by
  obtain ⟨⟨D, ⟨es, clock, hb, F, hs, hD⟩, _⟩, _, _⟩ := h
  refine ⟨{ w with heap := w.heap.setIfInBounds b (.map #[] clock) }, fun ty => ?_, ⟨⟨.map [], ⟨#[], clock, (heap_set hb).1, ⟨by simp, stamped_empty clock, by simp⟩, Nat.le_refl _, rfl⟩, ⟨rfl, fun s => rfl, fun s x h => by simp [look_nil] at h⟩⟩, List.nodup_nil, fun p h => by cases h⟩, ⟨rfl, rfl, rfl, by simp, fun i _ hi => (heap_set hb).2 i (fun e => hi (by rw [e]))⟩, by simp⟩
  simp [Builtin.clear_, run_underlying K.und, Go.MapKept.run_getObj_map hb, Go.MapKept.run_setObj_map _ hb, Result.andThen]
end Go.Proofs.YtgjmbokfenpefaaGreatDoor
/- slices.Chunk over strings, two and two: what its rounds are handed. -/
namespace Go.Proofs.YtgjmbokfenpefaaGreatDoor
open Go.RowKit Go.Shelf
attribute [local go_sem] Oper.semAt_some

/-- What has come when k rounds are over. -/
def twos {m : Nat} (ys : List (Fin m)) (k : Nat) : Prop := ys.map (·.val) = List.range k
theorem twos_snoc {m : Nat} {ys : List (Fin m)} {k : Nat} (h : twos ys k) (x : Fin m) (hx : x.val = k) : twos (ys ++ [x]) (k + 1) := by
  unfold twos at h ⊢
  rw [List.range_succ, List.map_append, h, List.map_singleton, hx]
theorem twos_len {m : Nat} {ys : List (Fin m)} {k : Nat} (h : twos ys k) : ys.length = k := by
  have := congrArg List.length h
  rwa [List.length_map, List.length_range] at this
/-- What a round is handed. -/
def duo {m : Nat} (g : Nat) (x : Fin m) : Value := .slice (some ⟨g, 2 * x.val, none⟩) 2 2

/-- What a round that goes on keeps: what lies below n₀, and the two boxes. -/
def KeepTwo (n₀ B1 B2 : Nat) (v1 v2 : Value) (W W' : World) : Prop := Below n₀ W W' ∧ (W.cell? ⟨B1, 0, none⟩ = some v1 → W'.cell? ⟨B1, 0, none⟩ = some v1) ∧ (W.cell? ⟨B2, 0, none⟩ = some v2 → W'.cell? ⟨B2, 0, none⟩ = some v2)
theorem keepTwo_t {n₀ B1 B2 : Nat} {v1 v2 : Value} {A B C : World} (h : KeepTwo n₀ B1 B2 v1 v2 A B) (k : KeepTwo n₀ B1 B2 v1 v2 B C) : KeepTwo n₀ B1 B2 v1 v2 A C := ⟨h.1.trans k.1, fun e => k.2.1 (h.2.1 e), fun e => k.2.2 (h.2.2 e)⟩
theorem keepTwo_b {n₀ B1 B2 : Nat} {v1 v2 : Value} {w : World} (hn : n₀ ≤ w.heap.size) (W : World) (l : Nat) (o o' : Obj) (hl : w.heap.size ≤ l) (h : W.heap[l]? = some o) (hc : o.isCells = false) (hw : o.isWalk = false) : KeepTwo n₀ B1 B2 v1 v2 W (W.putObj l o') :=
  ⟨belowK_b hn W l o o' hl h hc hw, fun e => cell_kept e (grownBy_putObj' W l o') (fun r e => by cases e; exact ⟨_, h, hc⟩), fun e => cell_kept e (grownBy_putObj' W l o') (fun r e => by cases e; exact ⟨_, h, hc⟩)⟩

set_option maxRecDepth 100000 in
set_option maxHeartbeats 2000000 in
theorem chunk1_in (F : Fence) (n : Nat) (h8 : F.fn 238) (hro : F.round = none) (hn : 1 ≤ n) (l B1 B2 n₀ g cap m : Nat) (hm : m ≤ 1000000) (hcap : 2 * m ≤ cap) (J Jx : List (Fin m) → World → Prop)
    (hY : ∀ pre x W, J pre W → pre.length < m → YieldAt F (n - 1) Tryz.prog l #[duo g x] W fun e W' =>
      (e = .returned (.bool true) ∧ J (pre ++ [x]) W' ∧ KeepTwo n₀ B1 B2 (.slice (some ⟨g, 0, none⟩) (2 * m) cap) (.int .i64 2) W W') ∨ (e = .returned (.bool false) ∧ Jx (pre ++ [x]) W'))
    (hJd : ∀ pre W, J pre W → J pre W.drew)
    (W : World) (hB1 : W.cell? ⟨B1, 0, none⟩ = some (.slice (some ⟨g, 0, none⟩) (2 * m) cap)) (hB2 : W.cell? ⟨B2, 0, none⟩ = some (.int .i64 2)) (h0 : J [] W) :
    CallsIn F n Tryz.prog 238 #[.func (.yield l) #[] #[], .pointer (some ⟨B1, 0, none⟩), .pointer (some ⟨B2, 0, none⟩)] W fun e W' => (∃ v, e = .returned v) ∧
      ((∃ ys, twos ys m ∧ J ys W') ∨ (∃ pre, (∃ k, k ≤ m ∧ twos pre k) ∧ Jx pre W')) := by
  refine callsIn_of_wp Tryz.func238 rfl h8 ?_ hro
  simp only [Tryz.ntmps238, List.size_toArray, List.length_cons, List.length_nil, Nat.reduceAdd, Nat.reduceSub, Array.replicate_succ, Array.replicate_zero, List.push_toArray, List.append_toArray, List.nil_append, List.cons_append]
  gi_wp2
  gi_loopw [4] (fun i wr => ∃ k : Nat, k ≤ m ∧ i = .int .i64 ((2 * k : Nat) : Int) ∧ (∃ ys, twos ys k ∧ J ys wr) ∧ wr.cell? ⟨B1, 0, none⟩ = some (.slice (some ⟨g, 0, none⟩) (2 * m) cap) ∧ wr.cell? ⟨B2, 0, none⟩ = some (.int .i64 2))
    (fun i _ => 2 * m - (intOf i).toNat)
  case atStart => exact ⟨0, Nat.zero_le _, by simp, ⟨[], rfl, h0⟩, hB1, hB2⟩
  case round =>
    obtain ⟨k, hk, rfl, ⟨ys, hys, hJs⟩, hc1, hc2⟩ := hrel
    by_cases hlt : k < m
    · obtain ⟨i2, hi2⟩ : ∃ i2 : Nat, 2 * k = i2 := ⟨_, rfl⟩
      obtain ⟨m2, hm2⟩ : ∃ m2 : Nat, 2 * m = m2 := ⟨_, rfl⟩
      obtain ⟨fn, tmps, assign, body, hy, hR⟩ := hY ys ⟨k, hlt⟩ wr.drew (hJd _ _ hJs) (by rw [twos_len hys]; exact hlt)
      have hd1 : wr.drew.cell? ⟨B1, 0, none⟩ = some (.slice (some ⟨g, 0, none⟩) (2 * m) cap) := hc1
      have hd2 : wr.drew.cell? ⟨B2, 0, none⟩ = some (.int .i64 2) := hc2
      dsimp only [duo] at hy
      have hbs := twos_snoc hys ⟨k, hlt⟩ rfl
      rw [hi2] at hy ⊢
      rw [hm2] at hc1 hd1 hcap
      have b1 : i2 + 2 ≤ m2 := by omega
      have b2 : m2 ≤ 2000000 := by omega
      have t1 : (i2 : Int) < (m2 : Int) := by omega
      gi_wp2
      gi_region
      all_goals
        first
          | rw [if_neg (show ¬ ((m2 - i2 : Nat) : Int) < 2 by omega)]
          | rw [show min (2 : Int) ((m2 - i2 : Nat) : Int) = 2 by omega]
        have w2 : IntKind.i64.wrap ((i2 : Int) + 2) = (i2 : Int) + 2 := IntWalk.i64_in _ (by omega)
        have w3 : ((i2 : Int) + 2).toNat = i2 + 2 := by omega
        have w4 : i2 + 2 - i2 = 2 := by omega
        have w5 : ¬ cap - i2 = 0 := by omega
        gi_wp2
        refine hR.mono ?_
        rintro e W3 (⟨rfl, hJ3, hk3⟩ | ⟨rfl, hJx3⟩)
        · rw [hm2] at hk3
          have hc1' := hk3.2.1 hd1
          have hc2' := hk3.2.2 hd2
          gi_wp2
          go_roundw
          case rel => exact ⟨k + 1, by omega, by congr 1; omega, ⟨_, hbs, hJ3⟩, by rw [hm2]; exact hc1', hc2'⟩
          case measure => simp only [intOf]; omega
        · gi_wp2
          refine bodyPost_ret (results_none rfl _ _ _) rfl ?_
          exact ⟨⟨_, rfl⟩, .inr ⟨_, ⟨k + 1, by omega, hbs⟩, hJx3⟩⟩
    · obtain rfl : k = m := by omega
      gi_wp2
      go_end0
      exact ⟨⟨_, rfl⟩, .inl ⟨_, hys, hJs⟩⟩

set_option maxHeartbeats 1000000 in
theorem chunk_in (F : Fence) (n : Nat) (h6 : F.fn 197) (hro : F.round = none) (a : Option Addr) (len cap : Nat) (w : World) :
    CallsIn F n Tryz.prog 197 #[.slice a len cap, .int .i64 2] w fun e w' => e = .returned (.func (.func 238) #[] #[.pointer (some ⟨w.heap.size, 0, none⟩), .pointer (some ⟨w.heap.size + 1, 0, none⟩)]) ∧
      w' = (w.alloc (.cells #[.slice a len cap] 53)).alloc (.cells #[.int .i64 2] 3) := by
  refine callsIn_of_wp Tryz.func197 rfl h6 ?_ hro
  simp only [Tryz.ntmps197, List.size_toArray, List.length_cons, List.length_nil, Nat.reduceAdd, Nat.reduceSub, Array.replicate_succ, Array.replicate_zero, List.push_toArray, List.append_toArray, List.nil_append, List.cons_append]
  have hb := Boxed.new (w.alloc (.cells #[.slice a len cap] 53)) 3 (.int .i64 2)
  rw [World.size_alloc] at hb
  have hb1 := hb.cell
  gi_wp2
  go_ret
  exact ⟨rfl, rfl⟩

/-- What slices.Chunk hands back stops after all the pairs; or a round said no more. -/
theorem chunk_stops (F : Fence) (n : Nat) (h8 : F.fn 238) (hro : F.round = none) (hn : 1 ≤ n) (B1 B2 n₀ g cap m : Nat) (hm : m ≤ 1000000) (hcap : 2 * m ≤ cap) (w : World) (hB1 : B1 < w.heap.size) (hB2 : B2 < w.heap.size)
    (h1 : w.cell? ⟨B1, 0, none⟩ = some (.slice (some ⟨g, 0, none⟩) (2 * m) cap)) (h2 : w.cell? ⟨B2, 0, none⟩ = some (.int .i64 2)) :
    SeqStopsK F n Tryz.prog 238 #[.pointer (some ⟨B1, 0, none⟩), .pointer (some ⟨B2, 0, none⟩)] (fun x : Fin m => #[duo g x]) (KeepTwo n₀ B1 B2 (.slice (some ⟨g, 0, none⟩) (2 * m) cap) (.int .i64 2)) (fun ys => twos ys m)
      (fun pre => ∃ k, k ≤ m ∧ twos pre k) m w := fun l J Jx W hW hJ _ hY h0 =>
  chunk1_in F n h8 hro hn l B1 B2 n₀ g cap m hm hcap J Jx hY
    (fun pre W' h => hJ pre W' W'.drew none h ⟨rfl, rfl, rfl, Nat.le_refl _, fun _ _ _ => rfl⟩ (fun r e => by cases e)) W ((hW.cell (p := ⟨B1, 0, none⟩) hB1).trans h1) ((hW.cell (p := ⟨B2, 0, none⟩) hB2).trans h2) h0
end Go.Proofs.YtgjmbokfenpefaaGreatDoor
