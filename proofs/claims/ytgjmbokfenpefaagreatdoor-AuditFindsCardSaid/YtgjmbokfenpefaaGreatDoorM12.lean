/- Parts of the proof, one behind the other: PParts, DKeep, There, Order, DFresh, Acts, Append, AppT, Spoilt, DDim, Pub, Over, MapO, MapC, VAbove. -/
import Derived.WalkKit
import Derived.Lib.Hide
import Derived.WalkLawsBesides
import Derived.Deep.QuietTactic
import Derived.Deep.WholeRow
import Derived.ArgAppend
import Derived.Laws.AppendOwnNone
import Derived.Laws.CopyRow
import Derived.Deep.RegionLaw
import Derived.Laws.BytesString
import Derived.Laws.IdiomStrings
import Derived.Test.YtgjmbokfenpefaaGreatDoorProg
import Derived.Laws.BitsAllLaws
import Derived.Outline
import Derived.BigQuiet
import Derived.Laws.CopyOwn
import Derived.RegionTactic
import Derived.StillTail
import Derived.Deep.Quiet
import Derived.Deep.RegionHeld3
import Derived.Deep.DeepCutAuto
import Derived.Laws.ResultCell
import Derived.IntWalk
import Derived.Sort.Walk0
import Derived.Laws.StructEq
import Derived.StringKeys
import Derived.Maps.Own
import Derived.Maps.Views
import Derived.Maps.OwnSet
import Derived.Maps.OwnOps
import Derived.Maps.RangeWalk
import Derived.Sort.KeysCollected
import Derived.Tactics
import Derived.Orders
import Derived.LaidEql
import Derived.Stop.Asserts
import Derived.RowKitTokens
import Derived.OrdersHeld
import Derived.Sort.LotA
import Derived.Lib.SortBridge
import Derived.Shelf.SlSortFuncK.WholeK
import Derived.Ground.GgsProg
import Derived.Shelf.GgSortFunc.Tiny
import Derived.Shelf.Strings.Repeat
import Derived.KernelRfl
import Derived.WideKeyEntry
import Derived.Deep.CutRange
import Derived.Deep.AppendSrc
import Derived.RangeFuncNested
import Derived.RangeFuncBound
import Derived.RangeFuncCalls
import Derived.RangeFuncLeaves
import Derived.Shelf.Abstract
import Derived.Shelf.RegionOpen
import Derived.OwnWalkIn
import Derived.TacticsInMore
import Derived.LoopNIn
import Derived.LoopIn
import Derived.OrdersIn
import Derived.TacticsIn
import Derived.Test.YtgjmbokfenpefaaGreatDoorM1
import Derived.Test.YtgjmbokfenpefaaGreatDoorM2
import Derived.Test.YtgjmbokfenpefaaGreatDoorM3
import Derived.Test.YtgjmbokfenpefaaGreatDoorM4
import Derived.Test.YtgjmbokfenpefaaGreatDoorM5
import Derived.Test.YtgjmbokfenpefaaGreatDoorM6
import Derived.Test.YtgjmbokfenpefaaGreatDoorM7
import Derived.Test.YtgjmbokfenpefaaGreatDoorM8
import Derived.Test.YtgjmbokfenpefaaGreatDoorM9
/- The program's Parts. -/
namespace Go.Proofs.YtgjmbokfenpefaaGreatDoor
open Go.RowKit

theorem partsFrom_end {a b : List Hd} {m f : Nat} (hm : m = a.length ∨ m = b.length ∧ m ≤ a.length) (hf : m + f = a.length) : partsFrom a b f m = m := by
  cases f with
  | zero => unfold partsFrom; omega
  | succ f =>
    rw [partsFrom, if_neg]
    rintro ⟨h, _⟩
    omega
set_option maxHeartbeats 1000000 in
set_option maxRecDepth 100000 in
theorem pParts_any (L M : List Hd) (A B : Option Addr) (cap cap' : Nat) (w : World) (hl : L.length ≤ 1000000) (_hl' : M.length ≤ 1000000) (ha : Hds w A L) (hb : Hds w B M) :
    Calls Tryz.prog 79 #[.slice A L.length cap, .slice B M.length cap'] w fun e w' => e = .returned (.int .i64 ((partsAns L M : Nat) : Int)) ∧ Below w.heap.size w w' := by
  have HA := Lib.hid ha
  have HB := Lib.hid hb
  clear ha hb
  obtain ⟨y, hy⟩ : ∃ y, partsAns L M = y := ⟨_, rfl⟩
  rw [hy]
  have HY := Lib.hid hy
  clear hy
  obtain ⟨m, hm1, hm2, hm3⟩ : ∃ m : Nat, m ≤ L.length ∧ m ≤ M.length ∧ Hid (m = L.length ∨ m = M.length ∧ m ≤ L.length) := ⟨min L.length M.length, by omega, by omega, Lib.hid (by omega)⟩
  have hmin : min (L.length : Int) (M.length : Int) = (m : Int) := by have := hm3.out; omega
  go_enter Tryz.func79, Tryz.ntmps79
  go_wp2
  go_loopw [13] (fun i wr => ∃ k f : Nat, k ≤ m ∧ k + f = L.length ∧ i = .int .i64 (k : Int) ∧ Hid (partsFrom L M f k = y ∧ Below w.heap.size w wr)) (fun i _ => m - (intOf i).toNat)
  case atStart => exact ⟨0, L.length, by omega, by omega, rfl, Lib.hid ⟨HY.out, Below.refl _ _⟩⟩
  case round =>
    obtain ⟨k, f, hkm, hkf, rfl, HU⟩ := hrel
    by_cases hlt : k < m
    · obtain ⟨g, rfl⟩ : ∃ g, f = g + 1 := ⟨f - 1, by omega⟩
      have hkl : k < L.length := by omega
      have hkm' : k < M.length := by omega
      obtain ⟨a, rfl, hal, c0, c1, c2⟩ := (HA.out.below HU.out.2).at_ hkl
      obtain ⟨b, rfl, hbl, b0, b1, b2⟩ := (HB.out.below HU.out.2).at_ hkm'
      have d1 : wr.cell? ⟨(a.add (k * 3)).block, (a.add (k * 3)).off + 1, none⟩ = some (.string (hdAt L k).root) := c1
      have d2 : wr.cell? ⟨(a.add (k * 3)).block, (a.add (k * 3)).off + 2, none⟩ = some (.string (hdAt L k).prev) := c2
      have q1 : wr.cell? ⟨(b.add (k * 3)).block, (b.add (k * 3)).off + 1, none⟩ = some (.string (hdAt M k).root) := b1
      have q2 : wr.cell? ⟨(b.add (k * 3)).block, (b.add (k * 3)).off + 2, none⟩ = some (.string (hdAt M k).prev) := b2
      clear c1 c2 b1 b2
      obtain ⟨X, hX⟩ : ∃ X, hdAt L k = X := ⟨_, rfl⟩
      rw [hX] at c0 d1 d2
      have HX := Lib.hid hX
      obtain ⟨Z, hZ⟩ : ∃ Z, hdAt M k = Z := ⟨_, rfl⟩
      rw [hZ] at b0 q1 q2
      have HZ := Lib.hid hZ
      have HKF := Lib.hid hkf
      clear hX hZ hkf
      have hk0 : (0 : Int) ≤ (k : Int) := by omega
      have hk1 : (k : Int) < (L.length : Int) := by omega
      have hk2 : (k : Int) < (M.length : Int) := by omega
      by_cases hzx : X = Z
      · have hne : ∀ u : World, (binOp .neq 52 (.agg #[.int .i64 X.epoch, .string X.root, .string X.prev]) (.agg #[.int .i64 Z.epoch, .string Z.root, .string Z.prev])).run Tryz.prog u = .ok (.bool false) u := fun u => by rw [run_neq_heads, decide_eq_true hzx]; rfl
        have HZX := Lib.hid hzx
        clear hzx
        go_wp2
        go_quiet (fail)
        go_wp2
        go_roundw
        case rel =>
          refine ⟨k + 1, g, by omega, by have := HKF.out; omega, by go_num, Lib.hid ⟨?_, below_drew HU.out.2 _⟩⟩
          have hw := HU.out.1
          rw [partsFrom, if_pos ⟨hkm', by rw [HZ.out, HX.out, HZX.out]⟩] at hw
          exact hw
        case measure => simp [intOf]; omega
      · have hne : ∀ u : World, (binOp .neq 52 (.agg #[.int .i64 X.epoch, .string X.root, .string X.prev]) (.agg #[.int .i64 Z.epoch, .string Z.root, .string Z.prev])).run Tryz.prog u = .ok (.bool true) u := fun u => by rw [run_neq_heads, decide_eq_false hzx]; rfl
        have HZX := Lib.hid hzx
        clear hzx
        go_wp2
        go_quiet (fail)
        go_wp2
        go_ret
        have hw := HU.out.1
        rw [partsFrom, if_neg (fun h => HZX.out (by rw [← HZ.out, ← HX.out]; exact h.2.symm))] at hw
        subst hw
        exact ⟨rfl, below_drew HU.out.2 _⟩
    · obtain rfl : k = m := by omega
      go_wp2
      go_ret
      have hw := HU.out.1
      rw [partsFrom_end hm3.out hkf] at hw
      subst hw
      exact ⟨rfl, HU.out.2⟩
end Go.Proofs.YtgjmbokfenpefaaGreatDoor
/- What holds of a directory is kept by what is put, and published. -/
namespace Go.Proofs.YtgjmbokfenpefaaGreatDoor
open Go.RowKit

theorem nodup_le : ∀ {A B : List ByteArray}, A.Nodup → (∀ x ∈ A, x ∈ B) → A.length ≤ B.length
  | [], _, _, _ => Nat.zero_le _
  | a :: A, B, h, s => by
    obtain ⟨h1, h2⟩ := List.nodup_cons.1 h
    have hb : a ∈ B := s a (List.mem_cons_self ..)
    have h3 := nodup_le (A := A) (B := B.filter fun x => decide (x ≠ a)) h2 (fun x hx => List.mem_filter.2 ⟨s x (List.mem_cons_of_mem _ hx), decide_eq_true (fun e => h1 (by rw [← e]; exact hx))⟩)
    have h4 : (B.filter fun x => decide (x ≠ a)).length < B.length := List.length_filter_lt_length_iff_exists.2 ⟨a, hb, by simp⟩
    simp; omega
theorem keysL_length {α : Type} (L : List (ByteArray × α)) : (keysL L).length = L.length := by simp [keysL]
theorem mem_ups {α : Type} {L : List (ByteArray × α)} {s : ByteArray} {x : α} {p : ByteArray × α} (h : p ∈ ups L s x) : p = (s, x) ∨ p ∈ L := by
  unfold ups at h
  split at h
  · obtain ⟨q, hq, e⟩ := List.mem_map.1 h
    split at e
    · exact .inl e.symm
    · exact .inr (e ▸ hq)
  · rcases List.mem_append.1 h with h | h
    · exact .inr h
    · exact .inl (List.mem_singleton.1 h)
theorem mem_upsAll {α : Type} {L : List (ByteArray × α)} : ∀ (P : List (ByteArray × α)) {p : ByteArray × α}, p ∈ upsAll L P → p ∈ P ∨ p ∈ L := fun P => by
  induction P generalizing L with
  | nil => intro p h; exact .inr h
  | cons q P ih =>
    intro p h
    rcases ih (L := ups L q.1 q.2) (show p ∈ upsAll (ups L q.1 q.2) P from h) with h | h
    · exact .inl (List.mem_cons_of_mem _ h)
    · rcases mem_ups h with rfl | h
      · exact .inl (List.mem_cons_self ..)
      · exact .inr h
/-- Keys, each with something that hangs on nothing. -/
theorem keysL_map {α β : Type} (L : List (ByteArray × α)) (f : ByteArray × α → β) : keysL (L.map fun p => (p.1, f p)) = keysL L := by simp [keysL]
theorem mem_names {d : Dst} (hv : (keysL d.vals).Nodup) (hw : (keysL d.wait).Nodup) (name s : ByteArray) : s ∈ keysL (allNames d name) ↔ s ∈ keysL d.wait ∨ s ∈ keysL d.vals ∨ s = name := by
  rw [← look_isSome]
  unfold allNames
  rw [upsAll_look _ _ (by rw [keysL_map d.wait (fun _ => true)]; exact hw), upsAll_look _ _ (by rw [keysL_map d.vals (fun _ => true)]; exact hv)]
  simp only [Option.isSome_or, Bool.or_eq_true, look_isSome]
  rw [keysL_map d.wait (fun _ => true), keysL_map d.vals (fun _ => true)]
  simp [keysL]
theorem names_nodup (d : Dst) (name : ByteArray) : (keysL (allNames d name)).Nodup := upsAll_nodup (upsAll_nodup (by simp [keysL]) _) _
theorem DOk.wait_len {d : Dst} (h : DOk d) : d.wait.length ≤ 61 := by
  have := nodup_le h.wk (B := keysL (allNames d ⟨#[]⟩)) fun x hx => (mem_names h.vk h.wk _ _).2 (.inl hx)
  rw [keysL_length, keysL_length] at this
  have := h.room
  omega
theorem putAns_ok {d : Dst} (h : DOk d) (name value : ByteArray) : DOk (putAns d name value).1 := by
  unfold putAns
  split
  · rename_i hn
    split
    · rename_i hv
      split
      · rename_i hr
        exact {
          secret := h.secret
          wk := ups_nodup h.wk _ _
          vk := h.vk
          sk := h.sk
          wn := fun p hp => by
            rcases mem_ups hp with rfl | hp
            · exact ⟨hn, hv.1, hv.2⟩
            · exact h.wn p hp
          vn := h.vn
          same := h.same
          epoch := h.epoch
          few := h.few
          room := by
            have := nodup_le (A := keysL (allNames { d with wait := ups d.wait name value } ⟨#[]⟩)) (B := ⟨#[]⟩ :: keysL (allNames d name)) (names_nodup _ _) fun x hx => by
              rw [mem_names (d := { d with wait := ups d.wait name value }) h.vk (ups_nodup h.wk _ _)] at hx
              rw [List.mem_cons, mem_names h.vk h.wk]
              rcases hx with hx | hx | hx
              · rw [← look_isSome] at hx
                by_cases e : x = name
                · exact .inr (.inr (.inr e))
                · have : (look (ups d.wait name value) x).isSome = true := hx
                  rw [look_ups_other _ _ _ _ e, look_isSome] at this
                  exact .inr (.inl this)
              · exact .inr (.inr (.inl hx))
              · exact .inl hx
            rw [List.length_cons, keysL_length, keysL_length] at this
            show (allNames { d with wait := ups d.wait name value } ⟨#[]⟩).length ≤ 61
            omega }
      · exact h
    · exact h
  · exact h
theorem look_keyed {α β : Type} (L : List (ByteArray × α)) (y : β) (s : ByteArray) : look (L.map fun p => (p.1, y)) s = (look L s).map fun _ => y := by
  induction L with
  | nil => rfl
  | cons p L ih =>
    rw [List.map_cons, look_cons, look_cons, ih]
    split <;> rfl
theorem settled_look {d : Dst} (h : DOk d) (s : ByteArray) : look (settled d).vals s = (look d.wait s).or (look d.vals s) ∧ look (settled d).since s = ((look d.wait s).map fun _ => (d.eps.length : Int) + 1).or (look d.since s) := by
  refine ⟨upsAll_look _ _ h.wk s, ?_⟩
  show look (upsAll d.since (d.wait.map fun p => (p.1, ((d.eps.length : Int) + 1)))) s = _
  rw [upsAll_look _ _ (by rw [keysL_map d.wait (fun _ => ((d.eps.length : Int) + 1))]; exact h.wk), look_keyed]
theorem publishAns_ok {d : Dst} (h : DOk d) : DOk (publishAns d).1 := by
  unfold publishAns
  split
  · rename_i he
    exact {
      secret := h.secret
      wk := List.nodup_nil
      vk := upsAll_nodup h.vk _
      sk := upsAll_nodup h.sk _
      wn := fun p hp => by cases hp
      vn := fun p hp => by
        rcases mem_upsAll _ (show p ∈ upsAll d.vals d.wait from hp) with hp | hp
        · exact h.wn p hp
        · exact h.vn p hp
      same := fun s => by
        show (look (settled d).since s).isSome = (look (settled d).vals s).isSome
        rw [(settled_look h s).1, (settled_look h s).2]
        have := h.same s
        cases look d.wait s <;> simp [this]
      epoch := fun s n hn => by
        have hn : look (settled d).since s = some n := hn
        rw [(settled_look h s).2] at hn
        show 1 ≤ n ∧ n ≤ ((d.eps ++ [nextSgn d]).length : Int)
        rw [List.length_append]
        cases e : look d.wait s with
        | none =>
          rw [e] at hn
          have := h.epoch s n hn
          simp; omega
        | some x =>
          rw [e] at hn
          have : (d.eps.length : Int) + 1 = n := Option.some.inj hn
          simp; omega
      few := by
        show (d.eps ++ [nextSgn d]).length ≤ 8
        rw [List.length_append]; simp; omega
      room := by
        have := nodup_le (A := keysL (allNames { settled d with eps := d.eps ++ [nextSgn d] } ⟨#[]⟩)) (B := keysL (allNames d ⟨#[]⟩)) (names_nodup _ _) fun x hx => by
          rw [mem_names (d := { settled d with eps := d.eps ++ [nextSgn d] }) (upsAll_nodup h.vk _) List.nodup_nil] at hx
          rw [mem_names h.vk h.wk]
          rcases hx with hx | hx | hx
          · cases hx
          · obtain ⟨p, hp, rfl⟩ := List.mem_map.1 (show x ∈ (upsAll d.vals d.wait).map (·.1) from hx)
            rcases mem_upsAll _ hp with hp | hp
            · exact .inl (List.mem_map_of_mem hp)
            · exact .inr (.inl (List.mem_map_of_mem hp))
          · exact .inr (.inr hx)
        rw [keysL_length, keysL_length] at this
        exact Nat.le_trans this h.room }
  · exact h
end Go.Proofs.YtgjmbokfenpefaaGreatDoor
/- What is proved of items: plain facts (for ProofThere). -/
namespace Go.Proofs.YtgjmbokfenpefaaGreatDoor

abbrev bitX (ix : ByteArray) (k : Nat) : Nat := bitOf ix.data.toList k
/-- All alike with what is asked, ahead of bit d. -/
def Beside (L : List It) (ix : ByteArray) (d : Nat) : Prop := ∀ x ∈ L, ∀ k, k < d → bitI x k = bitX ix k
theorem Beside.half {L : List It} {ix : ByteArray} {d : Nat} (h : Beside L ix d) : Beside (half L d (bitX ix d)) ix (d + 1) := fun x hx k hk => by
  obtain ⟨hx1, hx2⟩ := List.mem_filter.1 hx
  by_cases e : k = d
  · subst e; exact eq_of_beq hx2
  · exact h x hx1 k (by omega)
/-- What a proof holds: marks, no more than there are bits; what lies there, or nothing; and it is no longer than another one's likeness asks. -/
structure Proves (L : List It) (ix : ByteArray) (d : Nat) (P : List ByteArray) (x : It) : Prop where
  marks : marksOk P = true
  few : d + P.length ≤ 128
  leaf : x = noIt ∨ (x ∈ L ∧ ∀ k, k < d + P.length → bitI x k = bitX ix k)
  there : ∀ y ∈ L, y.1 = ix → x = y
  far : P ≠ [] → ∃ y ∈ L, y.1 ≠ ix ∧ ∀ k, k + 1 < d + P.length → bitI y k = bitX ix k
end Go.Proofs.YtgjmbokfenpefaaGreatDoor
/- Items set one behind the other: plain lists (for TrieOrder). -/
namespace Go.Proofs.YtgjmbokfenpefaaGreatDoor

def goodI (x : It) : Bool := decide (x.1.size = 16) && decide (x.2.size = 16)
/-- Items that rise, each of the right sizes, are right. -/
theorem right_of {T : List It} (hs : T.Pairwise ltI) (hg : ∀ x ∈ T, goodI x = true) (hl : T.length ≤ 60) : rightItems T = true := by
  unfold rightItems
  rw [Bool.and_eq_true]
  refine ⟨?_, decide_eq_true hl⟩
  unfold goodItems
  rw [List.all_eq_true]
  intro i hi
  have hi := List.mem_range.1 hi
  have hgi := hg T[i] (List.getElem_mem hi)
  unfold goodI at hgi
  rw [Bool.and_eq_true] at hgi
  unfold goodItem
  rw [itAt_get (List.getElem?_eq_getElem hi), Bool.and_eq_true, Bool.and_eq_true]
  refine ⟨⟨hgi.1, hgi.2⟩, ?_⟩
  rw [Bool.or_eq_true]
  by_cases h0 : i = 0
  · exact .inl (decide_eq_true h0)
  · right
    have hj : i - 1 < T.length := by omega
    rw [itAt_get (List.getElem?_eq_getElem hj)]
    exact decide_eq_true (List.pairwise_iff_getElem.1 hs (i - 1) i hj hi (by omega))
end Go.Proofs.YtgjmbokfenpefaaGreatDoor
/- What a directory tells is proved, and believed, where no two names lie at one place; its epochs are a chain that a client sees step by step. -/
namespace Go.Proofs.YtgjmbokfenpefaaGreatDoor
open Go.RowKit

/-- No two of these names lie at one place. -/
def Parted (S : List ByteArray) : Prop := ∀ s ∈ S, ∀ t ∈ S, nameOk s.data.toList = true → nameOk t.data.toList = true → (ofAns s).1 = (ofAns t).1 → s = t
theorem Parted.mono {S T : List ByteArray} (h : Parted T) (hs : ∀ s ∈ S, s ∈ T) : Parted S := fun s h1 t h2 => h s (hs s h1) t (hs t h2)
theorem no_name : nameOk (⟨#[]⟩ : ByteArray).data.toList = false := rfl
theorem DOk.vals60 {d : Dst} (h : DOk d) : d.vals.length ≤ 60 := by
  have hn : (⟨#[]⟩ : ByteArray) ∉ keysL d.vals := fun e => by
    obtain ⟨p, hp, he⟩ := List.mem_map.1 e
    have := (h.vn p hp).1
    rw [he] at this
    exact absurd this (by rw [no_name]; decide)
  have := nodup_le (A := ⟨#[]⟩ :: keysL d.vals) (B := keysL (allNames d ⟨#[]⟩)) (List.nodup_cons.2 ⟨hn, h.vk⟩) fun x hx => by
    rw [mem_names h.vk h.wk]
    rcases List.mem_cons.1 hx with rfl | hx
    · exact .inr (.inr rfl)
    · exact .inr (.inl hx)
  rw [List.length_cons, keysL_length, keysL_length] at this
  have := h.room
  omega
theorem of_ok {name : ByteArray} (h : nameOk name.data.toList = true) : (ofAns name).1.size = 16 := by
  unfold ofAns
  rw [if_pos h]
  exact markOf_len _ _
theorem open_size (d : Dst) (name : ByteArray) : (openOf d name).size = 16 := markOf_len _ _
theorem commit_ok {o v : ByteArray} (h : o.size = 16) (h1 : 1 ≤ v.size) (h2 : v.size ≤ 24) : commitAns o v = (markOf 99 [o, v], 0) := by
  unfold commitAns
  rw [if_pos ⟨h, h1, h2⟩]
theorem item_good {d : Dst} (h : DOk d) {p : ByteArray × ByteArray} (hp : p ∈ d.vals) : goodI (itemOf d p) = true := by
  obtain ⟨h1, h2, h3⟩ := h.vn p hp
  unfold goodI itemOf
  rw [Bool.and_eq_true]
  refine ⟨decide_eq_true (of_ok h1), decide_eq_true ?_⟩
  rw [commit_ok (open_size d p.1) h2 h3]
  exact markOf_len _ _
/-- What is signed of a root. -/
def sgnOf (d : Dst) (root : ByteArray) : Sgn := signOf d.secret d.eps.length (nextAns (d.eps.map (·.head)) root).1
end Go.Proofs.YtgjmbokfenpefaaGreatDoor
/- The law's acts, and what is played with them on the document's directory. (An act lies as a head does: a number and two texts.) -/
namespace Go.Proofs.YtgjmbokfenpefaaGreatDoor
open Go.RowKit Go.Maps

theorem Hds.same {F : Nat → Prop} {w w' : World} {A : Option Addr} {L : List Hd} (h : Hds w A L) (hf : ∀ a, A = some a → 0 < L.length → F a.block) (hs : Same F w w') : Hds w' A L := fun i x hi => by
  obtain ⟨a, ha, hl, c0, c1, c2⟩ := h i x hi
  have hF := hf a ha (by have := (List.getElem?_eq_some_iff.1 hi).1; omega)
  exact ⟨a, ha, Nat.lt_of_lt_of_le hl hs.size, (hs.cell (by rw [block_add]; exact hF)).trans c0, (hs.cell (by rw [block_add, block_add]; exact hF)).trans c1, (hs.cell (by rw [block_add, block_add]; exact hF)).trans c2⟩
/-- A list of heads lies below the world's end. -/
theorem Hds.lt {w : World} {A : Option Addr} {L : List Hd} (h : Hds w A L) : ∀ a, A = some a → 0 < L.length → a.block < w.heap.size := fun a ha hl => by
  obtain ⟨a', e, hlt, _⟩ := h 0 _ (List.getElem?_eq_getElem hl)
  rw [ha] at e
  obtain rfl := Option.some.inj e
  exact hlt
end Go.Proofs.YtgjmbokfenpefaaGreatDoor
/- append onto a row of items: many, that lie somewhere. -/
namespace Go.Proofs.YtgjmbokfenpefaaGreatDoor
open Go.RowKit

theorem grownBy_refl (w : World) (g : Option Nat) : w.grownBy w g := ⟨rfl, rfl, rfl, Nat.le_refl _, fun _ _ _ => rfl⟩
end Go.Proofs.YtgjmbokfenpefaaGreatDoor
/- append onto a row of texts: many, that lie somewhere. -/
namespace Go.Proofs.YtgjmbokfenpefaaGreatDoor
open Go.RowKit

theorem stCells_length (L : List ByteArray) : (stCells L).length = L.length := by unfold stCells; simp
theorem Strs.cells {w : World} {A : Option Addr} {L : List ByteArray} (h : Strs w A L) (hn : 0 < L.length) : ∃ a, A = some a ∧ ∀ j u, (stCells L)[j]? = some u → w.cell? (a.add j) = some u := by
  obtain ⟨a, rfl, -⟩ := h 0 _ (List.getElem?_eq_getElem hn)
  refine ⟨a, rfl, fun j u hj => ?_⟩
  unfold stCells at hj
  rw [List.getElem?_map] at hj
  cases e : L[j]? with
  | none => rw [e] at hj; cases hj
  | some s =>
    rw [e] at hj
    obtain ⟨a', ha, _, hc⟩ := h j s e
    obtain rfl := Option.some.inj ha
    rw [hc]
    exact hj
theorem stCells_one (L : List ByteArray) : ∀ u ∈ stCells L, u.oneCell' = true := by
  intro u hu
  unfold stCells at hu
  obtain ⟨s, _, rfl⟩ := List.mem_map.1 hu
  rfl
theorem wpList_append_texts {P : Program} {ops : Array Oper} {rest : List Oper} {o : Oper} {a : Act} {w : World} {Q : Exit → Act → World → Prop} (hgd : o.guard = none) (s x : Operand) (T : TypeId)
    (ho : o.op = .call { callee := .builtin .append, args := #[s, x], argTypes := #[T, T] }) (e : TypeId) (ht : P.underlying T = some (.slice e)) (z : Value) (hinf : (P.info? e).map (fun i => (i.zero, i.size, i.bytes)) = some (some z, 1, 16)) (hzc : z.cells.size = 1)
    (base n : Nat) (M : List ByteArray) (_hml : M.length = n) (b0 : Addr) (c0 : Nat) (hd : a.eval s = .slice (some b0) n c0) (hrow : Row w base 1 (.slice (some b0) n c0) n (stCells M)) (hbase : base ≤ w.heap.size) (hn : n ≤ 1000000)
    (K : List ByteArray) (k : Nat) (hk : K.length = k) (A : Option Addr) (cap : Nat) (hs : a.eval x = .slice A k cap) (hm : Strs w A K) (hkl : k ≤ 1000000)
    (hK : ∀ v' w', Hid (Row w' base 1 v' (n + k) (stCells (M ++ K))) → Hid (w.grownBy w' (Value.slice (some b0) n c0).ownBlock) → wpList P ops Q rest (a.put o.dst v') w') : wpList P ops Q (o :: rest) a w := by
  obtain ⟨i, hi, hz, hsz, hby⟩ := info_parts hinf
  by_cases h0 : k = 0
  · subst h0
    obtain rfl := List.eq_nil_of_length_eq_zero hk
    have hnc : n ≤ c0 := by
      obtain ⟨_, hr⟩ := hrow
      rcases hr with ⟨hr, _⟩ | ⟨g, cap', hv, _, _, hle, _⟩
      · cases hr
      · injection hv with _ _ e3
        omega
    have hsrc : ∃ news, Src P i.size T (.slice A 0 cap) 0 news w := by
      cases A with
      | none => exact ⟨[], Src.ofNil w ht cap⟩
      | some x => exact ⟨[], Src.ofSlice w ht x 0 cap [] (by simp) (fun j u h => by simp at h) (fun u h => by cases h)⟩
    obtain ⟨news, hsrc⟩ := hsrc
    have hnl : news = [] := List.eq_nil_of_length_eq_zero (by simpa using hsrc.newsLen)
    subst hnl
    have hk1 : ∃ e', P.underlying T = some (.slice e') := ⟨e, ht⟩
    have hrun : (Builtin.append_ #[T, T] o.type #[.slice (some b0) n c0, .slice A 0 cap]).run P w = .ok (.slice (some b0) n c0) w := by
      have hst : ∀ a : Addr, (storeCells a []).run P w = .ok () w := fun a => by simp [storeCells]
      simp [Builtin.append_, run_underlying ht, sizeOf, typeInfo, hi, hsrc.len, hsrc.cells, hst, hnc]
    refine wpList_plain hgd fun K hK' => ?_
    unfold Oper.wp
    simp [execOp, ho, resolve, invoke, builtin, hd, hs, hrun, Result.andThen]
    exact hK' _ _ (hK _ _ (Lib.hid (by rw [List.append_nil]; exact hrow)) (Lib.hid (grownBy_refl _ _)))
  · obtain ⟨x, rfl, hc⟩ := hm.cells (by omega)
    refine wpList_append_row2 hgd s _ T ho e i z 1 16 ht hi hz hsz hby hzc (by decide) base _ n (stCells M) hd hrow hbase x k cap (stCells K) hs (by rw [stCells_length, hk]; omega) hc (stCells_one K) (by unfold maxLen; omega) (by omega) ?_
    intro v' w' hr hg _
    refine hK v' w' (Lib.hid ?_) hg
    rw [stCells_append]
    exact hr.out
end Go.Proofs.YtgjmbokfenpefaaGreatDoor
/- The law's spoilt: an answer, spoilt in one place. -/
namespace Go.Proofs.YtgjmbokfenpefaaGreatDoor
open Go.RowKit

/-- The texts of one lie where those of the other do, or are new. -/
structure AnNear (w : World) (m m' : AnM) : Prop where
  sig : m'.sg.A = m.sg.A ∧ m'.sg.s.sig.length = m.sg.s.sig.length ∨ ∀ a, m'.sg.A = some a → w.heap.size ≤ a.block
  path : m'.sg.B = m.sg.B ∧ m'.sg.s.path = m.sg.s.path
  way : m'.C = m.C ∧ m'.a.path.length = m.a.path.length ∨ ∀ a, m'.C = some a → w.heap.size ≤ a.block
def anFM (m : AnM) : Nat → Value := anF m.sg m.C m.a.path.length m.cc m.a.leaf m.a.opening m.a.value
/-- Where the answer's box and the result lie, and what is in them. -/
structure SpAt (w wz : World) (m m' : AnM) (a' : Answ) : Prop where
  box : Holds wz w.heap.size 11 (anFM m') 63
  res : Holds wz (w.heap.size + 1) 11 noAnF 63
  below : Below w.heap.size w wz
  is : AnIn wz m' a'
  near : AnNear w m m'
  ga : ∀ a, m'.sg.A = some a → 0 < m'.sg.s.sig.length → a.block ≠ w.heap.size + 1
  gb : ∀ a, m'.sg.B = some a → 0 < m'.sg.s.path.length → a.block ≠ w.heap.size + 1
  gc : ∀ a, m'.C = some a → 0 < m'.a.path.length → a.block ≠ w.heap.size + 1
theorem Holds.one {w : World} {b n : Nat} {f g : Nat → Value} {t : TypeId} (h : Holds w b n f t) (i : Nat) (v : Value) (hg : ∀ j, j < n → upd f i v j = g j) : Holds (w.setCell ⟨b, i, none⟩ v) b n g t := (h.set i v).congr hg
theorem Strs.box {w : World} {A : Option Addr} {L : List ByteArray} (h : Strs w A L) {q : Nat} (hq : ∀ a, A = some a → 0 < L.length → a.block ≠ q) (i : Nat) (v : Value) : Strs (w.setCell ⟨q, i, none⟩ v) A L := fun j p hp => by
  obtain ⟨a, ha, hl, hc⟩ := h j p hp
  have := hq a ha (by have := (List.getElem?_eq_some_iff.1 hp).1; omega)
  exact ⟨a, ha, by simpa [World.setCell] using hl, (World.cell?_of_block (w := w) (a := a.add j) (by rw [block_add]; exact Below.heap_setCell _ _ _ _ (show a.block ≠ q by omega))).trans hc⟩
structure SpZ (q : Nat) (a : Addr) (n ca : Nat) (s : ByteArray) where
  at' : World
  h0 : at'.cell? ⟨q, 4, none⟩ = some (.slice (some a) n ca)
  h1 : at'.cell? (a.add 0) = some (.string s)
  h2 : at'.cell? a = some (.string s)
theorem Strs.lt {w : World} {A : Option Addr} {L : List ByteArray} (h : Strs w A L) : ∀ a, A = some a → 0 < L.length → a.block < w.heap.size := fun a ha hl => by
  obtain ⟨a', e, hlt, _⟩ := h 0 _ (List.getElem?_eq_getElem hl)
  rw [ha] at e
  obtain rfl := Option.some.inj e
  exact hlt
end Go.Proofs.YtgjmbokfenpefaaGreatDoor
/- How great what a directory tells may be, spoilt or not. -/
namespace Go.Proofs.YtgjmbokfenpefaaGreatDoor
open Go.RowKit

structure SgnDim (s : Sgn) : Prop where
  ep : s.head.epoch < 9223372036854775808
  sig : s.sig.length ≤ 35
  path : s.path.length ≤ 3
  sz : ∀ p ∈ s.sig, p.size ≤ 16
  root : s.head.root.size ≤ 16
theorem wrap64_lt (n : Int) : wrap64 n < 9223372036854775808 := by unfold wrap64; omega
theorem next_dim (L : List Hd) (root : ByteArray) (hr : root.size ≤ 16) : (nextAns L root).1.epoch < 9223372036854775808 ∧ (nextAns L root).1.root.size ≤ 16 := by
  have no : noHd.epoch < 9223372036854775808 ∧ noHd.root.size ≤ 16 := ⟨by show (0 : Int) < _; decide, by show 0 ≤ 16; omega⟩
  unfold nextAns nextHd
  cases L.getLast? with
  | none =>
    simp only []
    split
    · exact ⟨by show (1 : Int) < _; decide, hr⟩
    · exact no
  | some h =>
    simp only []
    split
    · exact no
    · rename_i x hx
      split at hx
      · obtain rfl := Option.some.inj hx
        split
        · exact ⟨wrap64_lt _, hr⟩
        · exact no
      · cases hx
theorem sign_len (seed : ByteArray) (key : Int) (m : ByteArray) : (signAns seed key m).1.length ≤ 35 ∧ ∀ p ∈ (signAns seed key m).1, p.size ≤ 16 := by
  unfold signAns
  split
  · refine ⟨by show (signChains seed key m 35).length ≤ 35; unfold signChains; simp, fun p hp => ?_⟩
    have hp : p ∈ signChains seed key m 35 := hp
    unfold signChains at hp
    obtain ⟨c, _, rfl⟩ := List.mem_map.1 hp
    rw [along_size _ _ _ _ (seedOf_size _ _ _)]
    exact Nat.le_refl _
  · exact ⟨by show 0 ≤ 35; omega, fun p hp => by cases hp⟩
theorem sign_dim (secret : ByteArray) (n : Nat) (h : Hd) (he : h.epoch < 9223372036854775808) (hr : h.root.size ≤ 16) : SgnDim (signOf secret n h) := by
  have hs := sign_len (dirSeed secret) (n : Int) (headMarkAns h).1
  have hp : (sealPath (dirSeed secret) ((n : Int)).toNat 3).length ≤ 3 := by unfold sealPath; simp
  unfold signOf
  unfold sealAns
  split
  · split
    · exact ⟨he, hs.1, hp, hs.2, hr⟩
    · exact ⟨he, by show 0 ≤ 35; omega, by show 0 ≤ 3; omega, (fun p hp => by cases hp), hr⟩
  · exact ⟨he, by show 0 ≤ 35; omega, by show 0 ≤ 3; omega, (fun p hp => by cases hp), hr⟩
theorem root_dim (L : List It) : (rootAns L).1.size ≤ 16 := by
  unfold rootAns
  split
  · rw [show (rootOf L).size = 16 from nodeOf_size _ _ _]; exact Nat.le_refl _
  · show 0 ≤ 16; omega
theorem nextSgn_dim (d : Dst) : SgnDim (nextSgn d) := by
  unfold nextSgn
  have h := next_dim (d.eps.map (·.head)) (rootAns (itemsOf (settled d))).1 (root_dim _)
  exact sign_dim _ _ _ h.1 h.2
def EpsDim (d : Dst) : Prop := ∀ s ∈ d.eps, SgnDim s
structure AnsDim (a : Answ) : Prop where
  sgn : SgnDim a.sgn
  way : a.path.length ≤ 128
  leaf : a.leaf.2.size ≤ 16
  op : a.opening.size ≤ 16
  val : a.value.size ≤ 24
  leaf0 : a.leaf.1.size ≤ 16
/-- Bounds that hold of it, spoilt. -/
structure SpDim (a : Answ) : Prop where
  ep : a.sgn.head.epoch < 9223372036854775808
  sig : a.sgn.sig.length ≤ 35
  path : a.sgn.path.length ≤ 3
  way : a.path.length ≤ 129
  op : a.opening.size ≤ 16
  val : a.value.size ≤ 24
  l1 : a.leaf.1.size ≤ 16
  l2 : a.leaf.2.size ≤ 16
theorem AnsDim.sp {a : Answ} (h : AnsDim a) : SpDim a := ⟨h.sgn.ep, h.sgn.sig, h.sgn.path, by have := h.way; omega, h.op, h.val, h.leaf0, h.leaf⟩
end Go.Proofs.YtgjmbokfenpefaaGreatDoor
/- What a program's directory answers: the document's, of items that are right whatever is put: where two names lie at one place it keeps them its own way. -/
namespace Go.Proofs.YtgjmbokfenpefaaGreatDoor
open Go.RowKit

/-- The items that a directory keeps: right, and the document's where those are. -/
structure Pub where
  its : Dst → List It
  free : ∀ (d : Dst) (W : List (ByteArray × ByteArray)) (E : List Sgn), its { d with wait := W, eps := E } = its d
  good : ∀ {d : Dst}, DOk d → rightItems (its d) = true
  right : ∀ {d : Dst}, DOk d → rightItems (itemsOf d) = true → its d = itemsOf d
def Pub.sgn (pa : Pub) (d : Dst) : Sgn := sgnOf d (rootOf (pa.its (settled d)))
def Pub.next (pa : Pub) (d : Dst) : Dst := { settled d with eps := d.eps ++ [pa.sgn d] }
/-- What Publish leaves, and tells. -/
def Pub.f (pa : Pub) (d : Dst) : Dst × Sgn × Int := if d.eps.length < 8 then (pa.next d, pa.sgn d, 0) else (d, noSgn, 12)
def Pub.found (pa : Pub) (d : Dst) (name ix : ByteArray) : Answ :=
  ⟨lastSgn d, (proveAns (pa.its d) ix).1, (proveAns (pa.its d) ix).2.1, if (look d.vals name).isSome then openOf d name else ⟨#[]⟩, (look d.vals name).getD ⟨#[]⟩⟩
/-- What Lookup tells. -/
def Pub.tells (pa : Pub) (d : Dst) (name : ByteArray) : Answ × Int :=
  if nameOk name.data.toList = true then (if d.eps.length = 0 then (noAnsw, 6) else (pa.found d name (ofAns name).1, 0)) else (noAnsw, 5)
theorem pushed_ok {d : Dst} (h : DOk d) (he : d.eps.length < 8) (x : Sgn) : DOk { settled d with eps := d.eps ++ [x] } := by
  have k := publishAns_ok h
  unfold publishAns at k
  rw [if_pos he] at k
  exact {
    secret := k.secret
    wk := k.wk
    vk := k.vk
    sk := k.sk
    wn := k.wn
    vn := k.vn
    same := k.same
    epoch := fun s n hn => by
      have := k.epoch s n hn
      simp only [List.length_append, List.length_singleton] at this ⊢
      exact this
    few := by
      have := k.few
      simp only [List.length_append, List.length_singleton] at this ⊢
      exact this
    room := k.room }
theorem Pub.next_ok (pa : Pub) {d : Dst} (h : DOk d) (he : d.eps.length < 8) : DOk (pa.next d) := pushed_ok h he _
theorem Pub.cases (pa : Pub) (d : Dst) : (d.eps.length < 8 ∧ pa.f d = (pa.next d, pa.sgn d, 0)) ∨ pa.f d = (d, noSgn, 12) := by
  by_cases h : d.eps.length < 8
  · exact .inl ⟨h, if_pos h⟩
  · exact .inr (if_neg h)
theorem Pub.ok (pa : Pub) {d : Dst} (h : DOk d) : DOk (pa.f d).1 := by
  rcases pa.cases d with ⟨he, e⟩ | e <;> rw [e]
  · exact pa.next_ok h he
  · exact h
end Go.Proofs.YtgjmbokfenpefaaGreatDoor
/- The items that a directory keeps where two names may lie at one place: of those the one that was put last, of one epoch the greatest. -/
namespace Go.Proofs.YtgjmbokfenpefaaGreatDoor
open Go.RowKit

abbrev ixOf (s : ByteArray) : ByteArray := (ofAns s).1
def sinceOf (d : Dst) (s : ByteArray) : Int := (look d.since s).getD 0
def Beats (d : Dst) (q p : ByteArray) : Prop := ixOf q = ixOf p ∧ (sinceOf d p < sinceOf d q ∨ (sinceOf d p = sinceOf d q ∧ p.data.toList < q.data.toList))
instance (d : Dst) (q p : ByteArray) : Decidable (Beats d q p) := by unfold Beats; infer_instance
def topVals (d : Dst) : List (ByteArray × ByteArray) := d.vals.filter fun p => !(d.vals.any fun q => decide (Beats d q.1 p.1))
def overIts (d : Dst) : List It := sortIts ((topVals d).map (itemOf d))
theorem top_mem {d : Dst} {p : ByteArray × ByteArray} : p ∈ topVals d ↔ p ∈ d.vals ∧ ∀ q ∈ d.vals, ¬ Beats d q.1 p.1 := by
  unfold topVals
  rw [List.mem_filter]
  simp
theorem beats_total {d : Dst} {q p : ByteArray} (hi : ixOf q = ixOf p) (hne : q ≠ p) : Beats d q p ∨ Beats d p q := by
  by_cases h1 : sinceOf d p < sinceOf d q
  · exact .inl ⟨hi, .inl h1⟩
  · by_cases h2 : sinceOf d q < sinceOf d p
    · exact .inr ⟨hi.symm, .inl h2⟩
    · have e : sinceOf d p = sinceOf d q := by omega
      by_cases h3 : p.data.toList < q.data.toList
      · exact .inl ⟨hi, .inr ⟨e, h3⟩⟩
      · by_cases h4 : q.data.toList < p.data.toList
        · exact .inr ⟨hi.symm, .inr ⟨e.symm, h4⟩⟩
        · exact absurd (text_of (List.le_antisymm (List.not_lt.1 h3) (List.not_lt.1 h4))) hne
theorem beats_self {d : Dst} {p : ByteArray} : ¬ Beats d p p := by
  rintro ⟨_, h | ⟨_, h⟩⟩
  · omega
  · exact List.lt_irrefl _ h
/-- Sorted, and apart: right. -/
theorem sorted_right {L : List It} (hd : L.Pairwise fun x y => x.1 ≠ y.1) (hg : ∀ x ∈ L, goodI x = true) (hl : L.length ≤ 60) : rightItems (sortIts L) = true := by
  have hd' : (sortIts L).Pairwise fun x y => x.1 ≠ y.1 := ((sortIts_perm L).symm.pairwise_iff (fun h e => h e.symm)).1 hd
  refine right_of (((sortIts_sorted L).and hd').imp fun hxy => ?_) (fun x hx => hg x ((sortIts_perm L).mem_iff.1 hx)) (by rw [(sortIts_perm L).length_eq]; exact hl)
  rename_i x y
  by_cases e : ltI x y
  · exact e
  · exact absurd (ltI_total e hxy.2) hxy.1
theorem over_right {d : Dst} (h : DOk d) : rightItems (overIts d) = true := by
  refine sorted_right ?_ (fun x hx => ?_) ?_
  · rw [List.pairwise_map]
    have hk := h.vk
    unfold keysL at hk
    rw [List.Nodup, List.pairwise_map] at hk
    refine List.Pairwise.imp_of_mem (fun {a b} ha hb hab e => ?_) (hk.filter _)
    obtain ⟨a1, a2⟩ := top_mem.1 ha
    obtain ⟨b1, b2⟩ := top_mem.1 hb
    rcases beats_total (d := d) (show ixOf a.1 = ixOf b.1 from e) hab with k | k
    · exact b2 a a1 k
    · exact a2 b b1 k
  · obtain ⟨p, hp, rfl⟩ := List.mem_map.1 hx
    exact item_good h (top_mem.1 hp).1
  · rw [List.length_map]
    exact Nat.le_trans (List.length_filter_le _ _) h.vals60
/-- Where the document's are right they are the same. -/
theorem over_plain {d : Dst} (hr : rightItems (itemsOf d) = true) : overIts d = itemsOf d := by
  have hd : (itemsRaw d).Pairwise fun x y => x.1 ≠ y.1 := ((sortIts_perm (itemsRaw d)).pairwise_iff (fun h e => h e.symm)).1 ((right_sorted hr).imp fun hxy e => by
    rename_i x y
    have h1 : x.1.data.toList < y.1.data.toList := hxy
    rw [e] at h1
    exact List.lt_irrefl _ h1)
  have ht : topVals d = d.vals := by
    refine List.filter_eq_self.2 fun p hp => ?_
    rw [Bool.not_eq_true', List.any_eq_false]
    intro q hq hb
    have hb : Beats d q.1 p.1 := of_decide_eq_true hb
    obtain ⟨i, hi, rfl⟩ := List.getElem_of_mem hp
    obtain ⟨j, hj, rfl⟩ := List.getElem_of_mem hq
    unfold itemsRaw at hd
    rw [List.pairwise_map, List.pairwise_iff_getElem] at hd
    rcases Nat.lt_trichotomy i j with h | h | h
    · exact hd i j hi hj h hb.1.symm
    · subst h; exact beats_self hb
    · exact hd j i hj hi h hb.1
  unfold overIts itemsOf itemsRaw
  rw [ht]
/-- These are the names that wait, rising. -/
structure Waits (d : Dst) (S : List ByteArray) : Prop where
  mem : ∀ s, s ∈ S ↔ (look d.wait s).isSome = true
  rise : S.Pairwise fun s t => s.data.toList < t.data.toList
/-- The program's directory: its items are laid over one another. -/
def Pub.over : Pub where
  its := overIts
  free _ _ _ := rfl
  good := over_right
  right _ hr := over_plain hr
end Go.Proofs.YtgjmbokfenpefaaGreatDoor
/- Maps from texts to pairs of texts. -/
namespace Go.Proofs.YtgjmbokfenpefaaGreatDoor
open Go.RowKit Go.Maps

/-- Two texts as one: each byte of the first marked, then a mark, then the second. -/
def pairL : List UInt8 → List UInt8 → List UInt8
  | [], B => 0 :: B
  | a :: A, B => 1 :: a :: pairL A B
theorem pairL_inj : ∀ {A B C D : List UInt8}, pairL A C = pairL B D → A = B ∧ C = D
  | [], [], _, _, h => ⟨rfl, (List.cons.inj h).2⟩
  | [], b :: B, _, _, h => absurd (List.cons.inj h).1 (by decide)
  | a :: A, [], _, _, h => absurd (List.cons.inj h).1 (by decide)
  | a :: A, b :: B, _, _, h => by
    obtain ⟨_, h⟩ := List.cons.inj h
    obtain ⟨h1, h⟩ := List.cons.inj h
    obtain ⟨h2, h3⟩ := pairL_inj h
    exact ⟨by rw [h1, h2], h3⟩
def pairLit (x : ByteArray × ByteArray) : Lit := .string (pairL x.1.data.toList x.2.data.toList)
theorem bytes_inj {s t : ByteArray} (h : s.data.toList = t.data.toList) : s = t := by
  obtain ⟨⟨a⟩⟩ := s
  obtain ⟨⟨b⟩⟩ := t
  simpa using h
theorem pairLit_inj (x y : ByteArray × ByteArray) (h : pairLit x = pairLit y) : x = y := by
  unfold pairLit at h
  injection h with h
  obtain ⟨h1, h2⟩ := pairL_inj h
  exact Prod.ext (bytes_inj h1) (bytes_inj h2)
def pairOf (x : ByteArray × ByteArray) : Value := .agg #[.string x.1, .string x.2]
def pairRow : List Value → Option (DataW Unit × List MemPlace)
  | [.string a, .string b] => some (.lit (pairLit (a, b)), [])
  | _ => none
def pairRead : Value → Option (DataW Unit × List MemPlace)
  | .agg cells => pairRow cells.toList
  | _ => none
theorem pairRead_inv (v : Value) (y : DataW Unit × List MemPlace) (h : pairRead v = some y) : ∃ x, v = pairOf x ∧ y = (.lit (pairLit x), []) ∧ True := by
  cases v with
  | agg cells =>
    obtain ⟨l⟩ := cells
    have h : pairRow l = some y := h
    unfold pairRow at h
    split at h
    · rename_i a b h0
      exact ⟨(a, b), rfl, (Option.some.inj h).symm, trivial⟩
    · cases h
  | _ => cases h
/-- Pairs of texts as elements of a map of type M. -/
def kO (M E : TypeId) (und : Tryz.prog.underlying M = some (.map 9 E)) (zer : ∀ w : World, (zeroValue E).run Tryz.prog w = .ok (pairOf (⟨#[]⟩, ⟨#[]⟩)) w) : MKind (ByteArray × ByteArray) where
  M := M
  E := E
  wd := pairOf
  lt := pairLit
  zero := (⟨#[]⟩, ⟨#[]⟩)
  good _ := True
  und := und
  R := pairRead
  put _ _ := rfl
  inv := pairRead_inv
  inj := pairLit_inj
  zer := zer
  zgood := trivial
end Go.Proofs.YtgjmbokfenpefaaGreatDoor
/- clear of a map; the maps of the program's directory. -/
namespace Go.Proofs.YtgjmbokfenpefaaGreatDoor
open Go.RowKit Go.Maps Go.MapKept

/-- Pairs of texts, an opening and a value, as elements. -/
noncomputable def kH : MKind (ByteArray × ByteArray) := kO 154 211 Tryz.underlying154 (fun w => by kernel_rfl)
end Go.Proofs.YtgjmbokfenpefaaGreatDoor
/- The program's rowAbove: one mark of two and two, by a range over slices.Chunk. -/
namespace Go.Proofs.YtgjmbokfenpefaaGreatDoor
open Go.RowKit Go.Shelf
attribute [local go_sem] Oper.semAt_some

theorem Row.abide {A B : World} {base : Nat} {v : Value} {n : Nat} {xs : List Value} {row : Option Nat} (h : Row A base 1 v n xs) (hg : A.grownBy B row) (hr : ∀ r, row = some r → ∃ o : Obj, A.heap[r]? = some o ∧ o.isCells = false) : Row B base 1 v n xs := by
  obtain ⟨h1, h2⟩ := h
  refine ⟨h1, ?_⟩
  rcases h2 with h2 | ⟨g, cap, hv, hgb, hgl, hn, hc, hs⟩
  · exact .inl h2
  · refine .inr ⟨g, cap, hv, hgb, Nat.lt_of_lt_of_le hgl hg.size, hn, fun j u hj => cell_kept (hc j u hj) hg hr, fun j hj => ?_⟩
    obtain ⟨hi, hf⟩ := hs j hj
    obtain ⟨u, hu⟩ := Option.isSome_iff_exists.1 hi
    exact ⟨by rw [cell_kept hu hg hr]; rfl, (frozen_kept hu hg hr).trans hf⟩
theorem Row.first {w : World} {base gg n cc : Nat} {xs : List Value} (h : Row w base 1 (.slice (some ⟨gg, 0, none⟩) n cc) n xs) (hc : 0 < cc) : ∃ u, w.cell? ⟨gg, 0, none⟩ = some u := by
  obtain ⟨_, h2⟩ := h
  rcases h2 with ⟨h2, _⟩ | ⟨g, cap, hv, _, _, _, _, hs⟩
  · cases h2
  · cases hv
    exact Option.isSome_iff_exists.1 (hs 0 (by omega)).1
/-- The marks above those that have come. -/
def upsV (P : List ByteArray) {m : Nat} (pre : List (Fin m)) : List ByteArray := pre.map fun x => twoM (P.getD (2 * x.val) ⟨#[]⟩) (P.getD (2 * x.val + 1) ⟨#[]⟩)
/-- What the loop has in memory: the box at N + 1 with the row above. -/
structure Abv (P : List ByteArray) (N m : Nat) (pre : List (Fin m)) (W : World) : Prop where
  size : N + 4 ≤ W.heap.size
  free : W.frozen? ⟨N + 1, 0, none⟩ = false
  row : ∃ gg cc, W.cell? ⟨N + 1, 0, none⟩ = some (.slice (some ⟨gg, 0, none⟩) pre.length cc) ∧ 0 < cc ∧ (gg = N ∨ N + 4 ≤ gg) ∧ Row W N 1 (.slice (some ⟨gg, 0, none⟩) pre.length cc) pre.length (stCells (upsV P pre))
theorem Abv.own {P : List ByteArray} {N m : Nat} : Own (fun (pre : List (Fin m)) W => Abv P N m pre W) := fun pre A B row hs hg hr => by
  obtain ⟨h1, h2, gg, cc, h3, h4, h5, h6⟩ := hs
  exact ⟨Nat.le_trans h1 hg.size, (frozen_kept h3 hg hr).trans h2, gg, cc, cell_kept h3 hg hr, h4, h5, h6.abide hg hr⟩

/-- A world in which the box, and two of the marks below, read so. -/
structure AbvZ (N g i : Nat) (v : Value) (x y : ByteArray) where
  at' : World
  h0 : at'.cell? ⟨N + 1, 0, none⟩ = some v
  h1 : at'.cell? ⟨g, i, none⟩ = some (.string x)
  h2 : at'.cell? ⟨g, i + 1, none⟩ = some (.string y)

end Go.Proofs.YtgjmbokfenpefaaGreatDoor
