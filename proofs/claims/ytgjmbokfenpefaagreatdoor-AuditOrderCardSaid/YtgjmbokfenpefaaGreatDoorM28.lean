/- Parts of the proof, one behind the other: PPut, PPub2. -/
import Derived.WalkKit
import Derived.Lib.Hide
import Derived.WalkLawsBesides
import Derived.Deep.QuietTactic
import Derived.Deep.WholeRow
import Derived.ArgAppend
import Derived.Laws.AppendOwnNone
import Derived.Laws.CopyRow
import Derived.Deep.RegionLaw
import Derived.Laws.BytesString
import Derived.Laws.IdiomStrings
import Derived.Test.YtgjmbokfenpefaaGreatDoorProg
import Derived.StringKeys
import Derived.Maps.Own
import Derived.Maps.Views
import Derived.Maps.OwnSet
import Derived.Maps.OwnOps
import Derived.Maps.RangeWalk
import Derived.Sort.KeysCollected
import Derived.Laws.BitsAllLaws
import Derived.Outline
import Derived.BigQuiet
import Derived.Laws.CopyOwn
import Derived.RegionTactic
import Derived.StillTail
import Derived.Deep.Quiet
import Derived.Deep.RegionHeld3
import Derived.Deep.DeepCutAuto
import Derived.Laws.ResultCell
import Derived.IntWalk
import Derived.Sort.Walk0
import Derived.Tactics
import Derived.Orders
import Derived.LaidEql
import Derived.Stop.Asserts
import Derived.RowKitTokens
import Derived.OrdersHeld
import Derived.Sort.LotA
import Derived.Lib.SortBridge
import Derived.Deep.AppendSrc
import Derived.Shelf.SlSortFuncK.WholeK
import Derived.Ground.GgsProg
import Derived.Shelf.GgSortFunc.Tiny
import Derived.Shelf.Strings.Repeat
import Derived.KernelRfl
import Derived.WideKeyEntry
import Derived.Deep.CutRange
import Derived.Laws.StructEq
import Derived.RangeFuncNested
import Derived.RangeFuncBound
import Derived.RangeFuncCalls
import Derived.RangeFuncLeaves
import Derived.Shelf.Abstract
import Derived.Shelf.RegionOpen
import Derived.OwnWalkIn
import Derived.TacticsInMore
import Derived.LoopNIn
import Derived.LoopIn
import Derived.OrdersIn
import Derived.TacticsIn
import Derived.Shelf.SlGeneric
import Derived.Shelf.SlIter.Nil
import Derived.Shelf.SortM.Plain
import Derived.Shelf.SortM.SortNone
import Derived.Ground.GgzProg
import Derived.Ground.SlgmProg
import Derived.Shelf.Small.Strs
import Derived.Test.YtgjmbokfenpefaaGreatDoorM1
import Derived.Test.YtgjmbokfenpefaaGreatDoorM2
import Derived.Test.YtgjmbokfenpefaaGreatDoorM3
import Derived.Test.YtgjmbokfenpefaaGreatDoorM4
import Derived.Test.YtgjmbokfenpefaaGreatDoorM5
import Derived.Test.YtgjmbokfenpefaaGreatDoorM6
import Derived.Test.YtgjmbokfenpefaaGreatDoorM7
import Derived.Test.YtgjmbokfenpefaaGreatDoorM8
import Derived.Test.YtgjmbokfenpefaaGreatDoorM9
import Derived.Test.YtgjmbokfenpefaaGreatDoorM10
import Derived.Test.YtgjmbokfenpefaaGreatDoorM11
import Derived.Test.YtgjmbokfenpefaaGreatDoorM12
import Derived.Test.YtgjmbokfenpefaaGreatDoorM13
import Derived.Test.YtgjmbokfenpefaaGreatDoorM17
import Derived.Test.YtgjmbokfenpefaaGreatDoorM18
import Derived.Test.YtgjmbokfenpefaaGreatDoorM19
import Derived.Test.YtgjmbokfenpefaaGreatDoorM20
import Derived.Test.YtgjmbokfenpefaaGreatDoorM21
import Derived.Test.YtgjmbokfenpefaaGreatDoorM22
import Derived.Test.YtgjmbokfenpefaaGreatDoorM23
import Derived.Test.YtgjmbokfenpefaaGreatDoorM24
import Derived.Test.YtgjmbokfenpefaaGreatDoorM25
import Derived.Test.YtgjmbokfenpefaaGreatDoorM26
import Derived.Test.YtgjmbokfenpefaaGreatDoorM27
/- The program's directory: which names are new, how many there are, Put. -/
namespace Go.Proofs.YtgjmbokfenpefaaGreatDoor
open Go.RowKit Go.Maps

def newName (H : List (ByteArray × (ByteArray × ByteArray))) (W : List (ByteArray × ByteArray)) (name : ByteArray) : Bool := !(look H name).isSome && !(look W name).isSome
def countNew (H : List (ByteArray × (ByteArray × ByteArray))) (S : List ByteArray) : Nat := (S.filter fun s => !(look H s).isSome).length
theorem countNew_snoc (H : List (ByteArray × (ByteArray × ByteArray))) (S : List ByteArray) (s : ByteArray) : countNew H (S ++ [s]) = countNew H S + if (look H s).isSome then 0 else 1 := by
  unfold countNew
  rw [List.filter_append, List.length_append, List.filter_cons]
  cases (look H s).isSome <;> rfl
theorem countNew_perm {H : List (ByteArray × (ByteArray × ByteArray))} {S T : List ByteArray} (h : S.Perm T) : countNew H S = countNew H T := (h.filter _).length_eq
theorem countNew_le (H : List (ByteArray × (ByteArray × ByteArray))) (S : List ByteArray) : countNew H S ≤ S.length := List.length_filter_le _ _
/-- How many names there are, one more among them. -/
theorem names_count {d : Dst} (h : DOk d) {H : List (ByteArray × (ByteArray × ByteArray))} (hk : (keysL H).Nodup) (hs : Says d H) (name : ByteArray) :
    (allNames d name).length = H.length + countNew H (keysL d.wait) + if newName H d.wait name = true then 1 else 0 := by
  have hh : ∀ s, (look H s).isSome = (look d.vals s).isSome := fun s => by rw [hs s]; cases look d.vals s <;> rfl
  have hmK : ∀ s, s ∈ keysL H ++ (keysL d.wait).filter (fun s => !(look H s).isSome) ↔ s ∈ keysL d.wait ∨ s ∈ keysL d.vals := fun s => by
    rw [List.mem_append, List.mem_filter, ← look_isSome (L := H), hh, look_isSome]
    by_cases hv : s ∈ keysL d.vals
    · simp [hv]
    · have : (look d.vals s).isSome = false := by
        cases e : (look d.vals s).isSome with
        | false => rfl
        | true => exact absurd (look_isSome.1 e) hv
      simp [hv, this]
  have hnK : (keysL H ++ (keysL d.wait).filter (fun s => !(look H s).isSome)).Nodup := by
    rw [List.nodup_append]
    refine ⟨hk, h.wk.filter _, fun a ha b hb e => ?_⟩
    subst e
    have h1 := look_isSome.2 ha
    have h2 := (List.mem_filter.1 hb).2
    rw [h1] at h2
    cases h2
  have hl : (keysL H ++ (keysL d.wait).filter (fun s => !(look H s).isSome)).length = H.length + countNew H (keysL d.wait) := by
    rw [List.length_append, keysL_length]; rfl
  have hnw : newName H d.wait name = true ↔ name ∉ keysL H ++ (keysL d.wait).filter (fun s => !(look H s).isSome) := by
    rw [hmK]
    unfold newName
    rw [hh, Bool.and_eq_true, Bool.not_eq_true', Bool.not_eq_true', ← look_isSome, ← look_isSome]
    cases (look d.vals name).isSome <;> cases (look d.wait name).isSome <;> simp
  rw [← keysL_length (allNames d name), ← hl]
  by_cases hn : newName H d.wait name = true
  · rw [if_pos hn]
    have hp : (keysL (allNames d name)).Perm (name :: (keysL H ++ (keysL d.wait).filter (fun s => !(look H s).isSome))) := (List.perm_ext_iff_of_nodup (names_nodup d name) (List.nodup_cons.2 ⟨hnw.1 hn, hnK⟩)).2 fun s => by
      rw [mem_names h.vk h.wk, List.mem_cons, hmK]
      constructor
      · rintro (h1 | h1 | h1)
        · exact .inr (.inl h1)
        · exact .inr (.inr h1)
        · exact .inl h1
      · rintro (h1 | h1 | h1)
        · exact .inr (.inr h1)
        · exact .inl h1
        · exact .inr (.inl h1)
    rw [hp.length_eq, List.length_cons]
  · rw [if_neg hn]
    have hin : name ∈ keysL H ++ (keysL d.wait).filter (fun s => !(look H s).isSome) := Classical.byContradiction fun e => hn (hnw.2 e)
    have hp : (keysL (allNames d name)).Perm (keysL H ++ (keysL d.wait).filter (fun s => !(look H s).isSome)) := (List.perm_ext_iff_of_nodup (names_nodup d name) hnK).2 fun s => by
      rw [mem_names h.vk h.wk, hmK]
      constructor
      · rintro (h1 | h1 | h1)
        · exact .inl h1
        · exact .inr h1
        · rw [h1]; exact (hmK name).1 hin
      · rintro (h1 | h1)
        · exact .inl h1
        · exact .inr (.inl h1)
    rw [hp.length_eq]
    omega
/-- There is room for all that are there. -/
theorem names_room {d : Dst} (h : DOk d) {H : List (ByteArray × (ByteArray × ByteArray))} (hk : (keysL H).Nodup) (hs : Says d H) : H.length + countNew H (keysL d.wait) ≤ 60 := by
  have h1 := names_count h hk hs ⟨#[]⟩
  have hn : newName H d.wait ⟨#[]⟩ = true := by
    unfold newName
    have e1 : look d.vals ⟨#[]⟩ = none := look_none.2 fun e => by
      obtain ⟨p, hp, he⟩ := List.mem_map.1 e
      have := (h.vn p hp).1
      rw [he] at this
      exact absurd this (by rw [no_name]; decide)
    have e2 : look d.wait ⟨#[]⟩ = none := look_none.2 fun e => by
      obtain ⟨p, hp, he⟩ := List.mem_map.1 e
      have := (h.wn p hp).1
      rw [he] at this
      exact absurd this (by rw [no_name]; decide)
    rw [hs, e1, e2]; rfl
  rw [if_pos hn] at h1
  have := h.room
  omega
set_option maxRecDepth 100000 in
theorem pIsNew_any {F : Nat → Prop} {p : Nat} {secret : ByteArray} {bb : Addr} {mh mw : Nat} {vi ve : Value} {H : List (ByteArray × (ByteArray × ByteArray))} {W : List (ByteArray × ByteArray)} {I : List It} {M : List SgM} (name : ByteArray) (w : World)
    (h : DMem F w p secret bb mh mw vi ve H W I M) (hn : name.size ≤ 1000000) :
    Calls Tryz.prog 89 #[.pointer (some ⟨p, 0, none⟩), .string name] w fun e w' => e = .returned (.bool (newName H W name)) ∧ Below w.heap.size w w' := by
  obtain ⟨⟨a, b⟩, hab⟩ : ∃ x : ByteArray × ByteArray, (look H name).getD kH.zero = x := ⟨_, rfl⟩
  obtain ⟨B1, hB1⟩ : ∃ B, (look H name).isSome = B := ⟨_, rfl⟩
  obtain ⟨v2, hv2⟩ : ∃ v, (look W name).getD ⟨#[]⟩ = v := ⟨_, rfl⟩
  obtain ⟨B2, hB2⟩ : ∃ B, (look W name).isSome = B := ⟨_, rfl⟩
  have hlk1 : (Instr.lookup 154 (.map (some mh)) (.string name) true).run Tryz.prog w = .ok (.tuple #[.agg #[.string a, .string b], .bool B1]) w := by
    have := h.has.lookOk hn
    rw [hab, hB1] at this
    exact this
  have hb := alloc_below w (.cells #[.string a, .string b] 211)
  have hlk2 : (Instr.lookup 36 (.map (some mw)) (.string name) true).run Tryz.prog (w.alloc (.cells #[.string a, .string b] 211)) = .ok (.tuple #[.string v2, .bool B2]) (w.alloc (.cells #[.string a, .string b] 211)) := by
    have := (h.wait.block (hb.block _ h.wait.lt)).lookOk hn
    rw [show (look W name).getD kS.zero = v2 from hv2, hB2] at this
    exact this
  have c2 : w.cell? ⟨p, 2, none⟩ = some (.map (some mh)) := h.own.cell 2 (by omega)
  have c3 : (w.alloc (.cells #[.string a, .string b] 211)).cell? ⟨p, 3, none⟩ = some (.map (some mw)) := (hb.cell (p := ⟨p, 3, none⟩) h.own.lt).trans (h.own.cell 3 (by omega))
  have HB := Lib.hid hb
  have HR := Lib.hid (show newName H W name = (!B1 && !B2) from by unfold newName; rw [hB1, hB2])
  clear hb h hab hB1 hv2 hB2
  rw [HR.out]
  clear HR
  cases B1 <;> cases B2
  all_goals
    go_enter Tryz.func89, Tryz.ntmps89
    go_wp2
    go_ret
    exact ⟨rfl, HB.out⟩
set_option maxHeartbeats 1000000 in
set_option maxRecDepth 100000 in
theorem pNames_any {F : Nat → Prop} {p : Nat} {secret : ByteArray} {bb : Addr} {mh mw : Nat} {vi ve : Value} {H : List (ByteArray × (ByteArray × ByteArray))} {W : List (ByteArray × ByteArray)} {I : List It} {M : List SgM} (w : World)
    (h : DMem F w p secret bb mh mw vi ve H W I M) (hl : H.length ≤ 100000) (hw : W.length ≤ 100000) :
    Calls Tryz.prog 90 #[.pointer (some ⟨p, 0, none⟩)] w fun e w' => e = .returned (.int .i64 ((H.length + countNew H (keysL W) : Nat) : Int)) ∧ Below w.heap.size w w' := by
  have HD := Lib.hid h
  have HL := Lib.hid hl
  have HWL := Lib.hid hw
  have c2 : w.cell? ⟨p, 2, none⟩ = some (.map (some mh)) := h.own.cell 2 (by omega)
  have c3 : w.cell? ⟨p, 3, none⟩ = some (.map (some mw)) := h.own.cell 3 (by omega)
  have hlen : ∀ ty, (Builtin.len_ #[154] ty #[.map (some mh)]).run Tryz.prog w = .ok (.int .i64 (H.length : Int)) w := fun ty => h.has.len ty
  have HWW := Lib.hid h.wait
  clear h hl hw
  go_enter Tryz.func90, Tryz.ntmps90
  go_wp2_with (first | (at_range; refine wpList_mapRange kS rfl (.tmp 15) rfl mw W rfl HWW.out ?_; intro w2 hrg2 hg2 hs2))
  go_frame
  have HB2 := Lib.hid (grownBy.below hg2.out (Nat.le_refl _) (fun k hk => by cases hk))
  have HRG := Lib.hid hrg2.out
  have HPL := Lib.hid (show p < w.heap.size ∧ mh < w.heap.size ∧ mw < w.heap.size from ⟨HD.out.own.lt, HD.out.has.lt, HD.out.wait.lt⟩)
  have HRS := Lib.hid (show w.heap.size < w2.heap.size from by have := hs2.out; omega)
  clear c2 c3 hlen hrg2 hg2 hs2 HWW
  obtain ⟨r, hr⟩ : ∃ r, w.heap.size = r := ⟨_, rfl⟩
  have HRE := Lib.hid hr
  rw [hr] at HRG ⊢
  clear hr
  go_loopw [3] (fun nv wr => ∃ (q : Nat) (S : List ByteArray) (cnt : Nat), nv = .int .i64 (q : Int) ∧ Hid (Rng kS wr mw r W S cnt ∧ Below w.heap.size w wr ∧ q = H.length + countNew H S)) (fun _ wr => wr.rangeLeft mw r)
  case atStart => exact ⟨H.length, [], _, rfl, Lib.hid ⟨HRG.out, HB2.out, rfl⟩⟩
  case round =>
    clear HRG HB2
    obtain ⟨q, S, cnt, rfl, HU⟩ := hrel
    go_wp2_with (first | (at_next; refine wpList_mapNext kS rfl (.tmp 16) rfl mw r W S cnt rfl HU.out.1 ?_ ?_))
    · intro hperm
      have HPM := Lib.hid (countNew_perm (H := H) hperm)
      clear hperm
      go_wp2
      go_ret
      exact ⟨by rw [← HPM.out, ← HU.out.2.2]; rfl, HU.out.2.1⟩
    · intro s x w3 cnt' hlk hns hgood HR3 HC3 HG3 HS3 hen
      have hen' : (Instr.entry (.pointer (some ⟨r, 0, none⟩))).run Tryz.prog w3 = .ok (.tuple #[.string s, .string x]) w3 := hen
      have HSS := Lib.hid (show s.size ≤ 1000000 from HU.out.1.short _ (look_mem hlk))
      have HB3 := Lib.hid (HU.out.2.1.grown HG3.out HU.out.2.1.size (fun k hk => by cases hk; exact Nat.le_of_eq HRE.out))
      have HD3 := Lib.hid (HD.out.same (same_of_below HB3.out HD.out.lt))
      have HCN := Lib.hid (show S.length + cnt ≤ W.length from HU.out.1.room)
      have HLE := Lib.hid HU.out.1.left_eq
      have HCL := Lib.hid (countNew_le H S)
      have HSN := Lib.hid (countNew_snoc H S s)
      clear hlk hns hgood HS3 hen HG3
      obtain ⟨⟨a, b⟩, hab⟩ : ∃ y : ByteArray × ByteArray, (look H s).getD kH.zero = y := ⟨_, rfl⟩
      obtain ⟨B1, hB1⟩ : ∃ B, (look H s).isSome = B := ⟨_, rfl⟩
      have hlk1 : (Instr.lookup 154 (.map (some mh)) (.string s) true).run Tryz.prog w3 = .ok (.tuple #[.agg #[.string a, .string b], .bool B1]) w3 := by
        have := HD3.out.has.lookOk HSS.out
        rw [hab, hB1] at this
        exact this
      have d2 : w3.cell? ⟨p, 2, none⟩ = some (.map (some mh)) := HD3.out.own.cell 2 (by omega)
      have HB4 := Lib.hid (HB3.out.alloc HB3.out.size (.cells #[.string a, .string b] 211))
      have HR4 := Lib.hid (HR3.out.block ((alloc_below w3 (.cells #[.string a, .string b] 211)).block _ HR3.out.map.lt) ((alloc_below w3 (.cells #[.string a, .string b] 211)).block _ HR3.out.lt))
      rw [hB1] at HSN
      have hbound : (q : Int) ≤ 200000 := by have := HL.out; have := HWL.out; have := HCN.out; have := HCL.out; have := HU.out.2.2; omega
      clear hab hB1
      cases B1
      · go_wp2
        go_roundw
        case rel => exact ⟨q + 1, S ++ [s], cnt', by go_num, Lib.hid ⟨HR4.out, HB4.out, by rw [HSN.out, ← Nat.add_assoc, ← HU.out.2.2]; rfl⟩⟩
        case measure => rw [HR4.out.left_eq, HLE.out]; exact HC3.out
      · go_wp2
        go_roundw
        case rel => exact ⟨q, S ++ [s], cnt', rfl, Lib.hid ⟨HR4.out, HB4.out, by rw [HSN.out, ← Nat.add_assoc, ← HU.out.2.2]; rfl⟩⟩
        case measure => rw [HR4.out.left_eq, HLE.out]; exact HC3.out
end Go.Proofs.YtgjmbokfenpefaaGreatDoor
/- The program's directory: Publish, one more epoch. -/
namespace Go.Proofs.YtgjmbokfenpefaaGreatDoor
open Go.RowKit Go.Maps

theorem SgLie.below {G : Nat → Prop} {w w' : World} {m : SgM} (h : SgLie G w m) (hb : Below w.heap.size w w') : SgLie G w' m := ⟨h.sig.below hb, h.path.below hb, h.fs, h.fp⟩
theorem strs_lt {w : World} {A : Option Addr} {L : List ByteArray} (h : Strs w A L) : ∀ a, A = some a → 0 < L.length → a.block < w.heap.size := fun a e hl => by
  obtain ⟨a', e', hlt', _⟩ := h 0 _ (List.getElem?_eq_getElem hl)
  rw [e] at e'
  obtain rfl := Option.some.inj e'
  exact hlt'
theorem itms_lt {w : World} {A : Option Addr} {L : List It} (h : Itms w A L) : ∀ a, A = some a → 0 < L.length → a.block < w.heap.size := fun a e hl => by
  obtain ⟨a', e', hlt', _⟩ := h 0 _ (List.getElem?_eq_getElem hl)
  rw [e] at e'
  obtain rfl := Option.some.inj e'
  exact hlt'
theorem SgLie.held {G : Nat → Prop} {w : World} {m : SgM} (h : SgLie G w m) : SgLie (fun k => G k ∧ k < w.heap.size) w m :=
  ⟨h.sig, h.path, fun a e l => ⟨h.fs a e l, strs_lt h.sig a e l⟩, fun a e l => ⟨h.fp a e l, strs_lt h.path a e l⟩⟩
set_option maxHeartbeats 4000000 in
set_option maxRecDepth 100000 in
theorem pPublish_next (F : Nat → Prop) (p : Nat) (d : Dst) (w : World) (h : PDir F w p d) (hc : Chained d) (hok : DOk d) (hk : HasK w) (hkn : ¬ F 1) (h8 : d.eps.length < 8) :
    Calls Tryz.prog 54 #[.pointer (some ⟨p, 0, none⟩)] w fun e w' => ∃ (m : SgM) (F' : Nat → Prop), m.s = Pub.over.sgn d ∧ e = .returned (.tuple #[.agg #[.int .i64 m.s.head.epoch, .string m.s.head.root, .string m.s.head.prev, .int .i64 m.s.key, .slice m.A m.s.sig.length m.ca, .slice m.B m.s.path.length m.cb], .nilIface]) ∧ Off F w w' ∧ Grew w F F' ∧ PDir F' w' p (Pub.over.next d) ∧ SgIn (fun k => w.heap.size ≤ k) w' m := by
  obtain ⟨bb, mh, mw, vi, ve, H, M, h, hme, hsy⟩ := h
  have hM : M.length = d.eps.length := by have := congrArg List.length hme; rwa [List.length_map] at this
  have hds : M.map (·.s.head) = headsOf d := by unfold headsOf; rw [← hme, List.map_map]; rfl
  have hgd := Pub.over.next_good hok h8
  obtain ⟨y, hy, hyr⟩ := next_of_chain hc h8 (root := rootOf (overIts (settled d))) (nodeOf_size _ _ _)
  have HSG := Lib.hid (show Pub.over.sgn d = signOf d.secret M.length y from by
    have hy' : nextAns (d.eps.map (·.head)) (rootOf (overIts (settled d))) = (y, 0) := hy
    show signOf d.secret d.eps.length (nextAns (d.eps.map (·.head)) (rootOf (overIts (settled d)))).1 = _
    rw [hy', hM])
  rw [← hds] at hy
  have HD := Lib.hid h
  have HME := Lib.hid hme
  have HSY := Lib.hid hsy
  have HOK := Lib.hid hok
  have HK := Lib.hid hk
  have HKN := Lib.hid hkn
  have HMD := Lib.hid hM
  have H8 := Lib.hid h8
  have HY := Lib.hid hy
  have HYR := Lib.hid hyr
  have HGD := Lib.hid (show rightItems (overIts (settled d)) = true from hgd)
  have HHL := Lib.hid (show H.length ≤ 60 ∧ d.wait.length ≤ 61 from ⟨by have := names_room hok h.has.keys hsy; omega, hok.wait_len⟩)
  have h8i : (M.length : Int) < 8 := by omega
  obtain ⟨AE, cE, rfl, hcE, -⟩ := h.row.sixes
  obtain ⟨AI, cI, rfl, hcI, hII, hAI⟩ := h.its
  have HCI := Lib.hid hcI
  have HB0 := Lib.hid (alloc_below w (.cells #[.int .i64 0, .string ⟨#[]⟩, .string ⟨#[]⟩, .int .i64 0, .slice none 0 0, .slice none 0 0] 57))
  have HZ0 := Lib.hid (show Holds (w.alloc (.cells #[.int .i64 0, .string ⟨#[]⟩, .string ⟨#[]⟩, .int .i64 0, .slice none 0 0, .slice none 0 0] 57)) w.heap.size 6 (sgF noHd 0 (.slice none 0 0) (.slice none 0 0)) 57 from Holds.new w 6 (sgF noHd 0 (.slice none 0 0) (.slice none 0 0)) 57)
  have HD0 := Lib.hid (HD.out.same (same_of_below HB0.out HD.out.lt))
  clear h hme hsy hok hk hkn hM hds hgd hy hyr hc hcI hII hAI hcE
  go_enter Tryz.func54, Tryz.ntmps54
  go_upto_region 1 with (fail)
  generalize w.alloc (.cells #[.int .i64 0, .string ⟨#[]⟩, .string ⟨#[]⟩, .int .i64 0, .slice none 0 0, .slice none 0 0] 57) = w0 at HB0 HZ0 HD0 ⊢
  have c5 : w0.cell? ⟨p, 5, none⟩ = some (.slice AE M.length cE) := HD0.out.own.cell 5 (by omega)
  go_wp2_with fail
  clear c5
  refine (pOpen_is ((M.length : Int) + 1) _ HD0.out (HK.out.below HB0.out HK.out.lt) (by have := HOK.out.secret; omega) (by have := HHL.out.2; omega)).mono ?_
  rintro e w1 ⟨mf, Fr, rfl, hb1, hmf, hmF, hfl, hfr⟩
  have HB1 := Lib.hid (HB0.out.trans (hb1.mono HB0.out.size))
  have HZ1 := Lib.hid (HZ0.out.below hb1 HZ0.out.lt)
  have HD1 := Lib.hid (HD.out.same (same_of_below HB1.out HD.out.lt))
  have HMF := Lib.hid (show w.heap.size < mf from Nat.lt_of_lt_of_le HZ0.out.lt hmf)
  have HMFR := Lib.hid hmF
  have HFL := Lib.hid (show Fr.length ≤ 61 from by have := HHL.out.2; omega)
  have HFRE := Lib.hid (show Fresh d Fr from open_fresh HOK.out (by rw [← HMD.out]; exact hfr))
  clear hb1 hmf hmF hfl hfr HD0 HZ0 HB0
  have c4 : w1.cell? ⟨p, 4, none⟩ = some (.slice AI (overIts d).length cI) := HD1.out.own.cell 4 (by omega)
  have HI1 := Lib.hid (show Itms w1 AI (overIts d) ∧ ∀ a, AI = some a → 0 < (overIts d).length → Calm F p mh mw (.slice AE M.length cE) a.block from by
    obtain ⟨A', c', e, _, h3, h4⟩ := HD1.out.its
    injection e with e1 _ _
    rw [e1]
    exact ⟨h3, h4⟩)
  go_wp2_with fail
  clear c4
  refine (pLay_is d HOK.out H8.out AI cI mf Fr _ (HK.out.below HB1.out HK.out.lt) HI1.out.1 HCI.out HMFR.out (by have := HFL.out; omega) HFRE.out).mono ?_
  rintro e w2 ⟨A2, c2, rfl, hb2, hi2, hc2, hn2⟩
  have HB2 := Lib.hid (HB1.out.trans (hb2.mono HB1.out.size))
  have HZ2 := Lib.hid (HZ1.out.below hb2 HZ1.out.lt)
  have HD2 := Lib.hid (HD.out.same (same_of_below HB2.out HD.out.lt))
  have HMF2 := Lib.hid (HMFR.out.block (hb2.block _ HMFR.out.lt))
  have HI2 := Lib.hid hi2
  have HC2 := Lib.hid hc2
  have HQ1 := Lib.hid (show w.heap.size < w1.heap.size from HZ1.out.lt)
  have HA2 := Lib.hid (show ∀ a, A2 = some a → 0 < (overIts (settled d)).length → Calm F p mh mw (.slice AE M.length cE) a.block ∨ w.heap.size < a.block from fun a e l => by
    rcases hn2 with ⟨e2, e3⟩ | e2
    · rw [e3] at l
      exact .inl (HI1.out.2 a (e2 ▸ e) l)
    · have := e2 a e l; have := HQ1.out; exact .inr (by omega))
  clear hb2 hi2 hc2 hn2 HD1 HZ1 HB1 HMFR HI1 HCI
  obtain ⟨J, hJ⟩ : ∃ J, overIts (settled d) = J := ⟨_, rfl⟩
  have HJ := Lib.hid hJ
  rw [hJ] at HI2 HC2 HA2 HGD HY ⊢
  clear hJ
  go_wp2_with fail
  refine (pSignDir_is F p d.secret bb mh mw (.slice AI (overIts d).length cI) (.slice AE M.length cE) H d.wait (overIts d) J M A2 c2 _ HD2.out (HK.out.below HB2.out HK.out.lt) (by have := HMD.out; have := H8.out; omega) HI2.out HC2.out HGD.out HY.out HYR.out).mono ?_
  rintro e w3 ⟨m, hms, rfl, hb3, hsl⟩
  have HMS := Lib.hid hms
  have HDIM := Lib.hid (show m.s.sig.length ≤ 35 ∧ m.s.path.length ≤ 3 from by rw [hms, ← HSG.out]; exact ⟨(Pub.over.sgn_dim d).sig, (Pub.over.sgn_dim d).path⟩)
  have hb4 := alloc_below w3 (.cells #[.int .i64 m.s.head.epoch, .string m.s.head.root, .string m.s.head.prev, .int .i64 m.s.key, .slice m.A m.s.sig.length m.ca, .slice m.B m.s.path.length m.cb] 57)
  have hb24 := hb3.trans (hb4.mono hb3.size)
  have HX4 := Lib.hid (show Holds (w3.alloc (.cells #[.int .i64 m.s.head.epoch, .string m.s.head.root, .string m.s.head.prev, .int .i64 m.s.key, .slice m.A m.s.sig.length m.ca, .slice m.B m.s.path.length m.cb] 57)) w3.heap.size 6 (sgF m.s.head m.s.key (.slice m.A m.s.sig.length m.ca) (.slice m.B m.s.path.length m.cb)) 57 from Holds.new w3 6 (sgF m.s.head m.s.key (.slice m.A m.s.sig.length m.ca) (.slice m.B m.s.path.length m.cb)) 57)
  have HB4 := Lib.hid (HB2.out.trans (hb24.mono HB2.out.size))
  have HZ4 := Lib.hid (HZ2.out.below hb24 HZ2.out.lt)
  have HMF4 := Lib.hid (HMF2.out.block (hb24.block _ HMF2.out.lt))
  have HI4 := Lib.hid (HI2.out.below hb24)
  have HM4 := Lib.hid (hsl.held.below hb4)
  have HSB := Lib.hid (show w2.heap.size ≤ w3.heap.size ∧ w.heap.size < w2.heap.size from ⟨hb3.size, HZ2.out.lt⟩)
  have HW34 := Lib.hid (show w3.heap.size < (w3.alloc (.cells #[.int .i64 m.s.head.epoch, .string m.s.head.root, .string m.s.head.prev, .int .i64 m.s.key, .slice m.A m.s.sig.length m.ca, .slice m.B m.s.path.length m.cb] 57)).heap.size from by simp)
  clear hms hb3 hsl hb4 hb24
  go_upto_region 11 with (fail)
  generalize w3.alloc (.cells #[.int .i64 m.s.head.epoch, .string m.s.head.root, .string m.s.head.prev, .int .i64 m.s.key, .slice m.A m.s.sig.length m.ca, .slice m.B m.s.path.length m.cb] 57) = w4 at HX4 HB4 HZ4 HMF4 HI4 HM4 HW34 ⊢
  obtain ⟨sb, hsb⟩ : ∃ sb, w3.heap.size = sb := ⟨_, rfl⟩
  rw [hsb] at HX4 HSB HM4 HW34 ⊢
  have HQ := Lib.hid (show w.heap.size < w2.heap.size ∧ w2.heap.size ≤ sb ∧ sb < w4.heap.size from ⟨HSB.out.2, HSB.out.1, HW34.out⟩)
  clear hsb HSB HW34 HB2 HZ2 HD2 HMF2 HI2
  have HPS := Lib.hid (show p < w.heap.size ∧ mh < w.heap.size ∧ mw < w.heap.size ∧ (∀ k, F k → k < w.heap.size) from ⟨HD.out.own.lt, HD.out.has.lt, HD.out.wait.lt, HD.out.lt⟩)
  have HD4 := Lib.hid (show DMem (fun k => F k ∨ (w.heap.size < k ∧ k < w4.heap.size)) w4 p d.secret bb mh mw (.slice AI (overIts d).length cI) (.slice AE M.length cE) H d.wait (overIts d) M from
    (HD.out.same (same_of_below HB4.out HD.out.lt)).wide (fun k hk => .inl hk) (fun k hk => by
      rcases hk with e | e
      · have := HD.out.lt k e; have := HB4.out.size; omega
      · exact e.2))
  have c2 : w4.cell? ⟨p, 2, none⟩ = some (.map (some mh)) := HD4.out.own.cell 2 (by omega)
  go_wp2_with fail
  clear c2
  refine (mapsCopy_is mh mf H Fr _ HD4.out.has HMF4.out (by have := HMF.out; have := HPS.out.2.1; omega) (by have := HHL.out.1; omega) (by have := HFL.out; omega)).mono ?_
  rintro e w5 ⟨N, rfl, ho5, hm5, hn5⟩
  have HO5 := Lib.hid ((Off.of_below (F := F) HB4.out).trans ho5 (fun k _ e => e ▸ HD.out.fh))
  have HD5 := Lib.hid (HD4.out.putH ⟨ho5.size, fun k hk => ho5.block k (HD4.out.lt k hk.1) hk.2⟩ hm5)
  have HN5 := Lib.hid hn5
  have HX5 := Lib.hid (HX4.out.off ho5 (show ¬ sb = mh by have := HQ.out; have := HPS.out.2.1; omega))
  have HZ5 := Lib.hid (HZ4.out.off ho5 (show ¬ w.heap.size = mh by have := HPS.out.2.1; omega))
  have HI5 := Lib.hid (show Itms w5 A2 J ∧ SgLie (fun k => w2.heap.size ≤ k ∧ k < sb) w5 m from
    ⟨HI4.out.same (F := fun k => k < w4.heap.size ∧ k ≠ mh) (fun a e l => ⟨itms_lt HI4.out a e l, fun e2 => by
      rcases HA2.out a e l with e3 | e3
      · exact e3.2.2.1 e2
      · have := HPS.out.2.1; omega⟩) ⟨ho5.size, fun k hk => ho5.block k hk.1 hk.2⟩,
     HM4.out.same ⟨ho5.size, fun k hk => ho5.block k (by have := HQ.out; omega) (by have := HQ.out; have := HPS.out.2.1; omega)⟩⟩)
  obtain ⟨w6, hcl, hm6, hg6, hz6⟩ := HD5.out.wait.cleared
  have hcl' : ∀ ty, (Builtin.clear_ #[36] ty #[.map (some mw)]).run Tryz.prog w5 = .ok (.tuple #[]) w6 := hcl
  have HD6 := Lib.hid (HD5.out.putW hg6 hm6)
  have HO6 := Lib.hid (HO5.out.trans (Off.of_grown hg6 (F := F) (fun k hk => by cases hk; exact HD.out.fw)) (fun _ _ h => h))
  have HX6 := Lib.hid (grown_keeps HX5.out hg6 (show sb ≠ mw by have := HQ.out; have := HPS.out.2.2.1; omega))
  have HZ6 := Lib.hid (grown_keeps HZ5.out hg6 (show w.heap.size ≠ mw by have := HPS.out.2.2.1; omega))
  have HI6 := Lib.hid (show Itms w6 A2 J ∧ SgLie (fun k => w2.heap.size ≤ k ∧ k < sb) w6 m from
    ⟨HI5.out.1.same (F := fun k => k < w5.heap.size ∧ k ≠ mw) (fun a e l => ⟨itms_lt HI5.out.1 a e l, fun e2 => by
      rcases HA2.out a e l with e3 | e3
      · exact e3.2.2.2.1 e2
      · have := HPS.out.2.2.1; omega⟩) ⟨hg6.size, fun k hk => hg6.block k hk.1 (fun e => hk.2 (Option.some.inj e))⟩,
     HI5.out.2.same ⟨hg6.size, fun k hk => hg6.block k (by have := HQ.out; have := ho5.size; omega) (fun e => by have := HQ.out; have := HPS.out.2.2.1; have := Option.some.inj e; omega)⟩⟩)
  have c3 : w5.cell? ⟨p, 3, none⟩ = some (.map (some mw)) := HD5.out.own.cell 3 (by omega)
  have HVJ := Lib.hid (show ItsIn (Calm (fun k => F k ∨ (w.heap.size < k ∧ k < w4.heap.size)) p mh mw (.slice AE M.length cE)) w6 (.slice A2 J.length c2) J from
    ⟨A2, c2, rfl, HC2.out, HI6.out.1, fun a e l => by
      have hl4 := itms_lt HI4.out a e l
      rcases HA2.out a e l with e3 | e3
      · exact ⟨.inl e3.1, e3.2⟩
      · have h1 := HPS.out
        exact ⟨.inr ⟨e3, hl4⟩, by omega, by omega, by omega, fun e4 => by have := h1.2.2.2 _ (HD.out.fv _ e4); omega⟩⟩)
  have HD7 := Lib.hid (HD6.out.setI HVJ.out)
  have HO7 := Lib.hid (HO6.out.setCell (a := ⟨p, 4, none⟩) (.inr HD.out.fp) (.slice A2 J.length c2))
  have HX7 := Lib.hid (HX6.out.other (a := ⟨p, 4, none⟩) (show sb ≠ p by have := HQ.out; have := HPS.out.1; omega) (.slice A2 J.length c2))
  have HZ7 := Lib.hid (HZ6.out.other (a := ⟨p, 4, none⟩) (show w.heap.size ≠ p by have := HPS.out.1; omega) (.slice A2 J.length c2))
  have HM7 := Lib.hid (show SgLie (fun k => w2.heap.size ≤ k ∧ k < sb) (w6.setCell ⟨p, 4, none⟩ (.slice A2 J.length c2)) m from HI6.out.2.same ⟨by rw [setCell_size]; exact Nat.le_refl _, fun k hk => Below.heap_setCell _ _ _ _ (show k ≠ p by have := HQ.out; have := HPS.out.1; omega)⟩)
  have d4 : w6.cell? ⟨p, 4, none⟩ = some (.slice AI (overIts d).length cI) := HD6.out.own.cell 4 (by omega)
  have d4f : w6.frozen? ⟨p, 4, none⟩ = false := HD6.out.own.free 4
  have d3 : w6.cell? ⟨p, 3, none⟩ = some (.map (some mw)) := HD6.out.own.cell 3 (by omega)
  have HS7 := Lib.hid (show (w6.setCell ⟨p, 4, none⟩ (.slice A2 J.length c2)).heap.size = w6.heap.size ∧ w4.heap.size ≤ w6.heap.size from ⟨setCell_size _ _ _, Nat.le_trans ho5.size hg6.size⟩)
  clear ho5 hm5 hn5 hcl hm6 hg6 hz6 HD4 HX4 HZ4 HI4 HM4 HMF4 HO5 HX5 HZ5 HI5 HD5 HX6 HZ6 HI6 HVJ HD6 HO6 HB4
  go_upto_region 14 with (fail)
  generalize w6.setCell ⟨p, 4, none⟩ (.slice A2 J.length c2) = w7 at HD7 HO7 HX7 HZ7 HM7 HS7 ⊢
  clear hcl' c3 d4 d4f d3
  have HVB := Lib.hid (show ∀ k, (Value.slice AE M.length cE).ownBlock = some k → k < w.heap.size from fun k e => HPS.out.2.2.2 _ (HD.out.fv k e))
  have HW7 := Lib.hid (show w4.heap.size ≤ w7.heap.size from by have := HS7.out; omega)
  clear HS7
  have r0 : w7.cell? ⟨p, 5, none⟩ = some (.slice AE M.length cE) := HD7.out.own.cell 5 (by omega)
  obtain ⟨l0, l1, l2, l3, l4, l5⟩ := sg_cells HX7.out
  have z0 : ∀ z : PbZ p sb (.slice AE M.length cE) m, z.at'.cell? ⟨p, 5, none⟩ = some (.slice AE M.length cE) := fun z => z.h0
  have z1 : ∀ z : PbZ p sb (.slice AE M.length cE) m, z.at'.cell? ⟨sb, 0, none⟩ = some (.int .i64 m.s.head.epoch) := fun z => z.h1
  have z2 : ∀ z : PbZ p sb (.slice AE M.length cE) m, z.at'.cell? ⟨sb, 1, none⟩ = some (.string m.s.head.root) := fun z => z.h2
  have z3 : ∀ z : PbZ p sb (.slice AE M.length cE) m, z.at'.cell? ⟨sb, 2, none⟩ = some (.string m.s.head.prev) := fun z => z.h3
  have z4 : ∀ z : PbZ p sb (.slice AE M.length cE) m, z.at'.cell? ⟨sb, 3, none⟩ = some (.int .i64 m.s.key) := fun z => z.h4
  have z5 : ∀ z : PbZ p sb (.slice AE M.length cE) m, z.at'.cell? ⟨sb, 4, none⟩ = some (.slice m.A m.s.sig.length m.ca) := fun z => z.h5
  have z6 : ∀ z : PbZ p sb (.slice AE M.length cE) m, z.at'.cell? ⟨sb, 5, none⟩ = some (.slice m.B m.s.path.length m.cb) := fun z => z.h6
  have zn : Nonempty (PbZ p sb (.slice AE M.length cE) m) := ⟨⟨w7.drew, r0, l0, l1, l2, l3, l4, l5⟩⟩
  refine wp_region_taken (fun w' => ∃ z : PbZ p sb (.slice AE M.length cE) m, w' = z.at') [0, 1, 2, 3, 4, 5] [6, 7, 8, 9, 10] (by kernel_rfl) (by kernel_rfl) (by intro c d v a w h; cases d <;> exact h) ⟨⟨w7.drew, r0, l0, l1, l2, l3, l4, l5⟩, rfl⟩ ?_
  simp only [pickOps, List.filterMap_cons, List.filterMap_nil, List.getElem?_cons_zero, List.getElem?_cons_succ]
  repeat (first | go_big_quiet_step (fail) | quiet_step (fail))
  refine wpQuiet_nil ?_
  have HPL := Lib.hid (show p < w7.heap.size ∧ sb < w7.heap.size from by have := HPS.out.1; have := HQ.out; have := HW7.out; omega)
  have HZZ := Lib.hid (show ∀ u : World, Below w7.heap.size w7 u → ∃ z : PbZ p sb (.slice AE M.length cE) m, u = z.at' from fun u hu =>
    Holds.pbZ ((hu.cell (p := ⟨p, 5, none⟩) HPL.out.1).trans r0) (HX7.out.below hu HPL.out.2))
  clear z0 z1 z2 z3 z4 z5 z6 zn
  refine wpSeq_one rfl (fun K' hK => ?_)
  go_wp2
  refine hK _ _ (HZZ.out _ ((Below.refl _ _).alloc (Nat.le_refl _) _).drew) ?_
  clear hK K'
  have HROW := Lib.hid (show Row w7.drew (p + 1) 6 (.slice AE M.length cE) M.length (sgCells M) from HD7.out.row.drew)
  refine wpSeq_one rfl (fun K' hK => ?_)
  refine wpList_append_cells rfl (.tmp 64) (.tmp 66) 38 rfl 57 Tryz.underlying38 _ 6 96 infoSg rfl (by decide) (by decide) (p + 1) (.slice AE M.length cE) M.length (sgCells M) rfl (HROW.out.alloc _) (by have := HPL.out.1; simp; omega) (by have := HMD.out; have := H8.out; omega) m.cells rfl (by intro u hu; simp [SgM.cells] at hu; rcases hu with rfl | rfl | rfl | rfl | rfl | rfl <;> rfl) w7.heap.size rfl 57 (heap_alloc_new _ _) ?_
  intro v9 w9 hrow9 hgrow9 hmove9
  obtain ⟨q9, cap9, rfl⟩ := hrow9.out.any
  have HLM := Lib.hid (show SgLie (Calm (fun k => F k ∨ (w.heap.size < k ∧ k < w4.heap.size)) p mh mw (.slice AE M.length cE)) w7.drew m from
    (HM7.out.same (w' := w7.drew) ⟨Nat.le_refl _, fun _ _ => rfl⟩).mono fun k hk => by
      have h1 := HPS.out
      have h2 := HQ.out
      exact ⟨.inr ⟨by omega, by omega⟩, by omega, by omega, by omega, fun e => by have := HVB.out k e; omega⟩)
  have HPU := Lib.hid (DMem.pushE (u := w7.drew) (HD7.out.same ⟨Nat.le_refl _, fun _ _ => rfl⟩) m HLM.out hrow9.out hgrow9.out hmove9.out)
  have HBLK := Lib.hid (show ∀ k, k < w7.heap.size → (Value.slice AE M.length cE).ownBlock ≠ some k → w9.heap[k]? = w7.heap[k]? from fun k hk hv =>
    (hgrow9.out.block k (by simp; omega) (fun e => hv e.symm)).trans ((alloc_below w7.drew _).block k hk))
  have HPV := Lib.hid (show (Value.slice AE M.length cE).ownBlock ≠ some p from HD7.out.row.fresh (Nat.lt_succ_self p))
  have HSV := Lib.hid (show (Value.slice AE M.length cE).ownBlock ≠ some sb ∧ (Value.slice AE M.length cE).ownBlock ≠ some w.heap.size from ⟨fun e => by have := HVB.out _ e; have := HQ.out; omega, fun e => by have := HVB.out _ e; omega⟩)
  have HX9 := Lib.hid (show Holds w9 sb 6 (sgF m.s.head m.s.key (.slice m.A m.s.sig.length m.ca) (.slice m.B m.s.path.length m.cb)) 57 from by
    have h1 := HX7.out
    unfold Holds at h1 ⊢
    rw [HBLK.out sb HPL.out.2 HSV.out.1]; exact h1)
  have HQ9 := Lib.hid (show Holds w9 w.heap.size 6 (sgF noHd 0 (.slice none 0 0) (.slice none 0 0)) 57 from by
    have h1 := HZ7.out
    unfold Holds at h1 ⊢
    rw [HBLK.out w.heap.size HZ7.out.lt HSV.out.2]; exact h1)
  have HP9 := Lib.hid (show Holds w9 p 6 (pdF d.secret bb mh mw (.slice A2 J.length c2) (.slice AE M.length cE)) 157 from by
    have h1 := HD7.out.own
    unfold Holds at h1 ⊢
    rw [HBLK.out p HPL.out.1 HPV.out]; exact h1)
  have HZ9 := Lib.hid (show ∃ z : PbZ p sb (.slice AE M.length cE) m, w9 = z.at' from Holds.pbZ (HP9.out.cell 5 (by omega)) HX9.out)
  have t6 : w9.cell? ⟨p, 5, none⟩ = some (.slice AE M.length cE) := HP9.out.cell 5 (by omega)
  have t6f : w9.frozen? ⟨p, 5, none⟩ = false := HP9.out.free 5
  have HOFF := Lib.hid (show Off F w (w9.setCell ⟨p, 5, none⟩ (.slice q9 (M.length + 1) cap9)) from
    (((HO7.out.drew.alloc _).trans (Off.of_grown hgrow9.out (F := F) (fun k hk => HD.out.fv k hk)) (fun _ _ h => h)).setCell (.inr HD.out.fp) _))
  have HXA := Lib.hid (HX9.out.other (a := ⟨p, 5, none⟩) (show sb ≠ p by have := HQ.out; have := HPS.out.1; omega) (.slice q9 (M.length + 1) cap9))
  have HQA := Lib.hid (HQ9.out.other (a := ⟨p, 5, none⟩) (show w.heap.size ≠ p by have := HPS.out.1; omega) (.slice q9 (M.length + 1) cap9))
  have HSA := Lib.hid (show w7.heap.size ≤ (w9.setCell ⟨p, 5, none⟩ (.slice q9 (M.length + 1) cap9)).heap.size from by rw [setCell_size]; have := hgrow9.out.size; simp at this; omega)
  clear r0 l0 l1 l2 l3 l4 l5 HX9 HQ9 HP9 hrow9 hgrow9 hmove9 HROW HLM
  refine hK _ _ HZ9.out ?_
  clear hK K'
  refine wpSeq_one rfl (fun K' hK => ?_)
  go_wp2
  refine hK _ _ HZ9.out ?_
  clear hK K'
  refine wpSeq_one rfl (fun K' hK => ?_)
  go_wp2
  refine hK _ _ HZ9.out ?_
  clear hK K'
  refine wpSeq_last rfl (fun K' hK => ?_)
  go_wp2
  refine hK _ _ ?_
  clear hK K' t6 t6f
  clear HZ9 HZZ HBLK HPV HSV HX7 HZ7 HM7 HD7 HO7
  generalize hwA : w9.setCell ⟨p, 5, none⟩ (.slice q9 (M.length + 1) cap9) = wA at HPU HOFF HXA HQA HSA ⊢
  have HWA := Lib.hid (show w9.heap.size = wA.heap.size from by rw [← hwA, setCell_size])
  clear hwA
  obtain ⟨l0, l1, l2, l3, l4, l5⟩ := sg_cells HXA.out
  go_wp2_with fail
  clear l0 l1 l2 l3 l4 l5
  have HMA := Lib.hid (HPU.out.sgs m (List.mem_append_right _ (List.mem_singleton.2 rfl)))
  refine (pCopyOf_is m _ (by have := HDIM.out.1; omega) (by have := HDIM.out.2; omega) HMA.out.sig HMA.out.path).mono ?_
  rintro e wB ⟨mm, rfl, hmm, hbB, hin⟩
  obtain ⟨⟨x, kk, S, P⟩, A, ca, B, cb⟩ := mm
  have HBB := Lib.hid hbB
  have HMM := Lib.hid (show (⟨x, kk, S, P⟩ : Sgn) = m.s from hmm)
  have HIN := Lib.hid hin
  have HQB := Lib.hid (HQA.out.below hbB HQA.out.lt)
  obtain ⟨z0, z1, z2, z3, z4, z5⟩ := sg_cells HQB.out
  have q0 : wB.frozen? ⟨w.heap.size, 0, none⟩ = false := HQB.out.free 0
  have q1 : wB.frozen? ⟨w.heap.size, 1, none⟩ = false := HQB.out.free 1
  have q2 : wB.frozen? ⟨w.heap.size, 2, none⟩ = false := HQB.out.free 2
  have q3 : wB.frozen? ⟨w.heap.size, 3, none⟩ = false := HQB.out.free 3
  have q4 : wB.frozen? ⟨w.heap.size, 4, none⟩ = false := HQB.out.free 4
  have q5 : wB.frozen? ⟨w.heap.size, 5, none⟩ = false := HQB.out.free 5
  have HFIN := Lib.hid (put6_holds HQB.out x kk (.slice A S.length ca) (.slice B P.length cb))
  have HWW := Lib.hid (show w.heap.size < wA.heap.size from HQA.out.lt)
  have HFS := Lib.hid (put6_strs HIN.out.sig (fun a e l => by have := HIN.out.fs a e l; have := HWW.out; show w.heap.size < a.block; omega) x kk (.slice A S.length ca) (.slice B P.length cb))
  have HFP := Lib.hid (put6_strs HIN.out.path (fun a e l => by have := HIN.out.fp a e l; have := HWW.out; show w.heap.size < a.block; omega) x kk (.slice A S.length ca) (.slice B P.length cb))
  clear hmm hbB hin
  go_wp2
  refine bodyPost_ret (results_row2 rfl _ _ w.heap.size 57 (arr 6 (sgF x kk (.slice A S.length ca) (.slice B P.length cb))) (0, 0) _ rfl HFIN.out Tryz.underlying57 rfl (by rw [arr_size]; exact infoSg6)) rfl ?_
  clear q0 q1 q2 q3 q4 q5
  have HZF := Lib.hid (show (put6 wB w.heap.size x kk (.slice A S.length ca) (.slice B P.length cb)).heap.size = wB.heap.size from put6_size _ _ _ _ _ _)
  have HOF := Lib.hid (show Off F w (put6 wB w.heap.size x kk (.slice A S.length ca) (.slice B P.length cb)) from
    (((((((HOFF.out.then HBB.out).setCell (a := ⟨w.heap.size, 0, none⟩) (.inl (Nat.le_refl _)) _).setCell (a := ⟨w.heap.size, 1, none⟩) (.inl (Nat.le_refl _)) _).setCell (a := ⟨w.heap.size, 2, none⟩) (.inl (Nat.le_refl _)) _).setCell (a := ⟨w.heap.size, 3, none⟩) (.inl (Nat.le_refl _)) _).setCell (a := ⟨w.heap.size, 4, none⟩) (.inl (Nat.le_refl _)) _).setCell (a := ⟨w.heap.size, 5, none⟩) (.inl (Nat.le_refl _)) _))
  have HFD := Lib.hid (HPU.out.same (w' := put6 wB w.heap.size x kk (.slice A S.length ca) (.slice B P.length cb)) ⟨by rw [HZF.out]; exact HBB.out.size, fun k hk => by
    have h1 := hk.2
    have h2 := HWA.out
    have h3 := HPS.out
    have h4 := HQ.out
    have h5 := HW7.out
    have h6 : k ≠ w.heap.size := by
      rcases hk.1 with (e | e) | e
      · have := h3.2.2.2 k e; omega
      · omega
      · have e : w7.heap.size ≤ k := e
        omega
    exact (put6_block _ _ _ _ _ _ k h6).trans (HBB.out.block k (by omega))⟩)
  have hms := HMS.out
  have hsg := HSG.out
  have hnx : (M ++ [m]).map (·.s) = (Pub.over.next d).eps := by
    rw [List.map_append, HME.out]
    show d.eps ++ [m.s] = d.eps ++ [Pub.over.sgn d]
    rw [hsg, hms]
  have hits : overIts (Pub.over.next d) = J := HJ.out
  have hsay : Says (Pub.over.next d) N := says_next HOK.out HSY.out HFRE.out HN5.out _
  refine ⟨⟨⟨x, kk, S, P⟩, A, ca, B, cb⟩, (fun k => ((F k ∨ (w.heap.size < k ∧ k < w4.heap.size)) ∨ w7.drew.heap.size ≤ k) ∧ k < w9.heap.size), ?_, rfl, HOF.out, ?_, ⟨bb, mh, mw, (.slice A2 J.length c2), (.slice q9 (M.length + 1) cap9), N, M ++ [m], ?_, hnx, hsay⟩, HFS.out, HFP.out, ?_, ?_, HIN.out.cp⟩
  · show (⟨x, kk, S, P⟩ : Sgn) = _
    rw [HMM.out, hms, hsg]
  · exact fun k hk => by
      rcases hk.1 with (e | e) | e
      · exact .inl e
      · exact .inr (by omega)
      · have e : w7.heap.size ≤ k := e
        have := HQ.out
        have := HW7.out
        exact .inr (by omega)
  · rw [hits]
    exact HFD.out
  · intro a e l
    have := HIN.out.fs a e l
    have := HWW.out
    show w.heap.size ≤ a.block
    omega
  · intro a e l
    have := HIN.out.fp a e l
    have := HWW.out
    show w.heap.size ≤ a.block
    omega
end Go.Proofs.YtgjmbokfenpefaaGreatDoor
