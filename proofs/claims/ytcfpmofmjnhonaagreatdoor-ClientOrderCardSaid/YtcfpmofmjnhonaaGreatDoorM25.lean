/- Parts of the proof, one behind the other: PPub, PPut. -/
import Derived.Test.YtcfpmofmjnhonaaGreatDoorM19
import Derived.Test.YtcfpmofmjnhonaaGreatDoorM22
import Derived.Test.YtcfpmofmjnhonaaGreatDoorM24
import Derived.Test.YtcfpmofmjnhonaaGreatDoorM15
import Derived.Test.YtcfpmofmjnhonaaGreatDoorM10
/- The program's directory: Publish. -/
namespace Go.Proofs.YtcfpmofmjnhonaaGreatDoor
open Go.RowKit Go.Maps

theorem next_of_chain {d : Dst} (hc : Chained d) (he : d.eps.length < 8) {root : ByteArray} (h16 : root.size = 16) : ∃ y, nextAns (headsOf d) root = (y, 0) ∧ rightHead y = true := by
  have hlen : (headsOf d).length = d.eps.length := by unfold headsOf; simp
  obtain ⟨y, hn, hrt, _⟩ := next_right (L := headsOf d) (root := root) (by rw [hlen]; omega) h16 (fun x hx => by
    rw [List.getLast?_eq_getElem?, hlen] at hx
    have hi : d.eps.length - 1 < d.eps.length := by
      have := (List.getElem?_eq_some_iff.1 hx).1
      rw [hlen] at this
      omega
    obtain ⟨s, hs⟩ : ∃ s, d.eps[d.eps.length - 1]? = some s := ⟨_, List.getElem?_eq_getElem hi⟩
    rw [headsOf_get hs] at hx
    obtain rfl := Option.some.inj hx
    obtain ⟨_, h2, h3, _⟩ := hc.link _ _ hs
    exact ⟨h3, by rw [h2, hlen]; omega⟩)
  exact ⟨y, hn, hrt⟩
theorem open_fresh {d : Dst} (h : DOk d) {Fr : List (ByteArray × (ByteArray × ByteArray))} (hf : ∀ t, look Fr t = (look d.wait t).map (openAt d.secret ((d.eps.length : Int) + 1) t)) : Fresh d Fr := fun s => by
  rw [hf s]
  cases e : look d.wait s with
  | none => rfl
  | some v =>
    have h1 : look (settled d).since s = some ((d.eps.length : Int) + 1) := by rw [(settled_look h s).2, e]; rfl
    show some (openAt d.secret ((d.eps.length : Int) + 1) s v) = some (openOf (settled d) s, v)
    unfold openAt openOf
    rw [h1]
    rfl
theorem says_next {d : Dst} (h : DOk d) {H Fr N : List (ByteArray × (ByteArray × ByteArray))} (hs : Says d H) (hf : Fresh d Fr) (hn : ∀ t, look N t = (look Fr t).or (look H t)) (E : List Sgn) : Says { settled d with eps := E } N := fun s => by
  show look N s = (look (settled d).vals s).map fun v => (openOf (settled d) s, v)
  rw [hn s, hf s, hs s, (settled_look h s).1]
  cases e : look d.wait s with
  | some v => rfl
  | none =>
    have ho := (since_old h (s := s) (by rw [e]; decide)).2.2
    rw [ho]
    cases look d.vals s <;> rfl
structure PbZ (p sb : Nat) (v : Value) (m : SgM) where
  at' : World
  h0 : at'.cell? ⟨p, 5, none⟩ = some v
  h1 : at'.cell? ⟨sb, 0, none⟩ = some (.int .i64 m.s.head.epoch)
  h2 : at'.cell? ⟨sb, 1, none⟩ = some (.string m.s.head.root)
  h3 : at'.cell? ⟨sb, 2, none⟩ = some (.string m.s.head.prev)
  h4 : at'.cell? ⟨sb, 3, none⟩ = some (.int .i64 m.s.key)
  h5 : at'.cell? ⟨sb, 4, none⟩ = some (.slice m.A m.s.sig.length m.ca)
  h6 : at'.cell? ⟨sb, 5, none⟩ = some (.slice m.B m.s.path.length m.cb)
theorem Holds.pbZ {w : World} {p sb : Nat} {v : Value} {m : SgM} {t : TypeId} (h0 : w.cell? ⟨p, 5, none⟩ = some v) (h : Holds w sb 6 (sgF m.s.head m.s.key (.slice m.A m.s.sig.length m.ca) (.slice m.B m.s.path.length m.cb)) t) : ∃ z : PbZ p sb v m, w = z.at' := by
  obtain ⟨c0, c1, c2, c3, c4, c5⟩ := sg_cells h
  exact ⟨⟨w, h0, c0, c1, c2, c3, c4, c5⟩, rfl⟩
set_option maxHeartbeats 1000000 in
set_option maxRecDepth 100000 in
theorem pPublish_full (F : Nat → Prop) (p : Nat) (d : Dst) (w : World) (h : PDir F w p d) (h8 : ¬ d.eps.length < 8) (hf8 : d.eps.length ≤ 8) :
    Calls Tryz.prog 20 #[.pointer (some ⟨p, 0, none⟩)] w fun e w' => e = .returned (.tuple #[.agg #[.int .i64 0, .string ⟨#[]⟩, .string ⟨#[]⟩, .int .i64 0, .slice none 0 0, .slice none 0 0], errOf 12]) ∧ Below w.heap.size w w' := by
  obtain ⟨bb, mh, mw, vi, ve, H, M, h, hme, -⟩ := h
  have hM : M.length = 8 := by have := congrArg List.length hme; rw [List.length_map] at this; omega
  obtain ⟨AE, cE, rfl, -, -⟩ := h.row.sixes
  have HB0 := Lib.hid (alloc_below w (.cells #[.int .i64 0, .string ⟨#[]⟩, .string ⟨#[]⟩, .int .i64 0, .slice none 0 0, .slice none 0 0] 54))
  have HZ0 := Lib.hid (show Holds (w.alloc (.cells #[.int .i64 0, .string ⟨#[]⟩, .string ⟨#[]⟩, .int .i64 0, .slice none 0 0, .slice none 0 0] 54)) w.heap.size 6 (sgF noHd 0 (.slice none 0 0) (.slice none 0 0)) 54 from Holds.new w 6 (sgF noHd 0 (.slice none 0 0) (.slice none 0 0)) 54)
  have c5 : (w.alloc (.cells #[.int .i64 0, .string ⟨#[]⟩, .string ⟨#[]⟩, .int .i64 0, .slice none 0 0, .slice none 0 0] 54)).cell? ⟨p, 5, none⟩ = some (.slice AE 8 cE) := by
    have := (HB0.out.cell (p := ⟨p, 5, none⟩) h.own.lt).trans (h.own.cell 5 (by omega))
    rw [← hM]; exact this
  clear h hme hM h8 hf8
  go_enter Tryz.func20, Tryz.ntmps20
  go_upto_region 1 with (fail)
  generalize w.alloc (.cells #[.int .i64 0, .string ⟨#[]⟩, .string ⟨#[]⟩, .int .i64 0, .slice none 0 0, .slice none 0 0] 54) = w0 at HB0 HZ0 c5 ⊢
  obtain ⟨z0, z1, z2, z3, z4, z5⟩ := sg_cells HZ0.out
  have q0 : w0.frozen? ⟨w.heap.size, 0, none⟩ = false := HZ0.out.free 0
  have q1 : w0.frozen? ⟨w.heap.size, 1, none⟩ = false := HZ0.out.free 1
  have q2 : w0.frozen? ⟨w.heap.size, 2, none⟩ = false := HZ0.out.free 2
  have q3 : w0.frozen? ⟨w.heap.size, 3, none⟩ = false := HZ0.out.free 3
  have q4 : w0.frozen? ⟨w.heap.size, 4, none⟩ = false := HZ0.out.free 4
  have q5 : w0.frozen? ⟨w.heap.size, 5, none⟩ = false := HZ0.out.free 5
  have HFIN := Lib.hid (put6_holds HZ0.out noHd 0 (.slice none 0 0) (.slice none 0 0))
  have HFB := Lib.hid (put6_below HB0.out (Nat.le_refl _) noHd 0 (.slice none 0 0) (.slice none 0 0))
  go_wp2
  refine bodyPost_ret (results_row2 rfl _ _ w.heap.size 54 (arr 6 (sgF noHd 0 (.slice none 0 0) (.slice none 0 0))) (0, 0) _ rfl HFIN.out Tryz.underlying54 rfl (by rw [arr_size]; exact infoSg6)) rfl ?_
  exact ⟨rfl, HFB.out⟩
end Go.Proofs.YtcfpmofmjnhonaaGreatDoor
/- The program's directory: which names are new, how many there are, Put. -/
namespace Go.Proofs.YtcfpmofmjnhonaaGreatDoor
open Go.RowKit Go.Maps

def newName (H : List (ByteArray × (ByteArray × ByteArray))) (W : List (ByteArray × ByteArray)) (name : ByteArray) : Bool := !(look H name).isSome && !(look W name).isSome
def countNew (H : List (ByteArray × (ByteArray × ByteArray))) (S : List ByteArray) : Nat := (S.filter fun s => !(look H s).isSome).length
theorem countNew_snoc (H : List (ByteArray × (ByteArray × ByteArray))) (S : List ByteArray) (s : ByteArray) : countNew H (S ++ [s]) = countNew H S + if (look H s).isSome then 0 else 1 := by
  unfold countNew
  rw [List.filter_append, List.length_append, List.filter_cons]
  cases (look H s).isSome <;> rfl
theorem countNew_perm {H : List (ByteArray × (ByteArray × ByteArray))} {S T : List ByteArray} (h : S.Perm T) : countNew H S = countNew H T := (h.filter _).length_eq
theorem countNew_le (H : List (ByteArray × (ByteArray × ByteArray))) (S : List ByteArray) : countNew H S ≤ S.length := List.length_filter_le _ _
/-- How many names there are, one more among them. -/
theorem names_count {d : Dst} (h : DOk d) {H : List (ByteArray × (ByteArray × ByteArray))} (hk : (keysL H).Nodup) (hs : Says d H) (name : ByteArray) :
    (allNames d name).length = H.length + countNew H (keysL d.wait) + if newName H d.wait name = true then 1 else 0 := by
  have hh : ∀ s, (look H s).isSome = (look d.vals s).isSome := fun s => by rw [hs s]; cases look d.vals s <;> rfl
  have hmK : ∀ s, s ∈ keysL H ++ (keysL d.wait).filter (fun s => !(look H s).isSome) ↔ s ∈ keysL d.wait ∨ s ∈ keysL d.vals := fun s => by
    rw [List.mem_append, List.mem_filter, ← look_isSome (L := H), hh, look_isSome]
    by_cases hv : s ∈ keysL d.vals
    · simp [hv]
    · have : (look d.vals s).isSome = false := by
        cases e : (look d.vals s).isSome with
        | false => rfl
        | true => exact absurd (look_isSome.1 e) hv
      simp [hv, this]
  have hnK : (keysL H ++ (keysL d.wait).filter (fun s => !(look H s).isSome)).Nodup := by
    rw [List.nodup_append]
    refine ⟨hk, h.wk.filter _, fun a ha b hb e => ?_⟩
    subst e
    have h1 := look_isSome.2 ha
    have h2 := (List.mem_filter.1 hb).2
    rw [h1] at h2
    cases h2
  have hl : (keysL H ++ (keysL d.wait).filter (fun s => !(look H s).isSome)).length = H.length + countNew H (keysL d.wait) := by
    rw [List.length_append, keysL_length]; rfl
  have hnw : newName H d.wait name = true ↔ name ∉ keysL H ++ (keysL d.wait).filter (fun s => !(look H s).isSome) := by
    rw [hmK]
    unfold newName
    rw [hh, Bool.and_eq_true, Bool.not_eq_true', Bool.not_eq_true', ← look_isSome, ← look_isSome]
    cases (look d.vals name).isSome <;> cases (look d.wait name).isSome <;> simp
  rw [← keysL_length (allNames d name), ← hl]
  by_cases hn : newName H d.wait name = true
  · rw [if_pos hn]
    have hp : (keysL (allNames d name)).Perm (name :: (keysL H ++ (keysL d.wait).filter (fun s => !(look H s).isSome))) := (List.perm_ext_iff_of_nodup (names_nodup d name) (List.nodup_cons.2 ⟨hnw.1 hn, hnK⟩)).2 fun s => by
      rw [mem_names h.vk h.wk, List.mem_cons, hmK]
      constructor
      · rintro (h1 | h1 | h1)
        · exact .inr (.inl h1)
        · exact .inr (.inr h1)
        · exact .inl h1
      · rintro (h1 | h1 | h1)
        · exact .inr (.inr h1)
        · exact .inl h1
        · exact .inr (.inl h1)
    rw [hp.length_eq, List.length_cons]
  · rw [if_neg hn]
    have hin : name ∈ keysL H ++ (keysL d.wait).filter (fun s => !(look H s).isSome) := Classical.byContradiction fun e => hn (hnw.2 e)
    have hp : (keysL (allNames d name)).Perm (keysL H ++ (keysL d.wait).filter (fun s => !(look H s).isSome)) := (List.perm_ext_iff_of_nodup (names_nodup d name) hnK).2 fun s => by
      rw [mem_names h.vk h.wk, hmK]
      constructor
      · rintro (h1 | h1 | h1)
        · exact .inl h1
        · exact .inr h1
        · rw [h1]; exact (hmK name).1 hin
      · rintro (h1 | h1)
        · exact .inl h1
        · exact .inr (.inl h1)
    rw [hp.length_eq]
    omega
/-- There is room for all that are there. -/
theorem names_room {d : Dst} (h : DOk d) {H : List (ByteArray × (ByteArray × ByteArray))} (hk : (keysL H).Nodup) (hs : Says d H) : H.length + countNew H (keysL d.wait) ≤ 60 := by
  have h1 := names_count h hk hs ⟨#[]⟩
  have hn : newName H d.wait ⟨#[]⟩ = true := by
    unfold newName
    have e1 : look d.vals ⟨#[]⟩ = none := look_none.2 fun e => by
      obtain ⟨p, hp, he⟩ := List.mem_map.1 e
      have := (h.vn p hp).1
      rw [he] at this
      exact absurd this (by rw [no_name]; decide)
    have e2 : look d.wait ⟨#[]⟩ = none := look_none.2 fun e => by
      obtain ⟨p, hp, he⟩ := List.mem_map.1 e
      have := (h.wn p hp).1
      rw [he] at this
      exact absurd this (by rw [no_name]; decide)
    rw [hs, e1, e2]; rfl
  rw [if_pos hn] at h1
  have := h.room
  omega
set_option maxRecDepth 100000 in
theorem pIsNew_any {F : Nat → Prop} {p : Nat} {secret : ByteArray} {bb : Addr} {mh mw : Nat} {vi ve : Value} {H : List (ByteArray × (ByteArray × ByteArray))} {W : List (ByteArray × ByteArray)} {I : List It} {M : List SgM} (name : ByteArray) (w : World)
    (h : DMem F w p secret bb mh mw vi ve H W I M) (hn : name.size ≤ 1000000) :
    Calls Tryz.prog 58 #[.pointer (some ⟨p, 0, none⟩), .string name] w fun e w' => e = .returned (.bool (newName H W name)) ∧ Below w.heap.size w w' := by
  obtain ⟨⟨a, b⟩, hab⟩ : ∃ x : ByteArray × ByteArray, (look H name).getD kH.zero = x := ⟨_, rfl⟩
  obtain ⟨B1, hB1⟩ : ∃ B, (look H name).isSome = B := ⟨_, rfl⟩
  obtain ⟨v2, hv2⟩ : ∃ v, (look W name).getD ⟨#[]⟩ = v := ⟨_, rfl⟩
  obtain ⟨B2, hB2⟩ : ∃ B, (look W name).isSome = B := ⟨_, rfl⟩
  have hlk1 : (Instr.lookup 131 (.map (some mh)) (.string name) true).run Tryz.prog w = .ok (.tuple #[.agg #[.string a, .string b], .bool B1]) w := by
    have := h.has.lookOk hn
    rw [hab, hB1] at this
    exact this
  have hb := alloc_below w (.cells #[.string a, .string b] 156)
  have hlk2 : (Instr.lookup 39 (.map (some mw)) (.string name) true).run Tryz.prog (w.alloc (.cells #[.string a, .string b] 156)) = .ok (.tuple #[.string v2, .bool B2]) (w.alloc (.cells #[.string a, .string b] 156)) := by
    have := (h.wait.block (hb.block _ h.wait.lt)).lookOk hn
    rw [show (look W name).getD kS.zero = v2 from hv2, hB2] at this
    exact this
  have c2 : w.cell? ⟨p, 2, none⟩ = some (.map (some mh)) := h.own.cell 2 (by omega)
  have c3 : (w.alloc (.cells #[.string a, .string b] 156)).cell? ⟨p, 3, none⟩ = some (.map (some mw)) := (hb.cell (p := ⟨p, 3, none⟩) h.own.lt).trans (h.own.cell 3 (by omega))
  have HB := Lib.hid hb
  have HR := Lib.hid (show newName H W name = (!B1 && !B2) from by unfold newName; rw [hB1, hB2])
  clear hb h hab hB1 hv2 hB2
  rw [HR.out]
  clear HR
  cases B1 <;> cases B2
  all_goals
    go_enter Tryz.func58, Tryz.ntmps58
    go_wp2
    go_ret
    exact ⟨rfl, HB.out⟩
set_option maxHeartbeats 1000000 in
set_option maxRecDepth 100000 in
theorem pNames_any {F : Nat → Prop} {p : Nat} {secret : ByteArray} {bb : Addr} {mh mw : Nat} {vi ve : Value} {H : List (ByteArray × (ByteArray × ByteArray))} {W : List (ByteArray × ByteArray)} {I : List It} {M : List SgM} (w : World)
    (h : DMem F w p secret bb mh mw vi ve H W I M) (hl : H.length ≤ 100000) (hw : W.length ≤ 100000) :
    Calls Tryz.prog 59 #[.pointer (some ⟨p, 0, none⟩)] w fun e w' => e = .returned (.int .i64 ((H.length + countNew H (keysL W) : Nat) : Int)) ∧ Below w.heap.size w w' := by
  have HD := Lib.hid h
  have HL := Lib.hid hl
  have HWL := Lib.hid hw
  have c2 : w.cell? ⟨p, 2, none⟩ = some (.map (some mh)) := h.own.cell 2 (by omega)
  have c3 : w.cell? ⟨p, 3, none⟩ = some (.map (some mw)) := h.own.cell 3 (by omega)
  have hlen : ∀ ty, (Builtin.len_ #[131] ty #[.map (some mh)]).run Tryz.prog w = .ok (.int .i64 (H.length : Int)) w := fun ty => h.has.len ty
  have HWW := Lib.hid h.wait
  clear h hl hw
  go_enter Tryz.func59, Tryz.ntmps59
  go_wp2_with (first | (at_range; refine wpList_mapRange kS rfl (.tmp 15) rfl mw W rfl HWW.out ?_; intro w2 hrg2 hg2 hs2))
  go_frame
  have HB2 := Lib.hid (grownBy.below hg2.out (Nat.le_refl _) (fun k hk => by cases hk))
  have HRG := Lib.hid hrg2.out
  have HPL := Lib.hid (show p < w.heap.size ∧ mh < w.heap.size ∧ mw < w.heap.size from ⟨HD.out.own.lt, HD.out.has.lt, HD.out.wait.lt⟩)
  have HRS := Lib.hid (show w.heap.size < w2.heap.size from by have := hs2.out; omega)
  clear c2 c3 hlen hrg2 hg2 hs2 HWW
  obtain ⟨r, hr⟩ : ∃ r, w.heap.size = r := ⟨_, rfl⟩
  have HRE := Lib.hid hr
  rw [hr] at HRG ⊢
  clear hr
  go_loopw [3] (fun nv wr => ∃ (q : Nat) (S : List ByteArray) (cnt : Nat), nv = .int .i64 (q : Int) ∧ Hid (Rng kS wr mw r W S cnt ∧ Below w.heap.size w wr ∧ q = H.length + countNew H S)) (fun _ wr => wr.rangeLeft mw r)
  case atStart => exact ⟨H.length, [], _, rfl, Lib.hid ⟨HRG.out, HB2.out, rfl⟩⟩
  case round =>
    clear HRG HB2
    obtain ⟨q, S, cnt, rfl, HU⟩ := hrel
    go_wp2_with (first | (at_next; refine wpList_mapNext kS rfl (.tmp 16) rfl mw r W S cnt rfl HU.out.1 ?_ ?_))
    · intro hperm
      have HPM := Lib.hid (countNew_perm (H := H) hperm)
      clear hperm
      go_wp2
      go_ret
      exact ⟨by rw [← HPM.out, ← HU.out.2.2]; rfl, HU.out.2.1⟩
    · intro s x w3 cnt' hlk hns hgood HR3 HC3 HG3 HS3 hen
      have hen' : (Instr.entry (.pointer (some ⟨r, 0, none⟩))).run Tryz.prog w3 = .ok (.tuple #[.string s, .string x]) w3 := hen
      have HSS := Lib.hid (show s.size ≤ 1000000 from HU.out.1.short _ (look_mem hlk))
      have HB3 := Lib.hid (HU.out.2.1.grown HG3.out HU.out.2.1.size (fun k hk => by cases hk; exact Nat.le_of_eq HRE.out))
      have HD3 := Lib.hid (HD.out.same (same_of_below HB3.out HD.out.lt))
      have HCN := Lib.hid (show S.length + cnt ≤ W.length from HU.out.1.room)
      have HLE := Lib.hid HU.out.1.left_eq
      have HCL := Lib.hid (countNew_le H S)
      have HSN := Lib.hid (countNew_snoc H S s)
      clear hlk hns hgood HS3 hen HG3
      obtain ⟨⟨a, b⟩, hab⟩ : ∃ y : ByteArray × ByteArray, (look H s).getD kH.zero = y := ⟨_, rfl⟩
      obtain ⟨B1, hB1⟩ : ∃ B, (look H s).isSome = B := ⟨_, rfl⟩
      have hlk1 : (Instr.lookup 131 (.map (some mh)) (.string s) true).run Tryz.prog w3 = .ok (.tuple #[.agg #[.string a, .string b], .bool B1]) w3 := by
        have := HD3.out.has.lookOk HSS.out
        rw [hab, hB1] at this
        exact this
      have d2 : w3.cell? ⟨p, 2, none⟩ = some (.map (some mh)) := HD3.out.own.cell 2 (by omega)
      have HB4 := Lib.hid (HB3.out.alloc HB3.out.size (.cells #[.string a, .string b] 156))
      have HR4 := Lib.hid (HR3.out.block ((alloc_below w3 (.cells #[.string a, .string b] 156)).block _ HR3.out.map.lt) ((alloc_below w3 (.cells #[.string a, .string b] 156)).block _ HR3.out.lt))
      rw [hB1] at HSN
      have hbound : (q : Int) ≤ 200000 := by have := HL.out; have := HWL.out; have := HCN.out; have := HCL.out; have := HU.out.2.2; omega
      clear hab hB1
      cases B1
      · go_wp2
        go_roundw
        case rel => exact ⟨q + 1, S ++ [s], cnt', by go_num, Lib.hid ⟨HR4.out, HB4.out, by rw [HSN.out, ← Nat.add_assoc, ← HU.out.2.2]; rfl⟩⟩
        case measure => rw [HR4.out.left_eq, HLE.out]; exact HC3.out
      · go_wp2
        go_roundw
        case rel => exact ⟨q, S ++ [s], cnt', rfl, Lib.hid ⟨HR4.out, HB4.out, by rw [HSN.out, ← Nat.add_assoc, ← HU.out.2.2]; rfl⟩⟩
        case measure => rw [HR4.out.left_eq, HLE.out]; exact HC3.out
end Go.Proofs.YtcfpmofmjnhonaaGreatDoor
