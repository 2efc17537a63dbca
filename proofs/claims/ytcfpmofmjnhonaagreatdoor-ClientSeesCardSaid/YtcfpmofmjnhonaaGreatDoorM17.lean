/- Parts of the proof, one behind the other: DKeep, SealV, SealT, Cl. -/
import Derived.Test.YtcfpmofmjnhonaaGreatDoorM16
import Derived.Test.YtcfpmofmjnhonaaGreatDoorM13
import Derived.Deep.RegionHeld3
import Derived.IntWalk
import Derived.Test.YtcfpmofmjnhonaaGreatDoorM15
/- What holds of a directory is kept by what is put, and published. -/
namespace Go.Proofs.YtcfpmofmjnhonaaGreatDoor
open Go.RowKit

theorem nodup_le : ∀ {A B : List ByteArray}, A.Nodup → (∀ x ∈ A, x ∈ B) → A.length ≤ B.length
  | [], _, _, _ => Nat.zero_le _
  | a :: A, B, h, s => by
    obtain ⟨h1, h2⟩ := List.nodup_cons.1 h
    have hb : a ∈ B := s a (List.mem_cons_self ..)
    have h3 := nodup_le (A := A) (B := B.filter fun x => decide (x ≠ a)) h2 (fun x hx => List.mem_filter.2 ⟨s x (List.mem_cons_of_mem _ hx), decide_eq_true (fun e => h1 (by rw [← e]; exact hx))⟩)
    have h4 : (B.filter fun x => decide (x ≠ a)).length < B.length := List.length_filter_lt_length_iff_exists.2 ⟨a, hb, by simp⟩
    simp; omega
theorem keysL_length {α : Type} (L : List (ByteArray × α)) : (keysL L).length = L.length := by simp [keysL]
theorem mem_ups {α : Type} {L : List (ByteArray × α)} {s : ByteArray} {x : α} {p : ByteArray × α} (h : p ∈ ups L s x) : p = (s, x) ∨ p ∈ L := by
  unfold ups at h
  split at h
  · obtain ⟨q, hq, e⟩ := List.mem_map.1 h
    split at e
    · exact .inl e.symm
    · exact .inr (e ▸ hq)
  · rcases List.mem_append.1 h with h | h
    · exact .inr h
    · exact .inl (List.mem_singleton.1 h)
theorem mem_upsAll {α : Type} {L : List (ByteArray × α)} : ∀ (P : List (ByteArray × α)) {p : ByteArray × α}, p ∈ upsAll L P → p ∈ P ∨ p ∈ L := fun P => by
  induction P generalizing L with
  | nil => intro p h; exact .inr h
  | cons q P ih =>
    intro p h
    rcases ih (L := ups L q.1 q.2) (show p ∈ upsAll (ups L q.1 q.2) P from h) with h | h
    · exact .inl (List.mem_cons_of_mem _ h)
    · rcases mem_ups h with rfl | h
      · exact .inl (List.mem_cons_self ..)
      · exact .inr h
/-- Keys, each with something that hangs on nothing. -/
theorem keysL_map {α β : Type} (L : List (ByteArray × α)) (f : ByteArray × α → β) : keysL (L.map fun p => (p.1, f p)) = keysL L := by simp [keysL]
theorem mem_names {d : Dst} (hv : (keysL d.vals).Nodup) (hw : (keysL d.wait).Nodup) (name s : ByteArray) : s ∈ keysL (allNames d name) ↔ s ∈ keysL d.wait ∨ s ∈ keysL d.vals ∨ s = name := by
  rw [← look_isSome]
  unfold allNames
  rw [upsAll_look _ _ (by rw [keysL_map d.wait (fun _ => true)]; exact hw), upsAll_look _ _ (by rw [keysL_map d.vals (fun _ => true)]; exact hv)]
  simp only [Option.isSome_or, Bool.or_eq_true, look_isSome]
  rw [keysL_map d.wait (fun _ => true), keysL_map d.vals (fun _ => true)]
  simp [keysL]
theorem names_nodup (d : Dst) (name : ByteArray) : (keysL (allNames d name)).Nodup := upsAll_nodup (upsAll_nodup (by simp [keysL]) _) _
theorem DOk.vals_len {d : Dst} (h : DOk d) : d.vals.length ≤ 61 := by
  have := nodup_le h.vk (B := keysL (allNames d ⟨#[]⟩)) fun x hx => (mem_names h.vk h.wk _ _).2 (.inr (.inl hx))
  rw [keysL_length, keysL_length] at this
  have := h.room
  omega
theorem DOk.wait_len {d : Dst} (h : DOk d) : d.wait.length ≤ 61 := by
  have := nodup_le h.wk (B := keysL (allNames d ⟨#[]⟩)) fun x hx => (mem_names h.vk h.wk _ _).2 (.inl hx)
  rw [keysL_length, keysL_length] at this
  have := h.room
  omega
theorem putAns_ok {d : Dst} (h : DOk d) (name value : ByteArray) : DOk (putAns d name value).1 := by
  unfold putAns
  split
  · rename_i hn
    split
    · rename_i hv
      split
      · rename_i hr
        exact {
          secret := h.secret
          wk := ups_nodup h.wk _ _
          vk := h.vk
          sk := h.sk
          wn := fun p hp => by
            rcases mem_ups hp with rfl | hp
            · exact ⟨hn, hv.1, hv.2⟩
            · exact h.wn p hp
          vn := h.vn
          same := h.same
          epoch := h.epoch
          few := h.few
          room := by
            have := nodup_le (A := keysL (allNames { d with wait := ups d.wait name value } ⟨#[]⟩)) (B := ⟨#[]⟩ :: keysL (allNames d name)) (names_nodup _ _) fun x hx => by
              rw [mem_names (d := { d with wait := ups d.wait name value }) h.vk (ups_nodup h.wk _ _)] at hx
              rw [List.mem_cons, mem_names h.vk h.wk]
              rcases hx with hx | hx | hx
              · rw [← look_isSome] at hx
                by_cases e : x = name
                · exact .inr (.inr (.inr e))
                · have : (look (ups d.wait name value) x).isSome = true := hx
                  rw [look_ups_other _ _ _ _ e, look_isSome] at this
                  exact .inr (.inl this)
              · exact .inr (.inr (.inl hx))
              · exact .inl hx
            rw [List.length_cons, keysL_length, keysL_length] at this
            show (allNames { d with wait := ups d.wait name value } ⟨#[]⟩).length ≤ 61
            omega }
      · exact h
    · exact h
  · exact h
theorem look_keyed {α β : Type} (L : List (ByteArray × α)) (y : β) (s : ByteArray) : look (L.map fun p => (p.1, y)) s = (look L s).map fun _ => y := by
  induction L with
  | nil => rfl
  | cons p L ih =>
    rw [List.map_cons, look_cons, look_cons, ih]
    split <;> rfl
theorem settled_look {d : Dst} (h : DOk d) (s : ByteArray) : look (settled d).vals s = (look d.wait s).or (look d.vals s) ∧ look (settled d).since s = ((look d.wait s).map fun _ => (d.eps.length : Int) + 1).or (look d.since s) := by
  refine ⟨upsAll_look _ _ h.wk s, ?_⟩
  show look (upsAll d.since (d.wait.map fun p => (p.1, ((d.eps.length : Int) + 1)))) s = _
  rw [upsAll_look _ _ (by rw [keysL_map d.wait (fun _ => ((d.eps.length : Int) + 1))]; exact h.wk), look_keyed]
theorem publishAns_ok {d : Dst} (h : DOk d) : DOk (publishAns d).1 := by
  unfold publishAns
  split
  · rename_i he
    exact {
      secret := h.secret
      wk := List.nodup_nil
      vk := upsAll_nodup h.vk _
      sk := upsAll_nodup h.sk _
      wn := fun p hp => by cases hp
      vn := fun p hp => by
        rcases mem_upsAll _ (show p ∈ upsAll d.vals d.wait from hp) with hp | hp
        · exact h.wn p hp
        · exact h.vn p hp
      same := fun s => by
        show (look (settled d).since s).isSome = (look (settled d).vals s).isSome
        rw [(settled_look h s).1, (settled_look h s).2]
        have := h.same s
        cases look d.wait s <;> simp [this]
      epoch := fun s n hn => by
        have hn : look (settled d).since s = some n := hn
        rw [(settled_look h s).2] at hn
        show 1 ≤ n ∧ n ≤ ((d.eps ++ [nextSgn d]).length : Int)
        rw [List.length_append]
        cases e : look d.wait s with
        | none =>
          rw [e] at hn
          have := h.epoch s n hn
          simp; omega
        | some x =>
          rw [e] at hn
          have : (d.eps.length : Int) + 1 = n := Option.some.inj hn
          simp; omega
      few := by
        show (d.eps ++ [nextSgn d]).length ≤ 8
        rw [List.length_append]; simp; omega
      room := by
        have := nodup_le (A := keysL (allNames { settled d with eps := d.eps ++ [nextSgn d] } ⟨#[]⟩)) (B := keysL (allNames d ⟨#[]⟩)) (names_nodup _ _) fun x hx => by
          rw [mem_names (d := { settled d with eps := d.eps ++ [nextSgn d] }) (upsAll_nodup h.vk _) List.nodup_nil] at hx
          rw [mem_names h.vk h.wk]
          rcases hx with hx | hx | hx
          · cases hx
          · obtain ⟨p, hp, rfl⟩ := List.mem_map.1 (show x ∈ (upsAll d.vals d.wait).map (·.1) from hx)
            rcases mem_upsAll _ hp with hp | hp
            · exact .inl (List.mem_map_of_mem hp)
            · exact .inr (.inl (List.mem_map_of_mem hp))
          · exact .inr (.inr hx)
        rw [keysL_length, keysL_length] at this
        exact Nat.le_trans this h.room }
  · exact h
end Go.Proofs.YtcfpmofmjnhonaaGreatDoor
/- The document's SealVerify. -/
namespace Go.Proofs.YtcfpmofmjnhonaaGreatDoor
open Go.RowKit

/-- Along a path, from a mark and a key on. -/
def upFrom : List ByteArray → ByteArray → Nat → ByteArray
  | [], t, _ => t
  | x :: r, t, k => upFrom r (if k % 2 = 1 then markOf 117 [x, t] else markOf 117 [t, x]) (k / 2)
def sealOk (pub m : ByteArray) (key : Int) (S P : List ByteArray) : Bool :=
  decide (0 ≤ key ∧ key ≤ 7) && decide (P.length = 3) && marksOk P && decide ((fromAns m S).2 = 0) && decide (upFrom P (markOf 116 [txt (num8 key), (fromAns m S).1]) key.toNat = pub)
theorem fromAns_size {m : ByteArray} {S : List ByteArray} {x : ByteArray} (h : fromAns m S = (x, 0)) : x.size = 16 := by
  unfold fromAns at h
  split at h
  · obtain ⟨rfl, _⟩ := Prod.mk.inj h; exact markOf_len _ _
  · obtain ⟨_, h2⟩ := Prod.mk.inj h; omega
def slF (key : Int) (u v : Value) : Nat → Value := fun i => if i = 0 then .int .i64 key else if i = 1 then u else v

set_option maxHeartbeats 2000000 in
set_option maxRecDepth 100000 in
theorem refSealVerify_any (b : Nat) (pub m : ByteArray) (key : Int) (S P : List ByteArray) (A B : Option Addr) (ca cb : Nat) (w : World) (hls : S.length ≤ 1000000) (hlp : P.length ≤ 1000000) (hr : Holds w b 72 refCells 121) (hs : Strs w A S) (hp : Strs w B P) :
    Calls Tryz.prog 93 #[.pointer (some ⟨b, 0, none⟩), .string pub, .string m, .agg #[.int .i64 key, .slice A S.length ca, .slice B P.length cb]] w fun e w' => e = .returned (.bool (sealOk pub m key S P)) ∧ Below w.heap.size w w' := by
  have HB0 := Lib.hid (alloc_below w (.cells #[.int .i64 key, .slice A S.length ca, .slice B P.length cb] 52))
  have HH0 := Lib.hid (show Holds (w.alloc (.cells #[.int .i64 key, .slice A S.length ca, .slice B P.length cb] 52)) w.heap.size 3 (slF key (.slice A S.length ca) (.slice B P.length cb)) 52 from Holds.new w 3 (slF key (.slice A S.length ca) (.slice B P.length cb)) 52)
  have HR := Lib.hid (hr.below HB0.out hr.lt)
  have HSS := Lib.hid (hs.below HB0.out)
  have HPP := Lib.hid (hp.below HB0.out)
  clear hr hs hp
  obtain ⟨T, hT⟩ : ∃ T, sealOk pub m key S P = T := ⟨_, rfl⟩
  rw [hT]
  have HT := Lib.hid hT
  clear hT
  go_enter Tryz.func93, Tryz.ntmps93
  go_wp2_with fail
  generalize w.alloc (.cells #[.int .i64 key, .slice A S.length ca, .slice B P.length cb] 52) = w0 at HB0 HH0 HR HSS HPP
  refine (in_any _ _ _ _).mono ?_
  rintro e w1 ⟨rfl, rfl⟩
  by_cases hkey : 0 ≤ key ∧ key ≤ 7
  · rw [show (decide ((0 : Int) ≤ key) && decide (key ≤ 7)) = true by simp [hkey]]
    have p2 : w1.cell? ⟨w.heap.size, 2, none⟩ = some (.slice B P.length cb) := HH0.out.cell 2 (by omega)
    by_cases h3 : P.length = 3
    · have e1 : ((P.length : Int) == 3) = true := by rw [beq_iff_eq]; omega
      have e2 : ((P.length : Int) != 3) = false := by simp; omega
      have H3 := Lib.hid h3
      have hp3 : P.length ≤ 3 := by omega
      have hp4 : 3 ≤ P.length := by omega
      clear h3
      go_wp2_with fail
      clear e1 e2
      refine (refMarks_any P B cb _ HPP.out hlp).mono ?_
      rintro e w1 ⟨rfl, rfl⟩
      obtain ⟨mk, hmk⟩ : ∃ mk, marksOk P = mk := ⟨_, rfl⟩
      rw [hmk]
      cases mk
      · have HF := Lib.hid (show T = false by rw [← HT.out]; unfold sealOk; rw [hmk]; simp)
        go_wp2
        go_ret
        exact ⟨by rw [HF.out]; rfl, HB0.out⟩
      · have HMK := Lib.hid hmk
        clear hmk
        have p1 : w1.cell? ⟨w.heap.size, 1, none⟩ = some (.slice A S.length ca) := HH0.out.cell 1 (by omega)
        obtain ⟨x, n, hx⟩ : ∃ x n, fromAns m S = (x, n) := ⟨_, _, rfl⟩
        have HX := Lib.hid hx
        clear hx
        go_wp2_with fail
        clear p1 p2
        refine (refOnceFrom_is b m S A ca x n _ hls HR.out HSS.out HX.out).mono ?_
        rintro e w2 ⟨rfl, hb2⟩
        have HB2 := Lib.hid (HB0.out.trans (hb2.mono HB0.out.size))
        have HH2 := Lib.hid (HH0.out.below hb2 HH0.out.lt)
        have HR2 := Lib.hid (HR.out.below hb2 HR.out.lt)
        have HPP2 := Lib.hid (HPP.out.below hb2)
        clear hb2
        by_cases hn : n = 0
        · subst hn
          have HXS := Lib.hid (fromAns_size HX.out)
          have HTT := Lib.hid (show decide (upFrom P (markOf 116 [txt (num8 key), x]) key.toNat = pub) = T by
            rw [← HT.out]; unfold sealOk; rw [HX.out, HMK.out, H3.out]; simp [hkey])
          obtain ⟨kk, rfl⟩ : ∃ kk : Nat, key = (kk : Int) := ⟨key.toNat, by omega⟩
          have hkk : kk ≤ 7 := by omega
          have HN2 := Lib.hid HH2.out.lt
          have HC2 := Lib.hid (show w2.cell? ⟨w.heap.size, 0, none⟩ = some (.int .i64 (kk : Int)) from HH2.out.cell 0 (by omega))
          have HS := Lib.hid (show ∀ u : World, Below w2.heap.size w2 u → (u.cell? ⟨w.heap.size, 0, none⟩ = some (.int .i64 (kk : Int)) ∧ Below w2.heap.size w2 u) from fun u hu => ⟨(hu.cell HN2.out).trans HC2.out, hu⟩)
          clear hkey
          go_wp2
          go_region_held3 (fun w' => w'.cell? ⟨w.heap.size, 0, none⟩ = some (.int .i64 (kk : Int)) ∧ Below w2.heap.size w2 w')
            (first
              | exact HS.out _ (Below.refl _ _).drew
              | exact HS.out _ ((Below.refl _ _).drew.trans (hb3.mono (Nat.le_refl _)))
              | exact HS.out _ (((Below.refl _ _).drew.trans (hb3.mono (Nat.le_refl _))).alloc hb3.size _)
              | exact HS.out _ HM4.out)
            (first
              | (go_at_call 98; refine (refNum_any (kk : Int) _).mono ?_; rintro e w3 ⟨rfl, hb3⟩)
              | (go_at_call 53
                 refine (refMark_any b 116 [txt (num8 (kk : Int)), x] (some ⟨w3.heap.size, 0, none⟩) 2 _ ((HR2.out.below ((Below.refl _ _).drew.trans hb3) HR2.out.lt).alloc _) (by have := HXS.out; simp [total, num_size]; omega) (by simp) (strs_new w3 [txt (num8 (kk : Int)), x] 9)).mono ?_
                 rintro e w4 ⟨rfl, hb4⟩
                 have HM4 := Lib.hid (show Below w2.heap.size w2 w4 from (((Below.refl _ _).drew.trans hb3).alloc hb3.size _).trans (hb4.mono (Nat.le_trans hb3.size (by simp))))))
          have HB4 := Lib.hid (HB2.out.trans (HM4.out.mono HB2.out.size))
          have HR3 := Lib.hid (HR2.out.below HM4.out HR2.out.lt)
          have HPP4 := Lib.hid (HPP2.out.below HM4.out)
          have p2 : w4.cell? ⟨w.heap.size, 2, none⟩ = some (.slice B P.length cb) := (HM4.out.cell HN2.out).trans (HH2.out.cell 2 (by omega))
          clear hb3 hb4
          obtain ⟨t0, ht0⟩ : ∃ t0, markOf 116 [txt (num8 (kk : Int)), x] = t0 := ⟨_, rfl⟩
          have HT0 := Lib.hid (show t0.size = 16 by rw [← ht0]; exact markOf_len _ _)
          rw [Int.toNat_natCast, ht0] at HTT
          rw [ht0]
          clear ht0
          go_wp2
          clear p2
          go_loopw [11, 12, 55] (fun tv kv iv wr => ∃ (i : Nat) (t : ByteArray) (k : Nat), i ≤ 3 ∧ iv = .int .i64 (i : Int) ∧ tv = .string t ∧ kv = .int .i64 (k : Int) ∧ k ≤ 7 ∧ Hid (t.size = 16 ∧ decide (upFrom (P.drop i) t k = pub) = T ∧ Below w4.heap.size w4 wr)) (fun _ _ iv _ => 3 - (intOf iv).toNat)
          case atStart => exact ⟨0, t0, kk, by omega, rfl, rfl, rfl, hkk, Lib.hid ⟨HT0.out, HTT.out, Below.refl _ _⟩⟩
          case round =>
            obtain ⟨i, t, k, hi, rfl, rfl, rfl, hk7, HU⟩ := hrel
            by_cases hlt : i < 3
            · obtain ⟨p, hp⟩ : ∃ p, P[i]? = some p := ⟨_, List.getElem?_eq_getElem (by omega)⟩
              obtain ⟨a, rfl, _, c0⟩ := (HPP4.out.below HU.out.2.2) i p hp
              have HPS := Lib.hid (marksOk_get HMK.out hp)
              have HDR := Lib.hid (show P.drop i = p :: P.drop (i + 1) by rw [List.drop_eq_getElem_cons (by omega)]; congr 1; rw [List.getElem?_eq_getElem (by omega)] at hp; exact Option.some.inj hp)
              have hl1 : (i : Int) < (P.length : Int) := by omega
              clear hp
              by_cases hodd : k % 2 = 1
              · have eo : ((k : Int) % 2 == 1) = true := by rw [beq_iff_eq]; omega
                have HNX := Lib.hid (show decide (upFrom (P.drop (i + 1)) (markOf 117 [p, t]) (k / 2) = pub) = T by
                  have := HU.out.2.1
                  rwa [HDR.out, upFrom, if_pos hodd] at this)
                clear hodd
                go_wp2_with fail
                refine (refMark_any b 117 [p, t] (some ⟨wr.heap.size, 0, none⟩) 2 _ ((HR3.out.below HU.out.2.2 HR3.out.lt).alloc _) (by have := HU.out.1; have := HPS.out; simp [total]; omega) (by simp) (strs_new wr [p, t] 9)).mono ?_
                rintro e w5 ⟨rfl, hb5⟩
                have HB5 := Lib.hid (HU.out.2.2.trans ((alloc_below wr (.cells #[.string p, .string t] 9)).mono HU.out.2.2.size |>.trans (hb5.mono (Nat.le_trans HU.out.2.2.size (by simp)))))
                clear hb5
                go_wp2
                go_roundw
                case rel => exact ⟨i + 1, _, k / 2, by omega, by go_num, rfl, by go_num, by omega, Lib.hid ⟨markOf_len _ _, HNX.out, HB5.out⟩⟩
                case measure => simp [intOf]; omega
              · have eo : ((k : Int) % 2 == 1) = false := by rw [beq_eq_false_iff_ne]; omega
                have HNX := Lib.hid (show decide (upFrom (P.drop (i + 1)) (markOf 117 [t, p]) (k / 2) = pub) = T by
                  have := HU.out.2.1
                  rwa [HDR.out, upFrom, if_neg hodd] at this)
                clear hodd
                go_wp2_with fail
                refine (refMark_any b 117 [t, p] (some ⟨wr.heap.size, 0, none⟩) 2 _ ((HR3.out.below HU.out.2.2 HR3.out.lt).alloc _) (by have := HU.out.1; have := HPS.out; simp [total]; omega) (by simp) (strs_new wr [t, p] 9)).mono ?_
                rintro e w5 ⟨rfl, hb5⟩
                have HB5 := Lib.hid (HU.out.2.2.trans ((alloc_below wr (.cells #[.string t, .string p] 9)).mono HU.out.2.2.size |>.trans (hb5.mono (Nat.le_trans HU.out.2.2.size (by simp)))))
                clear hb5
                go_wp2
                go_roundw
                case rel => exact ⟨i + 1, _, k / 2, by omega, by go_num, rfl, by go_num, by omega, Lib.hid ⟨markOf_len _ _, HNX.out, HB5.out⟩⟩
                case measure => simp [intOf]; omega
            · obtain rfl : i = 3 := by omega
              have HFIN := Lib.hid (show decide (t = pub) = T by
                have := HU.out.2.1
                rwa [List.drop_of_length_le (by omega), upFrom] at this)
              have HF := Lib.hid (HB4.out.trans (HU.out.2.2.mono HB4.out.size))
              have HEQ := Lib.hid (show (t.toList == pub.toList) = T by
                rw [← HFIN.out, Bool.eq_iff_iff, beq_iff_eq, decide_eq_true_eq, ByteArray.toList_eq, ByteArray.toList_eq]
                exact ⟨text_of, fun h => by rw [h]⟩)
              go_wp2
              go_ret
              exact ⟨by rw [← HEQ.out]; rfl, HF.out⟩
        · have e1 : (n == 0) = false := by rw [beq_eq_false_iff_ne]; exact hn
          have e2 : (n != 0) = true := by simpa using hn
          have HF := Lib.hid (show T = false by rw [← HT.out]; unfold sealOk; rw [HX.out]; simp [hn])
          go_wp2
          go_ret
          exact ⟨by rw [HF.out]; rfl, HB2.out⟩
    · have e1 : ((P.length : Int) == 3) = false := by rw [beq_eq_false_iff_ne]; omega
      have e2 : ((P.length : Int) != 3) = true := by simp; omega
      have HF := Lib.hid (show T = false by rw [← HT.out]; unfold sealOk; rw [decide_eq_false h3]; simp)
      clear h3
      go_wp2
      go_ret
      exact ⟨by rw [HF.out]; rfl, HB0.out⟩
  · rw [show (decide ((0 : Int) ≤ key) && decide (key ≤ 7)) = false by
      by_cases h0 : 0 ≤ key
      · have : ¬ key ≤ 7 := fun h => hkey ⟨h0, h⟩
        simp [this]
      · simp [h0]]
    have HF := Lib.hid (show T = false by rw [← HT.out]; unfold sealOk; rw [decide_eq_false hkey]; simp)
    clear hkey
    go_wp2
    go_ret
    exact ⟨by rw [HF.out]; rfl, HB0.out⟩
end Go.Proofs.YtcfpmofmjnhonaaGreatDoor
/- What a box tells of a mark is its seal: it leads to what the box is known by. -/
namespace Go.Proofs.YtcfpmofmjnhonaaGreatDoor
open Go.RowKit

theorem along_add (c : Int) : ∀ (n m k : Nat) (s : ByteArray), alongFrom c m (k + n) (alongFrom c n k s) = alongFrom c (n + m) k s
  | 0, m, k, s => by simp [alongFrom]
  | n + 1, m, k, s => by
    rw [show n + 1 + m = (n + m) + 1 by omega, alongFrom, alongFrom, show k + (n + 1) = (k + 1) + n by omega]
    exact along_add c n m (k + 1) _
theorem from_sign {seed : ByteArray} {key : Int} {m : ByteArray} (hm : m.size = 16) : fromAns m (signChains seed key m 35) = (publicOf seed key, 0) := by
  have hl : (signChains seed key m 35).length = 35 := by unfold signChains; simp
  have hs : ∀ p ∈ signChains seed key m 35, p.size = 16 := by
    intro p hp
    unfold signChains at hp
    obtain ⟨c, _, rfl⟩ := List.mem_map.1 hp
    exact along_size _ _ _ _ (seedOf_size _ _ _)
  have hok : marksOk (signChains seed key m 35) = true := by
    unfold marksOk
    rw [List.all_eq_true]
    intro p hp
    exact decide_eq_true (hs p hp)
  unfold fromAns
  rw [if_pos ⟨hm, hl, hok⟩]
  unfold publicOf
  congr 2
  unfold fromChains pubChains
  refine List.map_congr_left fun c hc => ?_
  have hc35 : c < 35 := List.mem_range.1 hc
  have hd := digit_le hm c
  have hg : (signChains seed key m 35).getD c ⟨#[]⟩ = alongFrom (c : Int) ((digitsOf m.data.toList).getD c 0) 0 (seedOf seed key c) := by
    unfold signChains
    rw [List.getD_eq_getElem?_getD, List.getElem?_map, List.getElem?_range hc35]
    rfl
  rw [hg]
  have := along_add (c : Int) ((digitsOf m.data.toList).getD c 0) (15 - (digitsOf m.data.toList).getD c 0) 0 (seedOf seed key c)
  rw [Nat.zero_add] at this
  rw [this]
  congr 1
  omega
theorem rows_all (seed : ByteArray) : ∃ a0 a1 a2 a3 a4 a5 a6 a7 : ByteArray, (∀ k : Nat, k < 8 → markOf 116 [txt (num8 (k : Int)), publicOf seed (k : Int)] = [a0, a1, a2, a3, a4, a5, a6, a7].getD k ⟨#[]⟩) ∧
    rowsOf seed = [a0, a1, a2, a3, a4, a5, a6, a7, markOf 117 [a0, a1], markOf 117 [a2, a3], markOf 117 [a4, a5], markOf 117 [a6, a7], markOf 117 [markOf 117 [a0, a1], markOf 117 [a2, a3]], markOf 117 [markOf 117 [a4, a5], markOf 117 [a6, a7]], markOf 117 [markOf 117 [markOf 117 [a0, a1], markOf 117 [a2, a3]], markOf 117 [markOf 117 [a4, a5], markOf 117 [a6, a7]]]] := by
  have h0 : rows0 seed 8 = [markOf 116 [txt (num8 ((0 : Nat) : Int)), publicOf seed ((0 : Nat) : Int)], markOf 116 [txt (num8 ((1 : Nat) : Int)), publicOf seed ((1 : Nat) : Int)], markOf 116 [txt (num8 ((2 : Nat) : Int)), publicOf seed ((2 : Nat) : Int)], markOf 116 [txt (num8 ((3 : Nat) : Int)), publicOf seed ((3 : Nat) : Int)], markOf 116 [txt (num8 ((4 : Nat) : Int)), publicOf seed ((4 : Nat) : Int)], markOf 116 [txt (num8 ((5 : Nat) : Int)), publicOf seed ((5 : Nat) : Int)], markOf 116 [txt (num8 ((6 : Nat) : Int)), publicOf seed ((6 : Nat) : Int)], markOf 116 [txt (num8 ((7 : Nat) : Int)), publicOf seed ((7 : Nat) : Int)]] := by
    unfold rows0
    have hl : ∀ f : Nat → ByteArray, (List.range 8).map f = [f 0, f 1, f 2, f 3, f 4, f 5, f 6, f 7] := fun f => rfl
    rw [hl]
  have h1 : ∀ k : Nat, k < 8 → markOf 116 [txt (num8 (k : Int)), publicOf seed (k : Int)] = (rows0 seed 8).getD k ⟨#[]⟩ := fun k hk => by
    unfold rows0
    rw [List.getD_eq_getElem?_getD, List.getElem?_map, List.getElem?_range hk]
    rfl
  rw [h0] at h1
  unfold rowsOf
  simp only [rowsUpto, h0]
  generalize markOf 116 [txt (num8 ((0 : Nat) : Int)), publicOf seed ((0 : Nat) : Int)] = a0 at h1
  generalize markOf 116 [txt (num8 ((1 : Nat) : Int)), publicOf seed ((1 : Nat) : Int)] = a1 at h1
  generalize markOf 116 [txt (num8 ((2 : Nat) : Int)), publicOf seed ((2 : Nat) : Int)] = a2 at h1
  generalize markOf 116 [txt (num8 ((3 : Nat) : Int)), publicOf seed ((3 : Nat) : Int)] = a3 at h1
  generalize markOf 116 [txt (num8 ((4 : Nat) : Int)), publicOf seed ((4 : Nat) : Int)] = a4 at h1
  generalize markOf 116 [txt (num8 ((5 : Nat) : Int)), publicOf seed ((5 : Nat) : Int)] = a5 at h1
  generalize markOf 116 [txt (num8 ((6 : Nat) : Int)), publicOf seed ((6 : Nat) : Int)] = a6 at h1
  generalize markOf 116 [txt (num8 ((7 : Nat) : Int)), publicOf seed ((7 : Nat) : Int)] = a7 at h1
  refine ⟨a0, a1, a2, a3, a4, a5, a6, a7, h1, ?_⟩
  generalize markOf 117 = f
  rfl
theorem rows_top (seed : ByteArray) (k : Nat) (hk : k < 8) : upFrom (sealPath seed k 3) (markOf 116 [txt (num8 (k : Int)), publicOf seed (k : Int)]) k = boxPub seed := by
  obtain ⟨a0, a1, a2, a3, a4, a5, a6, a7, h1, h2⟩ := rows_all seed
  rw [h1 k hk]
  unfold sealPath boxPub
  rw [h2]
  have hu : ∀ (x y z t : ByteArray) (k : Nat), upFrom [x, y, z] t k = (fun f : List ByteArray → ByteArray => (fun t1 => (fun t2 => if k / 2 / 2 % 2 = 1 then f [z, t2] else f [t2, z]) (if k / 2 % 2 = 1 then f [y, t1] else f [t1, y])) (if k % 2 = 1 then f [x, t] else f [t, x])) (markOf 117) := fun x y z t k => rfl
  rw [show (List.range 3) = [0, 1, 2] from rfl]
  simp only [List.map_cons, List.map_nil]
  rw [hu]
  generalize markOf 117 = f
  rcases (show k = 0 ∨ k = 1 ∨ k = 2 ∨ k = 3 ∨ k = 4 ∨ k = 5 ∨ k = 6 ∨ k = 7 by omega) with rfl | rfl | rfl | rfl | rfl | rfl | rfl | rfl <;> rfl
theorem seal_ok {seed : ByteArray} {key : Int} {m : ByteArray} (h0 : 0 ≤ key) (h7 : key ≤ 7) (hm : m.size = 16) : sealOk (boxPub seed) m key (signChains seed key m 35) (sealPath seed key.toNat 3) = true := by
  obtain ⟨k, rfl⟩ : ∃ k : Nat, key = (k : Int) := ⟨key.toNat, by omega⟩
  unfold sealOk
  rw [from_sign hm, Int.toNat_natCast]
  have hp : marksOk (sealPath seed k 3) = true := by
    unfold marksOk
    rw [List.all_eq_true]
    intro p hp
    unfold sealPath at hp
    obtain ⟨i, hi, rfl⟩ := List.mem_map.1 hp
    refine decide_eq_true (rowsOf_size _ _ ?_)
    have hi3 : i < 3 := List.mem_range.1 hi
    rcases (show i = 0 ∨ i = 1 ∨ i = 2 by omega) with rfl | rfl | rfl <;> simp [rowBase, sib] <;> split <;> omega
  have hl : (sealPath seed k 3).length = 3 := by unfold sealPath; simp
  rw [hp, hl, rows_top seed k (by omega)]
  simp
  omega
theorem sealAns_ok {seed : ByteArray} {key : Int} {m : ByteArray} (hs : seed.size = 16) (h0 : 0 ≤ key) (h7 : key ≤ 7) (hm : m.size = 16) :
    (sealAns seed key m).1 = key ∧ (sealAns seed key m).2.2.2 = 0 ∧ sealOk (boxPub seed) m (sealAns seed key m).1 (sealAns seed key m).2.1 (sealAns seed key m).2.2.1 = true := by
  have e : signAns seed key m = (signChains seed key m 35, 0) := by unfold signAns; rw [if_pos ⟨hs, hm⟩]
  unfold sealAns
  rw [if_pos ⟨h0, h7⟩, e]
  exact ⟨rfl, rfl, seal_ok h0 h7 hm⟩
end Go.Proofs.YtcfpmofmjnhonaaGreatDoor
/- The document's client: what it knows, and what it answers. -/
namespace Go.Proofs.YtcfpmofmjnhonaaGreatDoor
open Go.RowKit

/-- A client: whose directory, and the heads that it has seen. -/
structure Cl where
  pub : ByteArray
  heads : List Hd
def seeAns (c : Cl) (s : Sgn) : Cl × Int :=
  if rightHead s.head = true ∧ s.key = s.head.epoch - 1 ∧ sealOk c.pub (headMark s.head) s.key s.sig s.path = true then
    (if (c.heads.length : Int) < s.head.epoch - 1 then (c, 10)
    else if s.head.epoch - 1 < (c.heads.length : Int) then (if hdAt c.heads (s.head.epoch - 1).toNat = s.head then (c, 0) else (c, 13))
    else if nextAns c.heads s.head.root = (s.head, 0) then ({ c with heads := c.heads ++ [s.head] }, 0) else (c, 13))
  else (c, 15)
/-- What a client believes: a value, whether it is there, an error's number. -/
def askAns (c : Cl) (name : ByteArray) (a : Answ) : Cl × ByteArray × Bool × Int :=
  if nameOk name.data.toList = true then
    (if (seeAns c a.sgn).2 = 0 then
      (if (verifyAns a.sgn.head.root (ofAns name).1 a.path a.leaf).2.2 = 0 then
        (if (verifyAns a.sgn.head.root (ofAns name).1 a.path a.leaf).2.1 = false ∧ a.opening.size = 0 ∧ a.value.size = 0 then ((seeAns c a.sgn).1, ⟨#[]⟩, false, 0)
        else if (verifyAns a.sgn.head.root (ofAns name).1 a.path a.leaf).2.1 = true ∧ commitAns a.opening a.value = ((verifyAns a.sgn.head.root (ofAns name).1 a.path a.leaf).1, 0) then ((seeAns c a.sgn).1, a.value, true, 0)
        else ((seeAns c a.sgn).1, ⟨#[]⟩, false, 13))
      else ((seeAns c a.sgn).1, ⟨#[]⟩, false, (verifyAns a.sgn.head.root (ofAns name).1 a.path a.leaf).2.2))
    else ((seeAns c a.sgn).1, ⟨#[]⟩, false, (seeAns c a.sgn).2))
  else (c, ⟨#[]⟩, false, 5)
theorem seeAns_len (c : Cl) (s : Sgn) : (seeAns c s).1.pub = c.pub ∧ (seeAns c s).1.heads.length ≤ c.heads.length + 1 := by
  unfold seeAns
  repeat' split
  all_goals first | exact ⟨rfl, by simp⟩ | exact ⟨rfl, by omega⟩
theorem askAns_one (c : Cl) (name : ByteArray) (a : Answ) : (askAns c name a).1 = c ∨ (askAns c name a).1 = (seeAns c a.sgn).1 := by
  unfold askAns
  repeat' split
  all_goals first | exact .inr rfl | exact .inl rfl
theorem askAns_len (c : Cl) (name : ByteArray) (a : Answ) : (askAns c name a).1.pub = c.pub ∧ (askAns c name a).1.heads.length ≤ c.heads.length + 1 := by
  rcases askAns_one c name a with h | h
  · rw [h]; exact ⟨rfl, by omega⟩
  · rw [h]; exact seeAns_len c a.sgn
end Go.Proofs.YtcfpmofmjnhonaaGreatDoor
