/- Parts of the proof, one behind the other: Iter, PLay, PLay2, POpen, PMaps. -/
import Derived.Shelf.SlGeneric
import Derived.Shelf.SlIter.Nil
import Derived.Shelf.SortM.Plain
import Derived.Shelf.SortM.SortNone
import Derived.Ground.GgzProg
import Derived.Ground.SlgmProg
import Derived.Test.YtcfpmofmjnhonaaGreatDoorProg
import Derived.Test.YtcfpmofmjnhonaaGreatDoorM21
import Derived.Test.YtcfpmofmjnhonaaGreatDoorM15
import Derived.Test.YtcfpmofmjnhonaaGreatDoorM7
import Derived.Test.YtcfpmofmjnhonaaGreatDoorM5
/- slices.Sorted(maps.Keys(m)), laid by name, no walk. -/
namespace Go.Proofs
open Go.Shelf
def Tryz.keysHas_ren : Go.Shelf.Ren := ⟨fun | 7 => 114 | 10 => 171 | n => n, fun | 23 => 131 | 26 => 9 | 3 => 156 | 28 => 221 | 0 => 0 | 27 => 220 | 33 => 23 | 4 => 4 | n => n, fun | n => n⟩
theorem Tryz.keysHas : Go.Proofs.SlLaysZ.n7 Tryz.prog Tryz.keysHas_ren := {
  mixed := by kernel_rfl
  f7 := ⟨Tryz.f114.name, by decide, Tryz.func114.trans (congrArg some (by kernel_rfl))⟩
  f10 := ⟨Tryz.f171.name, by decide, Tryz.func171.trans (congrArg some (by kernel_rfl))⟩
  t0 := Tryz.underlying0
  a0 := Tryz.isAgg0
  z0 := Tryz.sizeOf0
  v0 := Tryz.zeroValue0
  t4 := Tryz.underlying4
  a4 := Tryz.isAgg4
  z4 := Tryz.sizeOf4
  v4 := Tryz.zeroValue4
  t23 := Tryz.underlying131
  a23 := Tryz.isAgg131
  z23 := Tryz.sizeOf131
  v23 := Tryz.zeroValue131
  t26 := Tryz.underlying9
  a26 := Tryz.isAgg9
  z26 := Tryz.sizeOf9
  v26 := Tryz.zeroValue9
  t27 := Tryz.underlying220
  a27 := Tryz.isAgg220
  z27 := Tryz.sizeOf220
  v27 := Tryz.zeroValue220
  t28 := Tryz.underlying221
  a28 := Tryz.isAgg221
  z28 := Tryz.sizeOf221
  v28 := Tryz.zeroValue221
  t33 := Tryz.underlying23
  a33 := Tryz.isAgg23
  z33 := Tryz.sizeOf23
  v33 := Tryz.zeroValue23 }
def Tryz.sortedTxt_ren : Go.Shelf.Ren := ⟨fun | 6 => 113 | 8 => 169 | 9 => 170 | 11 => 226 | 13 => 160 | 12 => 227 | 23 => 211 | 24 => 212 | 14 => 242 | 15 => 243 | 16 => 244 | 17 => 245 | 18 => 246 | 19 => 247 | 20 => 248 | 21 => 249 | 22 => 250 | 25 => 254 | 26 => 255 | 27 => 256 | 28 => 257 | 29 => 258 | 30 => 259 | 31 => 260 | n => n, fun | 26 => 9 | 28 => 221 | 24 => 50 | 0 => 0 | 3 => 3 | 37 => 188 | 48 => 117 | 50 => 124 | 4 => 4 | 40 => 346 | 39 => 345 | 45 => 86 | 5 => 5 | 9 => 9 | 51 => 354 | 55 => 340 | 57 => 357 | 58 => 352 | 33 => 23 | n => n, fun | n => n⟩
theorem Tryz.sortedTxt : Go.Proofs.SlLaysZ.n6 Tryz.prog Tryz.sortedTxt_ren := {
  mixed := by kernel_rfl
  f6 := ⟨Tryz.f113.name, by decide, Tryz.func113.trans (congrArg some (by kernel_rfl))⟩
  f8 := ⟨Tryz.f169.name, by decide, Tryz.func169.trans (congrArg some (by kernel_rfl))⟩
  f11 := ⟨Tryz.f226.name, by decide, Tryz.func226.trans (congrArg some (by kernel_rfl))⟩
  t0 := Tryz.underlying0
  a0 := Tryz.isAgg0
  z0 := Tryz.sizeOf0
  v0 := Tryz.zeroValue0
  t24 := Tryz.underlying50
  a24 := Tryz.isAgg50
  z24 := Tryz.sizeOf50
  v24 := Tryz.zeroValue50
  t26 := Tryz.underlying9
  a26 := Tryz.isAgg9
  z26 := Tryz.sizeOf9
  v26 := Tryz.zeroValue9
  t28 := Tryz.underlying221
  a28 := Tryz.isAgg221
  z28 := Tryz.sizeOf221
  v28 := Tryz.zeroValue221
  i26 := by kernel_rfl }
def Tryz.sortTxt_ren : Go.Shelf.Ren := ⟨fun | 6 => 170 | 8 => 160 | 9 => 227 | 19 => 211 | 20 => 212 | 21 => 242 | 22 => 243 | 23 => 244 | 24 => 245 | 25 => 246 | 26 => 247 | 27 => 248 | 28 => 249 | 29 => 250 | 36 => 254 | 31 => 255 | 32 => 256 | 37 => 257 | 38 => 258 | 39 => 259 | 41 => 260 | n => n, fun | 27 => 50 | 29 => 9 | 3 => 3 | 32 => 188 | 26 => 50 | 0 => 0 | 44 => 117 | 46 => 124 | 4 => 4 | 36 => 346 | 35 => 345 | 41 => 86 | 5 => 5 | 9 => 9 | 53 => 354 | 57 => 340 | 63 => 357 | 64 => 352 | n => n, fun | n => n⟩
theorem Tryz.sortTxt : Go.Proofs.SlLaysM.n6 Tryz.prog Tryz.sortTxt_ren := {
  mixed := by kernel_rfl
  f6 := ⟨Tryz.f170.name, by decide, Tryz.func170.trans (congrArg some (by kernel_rfl))⟩
  f8 := Tryz.func160.trans (congrArg some (by kernel_rfl))
  f9 := ⟨Tryz.f227.name, by decide, Tryz.func227.trans (congrArg some (by kernel_rfl))⟩
  f19 := Tryz.func211.trans (congrArg some (by kernel_rfl))
  f20 := Tryz.func212.trans (congrArg some (by kernel_rfl))
  f21 := ⟨Tryz.f242.name, by decide, Tryz.func242.trans (congrArg some (by kernel_rfl))⟩
  f22 := ⟨Tryz.f243.name, by decide, Tryz.func243.trans (congrArg some (by kernel_rfl))⟩
  f23 := ⟨Tryz.f244.name, by decide, Tryz.func244.trans (congrArg some (by kernel_rfl))⟩
  f24 := ⟨Tryz.f245.name, by decide, Tryz.func245.trans (congrArg some (by kernel_rfl))⟩
  f25 := ⟨Tryz.f246.name, by decide, Tryz.func246.trans (congrArg some (by kernel_rfl))⟩
  f26 := ⟨Tryz.f247.name, by decide, Tryz.func247.trans (congrArg some (by kernel_rfl))⟩
  f27 := ⟨Tryz.f248.name, by decide, Tryz.func248.trans (congrArg some (by kernel_rfl))⟩
  f28 := ⟨Tryz.f249.name, by decide, Tryz.func249.trans (congrArg some (by kernel_rfl))⟩
  f29 := ⟨Tryz.f250.name, by decide, Tryz.func250.trans (congrArg some (by kernel_rfl))⟩
  f31 := Tryz.func255.trans (congrArg some (by kernel_rfl))
  f32 := Tryz.func256.trans (congrArg some (by kernel_rfl))
  f36 := ⟨Tryz.f254.name, by decide, Tryz.func254.trans (congrArg some (by kernel_rfl))⟩
  f37 := ⟨Tryz.f257.name, by decide, Tryz.func257.trans (congrArg some (by kernel_rfl))⟩
  f38 := ⟨Tryz.f258.name, by decide, Tryz.func258.trans (congrArg some (by kernel_rfl))⟩
  f39 := ⟨Tryz.f259.name, by decide, Tryz.func259.trans (congrArg some (by kernel_rfl))⟩
  f41 := ⟨Tryz.f260.name, by decide, Tryz.func260.trans (congrArg some (by kernel_rfl))⟩
  t0 := Tryz.underlying0
  a0 := Tryz.isAgg0
  z0 := Tryz.sizeOf0
  v0 := Tryz.zeroValue0
  t3 := Tryz.underlying3
  a3 := Tryz.isAgg3
  z3 := Tryz.sizeOf3
  v3 := Tryz.zeroValue3
  t4 := Tryz.underlying4
  a4 := Tryz.isAgg4
  z4 := Tryz.sizeOf4
  v4 := Tryz.zeroValue4
  t5 := Tryz.underlying5
  a5 := Tryz.isAgg5
  z5 := Tryz.sizeOf5
  v5 := Tryz.zeroValue5
  t9 := Tryz.underlying9
  a9 := Tryz.isAgg9
  z9 := Tryz.sizeOf9
  v9 := Tryz.zeroValue9
  t26 := Tryz.underlying50
  a26 := Tryz.isAgg50
  z26 := Tryz.sizeOf50
  v26 := Tryz.zeroValue50
  t27 := Tryz.underlying50
  a27 := Tryz.isAgg50
  z27 := Tryz.sizeOf50
  v27 := Tryz.zeroValue50
  t29 := Tryz.underlying9
  a29 := Tryz.isAgg9
  z29 := Tryz.sizeOf9
  v29 := Tryz.zeroValue9
  t32 := Tryz.underlying188
  a32 := Tryz.isAgg188
  z32 := Tryz.sizeOf188
  v32 := Tryz.zeroValue188
  t35 := Tryz.underlying345
  a35 := Tryz.isAgg345
  z35 := Tryz.sizeOf345
  v35 := Tryz.zeroValue345
  t36 := Tryz.underlying346
  a36 := Tryz.isAgg346
  z36 := Tryz.sizeOf346
  v36 := Tryz.zeroValue346
  t41 := Tryz.underlying86
  a41 := Tryz.isAgg86
  z41 := Tryz.sizeOf86
  v41 := Tryz.zeroValue86
  t44 := Tryz.underlying117
  a44 := Tryz.isAgg117
  z44 := Tryz.sizeOf117
  v44 := Tryz.zeroValue117
  t46 := Tryz.underlying124
  a46 := Tryz.isAgg124
  z46 := Tryz.sizeOf124
  v46 := Tryz.zeroValue124
  t53 := Tryz.underlying354
  a53 := Tryz.isAgg354
  z53 := Tryz.sizeOf354
  v53 := Tryz.zeroValue354
  t57 := Tryz.underlying340
  a57 := Tryz.isAgg340
  z57 := Tryz.sizeOf340
  v57 := Tryz.zeroValue340
  t63 := Tryz.underlying357
  a63 := Tryz.isAgg357
  z63 := Tryz.sizeOf357
  v63 := Tryz.zeroValue357
  t64 := Tryz.underlying352
  a64 := Tryz.isAgg352
  z64 := Tryz.sizeOf352
  v64 := Tryz.zeroValue352 }

open Go.RowKit Go.Maps Go.Sort
theorem Tryz.sortsTxt (m : Nat) : AnyZ.SortsIn Tryz.prog Tryz.sortedTxt_ren Fence.wide m :=
  ⟨fun blk off cap ss W hH hblk hsz => callsIn_wide.2 (AnyM.slices_Sort_string Tryz.sortTxt blk off cap ss W hH hblk hsz),
   fun p cap W => callsIn_wide.2 (AnyM.slices_Sort_string_none Tryz.sortTxt p cap W)⟩
theorem Tryz.keysHas_any (mb : Option Nat) (W : World) : Calls Tryz.prog 114 #[.map mb] W fun e w' => e = .returned (.func (.func 171) #[] #[.pointer (some ⟨W.heap.size, 0, none⟩)]) ∧ w' = W.alloc (.cells #[.map mb] 131) :=
  (callsIn_wide (n := 5)).1 (AnyZ.keys_in Tryz.keysHas Fence.wide 5 trivial rfl mb W)
set_option maxHeartbeats 1000000 in
theorem Tryz.sortedTxt_any {H : Type} (b nn : Nat) (D0 : DataW H) (R : Value → Option (DataW H × List MemPlace)) (w : World) (hown : w.ownsMap Tryz.prog 9 R b nn D0) (hmax : Maps.size D0 ≤ maxLen) (hbytes : Maps.size D0 * 16 ≤ 140737488355328) :
    Calls Tryz.prog 113 #[.func (.func 171) #[] #[.pointer (some ⟨w.heap.size, 0, none⟩)]] (w.alloc (.cells #[.map (some b)] 131)) fun e w' => ∃ (v : Value) (ss : List (List UInt8)), e = .returned v ∧ ss.Perm (strKeys D0) ∧
      w'.ownsRow (w.alloc (.cells #[.map (some b)] 131)).heap.size 9 1 v ss.length ((ss.mergeSort (fun x y => decide (x ≤ y))).map encStr) ∧ (v = .slice none 0 0 ↔ ss = []) ∧ Below (w.alloc (.cells #[.map (some b)] 131)).heap.size (w.alloc (.cells #[.map (some b)] 131)) w' := by
  have hbl := hown.lt
  have hseq : SeqGives Fence.wide 2 Tryz.prog 171 #[.pointer (some ⟨w.heap.size, 0, none⟩)] encStr (fun ss => ss.Perm (strKeys D0)) (Maps.size D0) (w.alloc (.cells #[.map (some b)] 131)) :=
    AnyZ.keys_gives (ρ := Tryz.keysHas_ren) { Tryz.keysHas with } Fence.wide _ trivial rfl (by omega) w.heap.size b nn D0 _ (by simp) (by simp) (by
      obtain ⟨es, clock, hb, Ft, hs, hD⟩ := hown
      exact ⟨es, clock, (Below.heap_alloc _ _ b hbl).trans hb, Ft, hs, hD⟩)
  exact (callsIn_wide (n := 5)).1 (AnyZ.sorted_in Tryz.sortedTxt Fence.wide 5 trivial trivial trivial trivial rfl (by omega) (Tryz.sortsTxt _) (enters_of Tryz.func170 (by kernel_rfl) rfl) 171 #[.pointer (some ⟨w.heap.size, 0, none⟩)] trivial (enters_of Tryz.func171 (by kernel_rfl) rfl) _ _ hmax hbytes _ hseq)
end Go.Proofs
/- The program's directory: items laid over items, names in their order. -/
namespace Go.Proofs.YtcfpmofmjnhonaaGreatDoor
open Go.RowKit Go.Maps

def bytesOf (s : ByteArray) : List UInt8 := s.data.toList
def textOf (l : List UInt8) : ByteArray := ⟨l.toArray⟩
theorem text_bytes (s : ByteArray) : textOf (bytesOf s) = s := by
  obtain ⟨⟨l⟩⟩ := s
  rfl
theorem bytes_text (l : List UInt8) : bytesOf (textOf l) = l := rfl
/-- A map's keys, as what it reads as has them. -/
theorem MapIs.strs {α : Type} {K : MKind α} {w : World} {b : Nat} {L : List (ByteArray × α)} (h : MapIs K w b L) :
    ∃ D : DataW Unit, w.ownsMap Tryz.prog 9 K.R b L.length D ∧ Maps.size D = L.length ∧ ∀ ss : List (List UInt8), ss.Perm (strKeys D) → ss.Perm ((keysL L).map bytesOf) := by
  obtain ⟨⟨D, hown, hr⟩, hk, hs⟩ := h
  refine ⟨D, hown, hr.size, fun ss hp => hp.trans ?_⟩
  obtain ⟨es, hD, hpw, _⟩ := hown.entries lawS
  obtain ⟨es', hD', hko⟩ := hown.keysOf
  obtain rfl : es = es' := by rw [hD] at hD'; simpa using hD'
  subst hD
  have hnd : ((keysL L).map bytesOf).Nodup := by
    unfold List.Nodup
    rw [List.pairwise_map]
    exact hk.imp fun {a b} hne e => hne (by rw [← text_bytes a, e, text_bytes])
  refine (perm_strKeys hpw (fun p hp => by obtain ⟨v, hv⟩ := hko p hp; obtain ⟨x, _, hx, _⟩ := Maps.keyOf_str Tryz.underlying9 hv; exact ⟨x, hx⟩) hnd (fun x => ?_)).symm
  have hx : (Lit.string x) = mkey (textOf x) := rfl
  rw [hx, hr.has, look_isSome, List.mem_map]
  constructor
  · rintro ⟨s, hs, rfl⟩
    rw [text_bytes]; exact hs
  · intro hs
    exact ⟨_, hs, bytes_text x⟩
theorem sort_le (l : List (List UInt8)) : (l.mergeSort leB).Pairwise fun a b => a ≤ b := by
  have tr : ∀ a b c : List UInt8, leB a b = true → leB b c = true → leB a c = true := fun a b c h1 h2 => by simp only [leB, decide_eq_true_eq] at *; exact List.le_trans h1 h2
  have tot : ∀ a b : List UInt8, (leB a b || leB b a) = true := fun a b => by simp only [leB, Bool.or_eq_true, decide_eq_true_eq]; exact List.le_total a b
  exact (List.pairwise_mergeSort tr tot l).imp fun h => by simpa [leB] using h
/-- The keys of a map, rising, in a new list. -/
theorem sortedKeys_any (mf : Nat) (Fr : List (ByteArray × (ByteArray × ByteArray))) (w : World) (hf : MapIs kH w mf Fr) (hl : Fr.length ≤ 100000) :
    Calls Tryz.prog 113 #[.func (.func 171) #[] #[.pointer (some ⟨w.heap.size, 0, none⟩)]] (w.alloc (.cells #[.map (some mf)] 131)) fun e w' =>
      ∃ (S : List ByteArray) (A : Option Addr) (c : Nat), e = .returned (.slice A S.length c) ∧ Below w.heap.size w w' ∧ Strs w' A S ∧ S.Perm (keysL Fr) ∧ S.Pairwise (fun s t => s.data.toList < t.data.toList) := by
  obtain ⟨D, hown, hsz, hp⟩ := hf.strs
  refine (Tryz.sortedTxt_any mf _ D _ w hown (by rw [hsz]; unfold maxLen; omega) (by rw [hsz]; omega)).mono ?_
  rintro e w' ⟨v, ss, rfl, hS, hrow, -, hb⟩
  have hpS : ((ss.mergeSort leB).map textOf).Perm (keysL Fr) := by
    have h1 := ((List.mergeSort_perm ss leB).trans (hp ss hS)).map textOf
    rw [List.map_map] at h1
    have h2 : (keysL Fr).map (textOf ∘ bytesOf) = keysL Fr := by
      rw [show (textOf ∘ bytesOf) = id from funext text_bytes]; exact List.map_id _
    rwa [h2] at h1
  have hl2 : ss.length = ((ss.mergeSort leB).map textOf).length := by rw [List.length_map, List.length_mergeSort]
  have hr : Row w' (w.alloc (.cells #[.map (some mf)] 131)).heap.size 1 v ss.length (stCells ((ss.mergeSort leB).map textOf)) := by
    have h := Row.of_owns hrow
    have e : (ss.mergeSort (fun x y => decide (x ≤ y))).map encStr = stCells ((ss.mergeSort leB).map textOf) := by
      unfold stCells
      rw [List.map_map]
      rfl
    rw [e] at h
    exact h
  rw [hl2] at hr
  obtain ⟨-, A, c, rfl, hst⟩ := hr.strs
  refine ⟨(ss.mergeSort leB).map textOf, A, c, rfl, (alloc_below w _).trans (hb.mono (by simp)), hst, hpS, ?_⟩
  have hnd : ((ss.mergeSort leB).map textOf).Nodup := hpS.symm.nodup hf.keys
  rw [List.pairwise_map]
  unfold List.Nodup at hnd
  rw [List.pairwise_map] at hnd
  refine ((sort_le ss).and hnd).imp fun {a b} h => ?_
  show a < b
  by_cases e : a < b
  · exact e
  · exact absurd (congrArg textOf (List.le_antisymm h.1 (List.not_lt.1 e))) h.2
end Go.Proofs.YtcfpmofmjnhonaaGreatDoor
/- The program's directory: what waits laid over what is there. -/
namespace Go.Proofs.YtcfpmofmjnhonaaGreatDoor
open Go.RowKit Go.Maps

/-- What waits, with its openings. -/
def Fresh (d : Dst) (Fr : List (ByteArray × (ByteArray × ByteArray))) : Prop := ∀ s, look Fr s = (look d.wait s).map fun v => (openOf (settled d) s, v)
theorem fresh_item {d : Dst} (h : DOk d) {s v : ByteArray} (hw : look d.wait s = some v) : ofAns s = ((freshIt d s).1, 0) ∧ commitAns (openOf (settled d) s) v = ((freshIt d s).2, 0) := by
  obtain ⟨h1, h2, h3⟩ := h.wn (s, v) (look_mem hw)
  have hf : freshIt d s = ((ofAns s).1, (commitAns (openOf (settled d) s) v).1) := by unfold freshIt itemOf; rw [hw]; rfl
  rw [hf]
  refine ⟨?_, ?_⟩
  · unfold ofAns; rw [if_pos h1]
  · rw [commit_ok (open_size _ _) h2 h3]
set_option maxHeartbeats 2000000 in
set_option maxRecDepth 100000 in
theorem pLay_is (d : Dst) (hok : DOk d) (h8 : d.eps.length < 8) (A : Option Addr) (c mf : Nat) (Fr : List (ByteArray × (ByteArray × ByteArray))) (w : World) (hk : HasK w) (hI : Itms w A (overIts d)) (hc : (overIts d).length ≤ c) (hf : MapIs kH w mf Fr) (hfl : Fr.length ≤ 100000) (hs : Fresh d Fr) :
    Calls Tryz.prog 68 #[.slice A (overIts d).length c, .map (some mf)] w fun e w' => ∃ A' c', e = .returned (.tuple #[.slice A' (overIts (settled d)).length c', .nilIface]) ∧ Below w.heap.size w w' ∧ Itms w' A' (overIts (settled d)) ∧ (overIts (settled d)).length ≤ c' ∧ ((A' = A ∧ overIts (settled d) = overIts d) ∨ ∀ a, A' = some a → 0 < (overIts (settled d)).length → w.heap.size ≤ a.block) := by
  have HK := Lib.hid hk
  have HI := Lib.hid hI
  have HC := Lib.hid hc
  have HF := Lib.hid hf
  have HFL := Lib.hid hfl
  have HFR := Lib.hid hs
  have HOK := Lib.hid hok
  have H8 := Lib.hid h8
  clear hk hI hc hf hfl hs hok h8
  go_enter Tryz.func68, Tryz.ntmps68
  go_wp2_with fail
  refine (Tryz.keysHas_any (some mf) _).mono ?_
  rintro e w1 ⟨rfl, rfl⟩
  go_wp2_with fail
  refine (sortedKeys_any mf Fr w HF.out HFL.out).mono ?_
  rintro e w2 ⟨S, AS, cS, rfl, hb2, hst2, hperm, hrise⟩
  have HB2 := Lib.hid hb2
  have HST := Lib.hid hst2
  have HWT := Lib.hid (show Waits d S from ⟨fun s => by rw [hperm.mem_iff, ← look_isSome, HFR.out s]; cases look d.wait s <;> simp, hrise⟩)
  have HSL := Lib.hid (show S.length ≤ 100000 from by have := hperm.length_eq; rw [keysL_length] at this; have := HFL.out; omega)
  have HOV := Lib.hid (over_settled HOK.out H8.out HWT.out)
  clear hb2 hst2 hperm hrise
  go_wp2
  go_loopw [0, 14] (fun o i wr => ∃ (k : Nat) (B : Option Addr) (cb : Nat), k ≤ S.length ∧ i = .int .i64 (k : Int) ∧ o = .slice B (layOf (freshIt d) (S.take k) (overIts d)).length cb ∧ Hid (Below w.heap.size w wr ∧ Below w2.heap.size w2 wr ∧ Itms wr B (layOf (freshIt d) (S.take k) (overIts d)) ∧ (layOf (freshIt d) (S.take k) (overIts d)).length ≤ cb ∧ ((B = A ∧ layOf (freshIt d) (S.take k) (overIts d) = overIts d) ∨ ∀ a, B = some a → 0 < (layOf (freshIt d) (S.take k) (overIts d)).length → w.heap.size ≤ a.block))) (fun _ i _ => S.length - (intOf i).toNat)
  case atStart => exact ⟨0, A, c, by omega, rfl, rfl, Lib.hid ⟨HB2.out, Below.refl _ _, HI.out.below HB2.out, HC.out, .inl ⟨rfl, rfl⟩⟩⟩
  case round =>
    obtain ⟨k, B, cb, hk, rfl, rfl, HU⟩ := hrel
    obtain ⟨Lk, hLk⟩ : ∃ Lk, layOf (freshIt d) (S.take k) (overIts d) = Lk := ⟨_, rfl⟩
    have HSTEP := Lib.hid (HOV.out.2 k)
    rw [hLk] at HU HSTEP ⊢
    have HLK := Lib.hid hLk
    clear hLk
    have HL60 := Lib.hid (right_length HSTEP.out.1)
    have hsl := HSL.out
    by_cases hlt : k < S.length
    · obtain ⟨s, hsk⟩ : ∃ s, S[k]? = some s := ⟨_, List.getElem?_eq_getElem hlt⟩
      have HSET := Lib.hid (HSTEP.out.2 s hsk)
      have hw := (HWT.out.mem s).1 (List.mem_of_getElem? hsk)
      obtain ⟨v, hv⟩ := Option.isSome_iff_exists.1 hw
      have HV := Lib.hid hv
      have HIT := Lib.hid (fresh_item HOK.out hv)
      have HSS := Lib.hid (show s.size ≤ 1000000 from by have := nameOk_size s (HOK.out.wn (s, v) (look_mem hv)).1; omega)
      obtain ⟨a, rfl, hal, c0⟩ := (HST.out.below HU.out.2.1) k s hsk
      have hki : (k : Int) < (S.length : Int) := by omega
      have hk0 : (0 : Int) ≤ (k : Int) := by omega
      obtain ⟨o, ho⟩ : ∃ o, openOf (settled d) s = o := ⟨_, rfl⟩
      have hlk : (Instr.lookup 131 (.map (some mf)) (.string s) false).run Tryz.prog wr = .ok (.agg #[.string o, .string v]) wr := by
        have := (HF.out.block (HU.out.1.block _ HF.out.lt)).look1 HSS.out
        rw [HFR.out s, hv, ho] at this
        exact this
      rw [ho] at HIT
      obtain ⟨x, hx⟩ : ∃ x, freshIt d s = x := ⟨_, rfl⟩
      rw [hx] at HIT HSET
      clear hx ho hw hv hsk hal
      go_wp2_with fail
      clear c0 hlk
      refine (pItem_is s o v x.1 x.2 _ (HK.out.below HU.out.1 HK.out.lt) HIT.out.1 HIT.out.2).mono ?_
      rintro e w4 ⟨rfl, hb4⟩
      have HB4 := Lib.hid (HU.out.1.trans (hb4.mono HU.out.1.size))
      have HC4 := Lib.hid (HU.out.2.1.trans (hb4.mono HU.out.2.1.size))
      have HI4 := Lib.hid (HU.out.2.2.1.below hb4)
      have HB5 := Lib.hid (HB4.out.alloc HB4.out.size (.cells #[.string x.1, .string x.2] 61))
      have HC5 := Lib.hid (HC4.out.alloc HC4.out.size (.cells #[.string x.1, .string x.2] 61))
      have HI5 := Lib.hid (HI4.out.below (alloc_below w4 (.cells #[.string x.1, .string x.2] 61)))
      clear hb4
      go_wp2_with fail
      generalize w4.alloc (.cells #[.string x.1, .string x.2] 61) = w5 at HB5 HC5 HI5 ⊢
      refine (tSet_in Lk B cb x _ 0 _ (by have := HL60.out; omega) HU.out.2.2.2.1 HI5.out HSET.out).mono ?_
      rintro e w6 ⟨A6, c6, rfl, hb6, hi6, hc6, hn6⟩
      rw [show errOf 0 = .nilIface from rfl]
      have HREL := Lib.hid (show Below w.heap.size w w6 ∧ Below w2.heap.size w2 w6 ∧ Itms w6 A6 (layOf (freshIt d) (S.take (k + 1)) (overIts d)) ∧ (layOf (freshIt d) (S.take (k + 1)) (overIts d)).length ≤ c6 ∧ ((A6 = A ∧ layOf (freshIt d) (S.take (k + 1)) (overIts d) = overIts d) ∨ ∀ a, A6 = some a → 0 < (layOf (freshIt d) (S.take (k + 1)) (overIts d)).length → w.heap.size ≤ a.block) from
        ⟨HB5.out.trans (hb6.mono HB5.out.size), HC5.out.trans (hb6.mono HC5.out.size), hi6, hc6, .inr fun a e l => Nat.le_trans HB5.out.size (hn6 a e l)⟩)
      clear hb6 hi6 hc6 hn6
      go_wp2
      go_roundw
      case rel => exact ⟨k + 1, A6, c6, by omega, by go_num, rfl, HREL⟩
      case measure => simp [intOf]; omega
    · obtain rfl : k = S.length := by omega
      have HEQ := Lib.hid (show Lk = overIts (settled d) from by rw [← HLK.out, List.take_length]; exact HOV.out.1)
      clear hlt
      go_wp2
      refine bodyPost_ret (results_tmp2 rfl _ _ _) rfl ?_
      have hu := HU.out
      rw [HEQ.out] at hu ⊢
      exact ⟨B, cb, rfl, hu.1, hu.2.2.1, hu.2.2.2.1, hu.2.2.2.2⟩
end Go.Proofs.YtcfpmofmjnhonaaGreatDoor
/- The program's directory: what waits, with its openings. -/
namespace Go.Proofs.YtcfpmofmjnhonaaGreatDoor
open Go.RowKit Go.Maps

theorem makeMapHint {P : Program} {t k e : TypeId} (hu : P.underlying t = some (.map k e)) (n : Int) (w : World) : (Instr.makeMap t (some (.int .i64 n))).run P w = .ok (.map (some w.heap.size)) (w.alloc (.map #[] 0)) := by
  simp [Instr.makeMap, run_underlying hu, asInt, Result.andThen]
  rfl
structure OpZ (p : Nat) (v : Value) where
  at' : World
  h0 : at'.cell? ⟨p, 0, none⟩ = some v
def openAt (secret : ByteArray) (n : Int) (s v : ByteArray) : ByteArray × ByteArray := (markOf 111 [secret, s, txt (num8 n)], v)
/-- Those of S are open. -/
def OpenTo (secret : ByteArray) (n : Int) (W : List (ByteArray × ByteArray)) (S : List ByteArray) (Fr : List (ByteArray × (ByteArray × ByteArray))) : Prop := ∀ t, (t ∈ S → look Fr t = (look W t).map (openAt secret n t)) ∧ (t ∉ S → look Fr t = none)
theorem openTo_snoc {secret : ByteArray} {n : Int} {W : List (ByteArray × ByteArray)} {S : List ByteArray} {Fr : List (ByteArray × (ByteArray × ByteArray))} (h : OpenTo secret n W S Fr) {s x : ByteArray} (hx : look W s = some x) : OpenTo secret n W (S ++ [s]) (ups Fr s (openAt secret n s x)) := fun t => by
  by_cases e : t = s
  · subst e
    exact ⟨fun _ => by rw [look_ups_same, hx]; rfl, fun hn => absurd (by simp) hn⟩
  · refine ⟨fun ht => ?_, fun ht => ?_⟩
    · rw [look_ups_other _ _ _ _ e]
      refine (h t).1 ?_
      rcases List.mem_append.1 ht with h1 | h1
      · exact h1
      · exact absurd (List.mem_singleton.1 h1) e
    · rw [look_ups_other _ _ _ _ e]
      exact (h t).2 (fun h1 => ht (List.mem_append.2 (.inl h1)))
theorem openTo_done {secret : ByteArray} {n : Int} {W : List (ByteArray × ByteArray)} {S : List ByteArray} {Fr : List (ByteArray × (ByteArray × ByteArray))} (h : OpenTo secret n W S Fr) (hp : S.Perm (keysL W)) : ∀ t, look Fr t = (look W t).map (openAt secret n t) := fun t => by
  by_cases ht : t ∈ S
  · exact (h t).1 ht
  · rw [(h t).2 ht, look_none.2 fun hk => ht (hp.mem_iff.2 hk)]; rfl
set_option maxHeartbeats 2000000 in
set_option maxRecDepth 100000 in
theorem pOpen_is {F : Nat → Prop} {p : Nat} {secret : ByteArray} {bb : Addr} {mh mw : Nat} {vi ve : Value} {H : List (ByteArray × (ByteArray × ByteArray))} {W : List (ByteArray × ByteArray)} {I : List It} {M : List SgM} (n : Int) (w : World)
    (h : DMem F w p secret bb mh mw vi ve H W I M) (hk : HasK w) (h16 : secret.size ≤ 1000) (hw : W.length ≤ 100000) :
    Calls Tryz.prog 67 #[.pointer (some ⟨p, 0, none⟩), .int .i64 n] w fun e w' => ∃ (mf : Nat) (Fr : List (ByteArray × (ByteArray × ByteArray))), e = .returned (.map (some mf)) ∧ Below w.heap.size w w' ∧ w.heap.size ≤ mf ∧ MapIs kH w' mf Fr ∧ Fr.length ≤ W.length ∧ ∀ t, look Fr t = (look W t).map (openAt secret n t) := by
  have HD := Lib.hid h
  have HK := Lib.hid hk
  have H16 := Lib.hid h16
  have HWL := Lib.hid hw
  have hlen : ∀ ty, (Builtin.len_ #[39] ty #[.map (some mw)]).run Tryz.prog w = .ok (.int .i64 (W.length : Int)) w := fun ty => h.wait.len ty
  have c3 : w.cell? ⟨p, 3, none⟩ = some (.map (some mw)) := h.own.cell 3 (by omega)
  have hb1 := alloc_below w (.map #[] 0)
  have c3' : (w.alloc (.map #[] 0)).cell? ⟨p, 3, none⟩ = some (.map (some mw)) := (hb1.cell (p := ⟨p, 3, none⟩) h.own.lt).trans c3
  have HWW := Lib.hid (h.wait.block (hb1.block _ h.wait.lt))
  have HM1 := Lib.hid (MapIs.made kH w)
  have HB1 := Lib.hid hb1
  have hmk := makeMapHint (P := Tryz.prog) Tryz.underlying131
  clear h hk h16 hw hb1
  go_enter Tryz.func67, Tryz.ntmps67
  go_wp2_with (first | (at_range; refine wpList_mapRange kS rfl (.tmp 17) rfl mw W rfl HWW.out ?_; intro w2 hrg2 hg2 hs2))
  go_frame
  have HB2 := Lib.hid (HB1.out.trans ((grownBy.below hg2.out (Nat.le_refl _) (fun k hk => by cases hk)).mono HB1.out.size))
  have HM2 := Lib.hid (HM1.out.block (hg2.out.block _ HM1.out.lt (by simp)))
  have HRG := Lib.hid hrg2.out
  have HPL := Lib.hid (show p < w.heap.size ∧ mw < w.heap.size from ⟨HD.out.own.lt, HD.out.wait.lt⟩)
  obtain ⟨r, hr⟩ : ∃ r, (w.alloc (.map #[] 0)).heap.size = r := ⟨_, rfl⟩
  have HRE := Lib.hid (show r = w.heap.size + 1 from by rw [← hr]; simp)
  rw [hr] at HRG ⊢
  clear c3 c3' hlen hrg2 hg2 hs2 HWW hmk hr HM1
  go_loopw [6] (fun _ wr => ∃ S cnt Fr, Rng kS wr mw r W S cnt ∧ Hid (Below w.heap.size w wr ∧ MapIs kH wr w.heap.size Fr ∧ OpenTo secret n W S Fr ∧ Fr.length ≤ S.length)) (fun _ wr => wr.rangeLeft mw r)
  case atStart => exact ⟨[], _, [], HRG.out, Lib.hid ⟨HB2.out, HM2.out, fun t => ⟨(fun h => by cases h), fun _ => rfl⟩, Nat.le_refl 0⟩⟩
  case round =>
    clear HRG HB2 HM2
    obtain ⟨S, cnt, Fr, hrg, HU⟩ := hrel
    have HRG := Lib.hid hrg
    clear hrg
    go_wp2_with (first | (at_next; refine wpList_mapNext kS rfl (.tmp 18) rfl mw r W S cnt rfl HRG.out ?_ ?_))
    · intro hperm
      have HDN := Lib.hid (openTo_done HU.out.2.2.1 hperm)
      have HPL2 := Lib.hid (show Fr.length ≤ W.length from by have := hperm.length_eq; rw [keysL_length] at this; have := HU.out.2.2.2; omega)
      clear hperm
      go_wp2
      go_ret
      exact ⟨w.heap.size, Fr, rfl, HU.out.1, Nat.le_refl _, HU.out.2.1, HPL2.out, HDN.out⟩
    · intro s x w3 cnt' hlk hns hgood HR3 HC3 HG3 HS3 hen
      have hen' : (Instr.entry (.pointer (some ⟨r, 0, none⟩))).run Tryz.prog w3 = .ok (.tuple #[.string s, .string x]) w3 := hen
      have HSS := Lib.hid (show s.size ≤ 1000000 from HRG.out.short _ (look_mem hlk))
      have HB3 := Lib.hid (HU.out.1.grown HG3.out HU.out.1.size (fun k hk => by cases hk; have := HRE.out; omega))
      have HM3 := Lib.hid (HU.out.2.1.block (HG3.out.block _ HU.out.2.1.lt (fun e => by have := HRE.out; have := Option.some.inj e; omega)))
      have HD3 := Lib.hid (HD.out.same (same_of_below HB3.out HD.out.lt))
      have HK3 := Lib.hid (HK.out.below HB3.out HK.out.lt)
      have HNX := Lib.hid (openTo_snoc HU.out.2.2.1 hlk)
      have HLN := Lib.hid (show Fr.length ≤ 100000 ∧ Fr.length ≤ S.length from ⟨by have := HU.out.2.2.2; have := HRG.out.room; have := HWL.out; omega, HU.out.2.2.2⟩)
      have HLE := Lib.hid HRG.out.left_eq
      have HTOT := Lib.hid (show total [secret, s, txt (num8 n)] ≤ 1073741800 from by have := H16.out; have := HSS.out; simp [total, num_size]; omega)
      have HLTS := Lib.hid (show p < w3.heap.size from HD3.out.own.lt)
      clear hlk hns hgood HS3 hen HU HG3 HRG
      have c0 : w3.cell? ⟨p, 0, none⟩ = some (.string secret) := HD3.out.own.cell 0 (by omega)
      have z0 : ∀ z : OpZ p (.string secret), z.at'.cell? ⟨p, 0, none⟩ = some (.string secret) := fun z => z.h0
      have zn : Nonempty (OpZ p (.string secret)) := ⟨⟨w3.drew, c0⟩⟩
      go_wp2
      refine wp_region_taken (fun u => ∃ z : OpZ p (.string secret), u = z.at') [0, 1, 2, 3, 4, 5, 6, 7, 11] [8, 9, 10, 12, 13] (by kernel_rfl) (by kernel_rfl) (by intro c d v a w h; cases d <;> exact h) ⟨⟨w3.drew, c0⟩, rfl⟩ ?_
      simp only [pickOps, List.filterMap_cons, List.filterMap_nil, List.getElem?_cons_zero, List.getElem?_cons_succ]
      repeat (first | go_big_quiet_step (fail) | quiet_step (fail))
      refine wpQuiet_nil ?_
      have HZZ := Lib.hid (show ∀ u : World, Below w3.heap.size w3 u → ∃ z : OpZ p (.string secret), u = z.at' from fun u hu => ⟨⟨u, (hu.cell (p := ⟨p, 0, none⟩) HLTS.out).trans c0⟩, rfl⟩)
      clear z0 zn c0 hen'
      refine wpSeq_one rfl (fun K' hK => ?_)
      go_wp2_with fail
      refine (num_any n _).mono ?_
      rintro e w4 ⟨rfl, hb4⟩
      have HB4 := Lib.hid (show Below w3.heap.size w3 w4 from (Below.refl _ _).drew.trans (hb4.mono (Nat.le_refl _)))
      clear hb4
      go_wp2
      refine hK _ _ (HZZ.out _ HB4.out) ?_
      clear hK K'
      refine wpSeq_one rfl (fun K' hK => ?_)
      go_wp2
      have HB5 := Lib.hid (HB4.out.alloc HB4.out.size (.cells #[.string secret, .string s, .string (txt (num8 n))] 9))
      refine hK _ _ (HZZ.out _ HB5.out) ?_
      clear hK K'
      refine wpSeq_one rfl (fun K' hK => ?_)
      go_wp2_with fail
      refine (mark_any 111 [secret, s, txt (num8 n)] (some ⟨w4.heap.size, 0, none⟩) 3 _ (HK3.out.below HB5.out HK3.out.lt) HTOT.out (by simp) (strs_new w4 [secret, s, txt (num8 n)] 9)).mono ?_
      rintro e w6 ⟨rfl, hb6⟩
      have HB6 := Lib.hid (HB5.out.trans (hb6.mono HB5.out.size))
      clear hb6
      go_wp2
      refine hK _ _ (HZZ.out _ HB6.out) ?_
      clear hK K'
      refine wpSeq_one rfl (fun K' hK => ?_)
      go_wp2
      refine hK _ _ (HZZ.out _ HB6.out) ?_
      clear hK K'
      have HM6 := Lib.hid (HM3.out.block (HB6.out.block _ HM3.out.lt))
      refine wpSeq_last rfl (fun K' hK => ?_)
      refine wpList_mapPut kH rfl (.tmp 24) (.tmp 25) (.tmp 36) rfl w.heap.size Fr rfl HM6.out (by have := HLN.out.1; omega) s HSS.out rfl (openAt secret n s x) trivial rfl ?_
      intro w7 hm7 hg7
      have HR7 := Lib.hid (HR3.out.block ((hg7.out.block _ (Nat.lt_of_lt_of_le HR3.out.map.lt HB6.out.size) (fun e => by have := HPL.out.2; have := Option.some.inj e; omega)).trans (HB6.out.block _ HR3.out.map.lt)) ((hg7.out.block _ (Nat.lt_of_lt_of_le HR3.out.lt HB6.out.size) (fun e => by have := HRE.out; have := Option.some.inj e; omega)).trans (HB6.out.block _ HR3.out.lt)))
      have HB7 := Lib.hid ((HB3.out.trans (HB6.out.mono HB3.out.size)).grown hg7.out (Nat.le_trans HB3.out.size HB6.out.size) (fun k hk => by cases hk; exact Nat.le_refl _))
      have HM7 := Lib.hid hm7.out
      clear hm7 hg7
      go_wp2
      refine hK _ _ ?_
      clear hK K'
      go_wp2
      go_roundw
      case rel => exact ⟨S ++ [s], cnt', _, HR7.out, Lib.hid ⟨HB7.out, HM7.out, HNX.out, by have h1 := ups_length Fr s (openAt secret n s x); have := HLN.out.2; rw [List.length_append, List.length_singleton]; split at h1 <;> omega⟩⟩
      case measure => rw [HR7.out.left_eq, HLE.out]; exact HC3.out
end Go.Proofs.YtcfpmofmjnhonaaGreatDoor
/- maps.Copy: what names have is overlaid. -/
namespace Go.Proofs.YtcfpmofmjnhonaaGreatDoor
open Go.RowKit Go.Maps

def OverTo (H Fr : List (ByteArray × (ByteArray × ByteArray))) (S : List ByteArray) (N : List (ByteArray × (ByteArray × ByteArray))) : Prop := ∀ t, (t ∈ S → look N t = look Fr t) ∧ (t ∉ S → look N t = look H t)
theorem overTo_snoc {H Fr N : List (ByteArray × (ByteArray × ByteArray))} {S : List ByteArray} (h : OverTo H Fr S N) {s : ByteArray} {x : ByteArray × ByteArray} (hx : look Fr s = some x) : OverTo H Fr (S ++ [s]) (ups N s x) := fun t => by
  by_cases e : t = s
  · subst e
    exact ⟨fun _ => by rw [look_ups_same, hx], fun hn => absurd (by simp) hn⟩
  · refine ⟨fun ht => ?_, fun ht => ?_⟩
    · rw [look_ups_other _ _ _ _ e]
      refine (h t).1 ?_
      rcases List.mem_append.1 ht with h1 | h1
      · exact h1
      · exact absurd (List.mem_singleton.1 h1) e
    · rw [look_ups_other _ _ _ _ e]
      exact (h t).2 (fun h1 => ht (List.mem_append.2 (.inl h1)))
theorem overTo_done {H Fr N : List (ByteArray × (ByteArray × ByteArray))} {S : List ByteArray} (h : OverTo H Fr S N) (hp : S.Perm (keysL Fr)) : ∀ t, look N t = (look Fr t).or (look H t) := fun t => by
  by_cases ht : t ∈ S
  · rw [(h t).1 ht]
    obtain ⟨x, hx⟩ := Option.isSome_iff_exists.1 (look_isSome.2 (hp.mem_iff.1 ht))
    rw [hx]; rfl
  · rw [(h t).2 ht, look_none.2 fun hk => ht (hp.mem_iff.2 hk)]; rfl
set_option maxHeartbeats 2000000 in
set_option maxRecDepth 100000 in
theorem mapsCopy_is (mh mf : Nat) (H Fr : List (ByteArray × (ByteArray × ByteArray))) (w : World) (hh : MapIs kH w mh H) (hf : MapIs kH w mf Fr) (hne : mh ≠ mf) (hl : H.length ≤ 100000) (hfl : Fr.length ≤ 100000) :
    Calls Tryz.prog 70 #[.map (some mh), .map (some mf)] w fun e w' => ∃ N : List (ByteArray × (ByteArray × ByteArray)), e = .returned (.tuple #[]) ∧ Off (fun k => k = mh) w w' ∧ MapIs kH w' mh N ∧ ∀ t, look N t = (look Fr t).or (look H t) := by
  have HH := Lib.hid hh
  have HFF := Lib.hid hf
  have HLS := Lib.hid (show H.length ≤ 100000 ∧ Fr.length ≤ 100000 from ⟨hl, hfl⟩)
  have HNE := Lib.hid (show mh ≠ mf ∧ mh < w.heap.size ∧ mf < w.heap.size from ⟨hne, hh.lt, hf.lt⟩)
  clear hh hf hne hl hfl
  go_enter Tryz.func70, Tryz.ntmps70
  go_wp2_with (first | (at_range; refine wpList_mapRange kH rfl (.tmp 6) rfl mf Fr rfl HFF.out ?_; intro w2 hrg2 hg2 hs2))
  go_frame
  have HO2 := Lib.hid (show Off (fun k => k = mh) w w2 from Off.of_grown hg2.out (fun k hk => by cases hk))
  have HM2 := Lib.hid (HH.out.block (hg2.out.block _ HH.out.lt (by simp)))
  have HRG := Lib.hid hrg2.out
  obtain ⟨r, hr⟩ : ∃ r, w.heap.size = r := ⟨_, rfl⟩
  have HRE := Lib.hid hr
  rw [hr] at HRG ⊢
  clear hrg2 hg2 hs2 hr
  go_loopw [4] (fun _ wr => ∃ S cnt N, Rng kH wr mf r Fr S cnt ∧ Hid (Off (fun k => k = mh) w wr ∧ MapIs kH wr mh N ∧ OverTo H Fr S N ∧ N.length ≤ H.length + S.length)) (fun _ wr => wr.rangeLeft mf r)
  case atStart => exact ⟨[], _, H, HRG.out, Lib.hid ⟨HO2.out, HM2.out, fun t => ⟨(fun h => by cases h), fun _ => rfl⟩, Nat.le_refl _⟩⟩
  case round =>
    clear HRG HO2 HM2
    obtain ⟨S, cnt, N, hrg, HU⟩ := hrel
    have HRG := Lib.hid hrg
    clear hrg
    go_wp2_with (first | (at_next; refine wpList_mapNext kH rfl (.tmp 7) rfl mf r Fr S cnt rfl HRG.out ?_ ?_))
    · intro hperm
      have HDN := Lib.hid (overTo_done HU.out.2.2.1 hperm)
      clear hperm
      go_wp2
      (try simp only [Exit.inBlock, Exit.then])
      refine bodyPost_end (results_none rfl _ _ _) rfl ?_
      exact ⟨N, rfl, HU.out.1, HU.out.2.1, HDN.out⟩
    · intro s o v w3 cnt' hlk hns hgood HR3 HC3 HG3 HS3 hen
      have hen' : (Instr.entry (.pointer (some ⟨r, 0, none⟩))).run Tryz.prog w3 = .ok (.tuple #[.string s, .agg #[.string o, .string v]]) w3 := hen
      have HSS := Lib.hid (show s.size ≤ 1000000 from HRG.out.short _ (look_mem hlk))
      have HO3 := Lib.hid (show Off (fun k => k = mh) w w3 from HU.out.1.trans (G := fun k => k = r) (Off.of_grown HG3.out (fun k hk => (Option.some.inj hk).symm)) (fun k hk e => by have := HRE.out; omega))
      have HM3 := Lib.hid (HU.out.2.1.block (HG3.out.block _ HU.out.2.1.lt (fun e => by have := HRE.out; have := HNE.out.2.1; have := Option.some.inj e; omega)))
      have HNX := Lib.hid (overTo_snoc HU.out.2.2.1 hlk)
      have HLN := Lib.hid (show N.length ≤ 1000000 ∧ N.length ≤ H.length + S.length from ⟨by have := HU.out.2.2.2; have := HRG.out.room; have := HLS.out; omega, HU.out.2.2.2⟩)
      have HLE := Lib.hid HRG.out.left_eq
      have hb4 := alloc_below w3 (.cells #[.string o, .string v] 156)
      have HO4 := Lib.hid (HO3.out.then hb4)
      have HM4 := Lib.hid (HM3.out.block (hb4.block _ HM3.out.lt))
      have HR4 := Lib.hid (HR3.out.block (hb4.block _ HR3.out.map.lt) (hb4.block _ HR3.out.lt))
      clear hlk hns hgood HS3 hen HU HG3 HRG hb4
      go_wp2_with (first | (at_mapUpdate; refine wpList_mapPut kH rfl (.tmp 13) (.tmp 14) (.tmp 15) rfl mh N rfl HM4.out HLN.out.1 s HSS.out rfl (o, v) trivial rfl ?_; intro w5 hm5 hg5))
      have HO5 := Lib.hid (HO4.out.trans (Off.of_grown hg5.out (F := fun k => k = mh) (fun k hk => (Option.some.inj hk).symm)) (fun _ _ h => h))
      have HR5 := Lib.hid (HR4.out.block (hg5.out.block _ HR4.out.map.lt (fun e => HNE.out.1 (Option.some.inj e).symm)) (hg5.out.block _ HR4.out.lt (fun e => by have := HRE.out; have := HNE.out.2.1; have := Option.some.inj e; omega)))
      have HM5 := Lib.hid hm5.out
      clear hm5 hg5
      go_frame
      go_roundw
      case rel => exact ⟨S ++ [s], cnt', _, HR5.out, Lib.hid ⟨HO5.out, HM5.out, HNX.out, by have h1 := ups_length N s (o, v); have := HLN.out.2; rw [List.length_append, List.length_singleton]; split at h1 <;> omega⟩⟩
      case measure => rw [HR5.out.left_eq, HLE.out]; exact HC3.out
end Go.Proofs.YtcfpmofmjnhonaaGreatDoor
