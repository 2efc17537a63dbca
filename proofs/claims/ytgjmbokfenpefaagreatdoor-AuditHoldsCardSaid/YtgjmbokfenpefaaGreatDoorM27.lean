/- Parts of the proof, one behind the other: Play, PPub. -/
import Derived.WalkKit
import Derived.Lib.Hide
import Derived.WalkLawsBesides
import Derived.Deep.QuietTactic
import Derived.Deep.WholeRow
import Derived.ArgAppend
import Derived.Laws.AppendOwnNone
import Derived.Laws.CopyRow
import Derived.Deep.RegionLaw
import Derived.Laws.BytesString
import Derived.Laws.IdiomStrings
import Derived.Test.YtgjmbokfenpefaaGreatDoorProg
import Derived.StringKeys
import Derived.Maps.Own
import Derived.Maps.Views
import Derived.Maps.OwnSet
import Derived.Maps.OwnOps
import Derived.Maps.RangeWalk
import Derived.Sort.KeysCollected
import Derived.Laws.BitsAllLaws
import Derived.Outline
import Derived.BigQuiet
import Derived.Laws.CopyOwn
import Derived.RegionTactic
import Derived.StillTail
import Derived.Deep.Quiet
import Derived.Deep.RegionHeld3
import Derived.Deep.DeepCutAuto
import Derived.Laws.ResultCell
import Derived.IntWalk
import Derived.Sort.Walk0
import Derived.Tactics
import Derived.Orders
import Derived.LaidEql
import Derived.Stop.Asserts
import Derived.RowKitTokens
import Derived.OrdersHeld
import Derived.Sort.LotA
import Derived.Lib.SortBridge
import Derived.Deep.AppendSrc
import Derived.Shelf.SlSortFuncK.WholeK
import Derived.Ground.GgsProg
import Derived.Shelf.GgSortFunc.Tiny
import Derived.Shelf.Strings.Repeat
import Derived.KernelRfl
import Derived.WideKeyEntry
import Derived.Deep.CutRange
import Derived.Shelf.SlGeneric
import Derived.Shelf.SlIter.Nil
import Derived.Shelf.SortM.Plain
import Derived.Shelf.SortM.SortNone
import Derived.Ground.GgzProg
import Derived.Ground.SlgmProg
import Derived.Laws.StructEq
import Derived.RangeFuncNested
import Derived.RangeFuncBound
import Derived.RangeFuncCalls
import Derived.RangeFuncLeaves
import Derived.Shelf.Abstract
import Derived.Shelf.RegionOpen
import Derived.OwnWalkIn
import Derived.TacticsInMore
import Derived.LoopNIn
import Derived.LoopIn
import Derived.OrdersIn
import Derived.TacticsIn
import Derived.Shelf.Small.Strs
import Derived.Test.YtgjmbokfenpefaaGreatDoorM1
import Derived.Test.YtgjmbokfenpefaaGreatDoorM2
import Derived.Test.YtgjmbokfenpefaaGreatDoorM3
import Derived.Test.YtgjmbokfenpefaaGreatDoorM4
import Derived.Test.YtgjmbokfenpefaaGreatDoorM5
import Derived.Test.YtgjmbokfenpefaaGreatDoorM6
import Derived.Test.YtgjmbokfenpefaaGreatDoorM7
import Derived.Test.YtgjmbokfenpefaaGreatDoorM8
import Derived.Test.YtgjmbokfenpefaaGreatDoorM9
import Derived.Test.YtgjmbokfenpefaaGreatDoorM10
import Derived.Test.YtgjmbokfenpefaaGreatDoorM11
import Derived.Test.YtgjmbokfenpefaaGreatDoorM12
import Derived.Test.YtgjmbokfenpefaaGreatDoorM13
import Derived.Test.YtgjmbokfenpefaaGreatDoorM17
import Derived.Test.YtgjmbokfenpefaaGreatDoorM18
import Derived.Test.YtgjmbokfenpefaaGreatDoorM19
import Derived.Test.YtgjmbokfenpefaaGreatDoorM20
import Derived.Test.YtgjmbokfenpefaaGreatDoorM21
import Derived.Test.YtgjmbokfenpefaaGreatDoorM22
import Derived.Test.YtgjmbokfenpefaaGreatDoorM23
import Derived.Test.YtgjmbokfenpefaaGreatDoorM24
import Derived.Test.YtgjmbokfenpefaaGreatDoorM25
import Derived.Test.YtgjmbokfenpefaaGreatDoorM26
/- The keeps' play: acts on a new directory, and what each name has in each epoch. -/
namespace Go.Proofs.YtgjmbokfenpefaaGreatDoor
open Go.RowKit Go.Maps

/-- One act of the keeps, done: nothing is done but to put and to publish. -/
def stepK (pa : Pub) (d : Dst) (x : Hd) : Dst := if x.epoch = 0 then (putAns d x.root x.prev).1 else if x.epoch = 1 then (pa.f d).1 else d
def playK (pa : Pub) (d : Dst) (L : List Hd) : Dst := L.foldl (stepK pa) d
theorem stepK_ok {pa : Pub} {d : Dst} (h : DOk d) (x : Hd) : DOk (stepK pa d x) := by
  unfold stepK
  split
  · exact putAns_ok h _ _
  · split
    · exact pa.ok h
    · exact h
theorem playK_ok {pa : Pub} {d : Dst} (h : DOk d) (L : List Hd) : DOk (playK pa d L) := by
  unfold playK
  induction L generalizing d with
  | nil => exact h
  | cons x L ih => exact ih (stepK_ok h x)
theorem playK_next {pa : Pub} {d : Dst} {L : List Hd} {k : Nat} {x : Hd} (h : L[k]? = some x) : playK pa d (L.take (k + 1)) = stepK pa (playK pa d (L.take k)) x := by
  unfold playK
  rw [List.take_add_one, h, List.foldl_append]
  rfl
/-- What each name has, or waits for. -/
def nowOf (d : Dst) (s : ByteArray) : Option ByteArray := (look d.wait s).or (look d.vals s)
theorem nowOf_put {d : Dst} {name value : ByteArray} {d' : Dst} (h : putAns d name value = (d', 0)) (s : ByteArray) : nowOf d' s = if s = name then some value else nowOf d s := by
  unfold putAns at h
  split at h
  · split at h
    · split at h
      · simp only [Prod.mk.injEq] at h
        obtain ⟨rfl, _⟩ := h
        unfold nowOf
        by_cases e : s = name
        · subst e
          rw [if_pos rfl]
          show (look (ups d.wait s value) s).or _ = _
          rw [look_ups_same]; rfl
        · rw [if_neg e]
          show (look (ups d.wait name value) s).or _ = _
          rw [look_ups_other _ _ _ _ e]
      · simp at h
    · simp at h
  · simp at h
theorem put_kept {d : Dst} {name value : ByteArray} {d' : Dst} {n : Int} (h : putAns d name value = (d', n)) : d'.eps = d.eps ∧ d'.vals = d.vals ∧ (n ≠ 0 → d' = d) := by
  unfold putAns at h
  repeat' split at h
  all_goals
    simp only [Prod.mk.injEq] at h
    obtain ⟨rfl, rfl⟩ := h
    exact ⟨rfl, rfl, fun e => by first | rfl | exact absurd rfl e⟩
theorem publish_now {pa : Pub} {d : Dst} (h : DOk d) {d' : Dst} {sg : Sgn} (hp : pa.f d = (d', sg, 0)) : (∀ s, look d'.vals s = nowOf d s) ∧ (∀ s, nowOf d' s = nowOf d s) ∧ d'.eps.length = d.eps.length + 1 := by
  rcases pa.cases d with ⟨_, e⟩ | e <;> rw [e] at hp
  · obtain ⟨rfl, _⟩ := Prod.mk.inj hp
    have hv : ∀ s, look (settled d).vals s = nowOf d s := fun s => (settled_look h s).1
    refine ⟨hv, fun s => ?_, by show (d.eps ++ [pa.sgn d]).length = _; simp⟩
    show (look ([] : List (ByteArray × ByteArray)) s).or (look (settled d).vals s) = _
    rw [look_nil, hv]; rfl
  · obtain ⟨_, h2⟩ := Prod.mk.inj hp
    exact absurd (Prod.mk.inj h2).2 (by decide)
/-- What play hands over: as many maps as epochs; the last one tells what is there. -/
structure PastAt (B : Nat) (F : Nat → Prop) (w : World) (v : Value) (d : Dst) (P : List Nat) : Prop where
  len : P.length = d.eps.length
  row : Row w B 1 v P.length (P.map fun b => Value.map (some b))
  last : ∀ b, P.getLast? = some b → B ≤ b ∧ ¬ F b ∧ v.ownBlock ≠ some b ∧ ∃ N, MapIs kS w b N ∧ ∀ s, look N s = look d.vals s
  off : ∀ k, v.ownBlock = some k → ¬ F k
def PastIs (B : Nat) (F : Nat → Prop) (w : World) (v : Value) (d : Dst) : Prop := ∃ P, PastAt B F w v d P
theorem PastAt.grew {B : Nat} {F F' : Nat → Prop} {w w' : World} {v : Value} {d d' : Dst} {P : List Nat} (h : PastAt B F w v d P) (ho : Off F w w') (hg : Grew w F F') (he : d'.eps.length = d.eps.length) (hv : d'.vals = d.vals) : PastAt B F' w' v d' P where
  len := h.len.trans he.symm
  row := h.row.kept (fun k hk => ho.block k (h.row.lt k hk).2 (h.off k hk)) ho.size
  last b hb := by
    obtain ⟨h1, h2, h3, N, hm, hl⟩ := h.last b hb
    refine ⟨h1, fun hf => ?_, h3, N, hm.block (ho.block b hm.lt h2), by rw [hv]; exact hl⟩
    rcases hg b hf with e | e
    · exact h2 e
    · have := hm.lt; omega
  off k hk hf := by
    rcases hg k hf with e | e
    · exact h.off k hk e
    · have := (h.row.lt k hk).2; omega
theorem PastAt.below {B : Nat} {F : Nat → Prop} {w w' : World} {v : Value} {d : Dst} {P : List Nat} (h : PastAt B F w v d P) (hb : Below w.heap.size w w') : PastAt B F w' v d P where
  len := h.len
  row := h.row.belowAll hb
  last b e := by
    obtain ⟨h1, h2, h3, N, hm, hl⟩ := h.last b e
    exact ⟨h1, h2, h3, N, hm.block (hb.block b hm.lt), hl⟩
  off := h.off
/-- A block apart from all that turned. -/
theorem PastAt.upd {B : Nat} {F : Nat → Prop} {w w' : World} {v : Value} {d : Dst} {P : List Nat} (h : PastAt B F w v d P) {q : Nat} (hg : w.grownBy w' (some q)) (h1 : v.ownBlock ≠ some q) (h2 : ∀ b, P.getLast? = some b → b ≠ q) : PastAt B F w' v d P where
  len := h.len
  row := h.row.kept (fun k hk => hg.block k (h.row.lt k hk).2 (fun e => h1 (by rw [hk]; exact e.symm ▸ rfl))) hg.size
  last b e := by
    obtain ⟨g1, g2, g3, N, hm, hl⟩ := h.last b e
    exact ⟨g1, g2, g3, N, hm.block (hg.block b hm.lt (fun e' => h2 b e (Option.some.inj e'))), hl⟩
  off := h.off
theorem copy_snoc (L : List (ByteArray × ByteArray)) (N : List (ByteArray × ByteArray)) (s x : ByteArray) (S : List ByteArray) (hx : look N s = some x) (h : ∀ t, (t ∈ S → look L t = look N t) ∧ (t ∉ S → look L t = none)) : ∀ t, (t ∈ S ++ [s] → look (ups L s x) t = look N t) ∧ (t ∉ S ++ [s] → look (ups L s x) t = none) := fun t => by
  by_cases e : t = s
  · subst e
    exact ⟨fun _ => by rw [look_ups_same, hx], fun hn => absurd (by simp) hn⟩
  · refine ⟨fun ht => ?_, fun ht => ?_⟩
    · rw [look_ups_other _ _ _ _ e]
      refine (h t).1 ?_
      rcases List.mem_append.1 ht with h1 | h1
      · exact h1
      · exact absurd (List.mem_singleton.1 h1) e
    · rw [look_ups_other _ _ _ _ e]
      exact (h t).2 fun h1 => ht (List.mem_append.2 (.inl h1))
theorem copy_done {L N : List (ByteArray × ByteArray)} {S : List ByteArray} (hp : S.Perm (keysL N)) (h : ∀ t, (t ∈ S → look L t = look N t) ∧ (t ∉ S → look L t = none)) : ∀ t, look L t = look N t := fun t => by
  by_cases ht : t ∈ S
  · exact (h t).1 ht
  · rw [(h t).2 ht]
    exact (look_none.2 fun hk => ht (hp.mem_iff.2 hk)).symm
/-- A map that is copied: those of S have come. -/
structure CopyAt (w5 wr : World) (mm r : Nat) (N : List (ByteArray × ByteArray)) (S : List ByteArray) (M : List (ByteArray × ByteArray)) : Prop where
  map : MapIs kS wr mm M
  copy : ∀ t, (t ∈ S → look M t = look N t) ∧ (t ∉ S → look M t = none)
  len : M.length ≤ S.length
  off : Off (fun b => b = mm ∨ b = r) w5 wr
/-- Worlds in which an act's texts lie. -/
structure ActW (bl of : Nat) (name value : ByteArray) where
  at' : World
  h1 : at'.cell? ⟨bl, of + 1, none⟩ = some (.string name)
  h2 : at'.cell? ⟨bl, of + 2, none⟩ = some (.string value)
/-- Where play stands. -/
structure PlayAt (DF : DirFace) (w wr : World) (p mn : Nat) (F : Nat → Prop) (d : Dst) (N : List (ByteArray × ByteArray)) (v : Value) (P : List Nat) (k : Nat) : Prop where
  below : Below w.heap.size w wr
  is : DF.Is F wr p d
  base : ∀ k, F k → w.heap.size ≤ k
  map : MapIs kS wr mn N
  len : N.length ≤ k
  now : ∀ s, look N s = nowOf d s
  past : PastAt w.heap.size F wr v d P
  nf : ¬ F mn
  nb : w.heap.size ≤ mn
  no : v.ownBlock ≠ some mn
  ne : ∀ b, P.getLast? = some b → b ≠ mn
  ok : DOk d

theorem PlayAt.put {DF : DirFace} {w wr w' : World} {p mn : Nat} {F F' : Nat → Prop} {d d' : Dst} {N : List (ByteArray × ByteArray)} {v : Value} {P : List Nat} {k : Nat} (h : PlayAt DF w wr p mn F d N v P k) (ho : Off F wr w') (hg : Grew wr F F') (hi : DF.Is F' w' p d') (hok : DOk d') (he : d'.eps.length = d.eps.length) (hv : d'.vals = d.vals) (hn : ∀ s, look N s = nowOf d' s) : PlayAt DF w w' p mn F' d' N v P k where
  below := h.below.trans (ho.below h.base h.below.size)
  is := hi
  base := hg.base h.base h.below.size
  map := h.map.block (ho.block mn h.map.lt h.nf)
  len := h.len
  now := hn
  past := h.past.grew ho hg he hv
  nf := fun hf => by
    rcases hg mn hf with e | e
    · exact h.nf e
    · have := h.map.lt; omega
  nb := h.nb
  no := h.no
  ne := h.ne
  ok := hok
theorem PlayAt.below' {DF : DirFace} {w wr w' : World} {p mn : Nat} {F : Nat → Prop} {d : Dst} {N : List (ByteArray × ByteArray)} {v : Value} {P : List Nat} {k : Nat} (h : PlayAt DF w wr p mn F d N v P k) (hb : Below wr.heap.size wr w') : PlayAt DF w w' p mn F d N v P k where
  below := h.below.trans (hb.mono h.below.size)
  is := DF.same h.is (same_of_below hb (DF.lt h.is))
  base := h.base
  map := h.map.block (hb.block mn h.map.lt)
  len := h.len
  now := h.now
  past := h.past.below hb
  nf := h.nf
  nb := h.nb
  no := h.no
  ne := h.ne
  ok := h.ok
theorem PlayAt.more {DF : DirFace} {w wr : World} {p mn : Nat} {F : Nat → Prop} {d : Dst} {N : List (ByteArray × ByteArray)} {v : Value} {P : List Nat} {k : Nat} (h : PlayAt DF w wr p mn F d N v P k) : PlayAt DF w wr p mn F d N v P (k + 1) :=
  ⟨h.below, h.is, h.base, h.map, Nat.le_succ_of_le h.len, h.now, h.past, h.nf, h.nb, h.no, h.ne, h.ok⟩
theorem infoM : (Tryz.prog.info? 36).map (fun i => (i.zero, i.size, i.bytes)) = some (some (.map none), 1, 8) := by kernel_rfl
set_option maxHeartbeats 4000000 in
set_option maxRecDepth 100000 in
theorem play_any (DF : DirFace) (L : List Hd) (A : Option Addr) (cap : Nat) (w : World) (hk : HasK w) (hm : Hds w A L) (hL : L.length ≤ 40) (hs : ∀ x ∈ L, x.root.size ≤ 60 ∧ x.prev.size ≤ 60) :
    Calls Tryz.prog 24 #[.slice A L.length cap] w fun e w' => ∃ (p : Nat) (F : Nat → Prop) (v : Value), e = .returned (.tuple #[.pointer (some ⟨p, 0, none⟩), v]) ∧ Below w.heap.size w w' ∧ DF.Is F w' p (playK DF.pa (newDst sec16) L) ∧ (∀ k, F k → w.heap.size ≤ k) ∧ PastIs w.heap.size F w' v (playK DF.pa (newDst sec16) L) := by
  have HK := Lib.hid hk
  have HM := Lib.hid hm
  have HS := Lib.hid hs
  have HE0 := Lib.hid (show errOf 0 = Value.nilIface from rfl)
  clear hk hm hs
  go_enter Tryz.func24, Tryz.ntmps24
  go_wp2_with fail
  refine (DF.new_t sec16 _ sec16_size HK.out).mono ?_
  rintro e w1 ⟨p, F, rfl, hb1, hd1, hf1⟩
  have HB1 := Lib.hid hb1
  have HD1 := Lib.hid hd1
  have HF1 := Lib.hid hf1
  clear hb1 hd1 hf1
  have hmm := @run_makeMap Tryz.prog
  go_wp2
  clear hmm
  have HST := Lib.hid (show PlayAt DF w ((w1.alloc (.map #[] 0)).alloc (.cells #[] 36)) p w1.heap.size F (newDst sec16) [] (.slice (some ⟨w1.heap.size + 1, 0, none⟩) 0 0) [] 0 from by
    have hb : Below w1.heap.size w1 ((w1.alloc (.map #[] 0)).alloc (.cells #[] 36)) := (alloc_below w1 _).alloc (by simp) _
    refine ⟨HB1.out.trans (hb.mono HB1.out.size), DF.same HD1.out (same_of_below hb (DF.lt HD1.out)), HF1.out, ?_, Nat.le_refl 0, fun s => rfl, ⟨rfl, ⟨rfl, .inr ⟨w1.heap.size + 1, 0, rfl, ?_, ?_, Nat.le_refl 0, (fun j u h => by simp at h), fun j hj => by omega⟩⟩, (fun b h => by simp at h), fun k hk hf => ?_⟩, fun hf => ?_, HB1.out.size, fun e => ?_, (fun b h => by simp at h), newDst_ok sec16_size⟩
    · exact (MapIs.made kS w1).block (Below.heap_alloc _ _ _ (by simp))
    · have := HB1.out.size; omega
    · simp
    · have h1 := DF.lt HD1.out k hf
      have h2 : w1.heap.size + 1 = k := Option.some.inj hk
      omega
    · have h1 := DF.lt HD1.out _ hf; omega
    · have h2 : w1.heap.size + 1 = w1.heap.size := Option.some.inj e
      omega)
  generalize (w1.alloc (.map #[] 0)).alloc (.cells #[] 36) = w2 at HST
  obtain ⟨mn, hmn⟩ : ∃ mn, w1.heap.size = mn := ⟨_, rfl⟩
  rw [hmn] at HST ⊢
  clear hmn HB1 HD1 HF1
  go_loopw [7, 8] (fun v i wr => ∃ k : Nat, k ≤ L.length ∧ i = .int .i64 (k : Int) ∧ Hid (∃ F d N P, d = playK DF.pa (newDst sec16) (L.take k) ∧ PlayAt DF w wr p mn F d N v P k)) (fun _ i _ => L.length - (intOf i).toNat)
  case atStart => exact ⟨0, by omega, rfl, Lib.hid ⟨F, _, [], [], rfl, HST.out⟩⟩
  case round =>
    clear HST
    obtain ⟨k, hkl, rfl, HU⟩ := hrel
    obtain ⟨F1, d, N, P, hd, hat⟩ := HU.out
    have HDE := Lib.hid hd
    have HAT := Lib.hid hat
    clear hd hat HU
    by_cases hlt : k < L.length
    · have HMK := Lib.hid (show Hds wr A L from HM.out.below HAT.out.below)
      obtain ⟨a, rfl, hal, c0, c1, c2⟩ := HMK.out.at_ hlt
      have d1 : wr.cell? ⟨(a.add (k * 3)).block, (a.add (k * 3)).off + 1, none⟩ = some (.string (hdAt L k).root) := c1
      have d2 : wr.cell? ⟨(a.add (k * 3)).block, (a.add (k * 3)).off + 2, none⟩ = some (.string (hdAt L k).prev) := c2
      have HX := Lib.hid (show L[k]? = some (hdAt L k) by rw [List.getElem?_eq_getElem hlt, hdAt_of hlt])
      have HXS := Lib.hid (HS.out (hdAt L k) (by rw [hdAt_of hlt]; exact List.getElem_mem _))
      generalize hdAt L k = x at c0 d1 d2 HX HXS
      clear c1 c2
      have hk0 : (0 : Int) ≤ (k : Int) := by omega
      have hk1 : (k : Int) < (L.length : Int) := by omega
      have HKW := Lib.hid (HK.out.below HAT.out.below HK.out.lt)
      by_cases h0 : x.epoch = 0
      · have HST := Lib.hid (show playK DF.pa (newDst sec16) (L.take (k + 1)) = (putAns d x.root x.prev).1 by rw [playK_next HX.out, ← HDE.out]; unfold stepK; rw [if_pos h0])
        rw [h0] at c0
        clear h0
        obtain ⟨d', n, hpa⟩ : ∃ d' n, putAns d x.root x.prev = (d', n) := ⟨_, _, rfl⟩
        have HPA := Lib.hid hpa
        have HOK2 := Lib.hid (show DOk d' from by have := putAns_ok HAT.out.ok x.root x.prev; rw [hpa] at this; exact this)
        clear hpa
        go_upto_region 11 with (fail)
        have HBL := Lib.hid (show (a.add (k * 3)).block < w.heap.size from by
          rw [block_add]
          obtain ⟨a', ha', hl', _⟩ := HM.out 0 _ (List.getElem?_eq_getElem (show 0 < L.length by omega))
          obtain rfl := Option.some.inj ha'
          exact hl')
        have HWW := Lib.hid HAT.out.below.size
        have z1 : ∀ z : ActW (a.add (k * 3)).block (a.add (k * 3)).off x.root x.prev, z.at'.cell? ⟨(a.add (k * 3)).block, (a.add (k * 3)).off + 1, none⟩ = some (.string x.root) := fun z => z.h1
        have z2 : ∀ z : ActW (a.add (k * 3)).block (a.add (k * 3)).off x.root x.prev, z.at'.cell? ⟨(a.add (k * 3)).block, (a.add (k * 3)).off + 2, none⟩ = some (.string x.prev) := fun z => z.h2
        have zn : Nonempty (ActW (a.add (k * 3)).block (a.add (k * 3)).off x.root x.prev) := ⟨⟨wr.drew, d1, d2⟩⟩
        have HZ := Lib.hid (show ∀ u : World, u.cell? ⟨(a.add (k * 3)).block, (a.add (k * 3)).off + 1, none⟩ = some (.string x.root) → u.cell? ⟨(a.add (k * 3)).block, (a.add (k * 3)).off + 2, none⟩ = some (.string x.prev) → ∃ z : ActW (a.add (k * 3)).block (a.add (k * 3)).off x.root x.prev, u = z.at' from fun u h1 h2 => ⟨⟨u, h1, h2⟩, rfl⟩)
        have HD1 := Lib.hid (show wr.cell? ⟨(a.add (k * 3)).block, (a.add (k * 3)).off + 1, none⟩ = some (.string x.root) ∧ wr.cell? ⟨(a.add (k * 3)).block, (a.add (k * 3)).off + 2, none⟩ = some (.string x.prev) from ⟨d1, d2⟩)
        have zs := HZ.out wr.drew d1 d2
        refine wp_region_taken (fun u => ∃ z : ActW (a.add (k * 3)).block (a.add (k * 3)).off x.root x.prev, u = z.at') [0, 1, 2, 3, 4, 5, 6, 7, 8, 9, 10] [11, 12] (by kernel_rfl) (by kernel_rfl) (by intro c d v a w h; cases d <;> exact h) zs ?_
        simp only [pickOps, List.filterMap_cons, List.filterMap_nil, List.getElem?_cons_zero, List.getElem?_cons_succ]
        clear d1 d2 c0
        repeat (first | go_big_quiet_step (fail) | quiet_step (fail))
        refine wpQuiet_nil ?_
        clear z1 z2 zn zs
        refine wpSeq_one rfl (fun K' hK => ?_)
        go_wp2_with fail
        refine (DF.put F1 p d d' x.root x.prev n wr.drew (DF.same HAT.out.is ⟨Nat.le_refl _, fun _ _ => rfl⟩) HAT.out.ok HKW.out (by have := HXS.out.1; omega) (by have := HXS.out.2; omega) HPA.out).mono ?_
        rintro e w3 ⟨rfl, F3, ho3, hg3, hi3⟩
        have HO3 := Lib.hid (show Off F1 wr w3 from ⟨ho3.os, ho3.tape, ho3.output, ho3.size, ho3.block⟩)
        have HG3 := Lib.hid (show Grew wr F1 F3 from hg3)
        have HI3 := Lib.hid hi3
        have HC3 := Lib.hid (show w3.cell? ⟨(a.add (k * 3)).block, (a.add (k * 3)).off + 1, none⟩ = some (.string x.root) ∧ w3.cell? ⟨(a.add (k * 3)).block, (a.add (k * 3)).off + 2, none⟩ = some (.string x.prev) from
          ⟨(off_cell HO3.out (p := ⟨(a.add (k * 3)).block, (a.add (k * 3)).off + 1, none⟩) (by have := HBL.out; have := HWW.out; show (a.add (k * 3)).block < _; omega) (fun h => by have h0 : w.heap.size ≤ (a.add (k * 3)).block := HAT.out.base _ h; have := HBL.out; omega)).trans HD1.out.1,
          (off_cell HO3.out (p := ⟨(a.add (k * 3)).block, (a.add (k * 3)).off + 2, none⟩) (by have := HBL.out; have := HWW.out; show (a.add (k * 3)).block < _; omega) (fun h => by have h0 : w.heap.size ≤ (a.add (k * 3)).block := HAT.out.base _ h; have := HBL.out; omega)).trans HD1.out.2⟩)
        clear ho3 hg3 hi3
        have HPK := Lib.hid (put_kept HPA.out)
        have HMN := Lib.hid (HAT.out.map.block (HO3.out.block mn HAT.out.map.lt HAT.out.nf))
        have HPS := Lib.hid (show PastAt w.heap.size F3 w3 u7 d' P from HAT.out.past.grew HO3.out HG3.out (by rw [HPK.out.1]) HPK.out.2.1)
        have HNF := Lib.hid (show ¬ F3 mn from fun h => by
          rcases HG3.out mn h with e | e
          · exact HAT.out.nf e
          · have := HAT.out.map.lt; omega)
        have HBE := Lib.hid (HAT.out.below.trans (HO3.out.below HAT.out.base HAT.out.below.size))
        have HBA := Lib.hid (HG3.out.base HAT.out.base HAT.out.below.size)
        by_cases hn : n = 0
        · subst hn
          rw [HE0.out]
          go_wp2
          refine hK _ _ (HZ.out _ HC3.out.1 HC3.out.2) ?_
          clear hK K'
          refine wpSeq_last rfl (fun K' hK => ?_)
          go_wp2
          refine hK _ _ ?_
          clear hK K'
          go_upto_region 12 with (fail)
          obtain ⟨d1, d2⟩ := HC3.out
          have z1 : ∀ z : ActW (a.add (k * 3)).block (a.add (k * 3)).off x.root x.prev, z.at'.cell? ⟨(a.add (k * 3)).block, (a.add (k * 3)).off + 1, none⟩ = some (.string x.root) := fun z => z.h1
          have z2 : ∀ z : ActW (a.add (k * 3)).block (a.add (k * 3)).off x.root x.prev, z.at'.cell? ⟨(a.add (k * 3)).block, (a.add (k * 3)).off + 2, none⟩ = some (.string x.prev) := fun z => z.h2
          have zn : Nonempty (ActW (a.add (k * 3)).block (a.add (k * 3)).off x.root x.prev) := ⟨⟨w3.drew, d1, d2⟩⟩
          have zs := HZ.out w3.drew d1 d2
          refine wp_region_taken (fun u => ∃ z : ActW (a.add (k * 3)).block (a.add (k * 3)).off x.root x.prev, u = z.at') [0, 1, 2, 3, 4, 5, 6, 7, 8, 9, 10] [11] (by kernel_rfl) (by kernel_rfl) (by intro c d v a w h; cases d <;> exact h) zs ?_
          simp only [pickOps, List.filterMap_cons, List.filterMap_nil, List.getElem?_cons_zero, List.getElem?_cons_succ]
          clear d1 d2
          repeat (first | go_big_quiet_step (fail) | quiet_step (fail))
          refine wpQuiet_nil ?_
          clear z1 z2 zn zs
          have HMD := Lib.hid (show MapIs kS w3.drew mn N from HMN.out.block rfl)
          refine wpSeq_last rfl (fun K' hK => ?_)
          go_wp2_with (first | (at_mapUpdate; refine wpList_mapPut kS rfl (.tmp 52) (.tmp 57) (.tmp 62) rfl mn N rfl HMD.out (by have := HAT.out.len; omega) x.root (by have := HXS.out.1; omega) rfl x.prev (show x.prev.size ≤ maxLen by have := HXS.out.2; unfold maxLen; omega) rfl ?_; intro w5 hm5 hg5))
          have HG5 := Lib.hid (show w3.grownBy w5 (some mn) from ⟨hg5.out.os, hg5.out.tape, hg5.out.output, hg5.out.size, hg5.out.block⟩)
          have HAF := Lib.hid (show PlayAt DF w w5 p mn F3 d' (ups N x.root x.prev) u7 P (k + 1) from
            ⟨HBE.out.grown HG5.out HBE.out.size (fun b e => by cases e; exact HAT.out.nb), DF.same HI3.out ⟨HG5.out.size, fun b hb => HG5.out.block b (DF.lt HI3.out b hb) (fun e => HNF.out (by cases e; exact hb))⟩, HBA.out, hm5.out,
              (by have := HAT.out.len; have := ups_length N x.root x.prev; split at this <;> omega), (fun s => by
                rw [nowOf_put HPA.out]
                by_cases e : s = x.root
                · subst e; rw [if_pos rfl, look_ups_same]
                · rw [if_neg e, look_ups_other _ _ _ _ e, HAT.out.now]
                  ), HPS.out.upd HG5.out HAT.out.no HAT.out.ne, HNF.out, HAT.out.nb, HAT.out.no, HAT.out.ne, HOK2.out⟩)
          clear hm5 hg5
          refine hK _ _ ?_
          clear hK K'
          go_wp2
          go_roundw
          case rel => exact ⟨k + 1, by omega, by go_num, Lib.hid ⟨F3, d', _, P, by rw [HST.out, HPA.out], HAF.out⟩⟩
          case measure => simp [intOf]; omega
        · have hen : errOf n = .iface 28 (.int .i64 n) := by unfold errOf; rw [if_neg hn]
          have HAF := Lib.hid (show PlayAt DF w w3 p mn F3 d' N u7 P (k + 1) from
            ⟨HBE.out, HI3.out, HBA.out, HMN.out, Nat.le_succ_of_le HAT.out.len, (by rw [HPK.out.2.2 hn]; exact HAT.out.now), HPS.out, HNF.out, HAT.out.nb, HAT.out.no, HAT.out.ne, HOK2.out⟩)
          rw [hen]
          clear hen hn
          go_wp2
          refine hK _ _ (HZ.out _ HC3.out.1 HC3.out.2) ?_
          clear hK K'
          refine wpSeq_last rfl (fun K' hK => ?_)
          go_wp2
          refine hK _ _ ?_
          clear hK K'
          go_wp2
          go_roundw
          case rel => exact ⟨k + 1, by omega, by go_num, Lib.hid ⟨F3, d', N, P, by rw [HST.out, HPA.out], HAF.out⟩⟩
          case measure => simp [intOf]; omega
      · by_cases h1 : x.epoch = 1
        · have HST := Lib.hid (show playK DF.pa (newDst sec16) (L.take (k + 1)) = (DF.pa.f d).1 by rw [playK_next HX.out, ← HDE.out]; unfold stepK; rw [if_neg h0, if_pos h1])
          rw [h1] at c0
          clear h0 h1 d1 d2
          have HOK2 := Lib.hid (DF.pa.ok HAT.out.ok)
          obtain ⟨d', sg, n, hpa⟩ : ∃ d' sg n, DF.pa.f d = (d', sg, n) := ⟨(DF.pa.f d).1, (DF.pa.f d).2.1, (DF.pa.f d).2.2, rfl⟩
          by_cases hn : n = 0
          · subst hn
            have HPA := Lib.hid hpa
            have HPN := Lib.hid (publish_now HAT.out.ok hpa)
            rw [hpa] at HST HOK2
            clear hpa
            go_wp2_with fail
            clear c0
            refine (DF.publish F1 p d d' sg 0 _ HAT.out.is HAT.out.ok HKW.out HPA.out).mono ?_
            rintro e w3 ⟨m, F3, hms, rfl, ho3, hg3, hi3, -, -, -, -⟩
            rw [HE0.out]
            have hb5 : Below w3.heap.size w3 ((w3.alloc (.cells #[.int .i64 sg.head.epoch, .string sg.head.root, .string sg.head.prev, .int .i64 sg.key, .slice m.A sg.sig.length m.ca, .slice m.B sg.path.length m.cb] 57)).alloc (.map #[] 0)) := (alloc_below w3 _).alloc (by simp) _
            have HBE := Lib.hid (HAT.out.below.trans (ho3.below HAT.out.base HAT.out.below.size))
            have HBA := Lib.hid (hg3.base HAT.out.base HAT.out.below.size)
            have HI5 := Lib.hid (DF.same hi3 (same_of_below hb5 (DF.lt hi3)))
            have HF3 := Lib.hid (show ∀ b, F3 b → b < w3.heap.size from DF.lt hi3)
            have HMN := Lib.hid ((HAT.out.map.block (ho3.block mn HAT.out.map.lt HAT.out.nf)).block (hb5.block mn (Nat.lt_of_lt_of_le HAT.out.map.lt ho3.size)))
            have HNF := Lib.hid (show ¬ F3 mn from fun h => by
              rcases hg3 mn h with e | e
              · exact HAT.out.nf e
              · have := HAT.out.map.lt; omega)
            have HROW := Lib.hid ((HAT.out.past.row.kept (fun b hb => ho3.block b (HAT.out.past.row.lt b hb).2 (HAT.out.past.off b hb)) ho3.size).belowAll hb5)
            have HVL := Lib.hid (show ∀ b, u7.ownBlock = some b → b < w3.heap.size ∧ ¬ F3 b from fun b hb => ⟨Nat.lt_of_lt_of_le (HAT.out.past.row.lt b hb).2 ho3.size, fun hf => by
              rcases hg3 b hf with e | e
              · exact HAT.out.past.off b hb e
              · have := (HAT.out.past.row.lt b hb).2; omega⟩)
            have HMN3 := Lib.hid (show mn < w3.heap.size from Nat.lt_of_lt_of_le HAT.out.map.lt ho3.size)
            have HMM := Lib.hid (show MapIs kS ((w3.alloc (.cells #[.int .i64 sg.head.epoch, .string sg.head.root, .string sg.head.prev, .int .i64 sg.key, .slice m.A sg.sig.length m.ca, .slice m.B sg.path.length m.cb] 57)).alloc (.map #[] 0)) (w3.heap.size + 1) [] from by have h := MapIs.made kS (w3.alloc (.cells #[.int .i64 sg.head.epoch, .string sg.head.root, .string sg.head.prev, .int .i64 sg.key, .slice m.A sg.sig.length m.ca, .slice m.B sg.path.length m.cb] 57)); rwa [World.size_alloc] at h)
            have HZ5 := Lib.hid (show ((w3.alloc (.cells #[.int .i64 sg.head.epoch, .string sg.head.root, .string sg.head.prev, .int .i64 sg.key, .slice m.A sg.sig.length m.ca, .slice m.B sg.path.length m.cb] 57)).alloc (.map #[] 0)).heap.size = w3.heap.size + 2 by simp)
            have HB5 := Lib.hid (HBE.out.trans (hb5.mono HBE.out.size))
            have hmm := @run_makeMap Tryz.prog
            clear hms ho3 hg3 hi3 hb5
            go_upto_region 17 with (fail)
            clear hmm
            generalize (w3.alloc (.cells #[.int .i64 sg.head.epoch, .string sg.head.root, .string sg.head.prev, .int .i64 sg.key, .slice m.A sg.sig.length m.ca, .slice m.B sg.path.length m.cb] 57)).alloc (.map #[] 0) = w5 at HI5 HMN HROW HMM HZ5 HB5 ⊢
            obtain ⟨mm, hmm⟩ : ∃ mm, w3.heap.size + 1 = mm := ⟨_, rfl⟩
            rw [hmm] at HMM ⊢
            have HME := Lib.hid hmm
            clear hmm
            go_wp2_with (first | (at_range; refine wpList_mapRange kS rfl (.tmp 73) rfl mn N rfl HMN.out ?_; intro w6 hrg6 hg6 hs6))
            go_frame
            obtain ⟨r, hr⟩ : ∃ r, w5.heap.size = r := ⟨_, rfl⟩
            rw [hr] at hrg6 ⊢
            have HRE := Lib.hid hr
            have HR6 := Lib.hid (show Rng kS w6 mn r N [] N.length from hrg6.out)
            have hb56 := grownBy.below hg6.out (Nat.le_refl _) (fun k hk => by cases hk)
            have HCP := Lib.hid (show CopyAt w5 w6 mm r N [] [] from ⟨HMM.out.block (hb56.block mm HMM.out.lt), fun t => ⟨(fun h => by cases h), fun _ => rfl⟩, Nat.le_refl 0, Off.of_below hb56⟩)
            clear hr hrg6 hg6 hs6 hb56 HMM
            go_loopw [12, 13] (fun _ _ wr => ∃ S cnt M, Rng kS wr mn r N S cnt ∧ CopyAt w5 wr mm r N S M) (fun _ _ wr => wr.rangeLeft mn r)
            case atStart => exact ⟨[], _, [], HR6.out, HCP.out⟩
            case round =>
              clear HR6 HCP
              obtain ⟨S, cnt, M, hr, hcp⟩ := hrel
              have HRG := Lib.hid hr
              have HCP := Lib.hid hcp
              clear hr hcp
              go_wp2_with (first | (at_next; refine wpList_mapNext kS rfl (.tmp 74) rfl mn r N S cnt rfl HRG.out ?_ ?_))
              · intro hperm
                have HCD := Lib.hid (copy_done hperm HCP.out.copy)
                clear hperm
                have HOU := Lib.hid (show ∀ b, (b = mm ∨ b = r) → w3.heap.size < b from fun b e => by
                  have h1 := HME.out; have h2 := HRE.out; have h3 := HZ5.out
                  rcases e with e | e <;> omega)
                have HROW2 := Lib.hid (HROW.out.kept (fun b hb => HCP.out.off.block b (HROW.out.lt b hb).2 (fun e => by have := HOU.out b e; have := (HVL.out b hb).1; omega)) HCP.out.off.size)
                have HIW := Lib.hid (DF.same HI5.out (HCP.out.off.same (DF.lt HI5.out) (fun b hb e => by have := HOU.out b e; have := HF3.out b hb; omega)))
                have HBW := Lib.hid (HB5.out.trans (HCP.out.off.below (B := w.heap.size) (fun b e => by have := HOU.out b e; have := HBE.out.size; omega) HB5.out.size))
                have hpl : P.length ≤ 8 := by rw [HAT.out.past.len]; exact HAT.out.ok.few
                have HMW := Lib.hid HRG.out.map
                have HMM := Lib.hid HCP.out.map
                clear HCP HRG
                go_wp2_with (at_builtin; refine wpList_append_new rfl (.tmp 83) (.tmp 85) 81 rfl 36 Tryz.underlying81 (.map none) 8 infoM rfl (by decide) w.heap.size _ P.length _ rfl HROW2.out HBW.out.size (by omega) [.map (some mm)] 1 rfl (by decide) rfl (by simp; rfl) 36 ?_; intro v8 w8 hr8 hg8 hm8)
                have HAF := Lib.hid (show PlayAt DF w w8 p mn F3 d' N v8 (P ++ [mm]) (k + 1) from by
                  have hg : wr.grownBy w8 u7.ownBlock := hg8.out
                  have hmv : v8.ownBlock = u7.ownBlock ∨ ∀ b, v8.ownBlock = some b → wr.heap.size ≤ b := hm8.out
                  have hme := HME.out
                  have hmn := HMN3.out
                  have hwz : w3.heap.size < wr.heap.size := by have := HMM.out.lt; omega
                  have hown : ∀ b, v8.ownBlock = some b → u7.ownBlock = some b ∨ wr.heap.size ≤ b := fun b hb => by
                    rcases hmv with e | e
                    · exact .inl (by rw [← e]; exact hb)
                    · exact .inr (e b hb)
                  refine ⟨HBW.out.grown hg HBW.out.size (fun j hj => (HROW2.out.lt j hj).1), DF.same HIW.out ⟨hg.size, fun b hb => hg.block b (DF.lt HIW.out b hb) (fun e => (HVL.out b e.symm).2 hb)⟩, HBA.out, HMW.out.block (hg.block mn HMW.out.lt (fun e => HAT.out.no e.symm)), Nat.le_succ_of_le HAT.out.len, (fun s => by rw [HPN.out.2.1]; exact HAT.out.now s), ⟨?_, ?_, fun b hb => ?_, fun b hb hf => ?_⟩, HNF.out, HAT.out.nb, fun e => ?_, fun b hb => ?_, HOK2.out⟩
                  · rw [List.length_append, HPN.out.2.2, HAT.out.past.len]; rfl
                  · have h := hr8.out
                    rw [List.length_append, List.map_append]
                    exact h
                  · rw [List.getLast?_concat] at hb
                    obtain rfl := Option.some.inj hb
                    refine ⟨by have := HBE.out.size; omega, fun hf => by have := HF3.out _ hf; omega, fun e => ?_, _, HMM.out.block (hg.block _ HMM.out.lt (fun e => by have := (HVL.out _ e.symm).1; omega)), fun s => by rw [HCD.out s, HAT.out.now s, HPN.out.1]⟩
                    rcases hown _ e with h1 | h1
                    · have := (HVL.out _ h1).1; omega
                    · have := HMM.out.lt; omega
                  · rcases hown b hb with h1 | h1
                    · exact (HVL.out b h1).2 hf
                    · have := HF3.out b hf; omega
                  · rcases hown _ e with h1 | h1
                    · exact HAT.out.no h1
                    · omega
                  · rw [List.getLast?_concat] at hb
                    obtain rfl := Option.some.inj hb
                    omega)
                clear hr8 hg8 hm8 hpl
                go_roundw
                case rel => exact ⟨k + 1, by omega, by go_num, Lib.hid ⟨F3, d', N, _, HST.out.symm, HAF.out⟩⟩
                case measure => simp [intOf]; omega
              · intro s y w7 cnt' hlk hns hgd hrg7 hlt7 hg7 hs7 hen
                have HLK := Lib.hid hlk
                have HOU := Lib.hid (show mm ≠ r ∧ mm ≠ mn ∧ r ≠ mn from by have h1 := HME.out; have h2 := HRE.out; have h3 := HZ5.out; have h4 := HMN3.out; omega)
                have HMM7 := Lib.hid (HCP.out.map.block (hg7.out.block mm HCP.out.map.lt (fun e => HOU.out.1 (Option.some.inj e))))
                have HO7 := Lib.hid (HCP.out.off.trans (Off.of_grown (F := fun b => b = mm ∨ b = r) hg7.out (fun b e => .inr (Option.some.inj e).symm)) (fun _ _ h => h))
                have HML := Lib.hid (show M.length ≤ S.length ∧ S.length ≤ 61 from ⟨HCP.out.len, by have := HRG.out.room; have := HAT.out.len; omega⟩)
                have HSS := Lib.hid (HRG.out.short _ (look_mem hlk))
                have HRG7 := Lib.hid hrg7.out
                have HCC := Lib.hid (copy_snoc M N s y S hlk HCP.out.copy)
                have HLT := Lib.hid (show wr.rangeLeft mn r = cnt ∧ cnt' < cnt from ⟨HRG.out.left_eq, hlt7.out⟩)
                clear hlk hns hrg7 hlt7 hg7 hs7 HCP HRG
                go_wp2_with (first | (at_mapUpdate; refine wpList_mapPut kS rfl (.tmp 80) (.tmp 81) (.tmp 82) rfl mm M rfl HMM7.out (by have := HML.out; omega) s HSS.out rfl y hgd rfl ?_; intro w8 hm8 hg8))
                have HRG8 := Lib.hid (HRG7.out.block (hg8.out.block mn HRG7.out.map.lt (fun e => HOU.out.2.1 (Option.some.inj e).symm)) (hg8.out.block r HRG7.out.lt (fun e => HOU.out.1 (Option.some.inj e).symm)))
                have HCP8 := Lib.hid (show CopyAt w5 w8 mm r N (S ++ [s]) (ups M s y) from ⟨hm8.out, HCC.out, by have h2 := HML.out.1; have h1 := ups_length M s y; rw [List.length_append, List.length_singleton]; split at h1 <;> omega,
                  HO7.out.trans (Off.of_grown (F := fun b => b = mm ∨ b = r) hg8.out (fun b e => .inl (Option.some.inj e).symm)) (fun _ _ h => h)⟩)
                clear hm8 hg8 hen hgd
                go_roundw
                case rel => first | exact ⟨_, _, _, HRG8.out, HCP8.out⟩ | exact ⟨_, _, HRG8.out, _, HCP8.out⟩ | exact ⟨_, ⟨_, HRG8.out⟩, _, HCP8.out⟩
                case measure =>
                  rw [HRG8.out.left_eq, HLT.out.1]
                  exact HLT.out.2
          · obtain ⟨hd', rfl⟩ := DF.pa.bad hpa hn
            replace hd' := hd'.symm
            subst hd'
            have HPA := Lib.hid hpa
            rw [hpa] at HST
            have h12 : errOf n = .iface 28 (.int .i64 n) := by unfold errOf; rw [if_neg hn]
            clear hpa hn HOK2
            go_wp2_with fail
            clear c0
            refine (DF.publish F1 p d d noSgn n _ HAT.out.is HAT.out.ok HKW.out HPA.out).mono ?_
            rintro e w3 ⟨m, F3, hms, rfl, ho3, hg3, hi3, -, -, -, -⟩
            rw [h12]
            have HAF := Lib.hid (HAT.out.put ho3 hg3 hi3 HAT.out.ok rfl rfl HAT.out.now)
            clear h12 hms ho3 hg3 hi3
            have HAG := Lib.hid (HAF.out.below' (alloc_below w3 (.cells #[.int .i64 noSgn.head.epoch, .string noSgn.head.root, .string noSgn.head.prev, .int .i64 noSgn.key, .slice m.A noSgn.sig.length m.ca, .slice m.B noSgn.path.length m.cb] 57)))
            go_wp2
            go_roundw
            case rel => exact ⟨k + 1, by omega, by go_num, Lib.hid ⟨F3, d, N, P, HST.out.symm, HAG.out.more⟩⟩
            case measure => simp [intOf]; omega
        · have HST := Lib.hid (show playK DF.pa (newDst sec16) (L.take (k + 1)) = d by rw [playK_next HX.out, ← HDE.out]; unfold stepK; rw [if_neg h0, if_neg h1])
          have e0 : (x.epoch == 0) = false := by rw [beq_eq_false_iff_ne]; exact h0
          have e1 : (x.epoch == 1) = false := by rw [beq_eq_false_iff_ne]; exact h1
          clear h0 h1
          go_wp2
          go_roundw
          case rel => exact ⟨k + 1, by omega, by go_num, Lib.hid ⟨F1, d, N, P, HST.out.symm, HAT.out.more⟩⟩
          case measure => simp [intOf]; omega
    · go_wp2
      refine bodyPost_ret (results_tmp2 rfl _ _ _) rfl ?_
      refine ⟨p, F1, _, rfl, HAT.out.below, ?_, HAT.out.base, P, ?_⟩
      · rw [show L = L.take k from (List.take_of_length_le (by omega)).symm, ← HDE.out]; exact HAT.out.is
      · rw [show L = L.take k from (List.take_of_length_le (by omega)).symm, ← HDE.out]; exact HAT.out.past
end Go.Proofs.YtgjmbokfenpefaaGreatDoor
/- The program's directory: Publish. -/
namespace Go.Proofs.YtgjmbokfenpefaaGreatDoor
open Go.RowKit Go.Maps

theorem next_of_chain {d : Dst} (hc : Chained d) (he : d.eps.length < 8) {root : ByteArray} (h16 : root.size = 16) : ∃ y, nextAns (headsOf d) root = (y, 0) ∧ rightHead y = true := by
  have hlen : (headsOf d).length = d.eps.length := by unfold headsOf; simp
  obtain ⟨y, hn, hrt, _⟩ := next_right (L := headsOf d) (root := root) (by rw [hlen]; omega) h16 (fun x hx => by
    rw [List.getLast?_eq_getElem?, hlen] at hx
    have hi : d.eps.length - 1 < d.eps.length := by
      have := (List.getElem?_eq_some_iff.1 hx).1
      rw [hlen] at this
      omega
    obtain ⟨s, hs⟩ : ∃ s, d.eps[d.eps.length - 1]? = some s := ⟨_, List.getElem?_eq_getElem hi⟩
    rw [headsOf_get hs] at hx
    obtain rfl := Option.some.inj hx
    obtain ⟨_, h2, h3, _⟩ := hc.link _ _ hs
    exact ⟨h3, by rw [h2, hlen]; omega⟩)
  exact ⟨y, hn, hrt⟩
theorem open_fresh {d : Dst} (h : DOk d) {Fr : List (ByteArray × (ByteArray × ByteArray))} (hf : ∀ t, look Fr t = (look d.wait t).map (openAt d.secret ((d.eps.length : Int) + 1) t)) : Fresh d Fr := fun s => by
  rw [hf s]
  cases e : look d.wait s with
  | none => rfl
  | some v =>
    have h1 : look (settled d).since s = some ((d.eps.length : Int) + 1) := by rw [(settled_look h s).2, e]; rfl
    show some (openAt d.secret ((d.eps.length : Int) + 1) s v) = some (openOf (settled d) s, v)
    unfold openAt openOf
    rw [h1]
    rfl
theorem says_next {d : Dst} (h : DOk d) {H Fr N : List (ByteArray × (ByteArray × ByteArray))} (hs : Says d H) (hf : Fresh d Fr) (hn : ∀ t, look N t = (look Fr t).or (look H t)) (E : List Sgn) : Says { settled d with eps := E } N := fun s => by
  show look N s = (look (settled d).vals s).map fun v => (openOf (settled d) s, v)
  rw [hn s, hf s, hs s, (settled_look h s).1]
  cases e : look d.wait s with
  | some v => rfl
  | none =>
    have ho := (since_old h (s := s) (by rw [e]; decide)).2.2
    rw [ho]
    cases look d.vals s <;> rfl
structure PbZ (p sb : Nat) (v : Value) (m : SgM) where
  at' : World
  h0 : at'.cell? ⟨p, 5, none⟩ = some v
  h1 : at'.cell? ⟨sb, 0, none⟩ = some (.int .i64 m.s.head.epoch)
  h2 : at'.cell? ⟨sb, 1, none⟩ = some (.string m.s.head.root)
  h3 : at'.cell? ⟨sb, 2, none⟩ = some (.string m.s.head.prev)
  h4 : at'.cell? ⟨sb, 3, none⟩ = some (.int .i64 m.s.key)
  h5 : at'.cell? ⟨sb, 4, none⟩ = some (.slice m.A m.s.sig.length m.ca)
  h6 : at'.cell? ⟨sb, 5, none⟩ = some (.slice m.B m.s.path.length m.cb)
theorem Holds.pbZ {w : World} {p sb : Nat} {v : Value} {m : SgM} {t : TypeId} (h0 : w.cell? ⟨p, 5, none⟩ = some v) (h : Holds w sb 6 (sgF m.s.head m.s.key (.slice m.A m.s.sig.length m.ca) (.slice m.B m.s.path.length m.cb)) t) : ∃ z : PbZ p sb v m, w = z.at' := by
  obtain ⟨c0, c1, c2, c3, c4, c5⟩ := sg_cells h
  exact ⟨⟨w, h0, c0, c1, c2, c3, c4, c5⟩, rfl⟩
set_option maxHeartbeats 1000000 in
set_option maxRecDepth 100000 in
theorem pPublish_full (F : Nat → Prop) (p : Nat) (d : Dst) (w : World) (h : PDir F w p d) (h8 : ¬ d.eps.length < 8) (hf8 : d.eps.length ≤ 8) :
    Calls Tryz.prog 54 #[.pointer (some ⟨p, 0, none⟩)] w fun e w' => e = .returned (.tuple #[.agg #[.int .i64 0, .string ⟨#[]⟩, .string ⟨#[]⟩, .int .i64 0, .slice none 0 0, .slice none 0 0], errOf 12]) ∧ Below w.heap.size w w' := by
  obtain ⟨bb, mh, mw, vi, ve, H, M, h, hme, -⟩ := h
  have hM : M.length = 8 := by have := congrArg List.length hme; rw [List.length_map] at this; omega
  obtain ⟨AE, cE, rfl, -, -⟩ := h.row.sixes
  have HB0 := Lib.hid (alloc_below w (.cells #[.int .i64 0, .string ⟨#[]⟩, .string ⟨#[]⟩, .int .i64 0, .slice none 0 0, .slice none 0 0] 57))
  have HZ0 := Lib.hid (show Holds (w.alloc (.cells #[.int .i64 0, .string ⟨#[]⟩, .string ⟨#[]⟩, .int .i64 0, .slice none 0 0, .slice none 0 0] 57)) w.heap.size 6 (sgF noHd 0 (.slice none 0 0) (.slice none 0 0)) 57 from Holds.new w 6 (sgF noHd 0 (.slice none 0 0) (.slice none 0 0)) 57)
  have c5 : (w.alloc (.cells #[.int .i64 0, .string ⟨#[]⟩, .string ⟨#[]⟩, .int .i64 0, .slice none 0 0, .slice none 0 0] 57)).cell? ⟨p, 5, none⟩ = some (.slice AE 8 cE) := by
    have := (HB0.out.cell (p := ⟨p, 5, none⟩) h.own.lt).trans (h.own.cell 5 (by omega))
    rw [← hM]; exact this
  clear h hme hM h8 hf8
  go_enter Tryz.func54, Tryz.ntmps54
  go_upto_region 1 with (fail)
  generalize w.alloc (.cells #[.int .i64 0, .string ⟨#[]⟩, .string ⟨#[]⟩, .int .i64 0, .slice none 0 0, .slice none 0 0] 57) = w0 at HB0 HZ0 c5 ⊢
  obtain ⟨z0, z1, z2, z3, z4, z5⟩ := sg_cells HZ0.out
  have q0 : w0.frozen? ⟨w.heap.size, 0, none⟩ = false := HZ0.out.free 0
  have q1 : w0.frozen? ⟨w.heap.size, 1, none⟩ = false := HZ0.out.free 1
  have q2 : w0.frozen? ⟨w.heap.size, 2, none⟩ = false := HZ0.out.free 2
  have q3 : w0.frozen? ⟨w.heap.size, 3, none⟩ = false := HZ0.out.free 3
  have q4 : w0.frozen? ⟨w.heap.size, 4, none⟩ = false := HZ0.out.free 4
  have q5 : w0.frozen? ⟨w.heap.size, 5, none⟩ = false := HZ0.out.free 5
  have HFIN := Lib.hid (put6_holds HZ0.out noHd 0 (.slice none 0 0) (.slice none 0 0))
  have HFB := Lib.hid (put6_below HB0.out (Nat.le_refl _) noHd 0 (.slice none 0 0) (.slice none 0 0))
  go_wp2
  refine bodyPost_ret (results_row2 rfl _ _ w.heap.size 57 (arr 6 (sgF noHd 0 (.slice none 0 0) (.slice none 0 0))) (0, 0) _ rfl HFIN.out Tryz.underlying57 rfl (by rw [arr_size]; exact infoSg6)) rfl ?_
  exact ⟨rfl, HFB.out⟩
end Go.Proofs.YtgjmbokfenpefaaGreatDoor
