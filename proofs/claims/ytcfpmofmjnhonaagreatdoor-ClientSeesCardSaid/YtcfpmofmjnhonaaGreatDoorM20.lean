/- Parts of the proof, one behind the other: Gg, RSet, RSet2, RDirI, RDirI2, MapE. -/
import Derived.Ground.GgsProg
import Derived.Shelf.SlSortFuncK.WholeK
import Derived.Shelf.GgSortFunc.Tiny
import Derived.Test.YtcfpmofmjnhonaaGreatDoorProg
import Derived.Test.YtcfpmofmjnhonaaGreatDoorM19
import Derived.Test.YtcfpmofmjnhonaaGreatDoorM10
import Derived.Test.YtcfpmofmjnhonaaGreatDoorM2
import Derived.WideKeyEntry
/- What the library's sort.Slice needs of this program: laid by name, no walk. -/
namespace Go.Proofs
open Go.Shelf
set_option maxRecDepth 100000
def Tryz.laysGg6_ren : Go.Shelf.Ren := ⟨fun | 6 => 108 | 10 => 133 | 11 => 158 | 12 => 159 | 13 => 160 | 14 => 161 | 24 => 211 | 25 => 212 | 26 => 213 | 27 => 214 | 28 => 215 | 29 => 216 | 30 => 217 | 31 => 218 | 32 => 219 | 33 => 220 | 34 => 235 | 35 => 236 | 36 => 237 | 37 => 238 | 38 => 239 | 39 => 253 | n => n, fun | 20 => 20 | 26 => 214 | 35 => 237 | 0 => 0 | 37 => 264 | 3 => 3 | 41 => 188 | 44 => 269 | 49 => 117 | 51 => 124 | 4 => 4 | 54 => 318 | 53 => 317 | 58 => 86 | 5 => 5 | 9 => 9 | 60 => 336 | 64 => 340 | 66 => 351 | 67 => 352 | 17 => 17 | 32 => 234 | 33 => 235 | 82 => 370 | 12 => 12 | 75 => 365 | 76 => 242 | 77 => 366 | 78 => 327 | 79 => 367 | 80 => 368 | n => n, fun | n => n⟩
theorem Tryz.laysGg6 : Go.Proofs.LaysGg.n6 Tryz.prog Tryz.laysGg6_ren := {
  mixed := by kernel_rfl
  f6 := Tryz.func108.trans (congrArg some (by kernel_rfl))
  f10 := Tryz.func133.trans (congrArg some (by kernel_rfl))
  f11 := Tryz.func158.trans (congrArg some (by kernel_rfl))
  f12 := Tryz.func159.trans (congrArg some (by kernel_rfl))
  f13 := Tryz.func160.trans (congrArg some (by kernel_rfl))
  f14 := Tryz.func161.trans (congrArg some (by kernel_rfl))
  f24 := Tryz.func211.trans (congrArg some (by kernel_rfl))
  f25 := Tryz.func212.trans (congrArg some (by kernel_rfl))
  f26 := Tryz.func213.trans (congrArg some (by kernel_rfl))
  f27 := Tryz.func214.trans (congrArg some (by kernel_rfl))
  f28 := Tryz.func215.trans (congrArg some (by kernel_rfl))
  f29 := Tryz.func216.trans (congrArg some (by kernel_rfl))
  f30 := Tryz.func217.trans (congrArg some (by kernel_rfl))
  f31 := Tryz.func218.trans (congrArg some (by kernel_rfl))
  f32 := Tryz.func219.trans (congrArg some (by kernel_rfl))
  f33 := Tryz.func220.trans (congrArg some (by kernel_rfl))
  f34 := Tryz.func235.trans (congrArg some (by kernel_rfl))
  f35 := Tryz.func236.trans (congrArg some (by kernel_rfl))
  f36 := Tryz.func237.trans (congrArg some (by kernel_rfl))
  f37 := Tryz.func238.trans (congrArg some (by kernel_rfl))
  f38 := Tryz.func239.trans (congrArg some (by kernel_rfl))
  f39 := Tryz.func253.trans (congrArg some (by kernel_rfl))
  t0 := Tryz.underlying0
  a0 := Tryz.isAgg0
  z0 := Tryz.sizeOf0
  v0 := Tryz.zeroValue0
  i0 := by kernel_rfl
  t3 := Tryz.underlying3
  a3 := Tryz.isAgg3
  z3 := Tryz.sizeOf3
  v3 := Tryz.zeroValue3
  i3 := by kernel_rfl
  t4 := Tryz.underlying4
  a4 := Tryz.isAgg4
  z4 := Tryz.sizeOf4
  v4 := Tryz.zeroValue4
  i4 := by kernel_rfl
  t5 := Tryz.underlying5
  a5 := Tryz.isAgg5
  z5 := Tryz.sizeOf5
  v5 := Tryz.zeroValue5
  i5 := by kernel_rfl
  t9 := Tryz.underlying9
  a9 := Tryz.isAgg9
  z9 := Tryz.sizeOf9
  v9 := Tryz.zeroValue9
  i9 := by kernel_rfl
  t12 := Tryz.underlying12
  a12 := Tryz.isAgg12
  z12 := Tryz.sizeOf12
  v12 := Tryz.zeroValue12
  i12 := by kernel_rfl
  t17 := Tryz.underlying17
  a17 := Tryz.isAgg17
  z17 := Tryz.sizeOf17
  v17 := Tryz.zeroValue17
  i17 := by kernel_rfl
  t20 := Tryz.underlying20
  a20 := Tryz.isAgg20
  z20 := Tryz.sizeOf20
  v20 := Tryz.zeroValue20
  i20 := by kernel_rfl
  t26 := Tryz.underlying214
  a26 := Tryz.isAgg214
  z26 := Tryz.sizeOf214
  v26 := Tryz.zeroValue214
  i26 := by kernel_rfl
  t32 := Tryz.underlying234
  a32 := Tryz.isAgg234
  z32 := Tryz.sizeOf234
  v32 := Tryz.zeroValue234
  i32 := by kernel_rfl
  t33 := Tryz.underlying235
  a33 := Tryz.isAgg235
  z33 := Tryz.sizeOf235
  v33 := Tryz.zeroValue235
  i33 := by kernel_rfl
  t35 := Tryz.underlying237
  a35 := Tryz.isAgg237
  z35 := Tryz.sizeOf237
  v35 := Tryz.zeroValue237
  i35 := by kernel_rfl
  t37 := Tryz.underlying264
  a37 := Tryz.isAgg264
  z37 := Tryz.sizeOf264
  v37 := Tryz.zeroValue264
  i37 := by kernel_rfl
  t41 := Tryz.underlying188
  a41 := Tryz.isAgg188
  z41 := Tryz.sizeOf188
  v41 := Tryz.zeroValue188
  i41 := by kernel_rfl
  t44 := Tryz.underlying269
  a44 := Tryz.isAgg269
  z44 := Tryz.sizeOf269
  v44 := Tryz.zeroValue269
  i44 := by kernel_rfl
  t49 := Tryz.underlying117
  a49 := Tryz.isAgg117
  z49 := Tryz.sizeOf117
  v49 := Tryz.zeroValue117
  i49 := by kernel_rfl
  t51 := Tryz.underlying124
  a51 := Tryz.isAgg124
  z51 := Tryz.sizeOf124
  v51 := Tryz.zeroValue124
  i51 := by kernel_rfl
  t53 := Tryz.underlying317
  a53 := Tryz.isAgg317
  z53 := Tryz.sizeOf317
  v53 := Tryz.zeroValue317
  i53 := by kernel_rfl
  t54 := Tryz.underlying318
  a54 := Tryz.isAgg318
  z54 := Tryz.sizeOf318
  v54 := Tryz.zeroValue318
  i54 := by kernel_rfl
  t58 := Tryz.underlying86
  a58 := Tryz.isAgg86
  z58 := Tryz.sizeOf86
  v58 := Tryz.zeroValue86
  i58 := by kernel_rfl
  t60 := Tryz.underlying336
  a60 := Tryz.isAgg336
  z60 := Tryz.sizeOf336
  v60 := Tryz.zeroValue336
  i60 := by kernel_rfl
  t64 := Tryz.underlying340
  a64 := Tryz.isAgg340
  z64 := Tryz.sizeOf340
  v64 := Tryz.zeroValue340
  i64 := by kernel_rfl
  t66 := Tryz.underlying351
  a66 := Tryz.isAgg351
  z66 := Tryz.sizeOf351
  v66 := Tryz.zeroValue351
  i66 := by kernel_rfl
  t67 := Tryz.underlying352
  a67 := Tryz.isAgg352
  z67 := Tryz.sizeOf352
  v67 := Tryz.zeroValue352
  i67 := by kernel_rfl
  t75 := Tryz.underlying365
  a75 := Tryz.isAgg365
  z75 := Tryz.sizeOf365
  v75 := Tryz.zeroValue365
  i75 := by kernel_rfl
  t76 := Tryz.underlying242
  a76 := Tryz.isAgg242
  z76 := Tryz.sizeOf242
  v76 := Tryz.zeroValue242
  i76 := by kernel_rfl
  t77 := Tryz.underlying366
  a77 := Tryz.isAgg366
  z77 := Tryz.sizeOf366
  v77 := Tryz.zeroValue366
  i77 := by kernel_rfl
  t78 := Tryz.underlying327
  a78 := Tryz.isAgg327
  z78 := Tryz.sizeOf327
  v78 := Tryz.zeroValue327
  i78 := by kernel_rfl
  t79 := Tryz.underlying367
  a79 := Tryz.isAgg367
  z79 := Tryz.sizeOf367
  v79 := Tryz.zeroValue367
  i79 := by kernel_rfl
  t80 := Tryz.underlying368
  a80 := Tryz.isAgg368
  z80 := Tryz.sizeOf368
  v80 := Tryz.zeroValue368
  i80 := by kernel_rfl
  t82 := Tryz.underlying370
  a82 := Tryz.isAgg370
  z82 := Tryz.sizeOf370
  v82 := Tryz.zeroValue370
  i82 := by kernel_rfl }
end Go.Proofs
/- The document's Set. -/
namespace Go.Proofs.YtcfpmofmjnhonaaGreatDoor
open Go.RowKit Go.Sort Go.Shelf

noncomputable def svT : TypeInfo := (Tryz.prog.info? 132).get (by kernel_rfl)
noncomputable def svE : TypeInfo := (Tryz.prog.info? 61).get (by kernel_rfl)
theorem svK (n : Nat) (h2 : 2 ≤ n) : Lib.swapperK n svE 25 = 9 := by
  have a : svE.hasPointers = true := by kernel_rfl
  have b : svE.bytes = 32 := by kernel_rfl
  have c : (n == 0) = false := by rw [beq_eq_false_iff_ne]; omega
  have d : (n == 1) = false := by rw [beq_eq_false_iff_ne]; omega
  simp [Lib.swapperK, a, b, c, d]
end Go.Proofs.YtcfpmofmjnhonaaGreatDoor
/- The document's Set: the walk. -/
namespace Go.Proofs.YtcfpmofmjnhonaaGreatDoor
open Go.RowKit

theorem grow_grownBy (w : World) (os : Array Obj) (g : Option Nat) : w.grownBy (Go.Sort.grow w os) g :=
  ⟨rfl, rfl, rfl, by unfold Go.Sort.grow; simp, fun k hk _ => grow_block w os k hk⟩
theorem perm_of_in {d d' : Array It} (h : Go.Sort.PermIn 0 d.size d d') : d'.toList.Perm d.toList := by
  obtain ⟨hs, _, hp⟩ := h
  have e1 : d'.extract 0 d.size = d' := by rw [← hs]; simp
  have e2 : d.extract 0 d.size = d := by simp
  rwa [e1, e2] at hp
theorem pairwise_one {α : Type} {R : α → α → Prop} {L : List α} (h : L.length = 1) : L.Pairwise R := by
  obtain ⟨x, rfl⟩ := List.length_eq_one_iff.1 h
  simp
structure SetRel (ob : Nat) (w wr : World) (L : List It) (x : It) (k : Nat) (v : Value) : Prop where
  below : Below w.heap.size w wr
  lt : w.heap.size < ob
  box : Holds wr w.heap.size 2 (fun i => if i = 0 then .string x.1 else .string x.2) 61
  own : Holds wr ob 1 (fun _ => v) 132
  row : Row wr (ob + 1) 2 v (others (L.take k) x).length (itCells (others (L.take k) x))
theorem others_take (L : List It) (k : Nat) (x y : It) (h : L[k]? = some y) : others (L.take (k + 1)) x = others (L.take k) x ++ (if y.1 = x.1 then [] else [y]) := by
  rw [List.take_add_one, h]
  unfold others
  rw [List.filter_append]
  congr 1
  by_cases e : y.1 = x.1 <;> simp [e]
theorem others_le (L : List It) (x : It) : (others L x).length ≤ L.length := List.length_filter_le _ _
/-- The world behind an append to what the variable holds, and the store of it. -/
theorem SetRel.alloc {ob : Nat} {w wr : World} {L : List It} {x : It} {k : Nat} {v : Value} (h : SetRel ob w wr L x k v) (X : Obj) : SetRel ob w (wr.alloc X) L x k v :=
  ⟨h.below.alloc h.below.size _, h.lt, h.box.alloc _, h.own.alloc _, h.row.alloc _⟩
theorem SetRel.after {ob : Nat} {w w2 w3 : World} {L : List It} {x : It} {k : Nat} {v : Value} {X : Obj} (h : SetRel ob w w2 L x k v) (hg : (w2.alloc X).grownBy w3 v.ownBlock) : Holds w3 ob 1 (fun _ => v) 132 := by
  have hown := h.own
  have hob := hown.lt
  unfold Holds at hown ⊢
  rw [hg.block ob (by simp; omega) (fun e => by have := (h.row.lt ob e.symm).1; omega), Below.heap_alloc _ _ _ hob]
  exact hown
theorem SetRel.put {ob : Nat} {w w2 w3 : World} {L : List It} {x y : It} {k : Nat} {v v' : Value} {X : Obj} {K : List It} (h : SetRel ob w w2 L x k v) (hrow : Row w3 (ob + 1) 2 v' K.length (itCells K)) (hg : (w2.alloc X).grownBy w3 v.ownBlock) (_hy : y = y) :
    Below w.heap.size w (w3.setCell ⟨ob, 0, none⟩ v') ∧ Holds (w3.setCell ⟨ob, 0, none⟩ v') w.heap.size 2 (fun i => if i = 0 then .string x.1 else .string x.2) 61 ∧ Holds (w3.setCell ⟨ob, 0, none⟩ v') ob 1 (fun _ => v') 132 ∧
      Row (w3.setCell ⟨ob, 0, none⟩ v') (ob + 1) 2 v' K.length (itCells K) := by
  have hlt := h.lt
  have hb2 : Below w.heap.size w (w2.alloc X) := h.below.alloc h.below.size X
  have hob := h.own.lt
  have keep : ∀ c, c < w2.heap.size → c < ob + 1 → w3.heap[c]? = w2.heap[c]? := fun c hc hc2 =>
    (hg.block c (by simp; omega) (fun e => by have := (h.row.lt c e.symm).1; omega)).trans (Below.heap_alloc _ _ _ hc)
  have hbox := h.box
  have hown := h.own
  refine ⟨(hb2.grown hg (Nat.le_trans h.below.size (by simp)) (fun c hc => by have := (h.row.lt c hc).1; omega)).setCell (p := ⟨ob, 0, none⟩) (Nat.le_of_lt hlt) _, ?_, ?_, hrow.setOther (hrow.fresh (Nat.lt_succ_self _)) _⟩
  · refine Holds.other ?_ (a := ⟨ob, 0, none⟩) (by show w.heap.size ≠ ob; omega) v'
    have := hbox.lt
    unfold Holds at hbox ⊢; rw [keep _ this (by omega)]; exact hbox
  · have h4 : Holds w3 ob 1 (fun _ => v) 132 := by unfold Holds at hown ⊢; rw [keep _ hob (by omega)]; exact hown
    refine (h4.set 0 v').congr fun i hi => ?_
    have : i = 0 := by omega
    subst this; rfl
end Go.Proofs.YtcfpmofmjnhonaaGreatDoor
/- The document's items of a directory: sorted. -/
namespace Go.Proofs.YtcfpmofmjnhonaaGreatDoor
open Go.RowKit Go.Sort Go.Shelf

theorem leI_of_sorted {M : List It} (h : SortedIn ltIB 0 M.length M.toArray) : M.Pairwise leI := by
  rw [List.pairwise_iff_getElem]
  intro i j hi hj hij
  have h1 := h i j (Nat.zero_le _) hij hj
  have e1 : M.toArray[j]! = M[j] := by simp [hj]
  have e2 : M.toArray[i]! = M[i] := by simp [hi]
  rw [e1, e2] at h1
  unfold ltIB ltStr at h1
  have h2 : ¬ M[j].1.data.toList < M[i].1.data.toList := by simpa using h1
  exact h2
set_option maxHeartbeats 2000000 in
theorem less2_any (blk off c Bs size : Nat) (W : World) (G : Nat → ByteArray) (hs : W.cell? ⟨Bs, 0, none⟩ = some (.slice (some ⟨blk, off, none⟩) size c))
    (hc : ∀ t, t < size → W.cell? ⟨blk, off + t * 2, none⟩ = some (.string (G t))) (i j : Nat) (hi : i < size) (hj : j < size) (_hsz : size < 4611686018427387904) :
    Calls Tryz.prog 109 #[.int .i64 i, .int .i64 j, .pointer (some ⟨Bs, 0, none⟩)] W fun e w' => e = .returned (.bool (Op.bytesLess (G i).toList (G j).toList)) ∧ ∃ q, w' = W.drewN q := by
  have ci := hc i hi
  have cj := hc j hj
  go_enter Tryz.func109, Tryz.ntmps109
  go_wp2
  go_quiet (fail)
  go_wp2
  go_ret
  exact ⟨rfl, nq, rfl⟩
set_option maxRecDepth 100000 in
theorem sort2_any (blk off c Bs : Nat) (d : Array It) (h2 : 2 ≤ d.size) (hsz : d.size < 4611686018427387904) (w : World) (hH : HoldsK encI 2 w blk off d) (hblk : blk < w.heap.size)
    (hBs : w.cell? ⟨Bs, 0, none⟩ = some (.slice (some ⟨blk, off, none⟩) d.size c)) (hB1 : Bs < w.heap.size) (hB2 : Bs ≠ blk) :
    Calls Tryz.prog 108 #[.iface 132 (.slice (some ⟨blk, off, none⟩) d.size c), .func (.func 109) #[] #[.pointer (some ⟨Bs, 0, none⟩)]] w fun e w' =>
      e = .returned (.tuple #[]) ∧ ∃ d' n os, PermIn 0 d.size d d' ∧ SortedIn ltIB 0 d.size d' ∧ w' = grow (putRowK encI 2 (Sort.ahead w n) blk off d') os := by
  have hless : LessReadsK Tryz.prog 109 #[.pointer (some ⟨Bs, 0, none⟩)] encI 2 ltIB blk off d.size w := by
    intro m os dk hs i j hi hj
    have e : sortWorldK encI 2 w blk off m dk os = putRowK encI 2 (grow (Sort.ahead w m) os) blk off dk := by
      unfold sortWorldK; rw [putRowK_grow _ _ (Sort.ahead w m) _ blk off _ hblk]
    have hHg : HoldsK encI 2 (grow (Sort.ahead w m) os) blk off d := holdsK_grow _ _ _ _ blk off d hblk (holdsK_ahead _ _ _ _ _ _ _ hH)
    have key := less2_any blk off c Bs d.size (sortWorldK encI 2 w blk off m dk os) (fun t => dk[t]!.1) (by rw [e, cell?_putRowK_other _ _ _ blk off dk _ (by exact hB2), cell?_grow _ _ _ (by exact hB1)]; exact hBs)
      (fun t ht => by rw [e]; exact ((holdsK_putRowK _ _ _ blk off d dk hHg hs).cell (i := t) (c := 0) (by omega) (by omega)).1) i j hi hj (by omega)
    refine key.mono fun ev w' ⟨he, hw⟩ => ⟨?_, hw⟩
    rw [he]
    unfold ltIB ltStr
    rw [bytesLess_eq, ByteArray.toList_eq, ByteArray.toList_eq]
  have hf := svK d.size h2
  exact Any.sort_Slice_cells_sorted Tryz.laysGg6 132 61 svT svE (by kernel_rfl) (by kernel_rfl) (by kernel_rfl) (by kernel_rfl) 25 (fun _ => by kernel_rfl) encI 2 (fun _ => rfl) (by kernel_rfl) (fun _ => by kernel_rfl)
    (fun x v hv => by simp [encI] at hv; rcases hv with rfl | rfl <;> rfl) ltIB swo_ltIB 109 _
    (enters_of Tryz.func109 (by kernel_rfl) rfl) blk off c d h2 hsz 210 (by rw [hf]; kernel_rfl) false
    (fun args W => run_callFunc_extern Tryz.func210 (by kernel_rfl) (by kernel_rfl) (by kernel_rfl) (e := Extern.ReflectliteSwapper.swap false) (by kernel_rfl) args W) w hless hH hblk
set_option maxRecDepth 100000 in
theorem sort2_row (base g cap Bs : Nat) (L : List It) (w : World) (hrow : Row w base 2 (.slice (some ⟨g, 0, none⟩) L.length cap) L.length (itCells L)) (h1 : 1 ≤ L.length) (hsz : L.length ≤ 1000000)
    (hBs : w.cell? ⟨Bs, 0, none⟩ = some (.slice (some ⟨g, 0, none⟩) L.length cap)) (hne : Bs ≠ g) :
    Calls Tryz.prog 108 #[.iface 132 (.slice (some ⟨g, 0, none⟩) L.length cap), .func (.func 109) #[] #[.pointer (some ⟨Bs, 0, none⟩)]] w fun e w' =>
      e = .returned (.tuple #[]) ∧ ∃ M : List It, M.Perm L ∧ M.Pairwise leI ∧ Row w' base 2 (.slice (some ⟨g, 0, none⟩) L.length cap) L.length (itCells M) ∧ w.grownBy w' (some g) := by
  have hg : g < w.heap.size := (hrow.lt g rfl).2
  have hB1 : Bs < w.heap.size := by
    have := block_lt_of_cell hBs
    exact this
  by_cases h2 : 2 ≤ L.length
  · have key := sort2_any g 0 cap Bs L.toArray (by simpa using h2) (by simp; omega) w (row_holdsK hrow (by omega)) hg (by simpa using hBs) hB1 hne
    rw [List.size_toArray] at key
    refine key.mono ?_
    rintro e w' ⟨rfl, d', n, os, hp, hso, rfl⟩
    have hlen : d'.toList.length = L.length := by have := hp.1; simpa using this
    have hperm : d'.toList.Perm L := by
      have := perm_of_in (d := L.toArray) (d' := d') (by simpa using hp)
      simpa using this
    obtain ⟨hr, hgr⟩ := row_sorted (q := n) (os := os) (M := d'.toList) hrow (by omega) hlen
    refine ⟨rfl, d'.toList, hperm, ?_, ?_, ?_⟩
    · refine leI_of_sorted ?_
      rw [hlen]; exact hso
    · rw [hlen] at hr
      exact hr
    · exact hgr
  · have hl1 : L.length = 1 := by omega
    have hk : Lib.swapperK L.length svE 25 = 2 := by rw [hl1]; rfl
    have key : Calls Tryz.prog 108 #[.iface 132 (.slice (some ⟨g, 0, none⟩) L.length cap), .func (.func 109) #[] #[.pointer (some ⟨Bs, 0, none⟩)]] w fun e w' => e = .returned (.tuple #[]) ∧ ∃ os, w' = Go.Sort.grow w os := Any.sort_Slice_tiny Tryz.laysGg6 132 61 svT svE (by kernel_rfl) (by kernel_rfl) (by kernel_rfl) (by kernel_rfl) 25 (fun _ => by kernel_rfl) (some ⟨g, 0, none⟩) L.length cap (by omega) 203 (by rw [hk]; kernel_rfl) (.func 109) #[] #[.pointer (some ⟨Bs, 0, none⟩)] w
    refine key.mono ?_
    rintro e w' ⟨rfl, os, rfl⟩
    refine ⟨rfl, L, List.Perm.refl _, pairwise_one hl1, hrow.kept (fun k hk => grow_block w os k (hrow.lt k hk).2) (by unfold Go.Sort.grow; simp), grow_grownBy w os _⟩

theorem sort2_none (A : Option Addr) (cap Bs : Nat) (w : World) :
    Calls Tryz.prog 108 #[.iface 132 (.slice A 0 cap), .func (.func 109) #[] #[.pointer (some ⟨Bs, 0, none⟩)]] w fun e w' => e = .returned (.tuple #[]) ∧ w.grownBy w' none := by
  have hk : Lib.swapperK 0 svE 25 = 1 := rfl
  have key : Calls Tryz.prog 108 #[.iface 132 (.slice A 0 cap), .func (.func 109) #[] #[.pointer (some ⟨Bs, 0, none⟩)]] w fun e w' => e = .returned (.tuple #[]) ∧ ∃ os, w' = Go.Sort.grow w os := Any.sort_Slice_tiny Tryz.laysGg6 132 61 svT svE (by kernel_rfl) (by kernel_rfl) (by kernel_rfl) (by kernel_rfl) 25 (fun _ => by kernel_rfl) A 0 cap (by omega) 202 (by rw [hk]; kernel_rfl) (.func 109) #[] #[.pointer (some ⟨Bs, 0, none⟩)] w
  refine key.mono ?_
  rintro e w' ⟨rfl, os, rfl⟩
  exact ⟨rfl, grow_grownBy w os _⟩
end Go.Proofs.YtcfpmofmjnhonaaGreatDoor
/- The document's items of a directory: the walk. -/
namespace Go.Proofs.YtcfpmofmjnhonaaGreatDoor
open Go.RowKit Go.Maps

def itemsFor (d : Dst) (S : List ByteArray) : List It := S.map fun s => itemOf d (s, (look d.vals s).getD ⟨#[]⟩)
theorem itemsFor_len (d : Dst) (S : List ByteArray) : (itemsFor d S).length = S.length := by simp [itemsFor]
theorem itemsFor_snoc (d : Dst) (S : List ByteArray) (s : ByteArray) : itemsFor d (S ++ [s]) = itemsFor d S ++ [itemOf d (s, (look d.vals s).getD ⟨#[]⟩)] := by simp [itemsFor]
theorem itemsFor_perm {d : Dst} {S : List ByteArray} (hk : (keysL d.vals).Nodup) (h : S.Perm (keysL d.vals)) : (itemsFor d S).Perm (itemsRaw d) := by
  refine (h.map _).trans ?_
  unfold itemsRaw keysL
  rw [List.map_map]
  refine List.Perm.of_eq (List.map_congr_left fun p hp => ?_)
  show itemOf d (p.1, (look d.vals p.1).getD ⟨#[]⟩) = itemOf d p
  rw [look_of_mem hk (s := p.1) (x := p.2) hp]; rfl
structure ItRel (lb : Nat) (w wr : World) (K : List It) (v : Value) : Prop where
  below : Below w.heap.size w wr
  lt : w.heap.size ≤ lb
  own : Holds wr lb 1 (fun _ => v) 132
  row : Row wr (lb + 2) 2 v K.length (itCells K)
theorem ItRel.later {lb : Nat} {w wr w2 : World} {K : List It} {v : Value} (h : ItRel lb w wr K v) (hb : Below wr.heap.size wr w2) : ItRel lb w w2 K v :=
  ⟨h.below.trans (hb.mono h.below.size), h.lt, h.own.below hb h.own.lt, h.row.belowAll hb⟩
theorem ItRel.other {lb r : Nat} {w wr w2 : World} {K : List It} {v : Value} (h : ItRel lb w wr K v) (hg : wr.grownBy w2 (some r)) (hr : r = lb + 1) : ItRel lb w w2 K v := by
  subst hr
  refine ⟨h.below.grown hg h.below.size (fun k hk => by cases hk; have := h.lt; omega), h.lt, ?_, h.row.kept (fun k hk => hg.block k (h.row.lt k hk).2 (fun e => by cases e; have := (h.row.lt (lb + 1) hk).1; omega)) hg.size⟩
  have := h.own
  have hl := this.lt
  unfold Holds at this ⊢
  rw [hg.block lb hl (by simp)]; exact this
theorem ItRel.put {lb : Nat} {w w2 w3 : World} {K K' : List It} {v v' : Value} {X : Obj} (h : ItRel lb w w2 K v) (hrow : Row w3 (lb + 2) 2 v' K'.length (itCells K')) (hg : (w2.alloc X).grownBy w3 v.ownBlock) : ItRel lb w (w3.setCell ⟨lb, 0, none⟩ v') K' v' := by
  have hl := h.own.lt
  have hlt := h.lt
  have h4 : Holds w3 lb 1 (fun _ => v) 132 := by
    have hown := h.own
    unfold Holds at hown ⊢
    rw [hg.block lb (by simp; omega) (fun e => by have := (h.row.lt lb e.symm).1; omega), Below.heap_alloc _ _ _ hl]
    exact hown
  refine ⟨((h.below.alloc h.below.size X).grown hg (Nat.le_trans h.below.size (by simp)) (fun c hc => by have := (h.row.lt c hc).1; omega)).setCell (p := ⟨lb, 0, none⟩) hlt _, hlt, ?_, hrow.setOther (hrow.fresh (show lb < lb + 2 by omega)) _⟩
  refine (h4.set 0 v').congr fun i hi => ?_
  have : i = 0 := by omega
  subst this; rfl
theorem ItRel.after {lb : Nat} {w w2 w3 : World} {K : List It} {v : Value} {X : Obj} (h : ItRel lb w w2 K v) (hg : (w2.alloc X).grownBy w3 v.ownBlock) : Holds w3 lb 1 (fun _ => v) 132 := by
  have hown := h.own
  have hob := hown.lt
  unfold Holds at hown ⊢
  rw [hg.block lb (by simp; omega) (fun e => by have := (h.row.lt lb e.symm).1; omega), Below.heap_alloc _ _ _ hob]
  exact hown
set_option maxRecDepth 100000 in
set_option maxHeartbeats 2000000 in
theorem refItems_is (F : Nat → Prop) (p rb : Nat) (d : Dst) (w : World) (hd : RDir F w p rb d) (hr : Holds w rb 72 refCells 121) (hs : d.secret.size ≤ 1000000) (hl : d.vals.length ≤ 100000) :
    Calls Tryz.prog 63 #[.pointer (some ⟨p, 0, none⟩)] w fun e w' => ∃ A cap, ∃ L : List It, e = .returned (.slice A L.length cap) ∧ Itms w' A L ∧ L.Perm (itemsRaw d) ∧ L.Pairwise leI ∧ Below w.heap.size w w' := by
  have HDD := Lib.hid hd
  obtain ⟨bb, g, m1, m2, m3, v, M, hd⟩ := hd
  have HD := Lib.hid hd
  have HR := Lib.hid hr
  have HS := Lib.hid hs
  have HL := Lib.hid hl
  have c4 : (w.alloc (.cells #[.slice none 0 0] 132)).cell? ⟨p, 4, none⟩ = some (.map (some m2)) := ((alloc_below w _).cell (p := ⟨p, 4, none⟩) hd.own.lt).trans (hd.own.cell 4 (by omega))
  have HMV := Lib.hid (hd.vals.block ((alloc_below w (.cells #[.slice none 0 0] 132)).block _ hd.vals.lt))
  have HI0 := Lib.hid (show ItRel w.heap.size w (w.alloc (.cells #[.slice none 0 0] 132)) [] (.slice none 0 0) from ⟨alloc_below _ _, Nat.le_refl _, Holds.new w 1 (fun _ => .slice none 0 0) _, Row.nil _ _ _⟩)
  clear hd hr hs hl
  go_enter Tryz.func63, Tryz.ntmps63
  go_wp2_with (first | (at_range; refine wpList_mapRange kS rfl (.tmp 13) rfl m2 d.vals rfl HMV.out ?_; intro w2 hrg2 hg2 hs2))
  go_frame
  have HI2 := Lib.hid (HI0.out.later (grownBy.below hg2.out (Nat.le_refl _) (fun k hk => by cases hk)))
  have HR2 := Lib.hid (show Rng kS w2 m2 (w.heap.size + 1) d.vals [] d.vals.length from by have := hrg2.out; rwa [World.size_alloc] at this)
  clear c4 hg2 hs2 hrg2 HMV HI0
  rw [show (w.alloc (.cells #[.slice none 0 0] 132)).heap.size = w.heap.size + 1 by simp]
  obtain ⟨lb, hlb⟩ : ∃ lb, w.heap.size = lb := ⟨_, rfl⟩
  obtain ⟨r, hr⟩ : ∃ r, lb + 1 = r := ⟨_, rfl⟩
  rw [hlb, hr] at HR2
  rw [hlb] at HI2
  rw [hlb, hr]
  have HLB := Lib.hid hlb
  have HRR := Lib.hid hr
  clear hlb hr
  go_loopw [4, 5, 6, 7, 8, 9] (fun _ _ _ _ _ _ wr => ∃ S cnt v, Rng kS wr m2 r d.vals S cnt ∧ ItRel lb w wr (itemsFor d S) v) (fun _ _ _ _ _ _ wr => wr.rangeLeft m2 r)
  case atStart => exact ⟨[], _, _, HR2.out, HI2.out⟩
  case round =>
    clear HR2 HI2
    obtain ⟨S, cnt, v, hr, hi⟩ := hrel
    have HRG := Lib.hid hr
    have HI := Lib.hid hi
    clear hr hi
    go_wp2_with (first | (at_next; refine wpList_mapNext kS rfl (.tmp 14) rfl m2 r d.vals S cnt rfl HRG.out ?_ ?_))
    · intro hperm
      obtain ⟨K, hK⟩ : ∃ K, itemsFor d S = K := ⟨_, rfl⟩
      have HKP := Lib.hid (show K.Perm (itemsRaw d) by rw [← hK]; exact itemsFor_perm HRG.out.keys hperm)
      have hi := HI.out
      rw [hK] at hi
      have HKI := Lib.hid hi
      have HLS := Lib.hid (show K.length ≤ 1000000 by rw [← hK, itemsFor_len]; have := HRG.out.room; have := HL.out; omega)
      clear hi hK hperm HI
      by_cases h0 : K.length = 0
      · obtain rfl : K = [] := List.eq_nil_of_length_eq_zero h0
        obtain ⟨av, cv, rfl⟩ := HKI.out.row.any
        have q0 : wr.cell? ⟨lb, 0, none⟩ = some (.slice av 0 cv) := HKI.out.own.cell 0 (by omega)
        go_wp2_with fail
        refine (sort2_none av cv lb _).mono ?_
        rintro e w5 ⟨rfl, hg5⟩
        have hb5 : Below wr.heap.size wr w5 := grownBy.below hg5 (Nat.le_refl _) (fun k hk => by cases hk)
        have HI5 := Lib.hid (HKI.out.later hb5)
        have q5 : w5.cell? ⟨lb, 0, none⟩ = some (.slice av 0 cv) := HI5.out.own.cell 0 (by omega)
        clear hg5 hb5 q0
        go_wp2
        go_ret
        exact ⟨av, cv, [], rfl, Itms.nil _ _, HKP.out, List.Pairwise.nil, HI5.out.below⟩
      · obtain ⟨g', cg, rfl, hgb, _, _, _⟩ := HKI.out.row.shape (by omega)
        have q0 : wr.cell? ⟨lb, 0, none⟩ = some (.slice (some ⟨g', 0, none⟩) K.length cg) := HKI.out.own.cell 0 (by omega)
        have key := sort2_row (lb + 2) g' cg lb K _ HKI.out.row (by omega) HLS.out q0 (by omega)
        go_wp2_with fail
        refine key.mono ?_
        clear key
        rintro e w5 ⟨rfl, L, hperm, hrise, hrow5, hg5⟩
        have hown5 : Holds w5 lb 1 (fun _ => .slice (some ⟨g', 0, none⟩) K.length cg) 132 := by
          have h := HKI.out.own
          have hl := h.lt
          unfold Holds at h ⊢
          rw [hg5.block lb hl (fun e => by cases e; omega)]; exact h
        have q5 := hown5.cell 0 (by omega)
        have HB5 := Lib.hid (HKI.out.below.grown hg5 HKI.out.below.size (fun c hc => by cases hc; have := HKI.out.lt; omega))
        have HPM := Lib.hid (hperm.trans HKP.out)
        have HRS := Lib.hid hrise
        have HLL := Lib.hid hperm.length_eq
        have HRW := Lib.hid hrow5
        clear hown5 hperm hrise hrow5 hg5 q0
        go_wp2
        go_ret
        obtain ⟨_, A', c', h2, h3⟩ := HRW.out.itms
        injection h2 with e1 e2 e3
        subst e1
        exact ⟨_, cg, L, by rw [HLL.out]; rfl, h3, HPM.out, HRS.out, HB5.out⟩
    · intro s x w3 cnt' hlk hns hgood HR3 HC3 HG3 HS3 hen
      have hen' : (Instr.entry (.pointer (some ⟨r, 0, none⟩))).run Tryz.prog w3 = .ok (.tuple #[.string s, .string x]) w3 := hen
      have HSS := Lib.hid (show s.size ≤ 1000000 from HRG.out.short _ (look_mem hlk))
      have HLK := Lib.hid hlk
      have HI3 := Lib.hid (HI.out.other HG3.out HRR.out.symm)
      have c0 : w3.cell? ⟨p, 0, none⟩ = some (.pointer (some ⟨rb, 0, none⟩)) := (HI3.out.below.cell (p := ⟨p, 0, none⟩) HD.out.own.lt).trans (HD.out.own.cell 0 (by omega))
      obtain ⟨ix, no, hof⟩ : ∃ ix no, ofAns s = (ix, no) := ⟨_, _, rfl⟩
      have HOF := Lib.hid hof
      clear hen hgood hns hlk hof HS3
      go_wp2_with fail
      refine (refOf_is rb s ix no _ (HR.out.below HI3.out.below HR.out.lt) HSS.out HOF.out).mono ?_
      rintro e w4 ⟨rfl, hb4⟩
      have HI4 := Lib.hid (HI3.out.later hb4)
      have HR4 := Lib.hid (HR3.out.block (hb4.block _ HR3.out.map.lt) (hb4.block _ HR3.out.lt))
      clear c0 hb4
      obtain ⟨cm, nc, hcm⟩ : ∃ cm nc, commitAns (openOf d s) x = (cm, nc) := ⟨_, _, rfl⟩
      have HCM := Lib.hid hcm
      clear hcm
      have z0 : ∀ z : Later w4.heap.size w4, z.at'.cell? ⟨p, 0, none⟩ = some (.pointer (some ⟨rb, 0, none⟩)) := fun z => ((HI4.out.below.trans (z.below.mono HI4.out.below.size)).cell (p := ⟨p, 0, none⟩) HD.out.own.lt).trans (HD.out.own.cell 0 (by omega))
      have HOP := Lib.hid (show ∀ z : Later w4.heap.size w4, Calls Tryz.prog 75 #[.pointer (some ⟨p, 0, none⟩), .string s] z.at' fun e w' => e = .returned (.string (openOf d s)) ∧ Below z.at'.heap.size z.at' w' from fun z =>
        refOpening_is F p rb d s _ (HDD.out.below (HI4.out.below.trans (z.below.mono HI4.out.below.size))) (HR.out.below (HI4.out.below.trans (z.below.mono HI4.out.below.size)) HR.out.lt) HS.out HSS.out)
      have HCO := Lib.hid (show ∀ z : Later w4.heap.size w4, Calls Tryz.prog 92 #[.pointer (some ⟨rb, 0, none⟩), .string (openOf d s), .string x] z.at' fun e w' => e = .returned (.tuple #[.string cm, .int .i64 nc]) ∧ Below z.at'.heap.size z.at' w' from fun z =>
        refCommit_is rb (openOf d s) x cm nc _ (HR.out.below (HI4.out.below.trans (z.below.mono HI4.out.below.size)) HR.out.lt) HCM.out)
      have HIT := Lib.hid (show itemOf d (s, (look d.vals s).getD ⟨#[]⟩) = (ix, cm) by
        unfold itemOf
        rw [HLK.out]
        show ((ofAns s).1, (commitAns (openOf d s) x).1) = (ix, cm)
        rw [HOF.out, HCM.out])
      generalize openOf d s = op at HCM HOP HCO
      go_wp2
      refine wp_region_later (by kernel_rfl) (by kernel_rfl) ?_
      repeat (go_big_quiet_step ((first
        | (go_at_call 75; refine later_of (HOP.out _))
        | (go_at_call 92; refine later_of (HCO.out _)))))
      refine wpQuiet_nil ?_
      rintro w5 ⟨⟨w5, hb5⟩, rfl⟩
      have HI5 := Lib.hid (HI4.out.later hb5)
      have HR5 := Lib.hid (HR4.out.block (hb5.block _ HR4.out.map.lt) (hb5.block _ HR4.out.lt))
      clear z0 HOP HCO hb5
      obtain ⟨pv, cv, rfl⟩ := HI5.out.row.any
      have q0 : w5.cell? ⟨lb, 0, none⟩ = some (.slice pv (itemsFor d S).length cv) := HI5.out.own.cell 0 (by omega)
      have hol : lb < w5.heap.size := HI5.out.own.lt
      have HLS := Lib.hid (show (itemsFor d S).length ≤ 1000000 by rw [itemsFor_len]; have := HRG.out.room; have := HL.out; omega)
      go_wp2_with (first | (at_builtin; refine wpList_append_item rfl (.tmp 41) (.tmp 45) 132 rfl 61 Tryz.underlying132 _ 32 infoItem rfl (by decide) (lb + 2) (.slice pv (itemsFor d S).length cv) (itemsFor d S) rfl (HI5.out.row.alloc _) (by have := HR5.out.lt; have := HRR.out; simp; omega) (by have := HLS.out; omega) (ix, cm) w5.heap.size rfl 61 (heap_alloc_new _ _) ?_; intro v' w6 hrow6 hgrow6 hmove6; obtain ⟨p', cap', rfl⟩ := hrow6.out.any; have s0 := HI5.out.after hgrow6.out; have t0 := s0.cell 0 (by omega); have t1 := s0.free 0; clear s0))
      have HI6 := Lib.hid (HI5.out.put hrow6.out hgrow6.out)
      have HR6 := Lib.hid (show Rng kS (w6.setCell ⟨lb, 0, none⟩ (.slice p' (itemsFor d S ++ [(ix, cm)]).length cap')) m2 r d.vals (S ++ [s]) cnt' from by
        have h2 : m2 < lb := by have := HD.out.vals.lt; have := HLB.out; omega
        have h3 : lb < r := by have := HRR.out; omega
        have hb : ∀ k, k < w5.heap.size → k ≠ lb → k < lb + 2 → (w6.setCell ⟨lb, 0, none⟩ (.slice p' (itemsFor d S ++ [(ix, cm)]).length cap')).heap[k]? = w5.heap[k]? := fun k hk hne h2 =>
          (Below.heap_setCell _ _ _ _ hne).trans ((hgrow6.out.block k (by simp; omega) (fun e => by have := (HI5.out.row.lt k e.symm).1; omega)).trans (Below.heap_alloc _ _ _ hk))
        exact HR5.out.block (hb _ HR5.out.map.lt (by omega) (by omega)) (hb _ HR5.out.lt (by omega) (by have := HRR.out; omega)))
      have hi6 := HI6.out
      have hr6 := HR6.out
      rw [show (itemsFor d S ++ [(ix, cm)]).length = (itemsFor d S).length + 1 by simp] at hi6 hr6
      have HI7 := Lib.hid hi6
      have HR7 := Lib.hid hr6
      clear hi6 hr6
      go_roundw
      case rel =>
        exact ⟨S ++ [s], cnt', _, HR7.out, (show itemsFor d (S ++ [s]) = itemsFor d S ++ [(ix, cm)] by rw [itemsFor_snoc, HIT.out]) ▸ HI7.out⟩
      case measure => rw [HR7.out.left_eq, HRG.out.left_eq]; exact HC3.out
end Go.Proofs.YtcfpmofmjnhonaaGreatDoor
/- A store into a map by its entry: 'm[s], .. = x, ..'. -/
namespace Go.Proofs.YtcfpmofmjnhonaaGreatDoor
open Go.RowKit Go.Maps Go.ChangeMaps

theorem MapIs.entry {α : Type} {K : MKind α} {w : World} {b : Nat} {L : List (ByteArray × α)} (h : MapIs K w b L) (hL : L.length ≤ 1000000) {s : ByteArray} (hs : s.size ≤ 1000000) {y : α} (hy : K.good y) :
    ∃ (v0 : Value) (st : Nat) (w1 : World), (Instr.mapEntry K.M (.map (some b)) (.string s)).run Tryz.prog w = .ok (.tuple #[v0, .int .i64 (st : Int)]) w1 ∧ w.grownBy w1 (some b) ∧ w1.heap.size = w.heap.size ∧
      ∀ w2 : World, w2.heap[b]? = w1.heap[b]? → ∃ w3, (Instr.entryStore K.M (.map (some b)) (.int .i64 (st : Int)) (K.wd y)).run Tryz.prog w2 = .ok () w3 ∧ MapIs K w3 b (ups L s y) ∧ w2.grownBy w3 (some b) ∧ w3.heap.size = w2.heap.size := by
  obtain ⟨wp, hput, hmp, hgp⟩ := h.put hL hs hy
  obtain ⟨⟨D, ⟨es, clock, hb, F, hsz, hD⟩, _⟩, _, _⟩ := h
  obtain ⟨v0, st, es1, clock1, hrun, _, hst⟩ := Go.WideElems.entry_then_store (WideMaps.string_law Tryz.underlying9) K.und (K.zer) hb F (keyS hs)
  have grown : ∀ (u : World) (e0 : Array MapEntry) (c0 : Nat) (Y : Obj), u.heap[b]? = some (.map e0 c0) → u.grownBy (setBlock u b Y) (some b) := fun u _ _ Y hu =>
    ⟨rfl, rfl, rfl, by simp [setBlock], fun i _ hi => heap_setBlock_other hu _ (fun e => hi (by rw [e]))⟩
  refine ⟨v0, st, _, hrun, grown w _ _ _ hb, by simp [setBlock], fun w2 h2 => ?_⟩
  have h2' : w2.heap[b]? = some (.map es1 clock1) := by rw [h2]; exact heap_setBlock_same hb _
  obtain ⟨es', clock', hr2, hu⟩ := hst w2 (K.wd y) h2'
  rw [hput] at hu
  have ew : wp = setBlock w b (.map es' clock') := by injection hu
  subst ew
  exact ⟨_, hr2, hmp.block (by rw [heap_setBlock_same h2' _, heap_setBlock_same hb _]), grown w2 _ _ _ h2', by simp [setBlock]⟩
end Go.Proofs.YtcfpmofmjnhonaaGreatDoor
