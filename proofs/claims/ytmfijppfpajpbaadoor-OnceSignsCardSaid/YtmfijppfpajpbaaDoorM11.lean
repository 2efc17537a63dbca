/- Parts of the proof, one behind the other: QDigits, QPub, QSign, QFrom, OnceF. -/
import Derived.Test.YtmfijppfpajpbaaDoorM8
import Derived.Test.YtmfijppfpajpbaaDoorM2
import Derived.Test.YtmfijppfpajpbaaDoorM10
import Derived.Test.YtmfijppfpajpbaaDoorM9
/- The program's once: digits, in an array. -/
namespace Go.Proofs.YtmfijppfpajpbaaDoor
open Go.RowKit

/-- Four bits at a place. -/
theorem and15 (n : Int) : bits BinOp.and IntKind.i64 n 15 = n % 16 := by
  have h15 : (BitVec.ofInt 64 15).toNat = 2 ^ 4 - 1 := by decide
  have key : (BitVec.ofInt 64 n &&& BitVec.ofInt 64 15).toNat = (n % ((2 ^ 64 : Nat) : Int)).toNat % 2 ^ 4 := by
    rw [BitVec.toNat_and, BitVec.toNat_ofInt, h15, Nat.and_two_pow_sub_one_eq_mod]
  show IntKind.i64.wrap ((BitVec.ofInt 64 n &&& BitVec.ofInt 64 15).toNat : Nat) = n % 16
  rw [key, IntKind.wrap_i64]
  omega
theorem qBits_any (n p : Nat) (w : World) (_hn : n ≤ 1000000) (hp : p ≤ 2) :
    Calls Tryd.prog 38 #[.int .i64 (n : Int), .int .i64 (p : Int)] w fun e w' => e = .returned (.int .i64 ((n / 16 ^ p % 16 : Nat) : Int)) ∧ w' = w := by
  have HV := Lib.hid (show bits BinOp.and IntKind.i64 ((n : Int) / 2 ^ (4 * p)) 15 = ((n / 16 ^ p % 16 : Nat) : Int) by
    rw [and15, show n / 16 ^ p % 16 = n / 2 ^ (4 * p) % 16 by rw [Nat.pow_mul]]
    simp)
  go_enter Tryd.func38, Tryd.ntmps38
  go_wp2
  rw [HV.out]
  go_ret
  exact ⟨rfl, rfl⟩

/-- What the first k of these lack of 15. -/
def lackUpto (l : List UInt8) (k : Nat) : Nat := (((digsOf l).take k).map fun d => 15 - d).sum
theorem lackUpto_all (l : List UInt8) : (((digsOf l)).map fun d => 15 - d).sum = lackOf l := by
  unfold digsOf lackOf
  induction l with
  | nil => rfl
  | cons b l ih =>
    have := b.toNat_lt
    simp only [List.flatMap_cons, List.map_append, List.sum_append, List.map_cons, List.map_nil, List.sum_cons, List.sum_nil, ih]
    omega
theorem digsOf_at (l : List UInt8) (i : Nat) (b : UInt8) (h : l[i]? = some b) : (digsOf l)[2 * i]? = some (b.toNat / 16) ∧ (digsOf l)[2 * i + 1]? = some (b.toNat % 16) := by
  unfold digsOf
  induction l generalizing i with
  | nil => cases h
  | cons c l ih =>
    cases i with
    | zero => obtain rfl : c = b := Option.some.inj h
              simp
    | succ i =>
      obtain ⟨h1, h2⟩ := ih i (by simpa using h)
      simp only [List.flatMap_cons]
      rw [show 2 * (i + 1) = (2 * i) + 2 by omega, show 2 * i + 2 + 1 = (2 * i + 1) + 2 by omega]
      exact ⟨h1, h2⟩
theorem digsOf_nib (l : List UInt8) (k : Nat) (b : UInt8) (h : l[k / 2]? = some b) : (digsOf l)[k]? = some (b.toNat / 16 ^ (1 - k % 2) % 16) := by
  have hb := b.toNat_lt
  obtain ⟨h1, h2⟩ := digsOf_at l (k / 2) b h
  rcases (show k % 2 = 0 ∨ k % 2 = 1 by omega) with e | e
  · rw [e, show k = 2 * (k / 2) by omega, h1]
    congr 1
    simp; omega
  · rw [e, show k = 2 * (k / 2) + 1 by omega, h2]
    congr 1
    simp
theorem lackUpto_succ (l : List UInt8) (k d : Nat) (h : (digsOf l)[k]? = some d) : lackUpto l (k + 1) = lackUpto l k + (15 - d) := by
  unfold lackUpto
  rw [List.take_add_one, h]
  simp
/-- The first k of the digits, noughts behind. -/
def dfill (D : List Nat) (k : Nat) : Nat → Value := fun i => if i < k then .int .i64 ((D.getD i 0 : Nat) : Int) else .int .i64 0
theorem dfill_succ (D : List Nat) (k d : Nat) (h : D[k]? = some d) : upd (dfill D k) k (.int .i64 (d : Int)) = dfill D (k + 1) := by
  funext i
  unfold upd dfill
  by_cases e : i = k
  · subst e
    rw [if_pos rfl, if_pos (by omega), List.getD_eq_getElem?_getD, h]; rfl
  · rw [if_neg e]
    by_cases e2 : i < k
    · rw [if_pos e2, if_pos (by omega)]
    · rw [if_neg e2, if_neg (by omega)]
structure DgRel (N : Nat) (w wr : World) (f : Nat → Value) : Prop where
  below : Below N w wr
  size : wr.heap.size = N + 2
  res : Holds wr N 35 (fun _ => .int .i64 0) 62
  own : Holds wr (N + 1) 35 f 62
theorem DgRel.store {N : Nat} {w wr : World} {f : Nat → Value} (h : DgRel N w wr f) (k : Nat) (x : Value) : DgRel N w (wr.setCell ⟨N + 1, k, none⟩ x) (upd f k x) :=
  ⟨h.below.setCell (by show N ≤ N + 1; omega) _, by simp [World.setCell]; exact h.size, h.res.other (by show N ≠ N + 1; omega) _, h.own.set k _⟩

theorem digits_nib (l : List UInt8) (k : Nat) (b : UInt8) (h : l[k / 2]? = some b) (hk : k < 2 * l.length) : (digitsOf l)[k]? = some (b.toNat / 16 ^ (1 - k % 2) % 16) := by
  unfold digitsOf
  rw [List.getElem?_append_left (by rw [digsOf_length]; exact hk)]
  exact digsOf_nib l k b h
theorem digits_lack (l : List UInt8) (hl : l.length = 16) (k : Nat) (hk : k < 3) : (digitsOf l)[32 + k]? = some (lackOf l / 16 ^ (2 - k) % 16) := by
  have h := lackOf_le l
  unfold digitsOf
  rw [List.getElem?_append_right (by rw [digsOf_length]; omega), digsOf_length, hl]
  rcases (show k = 0 ∨ k = 1 ∨ k = 2 by omega) with rfl | rfl | rfl
  · simp; omega
  · simp
  · simp
theorem lackUpto_32 (l : List UInt8) (hl : l.length = 16) : lackUpto l 32 = lackOf l := by
  unfold lackUpto
  rw [List.take_of_length_le (by rw [digsOf_length]; omega)]
  exact lackUpto_all l

set_option maxRecDepth 100000 in
theorem qDigits_any (s : ByteArray) (w : World) (h16 : s.size = 16) :
    Calls Tryd.prog 27 #[.string s] w fun e w' => e = .returned (.agg (arr 35 fun i => .int .i64 (((digitsOf s.data.toList).getD i 0 : Nat) : Int))) ∧ Below w.heap.size w w' := by
  have H16 := Lib.hid h16
  have hs1 : s.size ≤ 16 := by omega
  have hs2 : 16 ≤ s.size := by omega
  clear h16
  have HLEN := Lib.hid (show s.data.toList.length = s.size from size_len s)
  go_enter Tryd.func27, Tryd.ntmps27
  go_wp2
  go_loopw [4, 8] (fun lk i wr => ∃ (k q : Nat), k ≤ 32 ∧ i = .int .i64 (k : Int) ∧ lk = .int .i64 (q : Int) ∧ q ≤ 15 * k ∧ Hid (q = lackUpto s.data.toList k ∧ DgRel w.heap.size w wr (dfill (digitsOf s.data.toList) k))) (fun _ i _ => 32 - (intOf i).toNat)
  case atStart =>
    refine ⟨0, 0, by omega, rfl, rfl, by omega, Lib.hid ⟨rfl, ⟨((Below.refl _ _).alloc (Nat.le_refl _) _).alloc (by simp) _, by simp, ?_, ?_⟩⟩⟩
    · exact (Holds.new w 35 (fun _ => .int .i64 0) 62).alloc _
    · have hz := Holds.new (w.alloc (.cells (arr 35 (fun _ => .int .i64 0)) 62)) 35 (fun _ => .int .i64 0) 62
      rw [World.size_alloc] at hz
      exact hz.congr fun i hi => by unfold dfill; rw [if_neg (by omega)]
  case round =>
    obtain ⟨k, q, hk, rfl, rfl, hq, HU⟩ := hrel
    by_cases hlt : k < 32
    · obtain ⟨c, hc⟩ : ∃ c, s.data.toList[k / 2]? = some c := ⟨_, List.getElem?_eq_getElem (by have := HLEN.out; omega)⟩
      have hsk : k / 2 < s.size := by omega
      obtain ⟨B, hB⟩ : ∃ B : Nat, c.toNat = B := ⟨_, rfl⟩
      have hB2 : B < 256 := by rw [← hB]; exact c.toNat_lt
      have hbk : s[k / 2].toNat = B := by
        rw [← hB]; congr 1
        rw [List.getElem?_eq_getElem (by have := HLEN.out; omega)] at hc
        exact Option.some.inj hc
      have hw : wrap64 ((s[k / 2].toNat : Nat) : Int) = (B : Int) := by rw [hbk]; simp [wrap64]; omega
      obtain ⟨p, hp⟩ : ∃ p, 1 - k % 2 = p := ⟨_, rfl⟩
      have hp1 : p ≤ 2 := by omega
      have e1 : (1 : Int) - (k : Int) % 2 = (p : Int) := by omega
      obtain ⟨d, hd⟩ : ∃ d, B / 16 ^ p % 16 = d := ⟨_, rfl⟩
      have hd15 : d ≤ 15 := by rw [← hd]; omega
      have HD := Lib.hid (show (digitsOf s.data.toList)[k]? = some d by rw [digits_nib _ k c hc (by have := HLEN.out; omega), hp, hB, hd])
      have HD2 := Lib.hid (show (digsOf s.data.toList)[k]? = some d by rw [digsOf_nib _ k c hc, hp, hB, hd])
      have HCA := Lib.hid (qBits_any B p wr (by omega) hp1)
      rw [hd] at HCA
      clear hc hB hbk hp hd
      have c0 := HU.out.2.own.cell k (by omega)
      have f0 := HU.out.2.own.free k
      go_wp2_with fail
      refine HCA.out.mono ?_
      rintro e w1 ⟨rfl, rfl⟩
      clear hw e1 HCA
      go_wp2
      go_roundw
      case rel =>
        refine ⟨k + 1, q + (15 - d), by omega, by go_num, by go_num, by omega, Lib.hid ⟨?_, ?_⟩⟩
        · rw [lackUpto_succ _ k d HD2.out, ← HU.out.1]
        · rw [← dfill_succ _ k d HD.out]
          exact HU.out.2.store k _
      case measure => simp [intOf]; omega
    · have HK := Lib.hid (show k = 32 by omega)
      have HQ := Lib.hid (show q = lackOf s.data.toList by rw [HU.out.1, HK.out]; exact lackUpto_32 _ (HLEN.out.trans H16.out))
      have HR := Lib.hid (show DgRel w.heap.size w wr (dfill (digitsOf s.data.toList) 32) by have h := HU.out.2; rw [HK.out] at h; exact h)
      have hq2 : q ≤ 480 := by omega
      clear HU hq
      go_wp2
      clear hlt hk HK
      go_loopw [28] (fun i wr => ∃ k : Nat, k ≤ 3 ∧ i = .int .i64 (k : Int) ∧ Hid (DgRel w.heap.size w wr (dfill (digitsOf s.data.toList) (32 + k)))) (fun i _ => 3 - (intOf i).toNat)
      case atStart => exact ⟨0, by omega, rfl, HR⟩
      case round =>
        clear HR
        obtain ⟨i, hk, rfl, HR⟩ := hrel
        by_cases hlt : i < 3
        · obtain ⟨p, hp⟩ : ∃ p, 2 - i = p := ⟨_, rfl⟩
          have hp1 : p ≤ 2 := by omega
          have e1 : (2 : Int) - (i : Int) = (p : Int) := by omega
          obtain ⟨d, hd⟩ : ∃ d, q / 16 ^ p % 16 = d := ⟨_, rfl⟩
          have HD := Lib.hid (show (digitsOf s.data.toList)[32 + i]? = some d by rw [digits_lack _ (HLEN.out.trans H16.out) i hlt, ← HQ.out, hp, hd])
          have HCA := Lib.hid (qBits_any q p wr (by omega) hp1)
          rw [hd] at HCA
          clear hp hd
          have c0 := HR.out.own.cell (32 + i) (by omega)
          have f0 := HR.out.own.free (32 + i)
          go_wp2_with fail
          refine HCA.out.mono ?_
          rintro e w1 ⟨rfl, rfl⟩
          clear e1 HCA
          go_wp2
          go_roundw
          case rel =>
            refine ⟨i + 1, by omega, by go_num, Lib.hid ?_⟩
            rw [show 32 + (i + 1) = 32 + i + 1 by omega, ← dfill_succ _ (32 + i) d HD.out]
            exact HR.out.store (32 + i) _
          case measure => simp [intOf]; omega
        · obtain rfl : i = 3 := by omega
          have HF := Lib.hid (show Holds wr (w.heap.size + 1) 35 (fun i => .int .i64 (((digitsOf s.data.toList).getD i 0 : Nat) : Int)) 62 from HR.out.own.congr fun j hj => by unfold dfill; rw [if_pos (by omega)])
          have hi : (Tryd.prog.info? 62).map (·.size) = some (arr 35 fun i => Value.int .i64 (((digitsOf s.data.toList).getD i 0 : Nat) : Int)).size := by rw [arr_size]; kernel_rfl
          have hz : (arr 35 fun _ => Value.int .i64 0).size = (arr 35 fun i => Value.int .i64 (((digitsOf s.data.toList).getD i 0 : Nat) : Int)).size := by rw [arr_size, arr_size]
          have h1 := arr_one 35 (fun i => Value.int .i64 (((digitsOf s.data.toList).getD i 0 : Nat) : Int)) (fun _ => rfl)
          obtain ⟨z, ez⟩ : ∃ z, z = arr 35 fun i => Value.int .i64 (((digitsOf s.data.toList).getD i 0 : Nat) : Int) := ⟨_, rfl⟩
          have Hown : wr.heap[w.heap.size + 1]? = some (.cells z 62 (0, 0)) := by rw [ez]; exact HF.out
          have Hres : wr.heap[w.heap.size]? = some (.cells (arr 35 fun _ => Value.int .i64 0) 62 (0, 0)) := HR.out.res
          rw [← ez] at hi hz h1
          have EZ := Lib.hid ez
          have HI := Lib.hid hi
          have HZ := Lib.hid hz
          have H1 := Lib.hid h1
          have HO := Lib.hid Hown
          have HE := Lib.hid Hres
          clear ez hi hz h1 Hown Hres hk hlt
          go_wp2_with (first | (refine wpList_load_row rfl 62 (.tmp 3) rfl (w.heap.size + 1) rfl 62 z (0, 0) _ HO.out Tryd.underlying62 rfl HI.out ?_) | (refine wpList_store_row rfl 62 (.tmp 2) (.tmp 39) rfl w.heap.size z rfl rfl 62 _ HE.out HI.out HZ.out H1.out ?_))
          have hp : Holds (wr.setRow w.heap.size z) w.heap.size 35 (fun i => Value.int .i64 (((digitsOf s.data.toList).getD i 0 : Nat) : Int)) 62 := by
            rw [EZ.out]; exact HR.out.res.row _
          have hrun : ∀ tmps : Array Value, tmps.getD 2 undef = .pointer (some ⟨w.heap.size, 0, none⟩) → (results Tryd.f27 tmps).run Tryd.prog (wr.setRow w.heap.size z) = .ok (.agg z) (wr.setRow w.heap.size z) := fun tmps ht =>
            results_cell_row (by rfl) tmps _ w.heap.size 62 z (0, 0) _ ht (by rw [EZ.out] at hp ⊢; exact hp) Tryd.underlying62 rfl HI.out
          exact bodyPost_ret (hrun _ rfl) rfl ⟨by rw [EZ.out], below_setRow HR.out.below (Nat.le_refl _) _⟩
end Go.Proofs.YtmfijppfpajpbaaDoor
/- The program's once: Public. -/
namespace Go.Proofs.YtmfijppfpajpbaaDoor
open Go.RowKit

/-- The first k of some texts, empty ones behind. -/
def sfill (L : List ByteArray) (k : Nat) : Nat → Value := fun i => if i < k then .string (L.getD i ⟨#[]⟩) else .string ⟨#[]⟩
theorem sfill_succ (L : List ByteArray) (k : Nat) (x : ByteArray) (h : L[k]? = some x) : upd (sfill L k) k (.string x) = sfill L (k + 1) := by
  funext i
  unfold upd sfill
  by_cases e : i = k
  · subst e
    rw [if_pos rfl, if_pos (by omega), List.getD_eq_getElem?_getD, h]; rfl
  · rw [if_neg e]
    by_cases e2 : i < k
    · rw [if_pos e2, if_pos (by omega)]
    · rw [if_neg e2, if_neg (by omega)]
theorem map_range_at {α : Type} (f : Nat → α) (n k : Nat) (h : k < n) : ((List.range n).map f)[k]? = some (f k) := by
  rw [List.getElem?_map, List.getElem?_range h]; rfl
theorem strs_of_holds {w : World} {b n : Nat} {L : List ByteArray} {t : TypeId} (h : Holds w b n (sfill L n) t) (hn : L.length = n) : Strs w (some ⟨b, 0, none⟩) L := by
  intro i p hp
  have hi : i < L.length := (List.getElem?_eq_some_iff.1 hp).1
  refine ⟨_, rfl, h.lt, ?_⟩
  rw [add_none, Nat.zero_add, h.cell i (by omega)]
  unfold sfill
  rw [if_pos (by omega), List.getD_eq_getElem?_getD, hp]; rfl
theorem oneMark {s : ByteArray} {b : Bool} (h : decide (s.size = 16) = b) : marksOk [s] = b := by
  rw [← h]; unfold marksOk; simp

set_option maxRecDepth 100000 in
theorem qPublic_is (seed : ByteArray) (key : Int) (x : ByteArray) (n : Int) (w : World) (hk : HasK w) (h : publicAns seed key = (x, n)) :
    Calls Tryd.prog 8 #[.string seed, .int .i64 key] w fun e w' => e = .returned (.tuple #[.string x, errOf n]) ∧ Below w.heap.size w w' := by
  have HK := Lib.hid hk
  clear hk
  have HB0 := Lib.hid (alloc_below w (.cells #[.string seed] 9))
  have HS0 := Lib.hid (strs_new w [seed] 9)
  unfold publicAns at h
  by_cases h16 : seed.size = 16
  · rw [if_pos h16] at h
    obtain ⟨hx, rfl⟩ := Prod.mk.inj h
    have HX := Lib.hid hx
    have H16 := Lib.hid h16
    have HM := Lib.hid (oneMark (decide_eq_true h16))
    clear h hx h16
    go_enter Tryd.func8, Tryd.ntmps8
    go_wp2_with fail
    refine (qAre_any [seed] _ 1 _ (by simp) HS0.out).mono ?_
    rintro e w1 ⟨rfl, rfl⟩
    rw [HM.out]
    go_wp2
    go_loopw [13] (fun i wr => ∃ k : Nat, k ≤ 35 ∧ i = .int .i64 (k : Int) ∧ Hid (Below w.heap.size w wr ∧ Holds wr (w.heap.size + 1) 35 (sfill (pubChains seed key 35) k) 57)) (fun i _ => 35 - (intOf i).toNat)
    case atStart =>
      refine ⟨0, by omega, rfl, Lib.hid ⟨HB0.out.trans ((alloc_below _ _).mono (by simp)), ?_⟩⟩
      have hz := Holds.new (w.alloc (.cells (stCells [seed]).toArray 9)) 35 (fun _ => .string ⟨#[]⟩) 57
      rw [World.size_alloc] at hz
      exact hz.congr fun i hi => by unfold sfill; rw [if_neg (by omega)]
    case round =>
      obtain ⟨k, hk, rfl, HU⟩ := hrel
      by_cases hlt : k < 35
      · have HN := Lib.hid HU.out.2.lt
        have HXK := Lib.hid (show (pubChains seed key 35)[k]? = some (alongFrom (k : Int) 15 0 (seedOf seed key k)) from map_range_at _ 35 k hlt)
        go_wp2_with fail
        refine (qFirst_any seed key k _ (HK.out.below HU.out.1 HK.out.lt) H16.out).mono ?_
        rintro e w2 ⟨rfl, hb2⟩
        have HB2 := Lib.hid (HU.out.1.trans (hb2.mono HU.out.1.size))
        have HH2 := Lib.hid (HU.out.2.below hb2 HN.out)
        have HL2 := Lib.hid (Nat.lt_of_lt_of_le HN.out hb2.size)
        clear hb2
        go_wp2_with fail
        refine (qWalk_any (seedOf seed key k) (k : Int) 0 15 _ (HK.out.below HB2.out HK.out.lt) (seedOf_size _ _ _) (by omega) (by omega)).mono ?_
        rintro e w3 ⟨rfl, hb3⟩
        have HB3 := Lib.hid (HB2.out.trans (hb3.mono HB2.out.size))
        have HH3 := Lib.hid (HH2.out.below hb3 HL2.out)
        clear hb3
        have c0 := HH3.out.cell k hlt
        have f0 := HH3.out.free k
        rw [show sfill (pubChains seed key 35) k k = .string ⟨#[]⟩ by unfold sfill; rw [if_neg (by omega)]] at c0
        go_wp2
        go_roundw
        case rel =>
          refine ⟨k + 1, by omega, by go_num, Lib.hid ⟨HB3.out.setCell (by show w.heap.size ≤ w.heap.size + 1; omega) _, ?_⟩⟩
          rw [← sfill_succ _ k _ HXK.out]
          exact HH3.out.set k _
        case measure => simp [intOf]; omega
      · obtain rfl : k = 35 := by omega
        have HLEN := Lib.hid (show (pubChains seed key 35).length = 35 from chains_len _ _)
        have HST := Lib.hid (strs_of_holds HU.out.2 HLEN.out)
        have HTOT := Lib.hid (show total (pubChains seed key 35) ≤ 1073741800 by have := total_leM _ 16 (pub_size seed key 35); rw [HLEN.out] at this; omega)
        have HKW := Lib.hid (HK.out.below HU.out.1 HK.out.lt)
        have HMA := Lib.hid (mark_any 112 (pubChains seed key 35) (some ⟨w.heap.size + 1, 0, none⟩) 35 wr HKW.out HTOT.out (by rw [HLEN.out]; omega) HST.out)
        rw [HLEN.out] at HMA
        clear hlt hk
        go_wp2_with fail
        refine HMA.out.mono ?_
        rintro e w7 ⟨rfl, hb7⟩
        have HB7 := Lib.hid (HU.out.1.trans (hb7.mono HU.out.1.size))
        clear hb7 HMA
        go_wp2
        refine bodyPost_ret (results_tmp2 rfl _ _ _) rfl ?_
        exact ⟨by rw [← HX.out]; rfl, HB7.out⟩
  · rw [if_neg h16] at h
    obtain ⟨rfl, rfl⟩ := Prod.mk.inj h
    have HM := Lib.hid (oneMark (decide_eq_false h16))
    clear h h16
    go_enter Tryd.func8, Tryd.ntmps8
    go_wp2_with fail
    refine (qAre_any [seed] _ 1 _ (by simp) HS0.out).mono ?_
    rintro e w1 ⟨rfl, rfl⟩
    rw [HM.out]
    go_wp2
    refine bodyPost_ret (results_tmp2 rfl _ _ _) rfl ?_
    exact ⟨rfl, HB0.out⟩
end Go.Proofs.YtmfijppfpajpbaaDoor
/- The program's once: Sign. -/
namespace Go.Proofs.YtmfijppfpajpbaaDoor
open Go.RowKit

theorem twoMarks {s m : ByteArray} {b : Bool} (h : (decide (s.size = 16) && decide (m.size = 16)) = b) : marksOk [s, m] = b := by
  rw [← h]; unfold marksOk; simp

theorem run_index_arr {P : Program} (w : World) (t e n : Nat) (cs : Array Value) (v : Value) (i : Nat) (h : P.underlying t = some (.array n e)) (h1 : ∀ w, (Go.sizeOf e).run P w = .ok 1 w) (h2 : ∀ w, (isAgg e).run P w = .ok false w) (hi : i < n) (hv : cs[i]? = some v) :
    (Instr.index t (.agg cs) (.int .i64 (i : Int))).run P w = .ok v w := by
  have hn : (0 : Int) ≤ (i : Int) ∧ (i : Int) < (n : Int) := by omega
  simp [Instr.index, run_underlying h, asIntOf, hn, h1, h2, hi, hv, Result.andThen, go_sem]
theorem sizeInt (w : World) : (Go.sizeOf 3).run Tryd.prog w = .ok 1 w := by kernel_rfl
theorem aggInt (w : World) : (isAgg 3).run Tryd.prog w = .ok false w := by kernel_rfl
theorem make35 (w : World) : (Instr.makeSlice 22 (.int .i64 35) (.int .i64 35)).run Tryd.prog w = .ok (.slice (some ⟨w.heap.size, 0, none⟩) 35 35) (w.alloc (.cells (arr 35 fun _ => .string ⟨#[]⟩) 9)) := by kernel_rfl
set_option maxRecDepth 100000 in
theorem qSign_is (seed : ByteArray) (key : Int) (m : ByteArray) (T : List ByteArray) (n : Int) (w : World) (hk : HasK w) (h : signAns seed key m = (T, n)) :
    Calls Tryd.prog 11 #[.string seed, .int .i64 key, .string m] w fun e w' => ∃ A cap, e = .returned (.tuple #[.slice A T.length cap, errOf n]) ∧ Below w.heap.size w w' ∧ Strs w' A T := by
  have HK := Lib.hid hk
  clear hk
  have HB0 := Lib.hid (alloc_below w (.cells #[.string seed, .string m] 9))
  have HS0 := Lib.hid (strs_new w [seed, m] 9)
  unfold signAns at h
  by_cases h16 : seed.size = 16 ∧ m.size = 16
  · rw [if_pos h16] at h
    obtain ⟨hx, rfl⟩ := Prod.mk.inj h
    have HX := Lib.hid hx
    have H16 := Lib.hid h16.1
    have HM16 := Lib.hid h16.2
    have HM := Lib.hid (twoMarks (s := seed) (m := m) (b := true) (by rw [decide_eq_true h16.1, decide_eq_true h16.2]; rfl))
    clear h hx h16
    go_enter Tryd.func11, Tryd.ntmps11
    go_wp2_with fail
    refine (qAre_any [seed, m] _ 2 _ (by simp) HS0.out).mono ?_
    rintro e w1 ⟨rfl, rfl⟩
    rw [HM.out]
    have hmk := make35
    go_wp2_with fail
    refine (qDigits_any m _ HM16.out).mono ?_
    rintro e w2 ⟨rfl, hb2⟩
    clear hmk
    have HB1 := Lib.hid (HB0.out.trans ((alloc_below _ (.cells (arr 35 fun _ => .string ⟨#[]⟩) 9)).mono HB0.out.size))
    have HN1 := Lib.hid (Holds.new (w.alloc (.cells (stCells [seed, m]).toArray 9)) 35 (fun _ => .string ⟨#[]⟩) 9)
    rw [World.size_alloc] at HN1
    have HH2 := Lib.hid (HN1.out.below hb2 HN1.out.lt)
    have HB2 := Lib.hid (HB1.out.trans (hb2.mono HB1.out.size))
    clear hb2
    have HZ := Lib.hid (show ∀ k, k < 35 → (arr 35 fun i => Value.int .i64 (((digitsOf m.data.toList).getD i 0 : Nat) : Int))[k]? = some (Value.int .i64 (((digitsOf m.data.toList).getD k 0 : Nat) : Int)) from fun k hk => arr_get 35 _ k hk)
    generalize (arr 35 fun i => Value.int .i64 (((digitsOf m.data.toList).getD i 0 : Nat) : Int)) = Z at HZ ⊢
    go_wp2
    go_loopw [20] (fun i wr => ∃ k : Nat, k ≤ 35 ∧ i = .int .i64 (k : Int) ∧ Hid (Below w.heap.size w wr ∧ Holds wr (w.heap.size + 1) 35 (sfill (signChains seed key m 35) k) 9)) (fun i _ => 35 - (intOf i).toNat)
    case atStart =>
      refine ⟨0, by omega, rfl, Lib.hid ⟨HB2.out, HH2.out.congr fun i hi => by unfold sfill; rw [if_neg (by omega)]⟩⟩
    case round =>
      obtain ⟨k, hk, rfl, HU⟩ := hrel
      by_cases hlt : k < 35
      · have HN := Lib.hid HU.out.2.lt
        obtain ⟨D, hD⟩ : ∃ D, (digitsOf m.data.toList).getD k 0 = D := ⟨_, rfl⟩
        have HXK := Lib.hid (show (signChains seed key m 35)[k]? = some (alongFrom (k : Int) D 0 (seedOf seed key k)) by rw [← hD]; exact map_range_at _ 35 k hlt)
        have HDL := Lib.hid (digit_le HM16.out k)
        have hz := HZ.out k hlt
        rw [hD] at HDL hz
        have hix := fun wx => run_index_arr (P := Tryd.prog) wx 62 3 35 Z _ k Tryd.underlying62 sizeInt aggInt hlt hz
        clear hD hz
        go_wp2_with fail
        refine (qFirst_any seed key k _ (HK.out.below HU.out.1 HK.out.lt) H16.out).mono ?_
        rintro e w3 ⟨rfl, hb3⟩
        have HB3 := Lib.hid (HU.out.1.trans (hb3.mono HU.out.1.size))
        have HH3 := Lib.hid (HU.out.2.below hb3 HN.out)
        have HL3 := Lib.hid (Nat.lt_of_lt_of_le HN.out hb3.size)
        clear hb3 hix
        go_wp2_with fail
        refine (qWalk_any (seedOf seed key k) (k : Int) 0 D _ (HK.out.below HB3.out HK.out.lt) (seedOf_size _ _ _) (by omega) HDL.out).mono ?_
        rintro e w4 ⟨rfl, hb4⟩
        have HB4 := Lib.hid (HB3.out.trans (hb4.mono HB3.out.size))
        have HH4 := Lib.hid (HH3.out.below hb4 HL3.out)
        clear hb4
        have c0 := HH4.out.cell k hlt
        have f0 := HH4.out.free k
        rw [show sfill (signChains seed key m 35) k k = .string ⟨#[]⟩ by unfold sfill; rw [if_neg (by omega)]] at c0
        go_wp2
        go_roundw
        case rel =>
          refine ⟨k + 1, by omega, by go_num, Lib.hid ⟨HB4.out.setCell (by show w.heap.size ≤ w.heap.size + 1; omega) _, ?_⟩⟩
          rw [← sfill_succ _ k _ HXK.out]
          exact HH4.out.set k _
        case measure => simp [intOf]; omega
      · obtain rfl : k = 35 := by omega
        have HLEN := Lib.hid (show (signChains seed key m 35).length = 35 from chains_len _ _)
        have HST := Lib.hid (strs_of_holds HU.out.2 HLEN.out)
        clear hlt hk
        go_wp2
        refine bodyPost_ret (results_tmp2 rfl _ _ _) rfl ?_
        refine ⟨some ⟨w.heap.size + 1, 0, none⟩, 35, ?_, HU.out.1, ?_⟩
        · rw [← HX.out, HLEN.out]; rfl
        · rw [← HX.out]; exact HST.out
  · rw [if_neg h16] at h
    obtain ⟨rfl, rfl⟩ := Prod.mk.inj h
    have HM := Lib.hid (twoMarks (s := seed) (m := m) (b := false) (by
      rw [Bool.and_eq_false_iff, decide_eq_false_iff_not, decide_eq_false_iff_not]
      rcases Classical.em (seed.size = 16) with e | e
      · exact .inr fun f => h16 ⟨e, f⟩
      · exact .inl e))
    clear h h16
    go_enter Tryd.func11, Tryd.ntmps11
    go_wp2_with fail
    refine (qAre_any [seed, m] _ 2 _ (by simp) HS0.out).mono ?_
    rintro e w1 ⟨rfl, rfl⟩
    rw [HM.out]
    go_wp2
    refine bodyPost_ret (results_tmp2 rfl _ _ _) rfl ?_
    exact ⟨_, _, rfl, HB0.out, Strs.nil _ _⟩
end Go.Proofs.YtmfijppfpajpbaaDoor
/- The program's once: From. -/
namespace Go.Proofs.YtmfijppfpajpbaaDoor
open Go.RowKit

set_option maxRecDepth 100000 in
theorem qFrom_is (m : ByteArray) (S : List ByteArray) (A : Option Addr) (cap : Nat) (x : ByteArray) (n : Int) (w : World) (hk : HasK w) (hl : S.length ≤ 1000000) (hs : Strs w A S) (h : fromAns m S = (x, n)) :
    Calls Tryd.prog 14 #[.string m, .slice A S.length cap] w fun e w' => e = .returned (.tuple #[.string x, errOf n]) ∧ Below w.heap.size w w' := by
  have HK := Lib.hid hk
  have HS := Lib.hid hs
  clear hk hs
  have HB0 := Lib.hid (alloc_below w (.cells #[.string m] 9))
  have HS0 := Lib.hid (strs_new w [m] 9)
  unfold fromAns at h
  by_cases h16 : m.size = 16
  · have HM := Lib.hid (oneMark (decide_eq_true h16))
    have HM16 := Lib.hid h16
    by_cases h35 : S.length = 35
    · have HL35 := Lib.hid h35
      have e35 : ((S.length : Int) == 35) = true := by rw [beq_iff_eq]; omega
      have e36 : ((S.length : Int) != 35) = false := by simp; omega
      by_cases hmk : marksOk S = true
      · rw [if_pos ⟨h16, h35, hmk⟩] at h
        obtain ⟨hx, rfl⟩ := Prod.mk.inj h
        have HX := Lib.hid hx
        have HMK := Lib.hid hmk
        have hs1 : S.length ≤ 35 := by omega
        have hs2 : 35 ≤ S.length := by omega
        clear h hx h16 h35 hmk
        go_enter Tryd.func14, Tryd.ntmps14
        go_wp2_with fail
        refine (qAre_any [m] _ 1 _ (by simp) HS0.out).mono ?_
        rintro e w1 ⟨rfl, rfl⟩
        rw [HM.out]
        go_wp2_with fail
        refine (qAre_any S A cap _ hl (HS.out.below HB0.out)).mono ?_
        rintro e w1 ⟨rfl, rfl⟩
        rw [HMK.out]
        clear e35 e36
        go_wp2_with fail
        refine (qDigits_any m _ HM16.out).mono ?_
        rintro e w2 ⟨rfl, hb2⟩
        have HB1 := Lib.hid (HB0.out.trans ((alloc_below _ (.cells (arr 35 fun _ => .string ⟨#[]⟩) 57)).mono HB0.out.size))
        have HN1 := Lib.hid (Holds.new (w.alloc (.cells (stCells [m]).toArray 9)) 35 (fun _ => .string ⟨#[]⟩) 57)
        rw [World.size_alloc] at HN1
        have HH2 := Lib.hid (HN1.out.below hb2 HN1.out.lt)
        have HB2 := Lib.hid (HB1.out.trans (hb2.mono HB1.out.size))
        clear hb2
        have HZ := Lib.hid (show ∀ k, k < 35 → (arr 35 fun i => Value.int .i64 (((digitsOf m.data.toList).getD i 0 : Nat) : Int))[k]? = some (Value.int .i64 (((digitsOf m.data.toList).getD k 0 : Nat) : Int)) from fun k hk => arr_get 35 _ k hk)
        generalize (arr 35 fun i => Value.int .i64 (((digitsOf m.data.toList).getD i 0 : Nat) : Int)) = Z at HZ ⊢
        go_wp2
        go_loopw [26] (fun i wr => ∃ k : Nat, k ≤ 35 ∧ i = .int .i64 (k : Int) ∧ Hid (Below w.heap.size w wr ∧ Holds wr (w.heap.size + 1) 35 (sfill (fromChains m S 35) k) 57)) (fun i _ => 35 - (intOf i).toNat)
        case atStart =>
          refine ⟨0, by omega, rfl, Lib.hid ⟨HB2.out, HH2.out.congr fun i hi => by unfold sfill; rw [if_neg (by omega)]⟩⟩
        case round =>
          obtain ⟨k, hk, rfl, HU⟩ := hrel
          by_cases hlt : k < 35
          · have HN := Lib.hid HU.out.2.lt
            obtain ⟨D, hD⟩ : ∃ D, (digitsOf m.data.toList).getD k 0 = D := ⟨_, rfl⟩
            obtain ⟨p, hp⟩ : ∃ p, S[k]? = some p := ⟨_, List.getElem?_eq_getElem (by omega)⟩
            obtain ⟨a, rfl, _, c0⟩ := (HS.out.below HU.out.1) k p hp
            have HXK := Lib.hid (show (fromChains m S 35)[k]? = some (alongFrom (k : Int) (15 - D) D p) by
              have e := map_range_at (fun c : Nat => alongFrom (c : Int) (15 - (digitsOf m.data.toList).getD c 0) ((digitsOf m.data.toList).getD c 0) (S.getD c ⟨#[]⟩)) 35 k hlt
              rw [hD, List.getD_eq_getElem?_getD, hp] at e
              exact e)
            have HPS := Lib.hid (marksOk_get HMK.out hp)
            have HDL := Lib.hid (digit_le HM16.out k)
            have hz := HZ.out k hlt
            rw [hD] at HDL hz
            have hix := fun wx => run_index_arr (P := Tryd.prog) wx 62 3 35 Z _ k Tryd.underlying62 sizeInt aggInt hlt hz
            clear hD hz hp
            go_wp2_with fail
            clear hix c0
            refine (qWalk_any p (k : Int) D 15 _ (HK.out.below HU.out.1 HK.out.lt) HPS.out HDL.out (by omega)).mono ?_
            rintro e w4 ⟨rfl, hb4⟩
            have HB4 := Lib.hid (HU.out.1.trans (hb4.mono HU.out.1.size))
            have HH4 := Lib.hid (HU.out.2.below hb4 HN.out)
            clear hb4
            have c0 := HH4.out.cell k hlt
            have f0 := HH4.out.free k
            rw [show sfill (fromChains m S 35) k k = .string ⟨#[]⟩ by unfold sfill; rw [if_neg (by omega)]] at c0
            go_wp2
            go_roundw
            case rel =>
              refine ⟨k + 1, by omega, by go_num, Lib.hid ⟨HB4.out.setCell (by show w.heap.size ≤ w.heap.size + 1; omega) _, ?_⟩⟩
              rw [← sfill_succ _ k _ HXK.out]
              exact HH4.out.set k _
            case measure => simp [intOf]; omega
          · obtain rfl : k = 35 := by omega
            have HLEN := Lib.hid (show (fromChains m S 35).length = 35 from chains_len _ _)
            have HST := Lib.hid (strs_of_holds HU.out.2 HLEN.out)
            have HTOT := Lib.hid (show total (fromChains m S 35) ≤ 1073741800 by have := total_leM _ 16 (from_size m S (marksOk_all HMK.out) HL35.out 35 (Nat.le_refl _)); rw [HLEN.out] at this; omega)
            have HKW := Lib.hid (HK.out.below HU.out.1 HK.out.lt)
            have HMA := Lib.hid (mark_any 112 (fromChains m S 35) (some ⟨w.heap.size + 1, 0, none⟩) 35 wr HKW.out HTOT.out (by rw [HLEN.out]; omega) HST.out)
            rw [HLEN.out] at HMA
            clear hlt hk
            go_wp2_with fail
            refine HMA.out.mono ?_
            rintro e w7 ⟨rfl, hb7⟩
            have HB7 := Lib.hid (HU.out.1.trans (hb7.mono HU.out.1.size))
            clear hb7 HMA
            go_wp2
            refine bodyPost_ret (results_tmp2 rfl _ _ _) rfl ?_
            exact ⟨by rw [← HX.out]; rfl, HB7.out⟩
      · rw [if_neg (fun e => hmk e.2.2)] at h
        obtain ⟨rfl, rfl⟩ := Prod.mk.inj h
        have HMK := Lib.hid (show marksOk S = false by simpa using hmk)
        clear h h16 h35 hmk
        go_enter Tryd.func14, Tryd.ntmps14
        go_wp2_with fail
        refine (qAre_any [m] _ 1 _ (by simp) HS0.out).mono ?_
        rintro e w1 ⟨rfl, rfl⟩
        rw [HM.out]
        go_wp2_with fail
        refine (qAre_any S A cap _ hl (HS.out.below HB0.out)).mono ?_
        rintro e w1 ⟨rfl, rfl⟩
        rw [HMK.out]
        go_wp2
        refine bodyPost_ret (results_tmp2 rfl _ _ _) rfl ?_
        exact ⟨rfl, HB0.out⟩
    · rw [if_neg (fun e => h35 e.2.1)] at h
      obtain ⟨rfl, rfl⟩ := Prod.mk.inj h
      have e35 : ((S.length : Int) == 35) = false := by rw [beq_eq_false_iff_ne]; omega
      have e36 : ((S.length : Int) != 35) = true := by simp; omega
      clear h h16 h35
      go_enter Tryd.func14, Tryd.ntmps14
      go_wp2_with fail
      refine (qAre_any [m] _ 1 _ (by simp) HS0.out).mono ?_
      rintro e w1 ⟨rfl, rfl⟩
      rw [HM.out]
      go_wp2
      refine bodyPost_ret (results_tmp2 rfl _ _ _) rfl ?_
      exact ⟨rfl, HB0.out⟩
  · rw [if_neg (fun e => h16 e.1)] at h
    obtain ⟨rfl, rfl⟩ := Prod.mk.inj h
    have HM := Lib.hid (oneMark (decide_eq_false h16))
    clear h h16
    go_enter Tryd.func14, Tryd.ntmps14
    go_wp2_with fail
    refine (qAre_any [m] _ 1 _ (by simp) HS0.out).mono ?_
    rintro e w1 ⟨rfl, rfl⟩
    rw [HM.out]
    go_wp2
    refine bodyPost_ret (results_tmp2 rfl _ _ _) rfl ?_
    exact ⟨rfl, HB0.out⟩
end Go.Proofs.YtmfijppfpajpbaaDoor
/- The program's once keeps what its law's walk asks of it. -/
namespace Go.Proofs.YtmfijppfpajpbaaDoor
open Go.RowKit

theorem onceFace : OnceFace where
  pub := fun seed key x n w hk _ h => qPublic_is seed key x n w hk h
  sign := fun seed key m T n w hk _ _ h => qSign_is seed key m T n w hk h
  from_ := fun m S A cap x n w hk _ hl hs h => qFrom_is m S A cap x n w hk hl hs h
end Go.Proofs.YtmfijppfpajpbaaDoor
